/-
  The program's DeskDo at every desk and deed.
-/
import Derived.Test.YtimnhedjapakhaaImpl12b1
import Derived.Test.YtimnhedjapakhaaImpl12b2
import Derived.Test.YtimnhedjapakhaaImpl12b3
import Derived.Test.YtimnhedjapakhaaImpl12b4
import Derived.Test.YtimnhedjapakhaaImpl12b5
namespace Go.Proofs.Ytimnhedjapakhaa
open Go.RowKit

theorem implDo (v : Value) (d : Dk) (k n : Int) (w : World) (hv : DeskI w v d) (hcap : CapP v) (hs : DkS d) (hk : Fits k) (hn : Fits n) : Calls Try.prog 13 #[v, dV k n] w fun e w' =>
    ∃ y, e = .returned (.tuple #[y, .bool (doV d k n).2]) ∧ OwnDk w' w.heap.size y (doV d k n).1 ∧ Below w.heap.size w w' := by
  cases hb : deskB d with
  | false => exact implDo_no v d k n w hv hs hb
  | true =>
    obtain ⟨x, p, rfl, hx, hp⟩ := hv
    have hX := Dx.new k n hx hp hb
    by_cases h5 : k = 5 ∧ n = 0
    · by_cases h0 : d.2.length = 0
      · exact implDo_none x p d k n w hX h5 h0
      · obtain ⟨rfl, rfl⟩ := h5
        exact implDo_back x p d w hX hcap (d.2.length - 1) (by omega)
    · by_cases h0 : madeV d.1 k n = []
      · exact implDo_empty x p d k n w hX hk hn h5 h0
      · by_cases h1 : madeV d.1 k n = d.1
        · exact implDo_same x p d k n w hX hk hn h5 h1
        · exact implDo_made x p d k n w hX hk hn h5 h0 h1
end Go.Proofs.Ytimnhedjapakhaa
