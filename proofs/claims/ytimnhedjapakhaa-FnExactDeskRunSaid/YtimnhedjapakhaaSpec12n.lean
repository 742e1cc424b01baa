/-
  The model's DeskDo: the last row of before is put back; and at every desk and deed.
-/
import Derived.Test.YtimnhedjapakhaaSpec12m1
import Derived.Test.YtimnhedjapakhaaSpec12m2
import Derived.Test.YtimnhedjapakhaaSpec12m3
import Derived.Test.YtimnhedjapakhaaSpec12m4
import Derived.Test.YtimnhedjapakhaaSpec12m5
import Derived.Test.YtimnhedjapakhaaSpec12o
namespace Go.Proofs.Ytimnhedjapakhaa
open Go.RowKit

theorem specDo (v : Value) (d : Dk) (k n : Int) (w : World) (hv : DeskI w v d) (hs : DkS d) (hk : Fits k) (hn : Fits n) : Calls Try.prog 14 #[v, dV k n] w fun e w' =>
    ∃ y, e = .returned (.tuple #[y, .bool (doV d k n).2]) ∧ DeskI w' y (doV d k n).1 ∧ CapN w.heap.size y ∧ Below w.heap.size w w' := by
  cases hb : deskB d with
  | false => exact specDo_no v d k n w hv hs hb
  | true =>
    obtain ⟨x, p, rfl, hx, hp⟩ := hv
    by_cases h5 : k = 5 ∧ n = 0
    · by_cases h0 : d.2.length = 0
      · exact specDo_none x p d k n w hx hp hb hk hn h5 h0
      · exact specDo_back x p d k n w hx hp hb hk hn h5 (d.2.length - 1) (by omega)
    · by_cases h0 : madeV d.1 k n = []
      · exact specDo_empty x p d k n w hx hp hb hk hn h5 h0
      · by_cases h1 : madeV d.1 k n = d.1
        · exact specDo_same x p d k n w hx hp hb hk hn h5 h1
        · have h8 := (deskB_is.1 hb).2.2
          by_cases h : d.2.length = 8
          · exact specDo_full x p d k n w hx hp hb hk hn h5 h0 h1 h
          · exact specDo_made x p d k n w hx hp hb hk hn h5 h0 h1 (by omega)
end Go.Proofs.Ytimnhedjapakhaa
