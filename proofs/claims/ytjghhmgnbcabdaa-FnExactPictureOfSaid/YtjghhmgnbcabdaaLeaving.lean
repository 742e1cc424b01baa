/-
  A call that starts nothing is also one at whose end everybody else only leaves; one that leaves the outside as it was also lets no more than time pass. Nothing of the program.
-/
import Derived.Conc.HoldsTime
import Derived.Leaving
import Derived.StillGives
namespace Go.Proofs.Ytjghhmgnbcabdaa
open Go Go.ConcM

theorem leaving_of_handed {a : Assume} {C : Checked} {os : Os} {f : FuncId} {r : Reach} {Pre : World → Array Value → Prop} {Post : World → Array Value → Value → World → Prop}
    (h : ReturnsInHanded a C os f r Pre Post) : ReturnsInLeavingWide a C os f r Pre Post :=
  fun enter => ReturnsInOpen.mono (fun _ _ _ x => ⟨x.2.1, onlyLeaving_of_quiet x.1, x.2.2⟩) (fun _ x => x) (h enter)

theorem with_of_post {H : Type} {enc : TypeId × Value → H} {P : Program} {f : Func} {s : ChangeSpec} {F : Stop.Interp} {apart fresh handsOn : Bool} {W W' : World} {args : Array Value} {v : Value}
    (h : s.post enc P f apart fresh handsOn false W args v W') : (OpenSpec.ofChange s).postWith enc P f F (outsideKept [.timePasses]) apart fresh handsOn W args v W' := by
  have hos : W'.os = W.os := by
    obtain ⟨_, _, _, _, _, _, _, _, _, _, h5, _⟩ := h
    exact h5.1
  have e : ({ W' with os := W.os } : World) = W' := by rw [← hos]
  exact postWith_of_post (by rw [e]; exact h) (by rw [hos]; exact OsLater.refl _)

theorem time_of_handed {H : Type} {enc : TypeId × Value → H} {a : Assume} {C : Checked} {os : Os} {f : FuncId} {r : Reach} {fn : Func} {s : ChangeSpec} {Pre : World → Array Value → Prop} {apart fresh handsOn : Bool} (F : Stop.Interp)
    (h : ReturnsInHanded a C os f r Pre (s.post enc C.prog fn apart fresh handsOn false)) :
    ReturnsInLeavingWide a C os f r Pre ((OpenSpec.ofChange s).postWith enc C.prog fn F (outsideKept [.timePasses]) apart fresh handsOn) :=
  leaving_of_handed fun enter => ReturnsInOpen.mono_post (fun _ _ _ _ hp => with_of_post hp) (h enter)
end Go.Proofs.Ytjghhmgnbcabdaa
