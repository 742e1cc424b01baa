/-
  The exact laws' kit over desks and deeds that came in: copies between marks, and desks that are stored in new variables.
-/
import Derived.Test.YtimnhedjapakhaaL12Z
import Derived.Test.YtimnhedjapakhaaImpl12d
import Derived.Test.YtimnhedjapakhaaBaseZ
namespace Go.Proofs.Ytimnhedjapakhaa
open Go.RowKit
attribute [local go_sem] Oper.semAt_some

theorem toDeskA_in (W0 : World) (v : Value) (d : Dk) (w : World) (hv : ArgD W0 v d) (hB0 : Below W0.heap.size W0 w) (hn1 : d.1.length ≤ 1048576) (hn : d.2.length ≤ 1048576) (hln : ∀ j, j < d.2.length → (d.2.getD j []).length ≤ 1048576) : Calls Try.prog 22 #[v] w fun e w' =>
    ∃ y, e = .returned y ∧ OwnA w' w.heap.size w'.heap.size y d ∧ Below w.heap.size w w' :=
  (toDesk_mid W0 v d w hv hB0 hn1 hn hln).mono fun _ _ ⟨x, p, h1, h2, _, ⟨mid, m1, m2, m3, m4⟩, h5⟩ => ⟨_, h1, ⟨mid, x, p, rfl, m1, m2, Nat.le_refl _, h2, m3, OwnQL.of m4⟩, h5⟩
theorem ownDk_stored {V : World} {base b n1 c1 n2 c2 : Nat} {a1 a2 : Option Addr} {D : Dk} (h : OwnDk V base (.agg #[.slice a1 n1 c1, .slice a2 n2 c2]) D) (kb : V.heap[b]? = some (.cells #[.slice none 0 0, .slice none 0 0] 26 (0, 0))) :
    OwnDk ((V.setCell ⟨b, 0, none⟩ (.slice a1 n1 c1)).setCell ⟨b, 1, none⟩ (.slice a2 n2 c2)) base (.agg #[.slice a1 n1 c1, .slice a2 n2 c2]) D := by
  have g0 := grownBy_setAt V b 0 (.slice a1 n1 c1)
  have k1 := set_cells kb 0 (.slice a1 n1 c1)
  have g1 := grownBy_setAt (V.setCell ⟨b, 0, none⟩ (.slice a1 n1 c1)) b 1 (.slice a2 n2 c2)
  exact (h.keep kb (by decide) (by decide) g0).keep k1 (by decide) (by decide) g1
/-- What is known of the rows of a desk. -/
def RowsOk (D : Dk) : Prop := (∀ j, j < D.2.length → 1 ≤ (D.2.getD j []).length) ∧ (∀ j, j < D.2.length → (D.2.getD j []).length ≤ 12) ∧ D.1.length ≤ 12 ∧ D.2.length ≤ 8
theorem RowsOk.of {D : Dk} (h : deskB D = true) : RowsOk D := by
  obtain ⟨h1, h2, h3⟩ := deskB_is.1 h
  have hr := fun j (hj : j < D.2.length) => sideB_len (h1 (D.2.getD j []) (by rw [List.getD, List.getElem?_eq_getElem hj]; exact List.getElem_mem hj))
  exact ⟨fun j hj => (hr j hj).1, fun j hj => (hr j hj).2, (sideB_len h2).2, h3⟩
theorem rowsOk_none : RowsOk ([], []) := ⟨fun j hj => by simp at hj, fun j hj => by simp at hj, by simp, by simp⟩
theorem doV_rows (d : Dk) (k n : Int) : RowsOk (doV d k n).1 := by
  cases hb : deskB d with
  | false => rw [doV_no hb]; exact rowsOk_none
  | true => exact RowsOk.of (do_desk hb k n)
theorem runV_rows (d : Dk) (L : List (Int × Int)) : RowsOk (runV d L).1 := by
  unfold runV
  split
  · rename_i h
    exact RowsOk.of (runL_desk L d 0 h.1)
  · exact rowsOk_none
theorem RowsOk.facts {D : Dk} (h : RowsOk D) : (D.1.length ≤ 2000000 ∧ D.2.length ≤ 2000000 ∧ ∀ j, j < D.2.length → (D.2.getD j []).length ≤ 2000000) ∧ (∀ j, j < D.2.length → 0 < (D.2.getD j []).length) ∧ (∀ j, j < D.2.length → (D.2.getD j []).length ≤ 100) ∧ D.2.length ≤ 100 ∧ accN (fun j => (D.2.getD j []).length) D.2.length ≤ 10000 := by
  obtain ⟨h1, h2, h3, h4⟩ := h
  have hr1 : ∀ j, j < D.2.length → (D.2.getD j []).length ≤ 100 := fun j hj => by have := h2 j hj; omega
  have hacc := accN_le hr1 D.2.length (Nat.le_refl _)
  exact ⟨⟨by omega, by omega, fun j hj => by have := h2 j hj; omega⟩, h1, hr1, by omega, by omega⟩
end Go.Proofs.Ytimnhedjapakhaa
