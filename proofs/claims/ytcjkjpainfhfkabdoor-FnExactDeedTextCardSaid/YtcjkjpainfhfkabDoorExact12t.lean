/-
  The walk of the exact law on DeedText.
-/
import Derived.Test.YtcjkjpainfhfkabDoorImpl12t
import Derived.Test.YtcjkjpainfhfkabDoorLawKit6
namespace Go.Proofs.YtcjkjpainfhfkabDoor
open Go.RowKit

theorem toDeed_in (k n : Int) (w : World) : Calls Tryd.prog 8 #[dV k n] w fun e w' => e = .returned (dV k n) ∧ Below w.heap.size w w' := by
  unfold dV
  go_enter Tryd.func8, Tryd.ntmps8
  go_wp2
  have hb : (((w.alloc (.cells #[.int .i64 k, .int .i64 n] 23)).alloc (.cells #[.int .i64 k, .int .i64 n] 25)).alloc (.cells #[.int .i64 k, .int .i64 n] 25)).heap[w.heap.size + 1]? = some (.cells #[.int .i64 k, .int .i64 n] 25 (0, 0)) := by
    have h1 := World.alloc_heap_new (w.alloc (.cells #[.int .i64 k, .int .i64 n] 23)) (.cells #[.int .i64 k, .int .i64 n] 25)
    rw [World.size_alloc] at h1
    exact (Below.heap_alloc _ _ _ (Array.getElem?_eq_some_iff.1 h1).1).trans h1
  exact bodyPost_ret (results_cell_row rfl _ _ (w.heap.size + 1) _ #[.int .i64 k, .int .i64 n] (0, 0) _ rfl hb Tryd.underlying25 rfl (by kernel_rfl)) rfl ⟨rfl, (((Below.refl _ w).alloc (Nat.le_refl _) _).alloc (by simp) _).alloc (by simp; omega) _⟩

theorem exactDeedText (k n : Int) (hk : Fits k) (hn : Fits n) (w : World) : Calls Tryd.prog 3 #[dV k n] w fun e w' => e = .returned (.bool true) ∧ Below w.heap.size w w' := by
  have hT := fun V => toDeed_in k n V
  have hS := fun V => specDeedText k n hk hn V
  have hI := fun V => implDeedText k n hk hn V
  generalize str (deedT k n) = s at *
  unfold dV at *
  have hB1 := (Below.refl w.heap.size w).alloc (Nat.le_refl _) (.cells #[.int .i64 k, .int .i64 n] 23)
  have c0 : ∀ W, Below (w.heap.size + 1) (w.alloc (.cells #[.int .i64 k, .int .i64 n] 23)) W → W.cell? ⟨w.heap.size, 0, none⟩ = some (.int .i64 k) ∧ W.cell? ⟨w.heap.size, 1, none⟩ = some (.int .i64 n) := fun W hW => by
    have hb := (hW.block w.heap.size (Nat.lt_succ_self _)).trans (World.alloc_heap_new w (.cells #[.int .i64 k, .int .i64 n] 23))
    exact ⟨by simp [World.cell?, hb], by simp [World.cell?, hb]⟩
  have hB2 := Below.refl (w.heap.size + 1) (w.alloc (.cells #[.int .i64 k, .int .i64 n] 23))
  go_enter Tryd.func3, Tryd.ntmps3
  go_wp2_with (first
    | (go_at_call 8; (with_reducible refine (hT _).mono ?_); go_loud (rintro e w' ⟨rfl, hB'⟩; replace hB2 := hB2.trans (hB'.mono (Nat.le_trans (Nat.le_of_eq (World.size_alloc _ _).symm) hB2.size)); clear hB'; obtain ⟨d0, d1⟩ := c0 _ hB2))
    | (go_at_call 7; (with_reducible refine (hS _).mono ?_); go_loud (rintro e w' ⟨rfl, hB'⟩; replace hB2 := hB2.trans (hB'.mono (Nat.le_trans (Nat.le_of_eq (World.size_alloc _ _).symm) hB2.size)); clear hB'; obtain ⟨d0, d1⟩ := c0 _ hB2))
    | (go_at_call 9; (with_reducible refine (hI _).mono ?_); go_loud (rintro e w' ⟨rfl, hB'⟩; replace hB2 := hB2.trans (hB'.mono (Nat.le_trans (Nat.le_of_eq (World.size_alloc _ _).symm) hB2.size)); clear hB')))
  go_ret
  exact ⟨rfl, hB1.trans (hB2.mono (by omega))⟩

end Go.Proofs.YtcjkjpainfhfkabDoor
