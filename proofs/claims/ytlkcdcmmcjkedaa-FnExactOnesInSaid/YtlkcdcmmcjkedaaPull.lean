/-
  What is left of a number when its lower digits have been pulled: more and pull; baseOk.
-/
import Derived.Test.YtlkcdcmmcjkedaaRowAt
import Derived.Test.YtlkcdcmmcjkedaaMathZ
import Derived.Deep.QuietTactic
import Derived.BigQuiet
namespace Go.Proofs.Ytlkcdcmmcjkedaa
open Go.RowKit

theorem baseOk_t (b : Int) (w : World) (h1 : 2 ≤ b) (h2 : b ≤ 16) : Calls Try.prog 81 #[.int .i64 b] w fun e w' => e = .returned (.bool true) ∧ w = w' := by
  go_enter Try.func81, Try.ntmps81
  go_wp2
  go_ret
  exact ⟨rfl, rfl⟩
theorem baseOk_f (b : Int) (w : World) (h : b < 2 ∨ 16 < b) : Calls Try.prog 81 #[.int .i64 b] w fun e w' => e = .returned (.bool false) ∧ w = w' := by
  by_cases h1 : 2 ≤ b
  · have h2 : ¬ b ≤ 16 := by omega
    clear h
    go_enter Try.func81, Try.ntmps81
    go_wp2
    go_ret
    exact ⟨rfl, rfl⟩
  · clear h
    go_enter Try.func81, Try.ntmps81
    go_wp2
    go_ret
    exact ⟨rfl, rfl⟩

/-- Block R holds the rest n of a number in base b. -/
def UAt (w : World) (R n b : Nat) : Prop := w.heap[R]? = some (.cells #[.int .i64 n, .int .i64 b] 82 (0, 0))
theorem UAt.lt {w : World} {R n b : Nat} (h : UAt w R n b) : R < w.heap.size := (Array.getElem?_eq_some_iff.1 h).1
theorem UAt.cell0 {w : World} {R n b : Nat} (h : UAt w R n b) : w.cell? ⟨R, 0, none⟩ = some (.int .i64 n) := by rw [cell_of_row w R 0 _ _ _ h]; rfl
theorem UAt.cell1 {w : World} {R n b : Nat} (h : UAt w R n b) : w.cell? ⟨R, 1, none⟩ = some (.int .i64 b) := by rw [cell_of_row w R 1 _ _ _ h]; rfl
theorem UAt.frozen {w : World} {R n b : Nat} (h : UAt w R n b) (i : Nat) : w.frozen? ⟨R, i, none⟩ = false := by
  have h' : w.heap[R]? = some (.cells #[.int .i64 n, .int .i64 b] 82 (0, 0)) := h
  simp [World.frozen?, h']
theorem UAt.set {w : World} {R n b : Nat} (h : UAt w R n b) (q : Nat) : UAt (w.setCell ⟨R, 0, none⟩ (.int .i64 q)) R q b := by
  obtain ⟨hlt, hk⟩ := Array.getElem?_eq_some_iff.1 h
  show (w.heap.modify R _)[R]? = _
  rw [Array.getElem?_eq_getElem (by rw [Array.size_modify]; exact hlt), Array.getElem_modify_self, hk]; rfl
theorem UAt.of_block {w w' : World} {R n b : Nat} (h : UAt w R n b) (hb : w'.heap[R]? = w.heap[R]?) : UAt w' R n b := hb.trans h
theorem UAt.kept {w w' : World} {R n b : Nat} {row : Option Nat} (h : UAt w R n b) (hg : w.grownBy w' row) (hr : some R ≠ row) : UAt w' R n b := h.of_block (hg.block R h.lt hr)

theorem more_in (R n b : Nat) (w : World) (h : UAt w R n b) : Calls Try.prog 88 #[.pointer (some ⟨R, 0, none⟩)] w fun e w' => e = .returned (.bool (decide (0 < n))) ∧ w = w' := by
  have h0 := h.cell0
  by_cases hn : 0 < n
  · have hd : decide (0 < n) = true := by simp [hn]
    rw [hd]
    clear hd h
    go_enter Try.func88, Try.ntmps88
    go_wp2
    go_ret
    exact ⟨rfl, rfl⟩
  · obtain rfl : n = 0 := by omega
    clear hn h
    go_enter Try.func88, Try.ntmps88
    go_wp2
    go_ret
    exact ⟨rfl, rfl⟩

theorem tmod_nat (n b : Nat) : Int.tmod (n : Int) (b : Int) = ((n % b : Nat) : Int) := by rw [Int.tmod_eq_emod_of_nonneg (by omega)]; rfl
theorem tdiv_nat (n b : Nat) : Int.tdiv (n : Int) (b : Int) = ((n / b : Nat) : Int) := by rw [Int.tdiv_eq_ediv_of_nonneg (by omega)]; rfl

set_option maxHeartbeats 400000 in
theorem pull_in (R n b : Nat) (w : World) (hb : 2 ≤ b) (hb2 : b ≤ 16) (hn : n ≤ 2000000000) (h : UAt w R n b) :
    Calls Try.prog 89 #[.pointer (some ⟨R, 0, none⟩)] w fun e w' => e = .returned (.int .i64 ((n % b : Nat) : Int)) ∧ UAt w' R (n / b) b ∧ w.grownBy w' (some R) := by
  have h0 := h.cell0
  have h1 := h.cell1
  have hf := h.frozen 0
  have hm : Int.tmod (n : Int) (b : Int) = ((n % b : Nat) : Int) := tmod_nat n b
  have hd : Int.tdiv (n : Int) (b : Int) = ((n / b : Nat) : Int) := tdiv_nat n b
  have hq : n / b ≤ 2000000000 := Nat.le_trans (Nat.div_le_self n b) hn
  have hr : n % b < b := Nat.mod_lt n (by omega)
  have hset := h.set (n / b)
  generalize n / b = q at *
  generalize n % b = r at *
  have hw1 : IntKind.i64.wrap (r : Int) = r := IntWalk.i64_in _ (by omega)
  have hw2 : IntKind.i64.wrap (q : Int) = q := IntWalk.i64_in _ (by omega)
  have hb0 : ((b : Int) == 0) = false := by simp; omega
  go_enter Try.func89, Try.ntmps89
  go_wp2
  go_quiet (fail)
  go_wp2
  go_region
  all_goals
    go_wp2
    go_ret
    exact ⟨rfl, hset.of_block rfl, grownBy_set (w := w) (w' := w.drewN _) ⟨rfl, rfl, rfl, Nat.le_refl _, fun _ _ _ => rfl⟩ _ _⟩
end Go.Proofs.Ytlkcdcmmcjkedaa
