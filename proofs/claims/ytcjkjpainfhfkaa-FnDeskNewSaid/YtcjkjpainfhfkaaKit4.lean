/-
  A row of noughts that is made; two rows of as many numbers that are not alike. Nothing of the program but the types.
-/
import Derived.Test.YtcjkjpainfhfkaaKit3
import Derived.Test.YtcjkjpainfhfkaaBaseZ
import Derived.Test.YtcjkjpainfhfkaaSpecZ
import Derived.Laws.OwnMore
namespace Go.Proofs.Ytcjkjpainfhfkaa
open Go.RowKit

theorem make_run (w : World) (N : Nat) (hN : N ≤ 10000000) : ∃ w', (Instr.makeSlice 23 (.int .i64 N) (.int .i64 N)).run Try.prog w = .ok (.slice (some ⟨w.heap.size, 0, none⟩) N N) w' ∧ Ints w' (.slice (some ⟨w.heap.size, 0, none⟩) N N) (List.replicate N 0) ∧ w.grownBy w' none := by
  obtain ⟨i0, hi, hz0, hz1, hz2⟩ := info_parts Try.infoInt
  obtain ⟨w', hrun, r1, r2⟩ := run_make_full (P := Try.prog) w w.heap.size 23 3 i0 (.int .i64 0) 1 Try.underlying23 hi hz0 hz1 .i64 .i64 N (by rw [hz2]; omega) (by unfold maxLen; omega) (Nat.le_refl _)
  refine ⟨w', hrun, ?_, r2⟩
  have e : (List.replicate N (0 : Int)).map (Value.int .i64) = List.replicate N (.int .i64 0) := by simp
  have h := Ints.of_owns (w := w') (base := w.heap.size) (n := N) (v := .slice (some ⟨w.heap.size, 0, none⟩) N N) (xs := List.replicate N 0) (by rw [e, ← toList_madeCells_one]; rw [Nat.mul_one] at r1; exact r1)
  exact h

set_option maxHeartbeats 400000 in
theorem sameInts_ne (v u : Value) (xs ys : List Int) (w : World) (hl : xs.length = ys.length) (hn : xs.length ≤ 1000000000) (hv : Ints w v xs) (hu : Ints w u ys) (i0 : Nat) (hi0 : i0 < xs.length) (hne : xs.getD i0 0 ≠ ys.getD i0 0) :
    Calls Try.prog 17 #[v, u] w fun e w' => e = .returned (.bool false) ∧ Below w.heap.size w w' := by
  obtain ⟨g, cap, rfl, hg, hc⟩ : ∃ g cap, v = .slice (some ⟨g, 0, none⟩) xs.length cap ∧ g < w.heap.size ∧ ∀ i, i < xs.length → w.cell? ⟨g, i, none⟩ = some (.int .i64 (xs.getD i 0)) := by
    rcases hv with ⟨_, _, _, h⟩ | h
    · subst h; exact absurd hi0 (by simp)
    · exact h
  obtain ⟨g2, cap2, rfl, hg2, hc2⟩ : ∃ g cap, u = .slice (some ⟨g, 0, none⟩) ys.length cap ∧ g < w.heap.size ∧ ∀ i, i < ys.length → w.cell? ⟨g, i, none⟩ = some (.int .i64 (ys.getD i 0)) := by
    rcases hu with ⟨_, _, _, h⟩ | h
    · subst h; exact absurd hi0 (by rw [hl]; simp)
    · exact h
  rw [← hl] at hc2 ⊢
  obtain ⟨n, hn'⟩ : ∃ n, xs.length = n := ⟨_, rfl⟩
  rw [hn'] at hc hc2 hi0 hn ⊢
  clear hn' hl hv hu
  go_enter Try.func17, Try.ntmps17
  go_wp2
  go_loopw [5] (fun i wr => ∃ k : Nat, k ≤ i0 ∧ i = .int .i64 k ∧ Below w.heap.size w wr) (fun i _ => n - (intOf i).toNat)
  case atStart => exact ⟨0, Nat.zero_le _, rfl, Below.refl _ _⟩
  case round =>
    obtain ⟨k, hk, rfl, hB⟩ := hrel
    have hlt : k < n := by omega
    have hki : (k : Int) < (n : Int) := by omega
    have h1 : wr.cell? ⟨g, k, none⟩ = some (.int .i64 (xs.getD k 0)) := (hB.cell (by exact hg)).trans (hc k hlt)
    have h2 : wr.cell? ⟨g2, k, none⟩ = some (.int .i64 (ys.getD k 0)) := (hB.cell (by exact hg2)).trans (hc2 k hlt)
    by_cases he : xs.getD k 0 = ys.getD k 0
    · have hk2 : k < i0 := by
        rcases Nat.lt_or_ge k i0 with h | h
        · exact h
        · obtain rfl : k = i0 := by omega
          exact absurd he hne
      rw [← he] at h2
      clear hc hc2 hne he
      generalize xs.getD k 0 = z at *
      go_wp2
      go_region
      all_goals
        go_wp2
        go_roundw
        case rel => exact ⟨k + 1, by omega, by go_num, hB.drew⟩
        case measure => simp [intOf]; omega
    · have hbe : (xs.getD k 0 == ys.getD k 0) = false := by rw [beq_eq_false_iff_ne]; exact he
      clear hc hc2 hne
      generalize xs.getD k 0 = z at *
      generalize ys.getD k 0 = y at *
      go_wp2
      go_region
      all_goals
        go_wp2
        go_ret
        exact ⟨rfl, hB.drew⟩
end Go.Proofs.Ytcjkjpainfhfkaa
