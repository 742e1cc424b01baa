/-
  The program's RowLeft: for every argument it hands back the row of what is left, or nothing.
-/
import Derived.Test.YtmnmbelmcdfcjaaBlk
import Derived.Test.YtmnmbelmcdfcjaaMathZ
namespace Go.Proofs.Ytmnmbelmcdfcjaa
open Go.RowKit

theorem leftByOk_t (q : Int) (w : World) (h1 : 2 ≤ q) (h2 : q ≤ 1000) : Calls Try.prog 59 #[.int .i64 q] w fun e w' => e = .returned (.bool true) ∧ w = w' := by
  go_enter Try.func59, Try.ntmps59
  go_wp2
  go_ret
  exact ⟨rfl, rfl⟩
theorem leftByOk_f (q : Int) (w : World) (h : q < 2 ∨ 1000 < q) : Calls Try.prog 59 #[.int .i64 q] w fun e w' => e = .returned (.bool false) ∧ w = w' := by
  by_cases h1 : 2 ≤ q
  · have h2 : ¬ q ≤ 1000 := by omega
    clear h
    go_enter Try.func59, Try.ntmps59
    go_wp2
    go_ret
    exact ⟨rfl, rfl⟩
  · clear h
    go_enter Try.func59, Try.ntmps59
    go_wp2
    go_ret
    exact ⟨rfl, rfl⟩

theorem implRowLeft_out (row q : Int) (h : badR row q) (w : World) : Calls Try.prog 52 #[.int .i64 row, .int .i64 q] w fun e w' =>
    ∃ v, e = .returned v ∧ w'.ownsRow w.heap.size 3 1 v 0 [] ∧ Below w.heap.size w w' := by
  unfold badR at h
  by_cases h1 : row < 0 ∨ 300 < row
  all_goals
    go_enter Try.func52, Try.ntmps52
    go_wp2_with (first | (go_at_call 48; refine (within_t _ _ _ (by omega) (by omega)).mono ?_; rintro e w' ⟨rfl, rfl⟩) | (go_at_call 48; refine (within_f _ _ _ (by omega)).mono ?_; rintro e w' ⟨rfl, rfl⟩) | (go_at_call 59; refine (leftByOk_f _ _ (by omega)).mono ?_; rintro e w' ⟨rfl, rfl⟩))
    go_ret
    exact ⟨_, rfl, World.ownsRow_nil _ _ _ _, Below.refl _ _⟩

set_option maxHeartbeats 1000000 in
theorem implRowLeft_in (r q : Nat) (hr : r ≤ 300) (hq : 2 ≤ q) (hq2 : q ≤ 1000) (w : World) : Calls Try.prog 52 #[.int .i64 r, .int .i64 q] w fun e w' =>
    ∃ v, e = .returned v ∧ w'.ownsRow w.heap.size 3 1 v (rowLN q r).length ((rowLN q r).map (Value.int .i64)) ∧ Below w.heap.size w w' := by
  go_enter Try.func52, Try.ntmps52
  go_wp2_with (first
    | (go_at_call 48; refine (within_t _ _ _ (by omega) (by omega)).mono ?_; rintro e w' ⟨rfl, rfl⟩)
    | (go_at_call 59; refine (leftByOk_t _ _ (by omega) (by omega)).mono ?_; rintro e w' ⟨rfl, rfl⟩)
    | (refine make_blk _ rfl _ _ rfl _ _ (r + 1) rfl rfl (by simp) (by simp) (by omega) ?_; go_loud (intro w1 hb1 hg1; have hfz := hb1.frozen 0; have hc0 := hb1.cell (intsV_at (N := r + 1) (f := fun _ => 0) (show 0 < r + 1 by omega)); have hn0 : (0 : Int) < (r : Int) + 1 := (by omega))))
  have hst : BlkAt (w1.setCell ⟨w.heap.size, 0, none⟩ (.int .i64 1)) w.heap.size 3 (r + 1) (intsV (r + 1) fun i => (leftN q 0 i : Int)) := (hb1.setI 1 (by omega)).congr (fun i _ => by
    by_cases e : i = 0
    · subst e; rw [if_pos rfl, leftN_zero hq]; rfl
    · rw [if_neg e, leftN_over q 0 i (by omega)]; rfl)
  have hBs : Below w.heap.size w (w1.setCell ⟨w.heap.size, 0, none⟩ (.int .i64 1)) := ((Below.refl _ w).grown hg1 (Nat.le_refl _) (fun _ e => by cases e)).setCell (p := ⟨w.heap.size, 0, none⟩) (Nat.le_refl _) _
  clear hfz hc0
  go_loopw [20] (fun n wr => ∃ j : Nat, j ≤ r ∧ n = .int .i64 j ∧ BlkAt wr w.heap.size 3 (r + 1) (intsV (r + 1) fun i => (leftN q j i : Int)) ∧ Below w.heap.size w wr) (fun n _ => r - (intOf n).toNat)
  case atStart => exact ⟨0, by omega, rfl, hst, hBs⟩
  case round =>
    clear hst hBs hb1 hg1
    obtain ⟨j, hj, rfl, hb, hB⟩ := hrel
    by_cases hlt : j < r
    · go_wp2_with fail
      go_at_call 60
      refine (addBefore_blk w.heap.size (r + 1) _ _ (by omega) (by omega) (fun i => by have := leftN_lt hq j i; omega) hb).mono ?_
      rintro e w2 ⟨⟨v, rfl⟩, hb2, hg2⟩
      go_wp2_with fail
      go_at_call 53
      refine (keepLeft_blk w.heap.size 0 (r + 1) (r + 1) (r + 1) _ _ (fun i => if 0 < i ∧ i < r + 1 then leftN q j i + leftN q j (i - 1) else leftN q j i) q _ (by omega) (by omega) hq hq2 (fun i => by
        have h1 := leftN_lt hq j i
        have h2 := leftN_lt hq j (i - 1)
        split <;> omega) hb2 (fun i hi => by
          rw [Nat.zero_add, intsV_at hi]
          split <;> simp)).mono ?_
      rintro e w3 ⟨⟨v2, rfl⟩, hb3, hg3⟩
      have hb4 : BlkAt w3 w.heap.size 3 (r + 1) (intsV (r + 1) fun i => (leftN q (j + 1) i : Int)) := hb3.weaken (fun i v hi => by
        unfold intsV at hi
        dsimp only at hi ⊢
        by_cases e : i < r + 1
        · rw [if_pos e] at hi
          rw [if_pos (by omega), Nat.sub_zero, left_turn q j i (r + 1) e]; exact hi
        · rw [if_neg e] at hi; cases hi)
      have hB3 := (hB.grown hg2 hB.size (fun k e => by cases e; exact Nat.le_refl _)).grown hg3 (Nat.le_trans hB.size hg2.size) (fun k e => by cases e; exact Nat.le_refl _)
      go_wp2
      go_roundw
      case rel => exact ⟨j + 1, by omega, by go_num, hb4, hB3⟩
      case measure => simp [intOf]; omega
    · obtain rfl : j = r := by omega
      go_wp2
      go_ret
      refine ⟨_, rfl, ?_, hB⟩
      rw [rowLN_len]
      exact hb.owns (rowLN_len q j) (fun i hi => by rw [intsV_at hi]; unfold rowLN; rw [rowLP_getD q j (j + 1) i hi]) (Nat.le_refl _) (by omega)

theorem implRowLeft (row q : Int) (w : World) : Calls Try.prog 52 #[.int .i64 row, .int .i64 q] w fun e w' =>
    ∃ v, e = .returned v ∧ w'.ownsRow w.heap.size 3 1 v (rowLV row q).length ((rowLV row q).map (Value.int .i64)) ∧ Below w.heap.size w w' := by
  by_cases h : badR row q
  · rw [rowLV_bad h]; exact implRowLeft_out row q h w
  · unfold badR at h
    obtain ⟨r, rfl⟩ : ∃ r : Nat, row = r := ⟨row.toNat, by omega⟩
    obtain ⟨Q, rfl⟩ : ∃ r : Nat, q = r := ⟨q.toNat, by omega⟩
    rw [rowLV_nat (by omega) (by omega) (by omega)]
    exact implRowLeft_in r Q (by omega) (by omega) (by omega) w
end Go.Proofs.Ytmnmbelmcdfcjaa
