/-
  The program's rowAfter: what a deed makes of a row.
-/
import Derived.Test.YtimnhedjapakhaaDesk12a
namespace Go.Proofs.Ytimnhedjapakhaa
open Go.RowKit Go.Shelf
attribute [local go_sem] Oper.semAt_some

/-- What is known when the switch is come to: the deed lies boxed. -/
structure Af (w : World) (k n : Int) (W : World) : Prop where
  eq : w.alloc (.cells #[.int .i64 k, .int .i64 n] 32) = W
  below : Below w.heap.size w W
  c0 : W.cell? ⟨w.heap.size, 0, none⟩ = some (.int .i64 k)
  c1 : W.cell? ⟨w.heap.size, 1, none⟩ = some (.int .i64 n)
theorem Af.new (w : World) (k n : Int) : ∃ W, Af w k n W := by
  obtain ⟨d0, d1, _, _⟩ := row_at (World.alloc_heap_new w (.cells #[.int .i64 k, .int .i64 n] 32))
  exact ⟨_, rfl, (Below.refl _ w).alloc (Nat.le_refl _) _, d0, d1⟩

set_option maxRecDepth 100000 in
set_option maxHeartbeats 1000000 in
theorem rowAfter_0 (u : Value) (n : Int) (w W1 : World) (R : List Int) (hA : Af w 0 n W1) (hF : Calls Try.prog 71 #[u, .int .i64 n] W1 fun e w' => ∃ r, e = .returned r ∧ Ints w' r R ∧ Below W1.heap.size W1 w') : Calls Try.prog 38 #[u, .agg #[.int .i64 0, .int .i64 n]] w fun e w' => ∃ r, e = .returned r ∧ Ints w' r R ∧ Below w.heap.size w w' := by
  obtain ⟨hW1, hB0, d0, d1⟩ := hA
  have hM := most_in 0 W1
  rw [show mostN 0 = 99 from rfl] at hM
  by_cases hn : n = 0
  · subst hn
    clear hM
    go_enter Try.func38, Try.ntmps38
    go_wp2_with (go_at_call 71; refine hF.mono ?_; clear hF; rintro e w2 ⟨r, rfl, hr, hB2⟩)
    go_ret
    exact ⟨_, rfl, hr, hB0.trans (hB2.mono hB0.size)⟩
  · go_enter Try.func38, Try.ntmps38
    go_wp2_with (first
      | (go_at_call 70; refine hM.mono ?_; clear hM; rintro e w' ⟨rfl, rfl⟩)
      | (go_at_call 71; refine hF.mono ?_; clear hF; rintro e w2 ⟨r, rfl, hr, hB2⟩))
    go_ret
    exact ⟨_, rfl, hr, hB0.trans (hB2.mono hB0.size)⟩

set_option maxRecDepth 100000 in
set_option maxHeartbeats 1000000 in
theorem rowAfter_1 (u : Value) (n : Int) (w W1 : World) (R : List Int) (hA : Af w 1 n W1) (hF : Calls Try.prog 72 #[u, .int .i64 n] W1 fun e w' => ∃ r, e = .returned r ∧ Ints w' r R ∧ Below W1.heap.size W1 w') : Calls Try.prog 38 #[u, .agg #[.int .i64 1, .int .i64 n]] w fun e w' => ∃ r, e = .returned r ∧ Ints w' r R ∧ Below w.heap.size w w' := by
  obtain ⟨hW1, hB0, d0, d1⟩ := hA
  have hM := most_in 1 W1
  rw [show mostN 1 = 9 from rfl] at hM
  by_cases hn : n = 0
  · subst hn
    clear hM
    go_enter Try.func38, Try.ntmps38
    go_wp2_with (go_at_call 72; refine hF.mono ?_; clear hF; rintro e w2 ⟨r, rfl, hr, hB2⟩)
    go_ret
    exact ⟨_, rfl, hr, hB0.trans (hB2.mono hB0.size)⟩
  · go_enter Try.func38, Try.ntmps38
    go_wp2_with (first
      | (go_at_call 70; refine hM.mono ?_; clear hM; rintro e w' ⟨rfl, rfl⟩)
      | (go_at_call 72; refine hF.mono ?_; clear hF; rintro e w2 ⟨r, rfl, hr, hB2⟩))
    go_ret
    exact ⟨_, rfl, hr, hB0.trans (hB2.mono hB0.size)⟩

set_option maxRecDepth 100000 in
set_option maxHeartbeats 1000000 in
theorem rowAfter_2 (u : Value) (w W1 : World) (R : List Int) (hA : Af w 2 0 W1) (hF : Calls Try.prog 73 #[u] W1 fun e w' => ∃ r, e = .returned r ∧ w'.ownsRow W1.heap.size 3 1 r R.length (R.map (Value.int .i64)) ∧ Below W1.heap.size W1 w') : Calls Try.prog 38 #[u, .agg #[.int .i64 2, .int .i64 0]] w fun e w' => ∃ r, e = .returned r ∧ Ints w' r R ∧ Below w.heap.size w w' := by
  obtain ⟨hW1, hB0, d0, d1⟩ := hA
  go_enter Try.func38, Try.ntmps38
  go_wp2_with (go_at_call 73; refine hF.mono ?_; clear hF; rintro e w2 ⟨r, rfl, hr, hB2⟩)
  go_ret
  exact ⟨_, rfl, Ints.of_owns hr, hB0.trans (hB2.mono hB0.size)⟩

set_option maxRecDepth 100000 in
set_option maxHeartbeats 1000000 in
theorem rowAfter_3 (u : Value) (w W1 : World) (R : List Int) (hA : Af w 3 0 W1) (hF : Calls Try.prog 74 #[u] W1 fun e w' => ∃ r, e = .returned r ∧ w'.ownsRow W1.heap.size 3 1 r R.length (R.map (Value.int .i64)) ∧ Below W1.heap.size W1 w') : Calls Try.prog 38 #[u, .agg #[.int .i64 3, .int .i64 0]] w fun e w' => ∃ r, e = .returned r ∧ Ints w' r R ∧ Below w.heap.size w w' := by
  obtain ⟨hW1, hB0, d0, d1⟩ := hA
  go_enter Try.func38, Try.ntmps38
  go_wp2_with (go_at_call 74; refine hF.mono ?_; clear hF; rintro e w2 ⟨r, rfl, hr, hB2⟩)
  go_ret
  exact ⟨_, rfl, Ints.of_owns hr, hB0.trans (hB2.mono hB0.size)⟩

set_option maxRecDepth 100000 in
set_option maxHeartbeats 1000000 in
theorem rowAfter_4 (u : Value) (w W1 : World) (R : List Int) (hA : Af w 4 0 W1) (hF : Calls Try.prog 75 #[u] W1 fun e w' => ∃ r, e = .returned r ∧ w'.ownsRow W1.heap.size 3 1 r R.length (R.map (Value.int .i64)) ∧ Below W1.heap.size W1 w') : Calls Try.prog 38 #[u, .agg #[.int .i64 4, .int .i64 0]] w fun e w' => ∃ r, e = .returned r ∧ Ints w' r R ∧ Below w.heap.size w w' := by
  obtain ⟨hW1, hB0, d0, d1⟩ := hA
  go_enter Try.func38, Try.ntmps38
  go_wp2_with (go_at_call 75; refine hF.mono ?_; clear hF; rintro e w2 ⟨r, rfl, hr, hB2⟩)
  go_ret
  exact ⟨_, rfl, Ints.of_owns hr, hB0.trans (hB2.mono hB0.size)⟩

set_option maxRecDepth 100000 in
set_option maxHeartbeats 1000000 in
theorem rowAfter_none (u : Value) (k n : Int) (w W1 : World) (hA : Af w k n W1) (h0 : k ≠ 0) (h1 : k ≠ 1) (h : n ≠ 0 ∨ (k ≠ 2 ∧ k ≠ 3 ∧ k ≠ 4)) : Calls Try.prog 38 #[u, .agg #[.int .i64 k, .int .i64 n]] w fun e w' => e = .returned (.slice none 0 0) ∧ Below w.heap.size w w' := by
  obtain ⟨hW1, hB0, d0, d1⟩ := hA
  have hM := most_in k W1
  rw [show mostN k = 0 by unfold mostN; rw [if_neg h0, if_neg h1]] at hM
  by_cases hn : n = 0
  · subst hn
    obtain ⟨k2, k3, k4⟩ := h.resolve_left (fun h => h rfl)
    have b0 : (k == 0) = false := by rw [beq_eq_false_iff_ne]; exact h0
    have b1 : (k == 1) = false := by rw [beq_eq_false_iff_ne]; exact h1
    have b2 : (k == 2) = false := by rw [beq_eq_false_iff_ne]; exact k2
    have b3 : (k == 3) = false := by rw [beq_eq_false_iff_ne]; exact k3
    have b4 : (k == 4) = false := by rw [beq_eq_false_iff_ne]; exact k4
    clear h h0 h1 k2 k3 k4 hM
    go_enter Try.func38, Try.ntmps38
    go_wp2
    go_ret
    exact ⟨rfl, hB0⟩
  · clear h h0 h1
    go_enter Try.func38, Try.ntmps38
    go_wp2_with (go_at_call 70; refine hM.mono ?_; clear hM; rintro e w' ⟨rfl, rfl⟩)
    go_ret
    exact ⟨rfl, hB0⟩

theorem rowAfter_in (u : Value) (row : List Int) (k n : Int) (w : World) (hu : Ints w u row) (hs : sideB row = true) : Calls Try.prog 38 #[u, dV k n] w fun e w' => ∃ r, e = .returned r ∧ Ints w' r (madeV row k n) ∧ Below w.heap.size w w' := by
  have hlen := sideB_len hs
  obtain ⟨W1, hA⟩ := Af.new w k n
  have hu0 := hu.below hA.below
  have hlies : Lies u := by
    obtain ⟨g, c, rfl, _, _⟩ := hu0.cells hlen.1
    exact .inr ⟨_, _, _, rfl⟩
  unfold dV
  by_cases k0 : k = 0
  · subst k0
    refine rowAfter_0 u n w W1 _ hA ?_
    by_cases hn : 0 ≤ n ∧ n ≤ (row.length : Int) - 1
    · obtain ⟨m, rfl⟩ : ∃ m : Nat, n = m := ⟨n.toNat, by omega⟩
      rw [made_flip ⟨rfl, hn⟩, Int.toNat_natCast]
      exact flipped_in u row m W1 hu0 hs (by omega)
    · rw [made_none (by omega) (by omega) (by omega) (by omega) (by omega)]
      exact (flipped_no u row n W1 hu0 (by omega) (by omega)).mono fun e w' ⟨he, hw⟩ => ⟨_, he, Ints.none _ _ _, hw ▸ Below.refl _ _⟩
  by_cases k1 : k = 1
  · subst k1
    have hF := longer_in u row n W1 hu0 hs
    rw [longer_made hs] at hF
    exact rowAfter_1 u n w W1 _ hA hF
  by_cases hn : n = 0
  · subst hn
    by_cases k2 : k = 2
    · subst k2
      exact rowAfter_2 u w W1 _ hA (implUndr u row W1 hu0 hlies (by omega))
    by_cases k3 : k = 3
    · subst k3
      exact rowAfter_3 u w W1 _ hA (implTurned u row W1 hu0 hlies (by omega))
    by_cases k4 : k = 4
    · subst k4
      exact rowAfter_4 u w W1 _ hA (implRound u row W1 hu0 hlies (by omega))
    · rw [made_none (by omega) (by omega) (by omega) (by omega) (by omega)]
      exact (rowAfter_none u k 0 w W1 hA k0 k1 (.inr ⟨k2, k3, k4⟩)).mono fun e w' ⟨he, hw⟩ => ⟨_, he, Ints.none _ _ _, hw⟩
  · rw [made_none (by omega) (by omega) (by omega) (by omega) (by omega)]
    exact (rowAfter_none u k n w W1 hA k0 k1 (.inl hn)).mono fun e w' ⟨he, hw⟩ => ⟨_, he, Ints.none _ _ _, hw⟩
end Go.Proofs.Ytimnhedjapakhaa
