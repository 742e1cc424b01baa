/-
  The program's rowAfter: what a deed makes of a row.
-/
import Derived.Test.YtimnhedjapakhaaS12Z
import Derived.Test.YtimnhedjapakhaaSideZ
import Derived.Lib.AppendZeros
import Derived.Lib.AppendZerosOnto
namespace Go.Proofs.Ytimnhedjapakhaa
open Go.RowKit Go.Shelf
attribute [local go_sem] Oper.semAt_some

def mostN (k : Int) : Int := if k = 0 then 99 else if k = 1 then 9 else 0
theorem most_in (k : Int) (w : World) : Calls Try.prog 70 #[.int .i64 k] w fun e w' => e = .returned (.int .i64 (mostN k)) ∧ w = w' := by
  by_cases h0 : k = 0
  · subst h0
    go_enter Try.func70, Try.ntmps70
    go_wp2
    go_ret
    exact ⟨rfl, rfl⟩
  by_cases h1 : k = 1
  · subst h1
    go_enter Try.func70, Try.ntmps70
    go_wp2
    go_ret
    exact ⟨rfl, rfl⟩
  · have hm : mostN k = 0 := by unfold mostN; rw [if_neg h0, if_neg h1]
    rw [hm]
    have b0 : (k == 0) = false := by rw [beq_eq_false_iff_ne]; exact h0
    have b1 : (k == 1) = false := by rw [beq_eq_false_iff_ne]; exact h1
    clear h0 h1 hm
    go_enter Try.func70, Try.ntmps70
    go_wp2
    go_ret
    exact ⟨rfl, rfl⟩

theorem map_get {W : World} {g : Nat} {xs : List Int} (h : ∀ i, i < xs.length → W.cell? ⟨g, i, none⟩ = some (.int .i64 (xs.getD i 0))) : ∀ k u, (xs.map (Value.int .i64))[k]? = some u → W.cell? ⟨g, k, none⟩ = some u := fun k u hu => by
  rw [List.getElem?_map] at hu
  obtain ⟨z, hz, rfl⟩ := Option.map_eq_some_iff.1 hu
  have hk := (List.getElem?_eq_some_iff.1 hz).1
  rw [h k hk, List.getD, hz]; rfl
theorem one_cell {W : World} {q : Nat} {n : Int} (h : W.cell? ⟨q, 0, none⟩ = some (.int .i64 n)) : ∀ i, i < 1 → W.cell? ⟨q, i, none⟩ = some (.int .i64 (([n] : List Int).getD i 0)) := fun i hi => by
  obtain rfl : i = 0 := by omega
  exact h
theorem flipped_no (u : Value) (row : List Int) (n : Int) (w : World) (hu : Ints w u row) (hl : row.length ≤ 1000) (h : n < 0 ∨ (row.length : Int) - 1 < n) : Calls Try.prog 71 #[u, .int .i64 n] w fun e w' => e = .returned (.slice none 0 0) ∧ w = w' := by
  obtain ⟨a, c, rfl⟩ := hu.shape
  clear hu
  go_enter Try.func71, Try.ntmps71
  go_wp2_with (go_at_call 66; refine (within_f _ _ _ (by assumption)).mono ?_; rintro e w' ⟨rfl, rfl⟩)
  go_ret
  exact ⟨rfl, rfl⟩
set_option maxHeartbeats 1000000 in
theorem flipped_in (u : Value) (row : List Int) (m : Nat) (w : World) (hu : Ints w u row) (hs : sideB row = true) (hm : m < row.length) : Calls Try.prog 71 #[u, .int .i64 m] w fun e w' => ∃ r, e = .returned r ∧ Ints w' r (flipV row m) ∧ Below w.heap.size w w' := by
  have hl := sideB_len hs
  obtain ⟨g, c, rfl, hg, hc⟩ := hu.cells hl.1
  have hC := clone_in g row.length c row w rfl (by omega) (map_get hc)
  have hz := sideB_at hs hm
  have hfi := fun (W : World) (gb cb : Nat) (h : RowAt W gb row.length (fun i => if i = m then 1 - row.getD m 0 else row.getD i 0)) => (by
    have := flip_ints (cb := cb) h
    rwa [Int.toNat_natCast] at this : Ints W.drew (.slice (some ⟨gb, 0, none⟩) row.length cb) (flipV row m))
  have hfi' := hide hfi
  clear hc hu hg hs hfi
  have hm1 : (m : Int) ≤ (row.length : Int) - 1 := by omega
  have hl0 : 0 < row.length := hl.1
  obtain ⟨z, hzz⟩ : ∃ z, row.getD m 0 = z := ⟨_, rfl⟩
  rw [hzz] at hz
  have hz0 := hz.1
  have hz1 := hz.2
  have hzz' := hide hzz
  clear hz hzz
  go_enter Try.func71, Try.ntmps71
  go_wp2_with (first
    | (go_at_call 66; refine (within_t _ _ _ (by omega) (by assumption)).mono ?_; rintro e w' ⟨rfl, rfl⟩)
    | (go_at_call 69; refine hC.mono ?_; clear hC; go_loud (rintro e w2 ⟨r, rfl, hy, hB2⟩; obtain ⟨gb, cb, rfl, hgb, hra⟩ := RowAt.of_owns hy hl0; have hcz := hra.cell hm; rw [hzz'.out] at hcz; have hfz := hra.frozen m)))
  go_ret
  refine ⟨_, rfl, ?_, hB2.setCell (p := ⟨gb, m, none⟩) hgb _⟩
  have hset := hra.set (p := m) (1 - z)
  rw [← hzz'.out] at hset ⊢
  exact (hfi'.out _ gb cb hset)

set_option maxHeartbeats 1000000 in
/-- A row with a cell put behind it, or none if that is no side. -/
theorem longer_in (u : Value) (row : List Int) (n : Int) (w : World) (hu : Ints w u row) (hs : sideB row = true) : Calls Try.prog 72 #[u, .int .i64 n] w fun e w' => ∃ r, e = .returned r ∧ Ints w' r (if sideB (row ++ [n]) = true then row ++ [n] else []) ∧ Below w.heap.size w w' := by
  have hl := sideB_len hs
  obtain ⟨g, c, rfl, hg, hc⟩ := hu.cells hl.1
  have hC := clone_in g row.length c row w rfl (by omega) (map_get hc)
  clear hc hu hg hs
  go_enter Try.func72, Try.ntmps72
  go_wp2_with (first
    | (go_at_call 69; refine hC.mono ?_; clear hC; go_loud (rintro e w2 ⟨r, rfl, hy, hB2⟩; obtain ⟨ay, cy, rfl⟩ := own_form hy; have hy2 := hy.alloc (.cells #[.int .i64 n] 3); have hq := (Boxed.new w2 3 (.int .i64 n)).cell; have hB3 := hB2.alloc hB2.size (.cells #[.int .i64 n] 3)))
    | (at_builtin; go_loud (refine append_row rfl _ _ rfl w.heap.size _ row.length _ rfl hy2 w2.heap.size 1 1 [n] rfl rfl (one_cell hq) (by omega) (by have := hB2.size; simp; omega) ?_; intro y w4 hy4 hg4))
    | (go_at_call 33; fail))
  have hy5 : w4.ownsRow w.heap.size 3 1 y (row ++ [n]).length ((row ++ [n]).map (Value.int .i64)) := by simpa using hy4
  have hS := implSide y (row ++ [n]) w4 (Ints.of_owns hy5) (by simp; omega)
  have hB4 : Below w.heap.size w w4 := hB3.grown hg4 hB3.size (fun k e => (hy2.lt k e).1)
  obtain ⟨ay4, cy4, rfl⟩ := own_form hy4
  cases hsd : sideB (row ++ [n]) with
  | false =>
    rw [hsd] at hS
    go_wp2_with (go_at_call 33; refine hS.mono ?_; clear hS; rintro e w' ⟨rfl, hB5⟩)
    all_goals
      go_ret
      exact ⟨_, rfl, Ints.none _ _ _, hB4.trans (hB5.mono hB4.size)⟩
  | true =>
    rw [hsd] at hS
    go_wp2_with (go_at_call 33; refine hS.mono ?_; clear hS; rintro e w' ⟨rfl, hB5⟩)
    all_goals
      go_ret
      exact ⟨_, rfl, (Ints.of_owns hy5).below hB5, hB4.trans (hB5.mono hB4.size)⟩
theorem longer_made {row : List Int} (hs : sideB row = true) (n : Int) : (if sideB (row ++ [n]) = true then row ++ [n] else []) = madeV row 1 n := by
  have hl := sideB_len hs
  by_cases h : 0 ≤ n ∧ n ≤ 1 ∧ row.length < 12
  · rw [if_pos (put_side hs h.1 h.2.1 h.2.2), made_put ⟨rfl, h.1, h.2.1, by omega⟩]
  · rw [if_neg, made_none (by omega) (by omega) (by omega) (by omega) (by omega)]
    intro h2
    have h3 := sideB_len h2
    have h4 := sideB_at h2 (i := row.length) (by simp)
    rw [List.getD, List.getElem?_append_right (Nat.le_refl _), Nat.sub_self] at h4
    simp at h3 h4
    omega

end Go.Proofs.Ytimnhedjapakhaa
/-
  The program's rowAfter: what a deed makes of a row.
-/
namespace Go.Proofs.Ytimnhedjapakhaa
open Go.RowKit Go.Shelf
attribute [local go_sem] Oper.semAt_some

/-- What is known when the switch is come to: the deed lies boxed. -/
structure Af (w : World) (k n : Int) (W : World) : Prop where
  eq : w.alloc (.cells #[.int .i64 k, .int .i64 n] 32) = W
  below : Below w.heap.size w W
  c0 : W.cell? ⟨w.heap.size, 0, none⟩ = some (.int .i64 k)
  c1 : W.cell? ⟨w.heap.size, 1, none⟩ = some (.int .i64 n)
theorem Af.new (w : World) (k n : Int) : ∃ W, Af w k n W := by
  obtain ⟨d0, d1, _, _⟩ := row_at (World.alloc_heap_new w (.cells #[.int .i64 k, .int .i64 n] 32))
  exact ⟨_, rfl, (Below.refl _ w).alloc (Nat.le_refl _) _, d0, d1⟩

set_option maxRecDepth 100000 in
set_option maxHeartbeats 1000000 in
theorem rowAfter_0 (u : Value) (n : Int) (w W1 : World) (R : List Int) (hA : Af w 0 n W1) (hF : Calls Try.prog 71 #[u, .int .i64 n] W1 fun e w' => ∃ r, e = .returned r ∧ Ints w' r R ∧ Below W1.heap.size W1 w') : Calls Try.prog 38 #[u, .agg #[.int .i64 0, .int .i64 n]] w fun e w' => ∃ r, e = .returned r ∧ Ints w' r R ∧ Below w.heap.size w w' := by
  obtain ⟨hW1, hB0, d0, d1⟩ := hA
  have hM := most_in 0 W1
  rw [show mostN 0 = 99 from rfl] at hM
  by_cases hn : n = 0
  · subst hn
    clear hM
    go_enter Try.func38, Try.ntmps38
    go_wp2_with (go_at_call 71; refine hF.mono ?_; clear hF; rintro e w2 ⟨r, rfl, hr, hB2⟩)
    go_ret
    exact ⟨_, rfl, hr, hB0.trans (hB2.mono hB0.size)⟩
  · go_enter Try.func38, Try.ntmps38
    go_wp2_with (first
      | (go_at_call 70; refine hM.mono ?_; clear hM; rintro e w' ⟨rfl, rfl⟩)
      | (go_at_call 71; refine hF.mono ?_; clear hF; rintro e w2 ⟨r, rfl, hr, hB2⟩))
    go_ret
    exact ⟨_, rfl, hr, hB0.trans (hB2.mono hB0.size)⟩

set_option maxRecDepth 100000 in
set_option maxHeartbeats 1000000 in
theorem rowAfter_1 (u : Value) (n : Int) (w W1 : World) (R : List Int) (hA : Af w 1 n W1) (hF : Calls Try.prog 72 #[u, .int .i64 n] W1 fun e w' => ∃ r, e = .returned r ∧ Ints w' r R ∧ Below W1.heap.size W1 w') : Calls Try.prog 38 #[u, .agg #[.int .i64 1, .int .i64 n]] w fun e w' => ∃ r, e = .returned r ∧ Ints w' r R ∧ Below w.heap.size w w' := by
  obtain ⟨hW1, hB0, d0, d1⟩ := hA
  have hM := most_in 1 W1
  rw [show mostN 1 = 9 from rfl] at hM
  by_cases hn : n = 0
  · subst hn
    clear hM
    go_enter Try.func38, Try.ntmps38
    go_wp2_with (go_at_call 72; refine hF.mono ?_; clear hF; rintro e w2 ⟨r, rfl, hr, hB2⟩)
    go_ret
    exact ⟨_, rfl, hr, hB0.trans (hB2.mono hB0.size)⟩
  · go_enter Try.func38, Try.ntmps38
    go_wp2_with (first
      | (go_at_call 70; refine hM.mono ?_; clear hM; rintro e w' ⟨rfl, rfl⟩)
      | (go_at_call 72; refine hF.mono ?_; clear hF; rintro e w2 ⟨r, rfl, hr, hB2⟩))
    go_ret
    exact ⟨_, rfl, hr, hB0.trans (hB2.mono hB0.size)⟩

set_option maxRecDepth 100000 in
set_option maxHeartbeats 1000000 in
theorem rowAfter_2 (u : Value) (w W1 : World) (R : List Int) (hA : Af w 2 0 W1) (hF : Calls Try.prog 73 #[u] W1 fun e w' => ∃ r, e = .returned r ∧ w'.ownsRow W1.heap.size 3 1 r R.length (R.map (Value.int .i64)) ∧ Below W1.heap.size W1 w') : Calls Try.prog 38 #[u, .agg #[.int .i64 2, .int .i64 0]] w fun e w' => ∃ r, e = .returned r ∧ Ints w' r R ∧ Below w.heap.size w w' := by
  obtain ⟨hW1, hB0, d0, d1⟩ := hA
  go_enter Try.func38, Try.ntmps38
  go_wp2_with (go_at_call 73; refine hF.mono ?_; clear hF; rintro e w2 ⟨r, rfl, hr, hB2⟩)
  go_ret
  exact ⟨_, rfl, Ints.of_owns hr, hB0.trans (hB2.mono hB0.size)⟩

set_option maxRecDepth 100000 in
set_option maxHeartbeats 1000000 in
theorem rowAfter_3 (u : Value) (w W1 : World) (R : List Int) (hA : Af w 3 0 W1) (hF : Calls Try.prog 74 #[u] W1 fun e w' => ∃ r, e = .returned r ∧ w'.ownsRow W1.heap.size 3 1 r R.length (R.map (Value.int .i64)) ∧ Below W1.heap.size W1 w') : Calls Try.prog 38 #[u, .agg #[.int .i64 3, .int .i64 0]] w fun e w' => ∃ r, e = .returned r ∧ Ints w' r R ∧ Below w.heap.size w w' := by
  obtain ⟨hW1, hB0, d0, d1⟩ := hA
  go_enter Try.func38, Try.ntmps38
  go_wp2_with (go_at_call 74; refine hF.mono ?_; clear hF; rintro e w2 ⟨r, rfl, hr, hB2⟩)
  go_ret
  exact ⟨_, rfl, Ints.of_owns hr, hB0.trans (hB2.mono hB0.size)⟩

set_option maxRecDepth 100000 in
set_option maxHeartbeats 1000000 in
theorem rowAfter_4 (u : Value) (w W1 : World) (R : List Int) (hA : Af w 4 0 W1) (hF : Calls Try.prog 75 #[u] W1 fun e w' => ∃ r, e = .returned r ∧ w'.ownsRow W1.heap.size 3 1 r R.length (R.map (Value.int .i64)) ∧ Below W1.heap.size W1 w') : Calls Try.prog 38 #[u, .agg #[.int .i64 4, .int .i64 0]] w fun e w' => ∃ r, e = .returned r ∧ Ints w' r R ∧ Below w.heap.size w w' := by
  obtain ⟨hW1, hB0, d0, d1⟩ := hA
  go_enter Try.func38, Try.ntmps38
  go_wp2_with (go_at_call 75; refine hF.mono ?_; clear hF; rintro e w2 ⟨r, rfl, hr, hB2⟩)
  go_ret
  exact ⟨_, rfl, Ints.of_owns hr, hB0.trans (hB2.mono hB0.size)⟩

set_option maxRecDepth 100000 in
set_option maxHeartbeats 1000000 in
theorem rowAfter_none (u : Value) (k n : Int) (w W1 : World) (hA : Af w k n W1) (h0 : k ≠ 0) (h1 : k ≠ 1) (h : n ≠ 0 ∨ (k ≠ 2 ∧ k ≠ 3 ∧ k ≠ 4)) : Calls Try.prog 38 #[u, .agg #[.int .i64 k, .int .i64 n]] w fun e w' => e = .returned (.slice none 0 0) ∧ Below w.heap.size w w' := by
  obtain ⟨hW1, hB0, d0, d1⟩ := hA
  have hM := most_in k W1
  rw [show mostN k = 0 by unfold mostN; rw [if_neg h0, if_neg h1]] at hM
  by_cases hn : n = 0
  · subst hn
    obtain ⟨k2, k3, k4⟩ := h.resolve_left (fun h => h rfl)
    have b0 : (k == 0) = false := by rw [beq_eq_false_iff_ne]; exact h0
    have b1 : (k == 1) = false := by rw [beq_eq_false_iff_ne]; exact h1
    have b2 : (k == 2) = false := by rw [beq_eq_false_iff_ne]; exact k2
    have b3 : (k == 3) = false := by rw [beq_eq_false_iff_ne]; exact k3
    have b4 : (k == 4) = false := by rw [beq_eq_false_iff_ne]; exact k4
    clear h h0 h1 k2 k3 k4 hM
    go_enter Try.func38, Try.ntmps38
    go_wp2
    go_ret
    exact ⟨rfl, hB0⟩
  · clear h h0 h1
    go_enter Try.func38, Try.ntmps38
    go_wp2_with (go_at_call 70; refine hM.mono ?_; clear hM; rintro e w' ⟨rfl, rfl⟩)
    go_ret
    exact ⟨rfl, hB0⟩

theorem rowAfter_in (u : Value) (row : List Int) (k n : Int) (w : World) (hu : Ints w u row) (hs : sideB row = true) : Calls Try.prog 38 #[u, dV k n] w fun e w' => ∃ r, e = .returned r ∧ Ints w' r (madeV row k n) ∧ Below w.heap.size w w' := by
  have hlen := sideB_len hs
  obtain ⟨W1, hA⟩ := Af.new w k n
  have hu0 := hu.below hA.below
  have hlies : Lies u := by
    obtain ⟨g, c, rfl, _, _⟩ := hu0.cells hlen.1
    exact .inr ⟨_, _, _, rfl⟩
  unfold dV
  by_cases k0 : k = 0
  · subst k0
    refine rowAfter_0 u n w W1 _ hA ?_
    by_cases hn : 0 ≤ n ∧ n ≤ (row.length : Int) - 1
    · obtain ⟨m, rfl⟩ : ∃ m : Nat, n = m := ⟨n.toNat, by omega⟩
      rw [made_flip ⟨rfl, hn⟩, Int.toNat_natCast]
      exact flipped_in u row m W1 hu0 hs (by omega)
    · rw [made_none (by omega) (by omega) (by omega) (by omega) (by omega)]
      exact (flipped_no u row n W1 hu0 (by omega) (by omega)).mono fun e w' ⟨he, hw⟩ => ⟨_, he, Ints.none _ _ _, hw ▸ Below.refl _ _⟩
  by_cases k1 : k = 1
  · subst k1
    have hF := longer_in u row n W1 hu0 hs
    rw [longer_made hs] at hF
    exact rowAfter_1 u n w W1 _ hA hF
  by_cases hn : n = 0
  · subst hn
    by_cases k2 : k = 2
    · subst k2
      exact rowAfter_2 u w W1 _ hA (implUndr u row W1 hu0 hlies (by omega))
    by_cases k3 : k = 3
    · subst k3
      exact rowAfter_3 u w W1 _ hA (implTurned u row W1 hu0 hlies (by omega))
    by_cases k4 : k = 4
    · subst k4
      exact rowAfter_4 u w W1 _ hA (implRound u row W1 hu0 hlies (by omega))
    · rw [made_none (by omega) (by omega) (by omega) (by omega) (by omega)]
      exact (rowAfter_none u k 0 w W1 hA k0 k1 (.inr ⟨k2, k3, k4⟩)).mono fun e w' ⟨he, hw⟩ => ⟨_, he, Ints.none _ _ _, hw⟩
  · rw [made_none (by omega) (by omega) (by omega) (by omega) (by omega)]
    exact (rowAfter_none u k n w W1 hA k0 k1 (.inl hn)).mono fun e w' ⟨he, hw⟩ => ⟨_, he, Ints.none _ _ _, hw⟩
end Go.Proofs.Ytimnhedjapakhaa
/-
  The program's deskOf: a desk of one's own.
-/
namespace Go.Proofs.Ytimnhedjapakhaa
open Go.RowKit Go.Shelf
attribute [local go_sem] Oper.semAt_some

/-- A desk of one's own: its row lies below the rows of before. -/
def OwnDk (W : World) (base : Nat) (v : Value) (d : Dk) : Prop :=
  ∃ mid x p, v = .agg #[x, p] ∧ base ≤ mid ∧ mid ≤ W.heap.size ∧ OwnI W base mid x d.1.length (fun i => d.1.getD i 0) ∧ OwnRows W mid p d.2
theorem OwnDk.deskI {W : World} {base : Nat} {v : Value} {d : Dk} (h : OwnDk W base v d) : DeskI W v d := by
  obtain ⟨mid, x, p, rfl, _, _, h1, h2⟩ := h
  exact ⟨x, p, rfl, h1.ints, h2.ownSS.rowsI.past⟩
theorem OwnRows.nil (W : World) (base : Nat) : OwnRows W base (.slice none 0 0) [] := ⟨[], rfl, World.ownsRow_nil _ _ _ _, fun j h => absurd h (Nat.not_lt_zero j), fun _ j _ h => absurd h (Nat.not_lt_zero j)⟩
theorem OwnDk.none (W : World) (base : Nat) (hb : base ≤ W.heap.size) : OwnDk W base (.agg #[.slice none 0 0, .slice none 0 0]) ([], []) :=
  ⟨base, _, _, rfl, Nat.le_refl _, hb, .inl ⟨rfl, _, _, rfl⟩, OwnRows.nil _ _⟩
/-- What lies in blocks of another type, or below, changes: the rows stand. -/
theorem OwnRows.keep {W W' : World} {base : Nat} {v : Value} {rows : List (List Int)} (h : OwnRows W base v rows) {b : Nat} {cur : Array Value} {t : TypeId} (hb : W.heap[b]? = some (.cells cur t (0, 0))) (h1 : 23 ≠ t) (h2 : 3 ≠ t) (hg : W.grownBy W' (some b)) : OwnRows W' base v rows := by
  obtain ⟨us, l, o, r, ne⟩ := h
  exact ⟨us, l, own_kept o hg (own_not o hb h1), fun j hj => own_kept (r j hj) hg (own_not (r j hj) hb h2), ne⟩
theorem OwnRows.below {W W' : World} {base : Nat} {v : Value} {rows : List (List Int)} (h : OwnRows W base v rows) (hB : Below W.heap.size W W') : OwnRows W' base v rows := by
  obtain ⟨us, l, o, r, ne⟩ := h
  exact ⟨us, l, own_below o hB, fun j hj => own_below (r j hj) hB, ne⟩
theorem OwnRows.form {W : World} {base : Nat} {v : Value} {rows : List (List Int)} (h : OwnRows W base v rows) : ∃ a c, v = .slice a rows.length c := by
  obtain ⟨us, l, o, _⟩ := h
  obtain ⟨a, c, e⟩ := own_form o
  exact ⟨a, c, by rw [e, l]⟩
theorem own_block {W : World} {base n : Nat} {e : TypeId} {v : Value} {xs : List Value} (h : W.ownsRow base e 1 v n xs) : v.ownBlock = .none ∨ ∃ b, v.ownBlock = some b ∧ base ≤ b ∧ b < W.heap.size := by
  rcases h.2 with ⟨rfl, _⟩ | ⟨b, cap, cur, rfl, hb, hg, _⟩
  · exact .inl rfl
  · exact .inr ⟨b, rfl, hb, (Array.getElem?_eq_some_iff.1 hg).1⟩
theorem own_pos {W : World} {base n : Nat} {e : TypeId} {v : Value} {xs : List Value} (h : W.ownsRow base e 1 v n xs) (hn : 0 < n) : ∃ b, v.ownBlock = some b ∧ base ≤ b ∧ b < W.heap.size := by
  rcases h.2 with ⟨rfl, h0⟩ | ⟨b, cap, cur, rfl, hb, hg, _⟩
  · omega
  · exact ⟨b, rfl, hb, (Array.getElem?_eq_some_iff.1 hg).1⟩
/-- One row more behind rows of one's own, in a new block. -/
theorem OwnRows.push {W V W' : World} {base : Nat} {v v' u : Value} {rows : List (List Int)} {row : List Int} (h0 : 0 < row.length) (hb : base ≤ W.heap.size)
    (hu : V.ownsRow W.heap.size 3 1 u row.length (row.map (Value.int .i64))) (us : List Value) (hus : us.length = rows.length) (ho : V.ownsRow base 23 1 v us.length us)
    (hr : ∀ j, j < rows.length → V.ownsRow base 3 1 (us.getD j undef) (rows.getD j []).length ((rows.getD j []).map (Value.int .i64)) ∧ ((us.getD j undef).ownBlock = .none ∨ ∃ b, (us.getD j undef).ownBlock = some b ∧ b < W.heap.size))
    (hne : ∀ i j, i < j → j < rows.length → (us.getD i undef).ownBlock ≠ (us.getD j undef).ownBlock)
    (hv : W'.ownsRow base 23 1 v' (us.length + 1) (us ++ [u])) (hg : V.grownBy W' v.ownBlock) : OwnRows W' base v' (rows ++ [row]) := by
  refine ⟨us ++ [u], by simp [hus], by rw [List.length_append]; exact hv, fun j hj => ?_, fun i j hij hj => ?_⟩
  · by_cases e : j < rows.length
    · rw [List.getD, List.getElem?_append_left (by omega), List.getD, List.getElem?_append_left e]
      exact (hr j e).1.kept hg (own_apart (hr j e).1 ho)
    · have : j = rows.length := by simp at hj; omega
      subst this
      rw [List.getD, ← hus, List.getElem?_append_right (Nat.le_refl _), List.getD, hus, List.getElem?_append_right (Nat.le_refl _), Nat.sub_self]
      exact own_from (hu.kept hg (own_apart hu ho)) hb
  · by_cases e : j < rows.length
    · rw [List.getD, List.getElem?_append_left (by omega), List.getD, List.getElem?_append_left (by omega)]
      exact hne i j hij e
    · have : j = rows.length := by simp at hj; omega
      subst this
      rw [List.getD, List.getElem?_append_left (by omega), List.getD, ← hus, List.getElem?_append_right (Nat.le_refl _), Nat.sub_self]
      obtain ⟨b, e1, e2, _⟩ := own_pos hu h0
      rcases (hr i hij).2 with e3 | ⟨c, e3, e4⟩
      · show (us.getD i undef).ownBlock ≠ u.ownBlock
        rw [e1, e3]; exact fun e => by cases e
      · show (us.getD i undef).ownBlock ≠ u.ownBlock
        rw [e1, e3]
        intro e
        injection e with e
        omega
/-- The rows' values, and what is known of them in a later world. -/
theorem OwnRows.open_ {W V : World} {base : Nat} {v : Value} {rows : List (List Int)} (h : OwnRows W base v rows) (hB : Below W.heap.size W V) : ∃ us : List Value, us.length = rows.length ∧ V.ownsRow base 23 1 v us.length us ∧
    (∀ j, j < rows.length → V.ownsRow base 3 1 (us.getD j undef) (rows.getD j []).length ((rows.getD j []).map (Value.int .i64)) ∧ ((us.getD j undef).ownBlock = .none ∨ ∃ b, (us.getD j undef).ownBlock = some b ∧ b < W.heap.size)) ∧
    ∀ i j, i < j → j < rows.length → (us.getD i undef).ownBlock ≠ (us.getD j undef).ownBlock := by
  obtain ⟨us, l, o, r, ne⟩ := h
  refine ⟨us, l, own_below o hB, fun j hj => ⟨own_below (r j hj) hB, ?_⟩, ne⟩
  rcases own_block (r j hj) with h | ⟨b, h1, _, h2⟩
  · exact .inl h
  · exact .inr ⟨b, h1, h2⟩

/-- A desk on the way: the result's block, the desk's block b, its row below it, the rows behind it. -/
structure Dof (w : World) (b : Nat) (x : Value) (row : List Int) (rows : List (List Int)) (pv : Value) (W : World) : Prop where
  below : Below w.heap.size w W
  res : W.heap[w.heap.size]? = some (.cells #[.slice none 0 0, .slice none 0 0] 26 (0, 0))
  out : W.heap[b]? = some (.cells #[x, pv] 26 (0, 0))
  lt : w.heap.size < b
  now : OwnI W (w.heap.size + 1) b x row.length (fun i => row.getD i 0)
  past : OwnRows W b pv rows
theorem Dof.more {w : World} {b : Nat} {x pv : Value} {row : List Int} {rows : List (List Int)} {W V : World} (h : Dof w b x row rows pv W) (hV : Below W.heap.size W V) : Dof w b x row rows pv V :=
  ⟨h.below.trans (hV.mono h.below.size), (hV.block _ (Array.getElem?_eq_some_iff.1 h.res).1).trans h.res, (hV.block _ (Array.getElem?_eq_some_iff.1 h.out).1).trans h.out, h.lt, h.now.below hV, h.past.below hV⟩

/-- A round of the copy: one row more. -/
theorem Dof.push {w : World} {b : Nat} {x pv : Value} {row R : List Int} {rows : List (List Int)} {W V V' : World} {u v' : Value} (h : Dof w b x row rows pv W) (hV : Below W.heap.size W V) (h0 : 0 < R.length)
    (hu : V.ownsRow W.heap.size 3 1 u R.length (R.map (Value.int .i64))) (us : List Value) (hus : us.length = rows.length) (ho : V.ownsRow b 23 1 pv us.length us)
    (hr : ∀ j, j < rows.length → V.ownsRow b 3 1 (us.getD j undef) (rows.getD j []).length ((rows.getD j []).map (Value.int .i64)) ∧ ((us.getD j undef).ownBlock = .none ∨ ∃ q, (us.getD j undef).ownBlock = some q ∧ q < W.heap.size))
    (hne : ∀ i j, i < j → j < rows.length → (us.getD i undef).ownBlock ≠ (us.getD j undef).ownBlock)
    (hv : V'.ownsRow b 23 1 v' (us.length + 1) (us ++ [u])) (hg : V.grownBy V' pv.ownBlock) : V'.heap[b]? = some (.cells #[x, pv] 26 (0, 0)) ∧ Dof w b x row (rows ++ [R]) v' (V'.setCell ⟨b, 1, .none⟩ v') := by
  have hb : b ≤ W.heap.size := Nat.le_of_lt (Array.getElem?_eq_some_iff.1 h.out).1
  have hpast := OwnRows.push h0 hb hu us hus ho hr hne hv hg
  have hm := h.more hV
  have hlt := h.lt
  have n0 : pv.ownBlock ≠ some w.heap.size := own_old ho hlt
  have n2 : pv.ownBlock ≠ some b := own_not ho hm.out (by decide)
  have k0 := (hg.block _ (Array.getElem?_eq_some_iff.1 hm.res).1 (fun e => n0 e.symm)).trans hm.res
  have k2 := (hg.block _ (Array.getElem?_eq_some_iff.1 hm.out).1 (fun e => n2 e.symm)).trans hm.out
  have hs := grownBy_setAt V' b 1 v'
  refine ⟨k2, ⟨?_, (hs.block _ (Array.getElem?_eq_some_iff.1 k0).1 (fun e => by injection e with e; omega)).trans k0, set_cells k2 1 v', hlt, ?_, OwnRows.keep hpast k2 (by decide) (by decide) hs⟩⟩
  · exact (hm.below.grown hg hm.below.size (fun k e => by have := ho.lt k e; omega)).setCell (p := ⟨b, 1, .none⟩) (by show w.heap.size ≤ b; omega) _
  · exact (hm.now.grown hg (fun k e => by have := ho.lt k e; omega)).grown hs (fun k e => by injection e with e; omega)
/-- The desk is handed back. -/
theorem Dof.done {w : World} {b : Nat} {x pv : Value} {row : List Int} {rows : List (List Int)} {W : World} (h : Dof w b x row rows pv W) : OwnDk ((W.setCell ⟨w.heap.size, 0, .none⟩ x).setCell ⟨w.heap.size, 1, .none⟩ pv) w.heap.size (.agg #[x, pv]) (row, rows) ∧ Below w.heap.size w ((W.setCell ⟨w.heap.size, 0, .none⟩ x).setCell ⟨w.heap.size, 1, .none⟩ pv) := by
  have g0 := grownBy_setAt W w.heap.size 0 x
  have g1 := grownBy_setAt (W.setCell ⟨w.heap.size, 0, .none⟩ x) w.heap.size 1 pv
  have hlt := h.lt
  have hb : b < W.heap.size := (Array.getElem?_eq_some_iff.1 h.out).1
  have k0 := set_cells h.res 0 x
  refine ⟨⟨b, x, pv, rfl, by omega, Nat.le_trans (Nat.le_of_lt hb) (Nat.le_trans g0.size g1.size), ?_, ?_⟩, ?_⟩
  · have h1 := (h.now.grown g0 (fun k e => by injection e with e; omega)).grown g1 (fun k e => by injection e with e; omega)
    rcases h1 with h1 | ⟨g, c, e, h2, h3, h4⟩
    · exact .inl h1
    · exact .inr ⟨g, c, e, by omega, h3, h4⟩
  · exact OwnRows.keep (OwnRows.keep h.past h.res (by decide) (by decide) g0) k0 (by decide) (by decide) g1
  · exact (h.below.setCell (p := ⟨w.heap.size, 0, .none⟩) (Nat.le_refl _) _).setCell (p := ⟨w.heap.size, 1, .none⟩) (Nat.le_refl _) _
end Go.Proofs.Ytimnhedjapakhaa
/-
  The program's deskOf: a desk of one's own.
-/
namespace Go.Proofs.Ytimnhedjapakhaa
open Go.RowKit Go.Shelf
attribute [local go_sem] Oper.semAt_some

set_option maxRecDepth 100000 in
set_option maxHeartbeats 2000000 in
theorem deskOf_lt (w : World) (u : Value) (row : List Int) (rows : List (List Int)) (a : Option Addr) (cp N G o : Nat) (ha : 0 < N → a = some ⟨G, o, none⟩) (hN : rows.length = N) (hN8 : N ≤ 7) (hG : 0 < N → G < w.heap.size) (hrows : ∀ k, k < N → ∃ u, w.cell? ⟨G, o + k, none⟩ = some u ∧ Ints w u (rows.getD k [])) (hr : ∀ j, j < N → 1 ≤ (rows.getD j []).length ∧ (rows.getD j []).length ≤ 12) (hu : Ints w u row) (h1 : 1 ≤ row.length) (h2 : row.length ≤ 12) :
    Calls Try.prog 37 #[u, .slice a N cp] w fun e w' => ∃ x, e = .returned x ∧ OwnDk w' w.heap.size x (row, rows) ∧ Below w.heap.size w w' := by
  obtain ⟨g, c, rfl, hg, hc⟩ := hu.cells h1
  have hN8i : (N : Int) - 8 < 0 := by omega
  have hB0 : Below w.heap.size w (w.alloc (.cells #[.slice none 0 0, .slice none 0 0] 26)) := (Below.refl _ w).alloc (Nat.le_refl _) _
  have hres := World.alloc_heap_new w (.cells #[.slice none 0 0, .slice none 0 0] 26)
  have hsz := Nat.le_of_eq (World.size_alloc w (.cells #[.slice none 0 0, .slice none 0 0] 26)).symm
  obtain ⟨W0, hW0⟩ : ∃ W0, w.alloc (.cells #[.slice none 0 0, .slice none 0 0] 26) = W0 := ⟨_, rfl⟩
  rw [hW0] at hB0 hres hsz
  have hC := clone_in g row.length c row W0 rfl (by omega) (map_get (fun i hi => (hB0.cell (p := ⟨g, i, none⟩) hg).trans (hc i hi)))
  clear hc
  refine (callsIn_wide (n := 9)).1 ?_
  refine callsIn_of_wp Try.func37 rfl trivial ?_ rfl
  simp only [Try.ntmps37, List.size_toArray, List.length_cons, List.length_nil, Nat.reduceAdd, Nat.reduceSub, Array.replicate_succ, Array.replicate_zero, List.push_toArray, List.append_toArray, List.nil_append, List.cons_append]
  gi_wp2_with (refine ⟨trivial, ?_⟩; gi_at_call 69; refine (callsIn_wide.2 hC).mono ?_; clear hC; go_loud (rintro e w2 ⟨r, rfl, hy, hB2⟩; obtain ⟨ay, cy, rfl⟩ := own_form hy))
  have hs2 := hB2.size
  have hB3 : Below w.heap.size w w2 := hB0.trans (hB2.mono hB0.size)
  have hx : OwnI w2 (w.heap.size + 1) w2.heap.size (.slice ay row.length cy) row.length (fun i => row.getD i 0) := by
    obtain ⟨gy, cy', e1, e2, e3⟩ := RowAt.of_owns hy (by omega)
    exact .inr ⟨gy, cy', e1, by omega, e3.lt, e3⟩
  have hD0 : Dof w w2.heap.size (.slice ay row.length cy) row (rows.take 0) (.slice none 0 0) (w2.alloc (.cells #[.slice ay row.length cy, .slice none 0 0] 26)) :=
    ⟨hB3.alloc hB3.size _, (Below.heap_alloc _ _ _ (by omega)).trans ((hB2.block _ (by omega)).trans hres), World.alloc_heap_new w2 _, by omega, hx.below ((Below.refl _ _).alloc (Nat.le_refl _) _), OwnRows.nil _ _⟩
  clear hy hB2 hB3 hB0 hres hsz hx hW0 hs2
  generalize w2.alloc (.cells #[.slice ay row.length cy, .slice none 0 0] 26) = W3 at *
  generalize w2.heap.size = b at *
  gi_loopw [18] (fun i wr => ∃ k : Nat, k ≤ N ∧ i = .int .i64 k ∧ ∃ pv, Dof w b (.slice ay row.length cy) row (rows.take k) pv wr) (fun i _ => N - (intOf i).toNat)
  case atStart => exact ⟨0, by omega, rfl, _, hD0⟩
  case round =>
    clear hD0
    obtain ⟨k, hk, rfl, pv, hDk⟩ := hrel
    by_cases hlt : k < N
    · have hki : (k : Int) < (N : Int) := by omega
      obtain rfl := ha (by omega)
      have hG := hG (by omega)
      obtain ⟨uu, huc, huu⟩ := hrows k hlt
      have hrk := hr k hlt
      obtain ⟨gu, cu, rfl, hgu, hcu⟩ := huu.cells hrk.1
      have htake : rows.take (k + 1) = rows.take k ++ [rows.getD k []] := by
        rw [List.take_add_one, List.getElem?_eq_getElem (by omega), List.getD, List.getElem?_eq_getElem (by omega)]; rfl
      obtain ⟨R, hR⟩ : ∃ R, rows.getD k [] = R := ⟨_, rfl⟩
      rw [hR] at huc hcu hrk htake
      have huc2 := (hDk.below.cell (p := ⟨G, o + k, none⟩) hG).trans huc
      have hcl : ∀ V, Below wr.heap.size wr V → Calls Try.prog 69 #[.slice (some ⟨gu, 0, none⟩) R.length cu] V fun e w' => ∃ v, e = .returned v ∧ w'.ownsRow V.heap.size 3 1 v R.length (R.map (Value.int .i64)) ∧ Below V.heap.size V w' := fun V hV =>
        clone_in gu R.length cu R V rfl (by omega) (map_get (fun i hi => (hV.cell (p := ⟨gu, i, none⟩) (Nat.lt_of_lt_of_le hgu hDk.below.size)).trans ((hDk.below.cell (p := ⟨gu, i, none⟩) hgu).trans (hcu i hi))))
      have hwb := hDk.below.size
      have hblt := hDk.lt
      have hbs := (Array.getElem?_eq_some_iff.1 hDk.out).1
      have hDk' := hide hDk
      clear hDk huc huu hcu hR hrows hr
      gi_wp2
      refine wpIn_region_kinds 5 (by kernel_rfl) (by kernel_rfl) (by kernel_rfl) (by decide)
        (fun s => { tmps := #[.slice (some ⟨g, 0, none⟩) row.length c, .slice (some ⟨G, o, none⟩) N cp, undef, undef, .pointer (some ⟨w.heap.size, 0, none⟩), .pointer (some ⟨b, 0, none⟩), undef, .slice (some ⟨gu, 0, none⟩) R.length cu, .slice (some ⟨g, 0, none⟩) row.length c, .slice ay row.length cy, .agg #[.slice ay row.length cy, .slice none 0 0], .slice (some ⟨G, o, none⟩) N cp, .slice (some ⟨G, o, none⟩) N cp, .int .i64 N, .int .i64 ((N : Int) - 8), .int .i64 0, .slice (some ⟨G, o, none⟩) N cp, .int .i64 N, .int .i64 k, .bool true, .pointer (some ⟨G, o + k, none⟩), .slice (some ⟨gu, 0, none⟩) R.length cu, s 0, s 1, s 2, s 3, s 4, u27, u28, u29, undef], defers := [] })
        [.val (.pointer (some ⟨b, 1, none⟩)), .val pv, .val (.slice (some ⟨gu, 0, none⟩) R.length cu), .own wr.heap.size R.length (R.map (Value.int .i64)), .oneOwn wr.heap.size R.length (R.map (Value.int .i64))]
        ⟨fun j => #[u22, u23, u24, u25, u26].getD j undef, rfl⟩ ?put ?step ?tail
      case put =>
        intro i o s v hi ho
        rcases (show i = 0 ∨ i = 1 ∨ i = 2 ∨ i = 3 ∨ i = 4 by omega) with rfl | rfl | rfl | rfl | rfl
        all_goals
          simp at ho
          subst ho
          simp [Act.put]
      case step =>
        rintro i o s V hi ho hV hd Q' hQ
        rcases (show i = 0 ∨ i = 1 ∨ i = 2 ∨ i = 3 ∨ i = 4 by omega) with rfl | rfl | rfl | rfl | rfl
        all_goals
          simp at ho
          subst ho
          simp [Act.put] at hQ
          have hQ' := hide hQ
          clear hQ
        case inl =>
          clear hd
          gi_wp2
          exact hQ'.out _ _ (Below.refl _ _) rfl
        case inr.inl =>
          have e1 : s 0 = .pointer (some ⟨b, 1, none⟩) := hd 0 (by kernel_rfl)
          have hcc : V.cell? ⟨b, 1, none⟩ = some pv := by unfold World.cell?; rw [(hDk'.out.more hV).out]; rfl
          clear hd
          gi_wp2
          exact hQ'.out _ _ (Below.refl _ _) rfl
        case inr.inr.inl =>
          clear hd
          gi_wp2
          exact hQ'.out _ _ (Below.refl _ _) rfl
        case inr.inr.inr.inl =>
          have e1 : s 2 = .slice (some ⟨gu, 0, none⟩) R.length cu := hd 2 (by kernel_rfl)
          have hcV := hcl V hV
          clear hd
          gi_wp2_with (refine ⟨trivial, ?_⟩; gi_at_call 69; refine (callsIn_wide.2 hcV).mono ?_; rintro e w' ⟨r, rfl, hown', hB'⟩)
          have hr := hQ'.out
          rw [e1] at hr
          exact hr _ _ hB' (own_from hown' hV.size)
        case inr.inr.inr.inr =>
          have e1 : V.ownsRow wr.heap.size 3 1 (s 3) R.length (R.map (Value.int .i64)) := hd 3 (by kernel_rfl)
          clear hd
          obtain ⟨ar, cr, er⟩ := own_form e1
          rw [er] at e1
          gi_wp2
          exact hQ'.out _ _ ((Below.refl _ V).alloc (Nat.le_refl _) _) ⟨V.heap.size, .slice ar R.length cr, rfl, by simp, (Boxed.new V 23 (.slice ar R.length cr)).cell, e1.alloc _⟩
      case tail =>
        rintro s V hV hd
        have e1 : s 1 = pv := hd 1 (by omega)
        obtain ⟨q, u0, e9, hq, hcq, hu0⟩ : ∃ q u, s 4 = .slice (some ⟨q, 0, none⟩) 1 1 ∧ q < V.heap.size ∧ V.cell? ⟨q, 0, none⟩ = some u ∧ V.ownsRow wr.heap.size 3 1 u R.length (R.map (Value.int .i64)) := hd 4 (by omega)
        clear hd
        obtain ⟨us, hul, huo, hur, hune⟩ := hDk'.out.past.open_ hV
        have hus : us.length ≤ 9 := by rw [hul, List.length_take]; omega
        have hVs := hV.size
        simp only [List.drop_succ_cons, List.drop_zero]
        refine append_slice_in rfl _ _ rfl (by obtain ⟨ar, cr, rfl⟩ := own_form hu0; rfl) b pv us.length us e1 huo q e9 hcq (by omega) (by omega) ?_
        intro v' w' how hgr
        obtain ⟨k2, hnew⟩ := hDk'.out.push hV hrk.1 hu0 us hul huo hur hune how hgr
        rw [← htake] at hnew
        obtain ⟨c0, c1, f0, f1⟩ := row_at k2
        obtain ⟨a', c', e'⟩ := hnew.past.form
        rw [List.length_take, Nat.min_eq_left (by omega)] at e'
        rw [e'] at hnew
        have hnew' := hide hnew
        subst e'
        clear hnew hgr how huo hur hune hDk' hu0 hcq k2
        gi_wp2
        go_roundw
        case rel => exact ⟨k + 1, by omega, by go_num, _, hnew'.out⟩
        case measure => simp [intOf]; omega
    · have hki : ¬ ((k : Nat) : Int) < (N : Int) := by omega
      rw [List.take_of_length_le (by omega)] at hDk
      obtain ⟨a', c', e'⟩ := hDk.past.form
      rw [hN] at e'
      subst e'
      obtain ⟨c0, c1, f0, f1⟩ := row_at hDk.out
      obtain ⟨r0, r1, g0, g1⟩ := row_at hDk.res
      have hres := desk_set hDk.res (.slice ay row.length cy) (.slice a' N c')
      have hdone := hide hDk.done
      clear hDk hrows hr
      gi_wp2
      refine bodyPost_ret (results_desk rfl _ _ w.heap.size _ _ rfl hres) rfl ⟨_, rfl, hdone.out.1, hdone.out.2⟩
end Go.Proofs.Ytimnhedjapakhaa
/-
  The program's deskOf: a desk of one's own.
-/
namespace Go.Proofs.Ytimnhedjapakhaa
open Go.RowKit Go.Shelf
attribute [local go_sem] Oper.semAt_some

set_option maxRecDepth 100000 in
set_option maxHeartbeats 2000000 in
theorem deskOf_8 (w : World) (u : Value) (row : List Int) (rows : List (List Int)) (cp G o : Nat) (hN : rows.length = 8) (hG : G < w.heap.size) (hrows : ∀ k, k < 8 → ∃ u, w.cell? ⟨G, o + k, none⟩ = some u ∧ Ints w u (rows.getD k [])) (hr : ∀ j, j < 8 → 1 ≤ (rows.getD j []).length ∧ (rows.getD j []).length ≤ 12) (hu : Ints w u row) (h1 : 1 ≤ row.length) (h2 : row.length ≤ 12) :
    Calls Try.prog 37 #[u, .slice (some ⟨G, o, none⟩) 8 cp] w fun e w' => ∃ x, e = .returned x ∧ OwnDk w' w.heap.size x (row, rows) ∧ Below w.heap.size w w' := by
  obtain ⟨g, c, rfl, hg, hc⟩ := hu.cells h1

  have hB0 : Below w.heap.size w (w.alloc (.cells #[.slice none 0 0, .slice none 0 0] 26)) := (Below.refl _ w).alloc (Nat.le_refl _) _
  have hres := World.alloc_heap_new w (.cells #[.slice none 0 0, .slice none 0 0] 26)
  have hsz := Nat.le_of_eq (World.size_alloc w (.cells #[.slice none 0 0, .slice none 0 0] 26)).symm
  obtain ⟨W0, hW0⟩ : ∃ W0, w.alloc (.cells #[.slice none 0 0, .slice none 0 0] 26) = W0 := ⟨_, rfl⟩
  rw [hW0] at hB0 hres hsz
  have hC := clone_in g row.length c row W0 rfl (by omega) (map_get (fun i hi => (hB0.cell (p := ⟨g, i, none⟩) hg).trans (hc i hi)))
  clear hc
  refine (callsIn_wide (n := 9)).1 ?_
  refine callsIn_of_wp Try.func37 rfl trivial ?_ rfl
  simp only [Try.ntmps37, List.size_toArray, List.length_cons, List.length_nil, Nat.reduceAdd, Nat.reduceSub, Array.replicate_succ, Array.replicate_zero, List.push_toArray, List.append_toArray, List.nil_append, List.cons_append]
  gi_wp2_with (refine ⟨trivial, ?_⟩; gi_at_call 69; refine (callsIn_wide.2 hC).mono ?_; clear hC; go_loud (rintro e w2 ⟨r, rfl, hy, hB2⟩; obtain ⟨ay, cy, rfl⟩ := own_form hy))
  have hs2 := hB2.size
  have hB3 : Below w.heap.size w w2 := hB0.trans (hB2.mono hB0.size)
  have hx : OwnI w2 (w.heap.size + 1) w2.heap.size (.slice ay row.length cy) row.length (fun i => row.getD i 0) := by
    obtain ⟨gy, cy', e1, e2, e3⟩ := RowAt.of_owns hy (by omega)
    exact .inr ⟨gy, cy', e1, by omega, e3.lt, e3⟩
  have hD0 : Dof w w2.heap.size (.slice ay row.length cy) row (rows.take 0) (.slice none 0 0) (w2.alloc (.cells #[.slice ay row.length cy, .slice none 0 0] 26)) :=
    ⟨hB3.alloc hB3.size _, (Below.heap_alloc _ _ _ (by omega)).trans ((hB2.block _ (by omega)).trans hres), World.alloc_heap_new w2 _, by omega, hx.below ((Below.refl _ _).alloc (Nat.le_refl _) _), OwnRows.nil _ _⟩
  clear hy hB2 hB3 hB0 hres hsz hx hW0 hs2
  generalize w2.alloc (.cells #[.slice ay row.length cy, .slice none 0 0] 26) = W3 at *
  generalize w2.heap.size = b at *
  gi_loopw [18] (fun i wr => ∃ k : Nat, k ≤ 8 ∧ i = .int .i64 k ∧ ∃ pv, Dof w b (.slice ay row.length cy) row (rows.take k) pv wr) (fun i _ => 8 - (intOf i).toNat)
  case atStart => exact ⟨0, by omega, rfl, _, hD0⟩
  case round =>
    clear hD0
    obtain ⟨k, hk, rfl, pv, hDk⟩ := hrel
    by_cases hlt : k < 8
    · have hki : (k : Int) < (8 : Int) := by omega
      obtain ⟨uu, huc, huu⟩ := hrows k hlt
      have hrk := hr k hlt
      obtain ⟨gu, cu, rfl, hgu, hcu⟩ := huu.cells hrk.1
      have htake : rows.take (k + 1) = rows.take k ++ [rows.getD k []] := by
        rw [List.take_add_one, List.getElem?_eq_getElem (by omega), List.getD, List.getElem?_eq_getElem (by omega)]; rfl
      obtain ⟨R, hR⟩ : ∃ R, rows.getD k [] = R := ⟨_, rfl⟩
      rw [hR] at huc hcu hrk htake
      have huc2 := (hDk.below.cell (p := ⟨G, o + k, none⟩) hG).trans huc
      have hcl : ∀ V, Below wr.heap.size wr V → Calls Try.prog 69 #[.slice (some ⟨gu, 0, none⟩) R.length cu] V fun e w' => ∃ v, e = .returned v ∧ w'.ownsRow V.heap.size 3 1 v R.length (R.map (Value.int .i64)) ∧ Below V.heap.size V w' := fun V hV =>
        clone_in gu R.length cu R V rfl (by omega) (map_get (fun i hi => (hV.cell (p := ⟨gu, i, none⟩) (Nat.lt_of_lt_of_le hgu hDk.below.size)).trans ((hDk.below.cell (p := ⟨gu, i, none⟩) hgu).trans (hcu i hi))))
      have hwb := hDk.below.size
      have hblt := hDk.lt
      have hbs := (Array.getElem?_eq_some_iff.1 hDk.out).1
      have hDk' := hide hDk
      clear hDk huc huu hcu hR hrows hr
      gi_wp2
      refine wpIn_region_kinds 5 (by kernel_rfl) (by kernel_rfl) (by kernel_rfl) (by decide)
        (fun s => { tmps := #[.slice (some ⟨g, 0, none⟩) row.length c, .slice (some ⟨G, o, none⟩) 8 cp, undef, undef, .pointer (some ⟨w.heap.size, 0, none⟩), .pointer (some ⟨b, 0, none⟩), undef, .slice (some ⟨gu, 0, none⟩) R.length cu, .slice (some ⟨g, 0, none⟩) row.length c, .slice ay row.length cy, .agg #[.slice ay row.length cy, .slice none 0 0], .slice (some ⟨G, o, none⟩) 8 cp, .slice (some ⟨G, o, none⟩) 8 cp, .int .i64 8, .int .i64 0, .int .i64 0, .slice (some ⟨G, o, none⟩) 8 cp, .int .i64 8, .int .i64 k, .bool true, .pointer (some ⟨G, o + k, none⟩), .slice (some ⟨gu, 0, none⟩) R.length cu, s 0, s 1, s 2, s 3, s 4, u27, u28, u29, undef], defers := [] })
        [.val (.pointer (some ⟨b, 1, none⟩)), .val pv, .val (.slice (some ⟨gu, 0, none⟩) R.length cu), .own wr.heap.size R.length (R.map (Value.int .i64)), .oneOwn wr.heap.size R.length (R.map (Value.int .i64))]
        ⟨fun j => #[u22, u23, u24, u25, u26].getD j undef, rfl⟩ ?put ?step ?tail
      case put =>
        intro i o s v hi ho
        rcases (show i = 0 ∨ i = 1 ∨ i = 2 ∨ i = 3 ∨ i = 4 by omega) with rfl | rfl | rfl | rfl | rfl
        all_goals
          simp at ho
          subst ho
          simp [Act.put]
      case step =>
        rintro i o s V hi ho hV hd Q' hQ
        rcases (show i = 0 ∨ i = 1 ∨ i = 2 ∨ i = 3 ∨ i = 4 by omega) with rfl | rfl | rfl | rfl | rfl
        all_goals
          simp at ho
          subst ho
          simp [Act.put] at hQ
          have hQ' := hide hQ
          clear hQ
        case inl =>
          clear hd
          gi_wp2
          exact hQ'.out _ _ (Below.refl _ _) rfl
        case inr.inl =>
          have e1 : s 0 = .pointer (some ⟨b, 1, none⟩) := hd 0 (by kernel_rfl)
          have hcc : V.cell? ⟨b, 1, none⟩ = some pv := by unfold World.cell?; rw [(hDk'.out.more hV).out]; rfl
          clear hd
          gi_wp2
          exact hQ'.out _ _ (Below.refl _ _) rfl
        case inr.inr.inl =>
          clear hd
          gi_wp2
          exact hQ'.out _ _ (Below.refl _ _) rfl
        case inr.inr.inr.inl =>
          have e1 : s 2 = .slice (some ⟨gu, 0, none⟩) R.length cu := hd 2 (by kernel_rfl)
          have hcV := hcl V hV
          clear hd
          gi_wp2_with (refine ⟨trivial, ?_⟩; gi_at_call 69; refine (callsIn_wide.2 hcV).mono ?_; rintro e w' ⟨r, rfl, hown', hB'⟩)
          have hr := hQ'.out
          rw [e1] at hr
          exact hr _ _ hB' (own_from hown' hV.size)
        case inr.inr.inr.inr =>
          have e1 : V.ownsRow wr.heap.size 3 1 (s 3) R.length (R.map (Value.int .i64)) := hd 3 (by kernel_rfl)
          clear hd
          obtain ⟨ar, cr, er⟩ := own_form e1
          rw [er] at e1
          gi_wp2
          exact hQ'.out _ _ ((Below.refl _ V).alloc (Nat.le_refl _) _) ⟨V.heap.size, .slice ar R.length cr, rfl, by simp, (Boxed.new V 23 (.slice ar R.length cr)).cell, e1.alloc _⟩
      case tail =>
        rintro s V hV hd
        have e1 : s 1 = pv := hd 1 (by omega)
        obtain ⟨q, u0, e9, hq, hcq, hu0⟩ : ∃ q u, s 4 = .slice (some ⟨q, 0, none⟩) 1 1 ∧ q < V.heap.size ∧ V.cell? ⟨q, 0, none⟩ = some u ∧ V.ownsRow wr.heap.size 3 1 u R.length (R.map (Value.int .i64)) := hd 4 (by omega)
        clear hd
        obtain ⟨us, hul, huo, hur, hune⟩ := hDk'.out.past.open_ hV
        have hus : us.length ≤ 9 := by rw [hul, List.length_take]; omega
        have hVs := hV.size
        simp only [List.drop_succ_cons, List.drop_zero]
        refine append_slice_in rfl _ _ rfl (by obtain ⟨ar, cr, rfl⟩ := own_form hu0; rfl) b pv us.length us e1 huo q e9 hcq (by omega) (by omega) ?_
        intro v' w' how hgr
        obtain ⟨k2, hnew⟩ := hDk'.out.push hV hrk.1 hu0 us hul huo hur hune how hgr
        rw [← htake] at hnew
        obtain ⟨c0, c1, f0, f1⟩ := row_at k2
        obtain ⟨a', c', e'⟩ := hnew.past.form
        rw [List.length_take, Nat.min_eq_left (by omega)] at e'
        rw [e'] at hnew
        have hnew' := hide hnew
        subst e'
        clear hnew hgr how huo hur hune hDk' hu0 hcq k2
        gi_wp2
        go_roundw
        case rel => exact ⟨k + 1, by omega, by go_num, _, hnew'.out⟩
        case measure => simp [intOf]; omega
    · have hki : ¬ ((k : Nat) : Int) < (8 : Int) := by omega
      rw [List.take_of_length_le (by omega)] at hDk
      obtain ⟨a', c', e'⟩ := hDk.past.form
      rw [hN] at e'
      subst e'
      obtain ⟨c0, c1, f0, f1⟩ := row_at hDk.out
      obtain ⟨r0, r1, g0, g1⟩ := row_at hDk.res
      have hres := desk_set hDk.res (.slice ay row.length cy) (.slice a' 8 c')
      have hdone := hide hDk.done
      clear hDk hrows hr
      gi_wp2
      refine bodyPost_ret (results_desk rfl _ _ w.heap.size _ _ rfl hres) rfl ⟨_, rfl, hdone.out.1, hdone.out.2⟩
end Go.Proofs.Ytimnhedjapakhaa
/-
  The program's deskOf: a desk of one's own.
-/
namespace Go.Proofs.Ytimnhedjapakhaa
open Go.RowKit Go.Shelf
attribute [local go_sem] Oper.semAt_some

set_option maxRecDepth 100000 in
set_option maxHeartbeats 2000000 in
theorem deskOf_9 (w : World) (u : Value) (row : List Int) (rows : List (List Int)) (cp G o : Nat) (hN : rows.length = 8) (hG : G < w.heap.size) (hrows : ∀ k, k < 8 → ∃ u, w.cell? ⟨G, (o + 1) + k, none⟩ = some u ∧ Ints w u (rows.getD k [])) (hr : ∀ j, j < 8 → 1 ≤ (rows.getD j []).length ∧ (rows.getD j []).length ≤ 12) (hcp : 9 ≤ cp) (hu : Ints w u row) (h1 : 1 ≤ row.length) (h2 : row.length ≤ 12) :
    Calls Try.prog 37 #[u, .slice (some ⟨G, o, none⟩) 9 cp] w fun e w' => ∃ x, e = .returned x ∧ OwnDk w' w.heap.size x (row, rows) ∧ Below w.heap.size w w' := by
  obtain ⟨g, c, rfl, hg, hc⟩ := hu.cells h1

  have hB0 : Below w.heap.size w (w.alloc (.cells #[.slice none 0 0, .slice none 0 0] 26)) := (Below.refl _ w).alloc (Nat.le_refl _) _
  have hres := World.alloc_heap_new w (.cells #[.slice none 0 0, .slice none 0 0] 26)
  have hsz := Nat.le_of_eq (World.size_alloc w (.cells #[.slice none 0 0, .slice none 0 0] 26)).symm
  obtain ⟨W0, hW0⟩ : ∃ W0, w.alloc (.cells #[.slice none 0 0, .slice none 0 0] 26) = W0 := ⟨_, rfl⟩
  rw [hW0] at hB0 hres hsz
  have hC := clone_in g row.length c row W0 rfl (by omega) (map_get (fun i hi => (hB0.cell (p := ⟨g, i, none⟩) hg).trans (hc i hi)))
  clear hc
  refine (callsIn_wide (n := 9)).1 ?_
  refine callsIn_of_wp Try.func37 rfl trivial ?_ rfl
  simp only [Try.ntmps37, List.size_toArray, List.length_cons, List.length_nil, Nat.reduceAdd, Nat.reduceSub, Array.replicate_succ, Array.replicate_zero, List.push_toArray, List.append_toArray, List.nil_append, List.cons_append]
  gi_wp2_with (refine ⟨trivial, ?_⟩; gi_at_call 69; refine (callsIn_wide.2 hC).mono ?_; clear hC; go_loud (rintro e w2 ⟨r, rfl, hy, hB2⟩; obtain ⟨ay, cy, rfl⟩ := own_form hy))
  have hs2 := hB2.size
  have hB3 : Below w.heap.size w w2 := hB0.trans (hB2.mono hB0.size)
  have hx : OwnI w2 (w.heap.size + 1) w2.heap.size (.slice ay row.length cy) row.length (fun i => row.getD i 0) := by
    obtain ⟨gy, cy', e1, e2, e3⟩ := RowAt.of_owns hy (by omega)
    exact .inr ⟨gy, cy', e1, by omega, e3.lt, e3⟩
  have hD0 : Dof w w2.heap.size (.slice ay row.length cy) row (rows.take 0) (.slice none 0 0) (w2.alloc (.cells #[.slice ay row.length cy, .slice none 0 0] 26)) :=
    ⟨hB3.alloc hB3.size _, (Below.heap_alloc _ _ _ (by omega)).trans ((hB2.block _ (by omega)).trans hres), World.alloc_heap_new w2 _, by omega, hx.below ((Below.refl _ _).alloc (Nat.le_refl _) _), OwnRows.nil _ _⟩
  clear hy hB2 hB3 hB0 hres hsz hx hW0 hs2
  generalize w2.alloc (.cells #[.slice ay row.length cy, .slice none 0 0] 26) = W3 at *
  generalize w2.heap.size = b at *
  gi_loopw [18] (fun i wr => ∃ k : Nat, k ≤ 8 ∧ i = .int .i64 k ∧ ∃ pv, Dof w b (.slice ay row.length cy) row (rows.take k) pv wr) (fun i _ => 8 - (intOf i).toNat)
  case atStart => exact ⟨0, by omega, rfl, _, hD0⟩
  case round =>
    clear hD0
    obtain ⟨k, hk, rfl, pv, hDk⟩ := hrel
    by_cases hlt : k < 8
    · have hki : (k : Int) < (8 : Int) := by omega
      obtain ⟨uu, huc, huu⟩ := hrows k hlt
      have hrk := hr k hlt
      obtain ⟨gu, cu, rfl, hgu, hcu⟩ := huu.cells hrk.1
      have htake : rows.take (k + 1) = rows.take k ++ [rows.getD k []] := by
        rw [List.take_add_one, List.getElem?_eq_getElem (by omega), List.getD, List.getElem?_eq_getElem (by omega)]; rfl
      obtain ⟨R, hR⟩ : ∃ R, rows.getD k [] = R := ⟨_, rfl⟩
      rw [hR] at huc hcu hrk htake
      have huc2 := (hDk.below.cell (p := ⟨G, (o + 1) + k, none⟩) hG).trans huc
      have hcl : ∀ V, Below wr.heap.size wr V → Calls Try.prog 69 #[.slice (some ⟨gu, 0, none⟩) R.length cu] V fun e w' => ∃ v, e = .returned v ∧ w'.ownsRow V.heap.size 3 1 v R.length (R.map (Value.int .i64)) ∧ Below V.heap.size V w' := fun V hV =>
        clone_in gu R.length cu R V rfl (by omega) (map_get (fun i hi => (hV.cell (p := ⟨gu, i, none⟩) (Nat.lt_of_lt_of_le hgu hDk.below.size)).trans ((hDk.below.cell (p := ⟨gu, i, none⟩) hgu).trans (hcu i hi))))
      have hwb := hDk.below.size
      have hblt := hDk.lt
      have hbs := (Array.getElem?_eq_some_iff.1 hDk.out).1
      have hDk' := hide hDk
      clear hDk huc huu hcu hR hrows hr
      gi_wp2
      refine wpIn_region_kinds 5 (by kernel_rfl) (by kernel_rfl) (by kernel_rfl) (by decide)
        (fun s => { tmps := #[.slice (some ⟨g, 0, none⟩) row.length c, .slice (some ⟨G, o, none⟩) 9 cp, undef, undef, .pointer (some ⟨w.heap.size, 0, none⟩), .pointer (some ⟨b, 0, none⟩), undef, .slice (some ⟨gu, 0, none⟩) R.length cu, .slice (some ⟨g, 0, none⟩) row.length c, .slice ay row.length cy, .agg #[.slice ay row.length cy, .slice none 0 0], .slice (some ⟨G, o, none⟩) 9 cp, .slice (some ⟨G, o, none⟩) 9 cp, .int .i64 9, .int .i64 1, .int .i64 1, .slice (some ⟨G, o + 1, none⟩) 8 (cp - 1), .int .i64 8, .int .i64 k, .bool true, .pointer (some ⟨G, (o + 1) + k, none⟩), .slice (some ⟨gu, 0, none⟩) R.length cu, s 0, s 1, s 2, s 3, s 4, u27, u28, u29, undef], defers := [] })
        [.val (.pointer (some ⟨b, 1, none⟩)), .val pv, .val (.slice (some ⟨gu, 0, none⟩) R.length cu), .own wr.heap.size R.length (R.map (Value.int .i64)), .oneOwn wr.heap.size R.length (R.map (Value.int .i64))]
        ⟨fun j => #[u22, u23, u24, u25, u26].getD j undef, rfl⟩ ?put ?step ?tail
      case put =>
        intro i o s v hi ho
        rcases (show i = 0 ∨ i = 1 ∨ i = 2 ∨ i = 3 ∨ i = 4 by omega) with rfl | rfl | rfl | rfl | rfl
        all_goals
          simp at ho
          subst ho
          simp [Act.put]
      case step =>
        rintro i o s V hi ho hV hd Q' hQ
        rcases (show i = 0 ∨ i = 1 ∨ i = 2 ∨ i = 3 ∨ i = 4 by omega) with rfl | rfl | rfl | rfl | rfl
        all_goals
          simp at ho
          subst ho
          simp [Act.put] at hQ
          have hQ' := hide hQ
          clear hQ
        case inl =>
          clear hd
          gi_wp2
          exact hQ'.out _ _ (Below.refl _ _) rfl
        case inr.inl =>
          have e1 : s 0 = .pointer (some ⟨b, 1, none⟩) := hd 0 (by kernel_rfl)
          have hcc : V.cell? ⟨b, 1, none⟩ = some pv := by unfold World.cell?; rw [(hDk'.out.more hV).out]; rfl
          clear hd
          gi_wp2
          exact hQ'.out _ _ (Below.refl _ _) rfl
        case inr.inr.inl =>
          clear hd
          gi_wp2
          exact hQ'.out _ _ (Below.refl _ _) rfl
        case inr.inr.inr.inl =>
          have e1 : s 2 = .slice (some ⟨gu, 0, none⟩) R.length cu := hd 2 (by kernel_rfl)
          have hcV := hcl V hV
          clear hd
          gi_wp2_with (refine ⟨trivial, ?_⟩; gi_at_call 69; refine (callsIn_wide.2 hcV).mono ?_; rintro e w' ⟨r, rfl, hown', hB'⟩)
          have hr := hQ'.out
          rw [e1] at hr
          exact hr _ _ hB' (own_from hown' hV.size)
        case inr.inr.inr.inr =>
          have e1 : V.ownsRow wr.heap.size 3 1 (s 3) R.length (R.map (Value.int .i64)) := hd 3 (by kernel_rfl)
          clear hd
          obtain ⟨ar, cr, er⟩ := own_form e1
          rw [er] at e1
          gi_wp2
          exact hQ'.out _ _ ((Below.refl _ V).alloc (Nat.le_refl _) _) ⟨V.heap.size, .slice ar R.length cr, rfl, by simp, (Boxed.new V 23 (.slice ar R.length cr)).cell, e1.alloc _⟩
      case tail =>
        rintro s V hV hd
        have e1 : s 1 = pv := hd 1 (by omega)
        obtain ⟨q, u0, e9, hq, hcq, hu0⟩ : ∃ q u, s 4 = .slice (some ⟨q, 0, none⟩) 1 1 ∧ q < V.heap.size ∧ V.cell? ⟨q, 0, none⟩ = some u ∧ V.ownsRow wr.heap.size 3 1 u R.length (R.map (Value.int .i64)) := hd 4 (by omega)
        clear hd
        obtain ⟨us, hul, huo, hur, hune⟩ := hDk'.out.past.open_ hV
        have hus : us.length ≤ 9 := by rw [hul, List.length_take]; omega
        have hVs := hV.size
        simp only [List.drop_succ_cons, List.drop_zero]
        refine append_slice_in rfl _ _ rfl (by obtain ⟨ar, cr, rfl⟩ := own_form hu0; rfl) b pv us.length us e1 huo q e9 hcq (by omega) (by omega) ?_
        intro v' w' how hgr
        obtain ⟨k2, hnew⟩ := hDk'.out.push hV hrk.1 hu0 us hul huo hur hune how hgr
        rw [← htake] at hnew
        obtain ⟨c0, c1, f0, f1⟩ := row_at k2
        obtain ⟨a', c', e'⟩ := hnew.past.form
        rw [List.length_take, Nat.min_eq_left (by omega)] at e'
        rw [e'] at hnew
        have hnew' := hide hnew
        subst e'
        clear hnew hgr how huo hur hune hDk' hu0 hcq k2
        gi_wp2
        go_roundw
        case rel => exact ⟨k + 1, by omega, by go_num, _, hnew'.out⟩
        case measure => simp [intOf]; omega
    · have hki : ¬ ((k : Nat) : Int) < (8 : Int) := by omega
      rw [List.take_of_length_le (by omega)] at hDk
      obtain ⟨a', c', e'⟩ := hDk.past.form
      rw [hN] at e'
      subst e'
      obtain ⟨c0, c1, f0, f1⟩ := row_at hDk.out
      obtain ⟨r0, r1, g0, g1⟩ := row_at hDk.res
      have hres := desk_set hDk.res (.slice ay row.length cy) (.slice a' 8 c')
      have hdone := hide hDk.done
      clear hDk hrows hr
      gi_wp2
      refine bodyPost_ret (results_desk rfl _ _ w.heap.size _ _ rfl hres) rfl ⟨_, rfl, hdone.out.1, hdone.out.2⟩
end Go.Proofs.Ytimnhedjapakhaa
/-
  The program's deskOf at any rows of before; slices.Concat of rows.
-/
namespace Go.Proofs.Ytimnhedjapakhaa
open Go.RowKit Go.Shelf

/-- The rows of before that are kept: the last eight. -/
def lastR (past : List (List Int)) : List (List Int) := past.drop (past.length - 8)
theorem pastV_last {past : List (List Int)} (h : past.length ≤ 8) (row : List Int) : lastR (past ++ [row]) = pastV past row := by
  unfold lastR pastV
  split
  · rename_i h8
    rw [show (past ++ [row]).length - 8 = 0 by simp; omega, List.drop_zero]
  · rw [show (past ++ [row]).length - 8 = 1 by simp; omega, List.drop_one]
theorem lastR_le {past : List (List Int)} (h : past.length ≤ 8) : lastR past = past := by
  unfold lastR
  rw [show past.length - 8 = 0 by omega, List.drop_zero]

theorem deskOf_in (u p : Value) (row : List Int) (past : List (List Int)) (w : World) (hu : Ints w u row) (h1 : 1 ≤ row.length) (h2 : row.length ≤ 12) (hp : PastI w p past) (hl : past.length ≤ 8) (hr : ∀ j, j < past.length → 1 ≤ (past.getD j []).length ∧ (past.getD j []).length ≤ 12) :
    Calls Try.prog 37 #[u, p] w fun e w' => ∃ x, e = .returned x ∧ OwnDk w' w.heap.size x (row, past) ∧ Below w.heap.size w w' := by
  obtain ⟨a, c, rfl, hrows⟩ := hp
  by_cases h8 : past.length = 8
  · obtain ⟨G, o, rfl, hG, hc⟩ := hrows (by omega)
    rw [h8] at hc hr ⊢
    exact deskOf_8 w u row past c G o h8 hG hc hr hu h1 h2
  · by_cases h0 : 0 < past.length
    · obtain ⟨G, o, rfl, hG, hc⟩ := hrows h0
      exact deskOf_lt w u row past _ c past.length G o (fun _ => rfl) rfl (by omega) (fun _ => hG) hc hr hu h1 h2
    · exact deskOf_lt w u row past a c past.length 0 0 (fun h => absurd h h0) rfl (by omega) (fun h => absurd h h0) (fun k hk => absurd hk (by omega)) hr hu h1 h2
theorem deskOf_full (u : Value) (row : List Int) (past : List (List Int)) (G o cp : Nat) (w : World) (hu : Ints w u row) (h1 : 1 ≤ row.length) (h2 : row.length ≤ 12) (hl : past.length = 9) (hcp : 9 ≤ cp) (hG : G < w.heap.size) (hc : ∀ k, k < 9 → ∃ u, w.cell? ⟨G, o + k, none⟩ = some u ∧ Ints w u (past.getD k []))
    (hr : ∀ j, j < past.length → 1 ≤ (past.getD j []).length ∧ (past.getD j []).length ≤ 12) :
    Calls Try.prog 37 #[u, .slice (some ⟨G, o, none⟩) 9 cp] w fun e w' => ∃ x, e = .returned x ∧ OwnDk w' w.heap.size x (row, past.tail) ∧ Below w.heap.size w w' := by
  have ht : ∀ k, past.tail.getD k [] = past.getD (k + 1) [] := fun k => by
    rw [List.getD, List.getD, List.getElem?_tail]
  exact deskOf_9 w u row past.tail cp G o (by simp [hl]) hG (fun k hk => by
    obtain ⟨v, e1, e2⟩ := hc (k + 1) (by omega)
    rw [ht k, show o + 1 + k = o + (k + 1) by omega]
    exact ⟨v, e1, e2⟩) (fun j hj => by rw [ht j]; exact hr (j + 1) (by omega)) hcp hu h1 h2

set_option maxRecDepth 100000 in
set_option maxHeartbeats 2000000 in
/-- slices.Grow of no rows. -/
theorem grow_nil (n : Nat) (h1 : 1 ≤ n) (hn : n ≤ 9) (w : World) : Calls Try.prog 76 #[.slice none 0 0, .int .i64 n] w fun e w' =>
    ∃ v, e = .returned v ∧ w'.ownsRow w.heap.size 23 1 v 0 [] ∧ v.ownBlock ≠ none ∧ Below w.heap.size w w' := by
  obtain ⟨i0, hi, hz0, hz1, hz2⟩ := info_rows Try.infoRow
  have hold : (Builtin.firstCells i0.size 0 (.slice none 0 0)).run Try.prog w.drew = .ok (([] : List Value).toArray) w.drew := run_firstCells_none w.drew i0.size 0 0 0
  have hrz : ∀ ty, (Builtin.append_ #[24, 3] ty #[.slice none 0 0, .int .i64 n]).run Try.prog w =
      .ok (.slice (some ⟨w.heap.size, 0, none⟩) n (grownCap w n 0 23)) (w.drew.alloc (.cells (([] : List Value).toArray ++ Builtin.zeroCells (Value.slice none 0 0).cells n ++ Builtin.zeroCells (Value.slice none 0 0).cells (grownCap w n 0 23 - n)) 23)) := fun ty => by
    have h := Lib.run_append_grow_zeros (P := Try.prog) w 24 3 ty 23 i0 (.slice none 0 0) .i64 .i64 Try.underlying24 Try.underlying3 hi hz0 none 0 0 [] hold n (by omega) (by omega) (by omega) (by omega) (by rw [hz2]; omega) (by rw [Nat.zero_add]; exact growslice_fits (by omega) (by rw [hz2]; omega))
    rw [Nat.zero_add] at h
    exact h
  have hge := grownCap_ge w n 0 23
  have hcm := grownCap_le_maxLen w n 0 23 (by unfold maxLen; omega)
  have hown : (w.drew.alloc (.cells (([] : List Value).toArray ++ Builtin.zeroCells (Value.slice none 0 0).cells n ++ Builtin.zeroCells (Value.slice none 0 0).cells (grownCap w n 0 23 - n)) 23)).ownsRow w.heap.size 23 1
      (.slice (some ⟨w.heap.size, 0, none⟩) 0 (grownCap w n 0 23)) 0 [] := by
    refine ⟨rfl, .inr ⟨w.heap.size, _, _, rfl, Nat.le_refl _, World.alloc_heap_new w.drew _, by omega, hcm, ?_, by simp⟩⟩
    simp only [Array.size_append, List.size_toArray, size_zeroCells, List.length_nil, Value.cells]
    simp
    omega
  have hB : Below w.heap.size w (w.drew.alloc (.cells (([] : List Value).toArray ++ Builtin.zeroCells (Value.slice none 0 0).cells n ++ Builtin.zeroCells (Value.slice none 0 0).cells (grownCap w n 0 23 - n)) 23)) :=
    (Below.refl w.heap.size w).drew.alloc (Nat.le_refl _) _
  generalize grownCap w n 0 23 = C at *
  generalize w.drew.alloc _ = W1 at *
  have hn1 : (n : Int) > 0 := by omega
  unfold maxLen at hcm
  go_enter Try.func76, Try.ntmps76
  go_wp2_with (at_builtin; refine Lib.wpList_append_run _ rfl _ _ _ _ rfl _ _ rfl rfl _ _ (hrz _) ?_)
  all_goals
    go_ret
    exact ⟨_, rfl, hown, by simp [Value.ownBlock], hB⟩
end Go.Proofs.Ytimnhedjapakhaa
/-
  slices.Concat of rows and one row.
-/
namespace Go.Proofs.Ytimnhedjapakhaa
open Go.RowKit Go.Shelf

/-- 'append(s, r...)' of rows, of however many, to rows of one's own that have a block. -/
theorem append_rows {ops : Array Oper} {rest : List Oper} {o : Oper} {a : Act} {Q : Exit → Act → World → Prop} {w : World} (hgd : o.guard = none) (s x : Operand)
    (ho : o.op = .call { callee := .builtin .append, args := #[s, x], argTypes := #[24, 24] })
    (base : Nat) (v : Value) (n : Nat) (xs : List Value) (hs : a.eval s = v) (hown : w.ownsRow base 23 1 v n xs) (hnn : v.ownBlock ≠ none) (ad : Option Addr) (m c : Nat) (us : List Value) (hx : a.eval x = .slice ad m c) (hl : us.length = m)
    (hc : 0 < m → ∃ G o, ad = some ⟨G, o, none⟩ ∧ ∀ j, j < m → w.cell? ⟨G, o + j, none⟩ = some (us.getD j undef)) (h1 : ∀ u ∈ us, u.oneCell' = true) (hn : n + m ≤ 1000) (hbase : base ≤ w.heap.size)
    (h : ∀ v' w', w'.ownsRow base 23 1 v' (n + m) (xs ++ us) → v'.ownBlock ≠ none → w.grownBy w' v.ownBlock → wpList Try.prog ops Q rest (a.put o.dst v') w') :
    wpList Try.prog ops Q (o :: rest) a w := by
  obtain ⟨i0, hi, hz0, hz1, hz2⟩ := info_rows Try.infoRow
  by_cases h0 : 0 < m
  · obtain ⟨G, off, rfl, hcell⟩ := hc h0
    refine wpList_append_own _ hgd s x 24 ho base 23 i0 (.slice none 0 0) 1 24 Try.underlying24 hi hz0 hz1 hz2 rfl (by decide) v n xs hs hown ⟨G, off, none⟩ m c us hx (by omega) ?_ h1 ?_ ?_ hbase ?_
    · intro j u hj
      have hjl := (List.getElem?_eq_some_iff.1 hj).1
      have hadd : (⟨G, off, none⟩ : Addr).add j = ⟨G, off + j, none⟩ := by unfold Addr.add; split <;> simp_all
      rw [hadd, hcell j (by omega), List.getD, hj]; rfl
    · unfold maxLen; omega
    · omega
    · intro v' w' h2 h3 _
      refine h v' w' h2 ?_ h3
      obtain ⟨b, e, _⟩ := own_pos h2 (by omega)
      rw [e]; exact fun e => by cases e
  · obtain rfl : m = 0 := by omega
    obtain rfl : us = [] := List.length_eq_zero_iff.1 hl
    rcases hown.2 with ⟨rfl, _⟩ | ⟨B, cap, cur, rfl, hB, hg, hc1, hc2, hc3, hc4⟩
    · exact absurd rfl hnn
    · have hfc : (Builtin.firstCells i0.size 0 (.slice ad 0 c)).run Try.prog w = .ok (([] : List Value).toArray) w := by
        cases ad with
        | none => exact run_firstCells_none w i0.size 0 0 c
        | some q => exact run_firstCells_some w i0.size 0 q 0 c [] (by simp) (fun j v hj => by simp at hj)
      have hrun : (Builtin.append_ #[24, 24] o.type #[.slice (some ⟨B, 0, none⟩) n cap, .slice ad 0 c]).run Try.prog w = .ok (.slice (some ⟨B, 0, none⟩) n cap) w := by
        have hst := run_storeCells_cells (P := Try.prog) B (0 + n * i0.size) [] 0 w (fun j hj => absurd hj (Nat.not_lt_zero j)) (fun j hj => absurd hj (Nat.not_lt_zero j)) (by simp)
        simp only [Nat.add_zero] at hst
        simp [Builtin.append_, run_underlying Try.underlying24, sizeOf, typeInfo, hi, Builtin.lenOf, hc1, hfc, Addr.add_lit]
        simp at hst
        rw [hst]; rfl
      refine Lib.wpList_append_run _ hgd s x 24 24 ho _ _ hs hx _ _ hrun ?_
      refine h _ _ ?_ hnn ⟨rfl, rfl, rfl, Nat.le_refl _, fun _ _ _ => rfl⟩
      simpa using hown
/-- The values of rows that lie. -/
theorem rows_values {W : World} {a : Option Addr} {n c : Nat} {rows : List (List Int)} (h : PastI W (.slice a n c) rows) : n = rows.length ∧ ∃ us : List Value, us.length = rows.length ∧ (0 < rows.length → ∃ G o, a = some ⟨G, o, none⟩ ∧ G < W.heap.size ∧ ∀ j, j < rows.length → W.cell? ⟨G, o + j, none⟩ = some (us.getD j undef)) ∧ ∀ j, j < rows.length → Ints W (us.getD j undef) (rows.getD j []) := by
  obtain ⟨a', c', e, h⟩ := h
  cases e
  refine ⟨rfl, ?_⟩
  by_cases h0 : 0 < rows.length
  · obtain ⟨G, o, rfl, hG, hr⟩ := h h0
    refine ⟨(List.range rows.length).map fun j => (W.cell? ⟨G, o + j, none⟩).getD undef, by simp, fun _ => ⟨G, o, rfl, hG, fun j hj => ?_⟩, fun j hj => ?_⟩
    · obtain ⟨u, h1, _⟩ := hr j hj
      rw [List.getD, List.getElem?_map, List.getElem?_range hj, Option.map_some, Option.getD_some, h1]; rfl
    · obtain ⟨u, h1, h2⟩ := hr j hj
      rw [List.getD, List.getElem?_map, List.getElem?_range hj]
      show Ints W ((W.cell? ⟨G, o + j, none⟩).getD undef) _
      rw [h1]; exact h2
  · have e : rows = [] := List.length_eq_zero_iff.1 (by omega)
    subst e
    exact ⟨[], rfl, fun h => absurd h h0, fun j hj => absurd hj (Nat.not_lt_zero j)⟩

set_option maxRecDepth 100000 in
set_option maxHeartbeats 2000000 in
theorem concat_in (q : Nat) (a : Option Addr) (n c q2 : Nat) (vr : Value) (rows : List (List Int)) (row : List Int) (w : World) (hq0 : w.cell? ⟨q, 0, none⟩ = some (.slice a n c)) (hq1 : w.cell? ⟨q, 1, none⟩ = some (.slice (some ⟨q2, 0, none⟩) 1 1)) (hq2 : w.cell? ⟨q2, 0, none⟩ = some vr)
    (hr : Ints w vr row) (hp : PastI w (.slice a n c) rows) (hn : rows.length ≤ 8) : Calls Try.prog 40 #[.slice (some ⟨q, 0, none⟩) 2 2] w fun e w' =>
    ∃ G cp, e = .returned (.slice (some ⟨G, 0, none⟩) (rows.length + 1) cp) ∧ rows.length + 1 ≤ cp ∧ w.heap.size ≤ G ∧ G < w'.heap.size ∧ (∀ k, k < rows.length + 1 → ∃ u, w'.cell? ⟨G, 0 + k, none⟩ = some u ∧ Ints w' u ((rows ++ [row]).getD k [])) ∧ Below w.heap.size w w' := by
  obtain ⟨rfl, us, hul, huc, hui⟩ := rows_values hp
  have hq0l := World.block_lt_of_cell? w _ hq0
  have hq2l := World.block_lt_of_cell? w _ hq2
  have hlt : ∀ j, j < rows.length → (us.getD j undef).oneCell' = true := fun j hj => by obtain ⟨x, y, e⟩ := (hui j hj).shape; rw [e]; rfl
  have hvr : vr.oneCell' = true := by obtain ⟨x, y, e⟩ := hr.shape; rw [e]; rfl
  have hGr := grow_nil (rows.length + 1) (by omega) (by omega) w
  obtain ⟨n, hne⟩ : ∃ n, rows.length = n := ⟨_, rfl⟩
  rw [hne] at hul huc hui hlt hGr hn hq0 hp ⊢
  have h1 : ∀ u ∈ us, u.oneCell' = true := fun u hu => by
    obtain ⟨j, hj, rfl⟩ := List.getElem_of_mem hu
    have := hlt j (by omega)
    rwa [List.getD, List.getElem?_eq_getElem hj] at this
  have hwr : ((n + 1 : Nat) : Int) = (n : Int) + 1 := by omega
  rw [hwr] at hGr
  have hfin : ∀ (v' : Value) (w' : World), w'.ownsRow w.heap.size 23 1 v' (n + 1) (us ++ [vr]) → Below w.heap.size w w' → ∃ G cp, v' = .slice (some ⟨G, 0, none⟩) (n + 1) cp ∧ n + 1 ≤ cp ∧ w.heap.size ≤ G ∧ G < w'.heap.size ∧ (∀ k, k < n + 1 → ∃ u, w'.cell? ⟨G, 0 + k, none⟩ = some u ∧ Ints w' u ((rows ++ [row]).getD k [])) := fun v' w' ho hB => by
    rcases ho.2 with ⟨_, h0⟩ | ⟨G, cp, cur, rfl, hb, hg, hc1, _⟩
    · omega
    · refine ⟨G, cp, rfl, hc1, hb, (Array.getElem?_eq_some_iff.1 hg).1, fun k hk => ?_⟩
      have h2 := ho.cellAt k (by omega)
      rw [Nat.zero_add]
      by_cases e : k < n
      · rw [List.getElem?_append_left (by omega)] at h2
        refine ⟨us.getD k undef, ?_, ?_⟩
        · rw [List.getD, List.getElem?_eq_getElem (by omega)]
          rw [List.getElem?_eq_getElem (by omega)] at h2
          exact h2
        · rw [List.getD, List.getD, List.getElem?_append_left (by omega)]
          exact (hui k e).below hB
      · have : k = n := by omega
        subst this
        rw [← hul, List.getElem?_append_right (Nat.le_refl _), Nat.sub_self] at h2
        rw [← hul]
        refine ⟨vr, h2, ?_⟩
        rw [List.getD, hul, ← hne, List.getElem?_append_right (Nat.le_refl _), Nat.sub_self]
        exact hr.below hB
  have hfin' := hide hfin
  have hn0 : ¬ ((n : Int) < 0) := by omega
  have hn1 : ¬ ((n : Int) + 1 < 0) := by omega
  clear hfin hui hp hr hlt hne
  go_enter Try.func40, Try.ntmps40
  go_wp2
  refine wp_loop_rounds 3 ?_
  rw [rounds_succ]
  go_wp2
  rw [rounds_succ]
  go_wp2
  rw [rounds_succ]
  go_wp2_with (go_at_call 76; go_loud (refine hGr.mono ?_); clear hGr; rintro e w2 ⟨v, rfl, hv, hvn, hB2⟩)
  have hB2s := hB2.size
  have c0 := (hB2.cell (p := ⟨q, 0, none⟩) hq0l).trans hq0
  have hcW : 0 < n → ∃ G o, a = some ⟨G, o, none⟩ ∧ ∀ j, j < n → w2.cell? ⟨G, o + j, none⟩ = some (us.getD j undef) := fun h => by
    obtain ⟨G, o, e, hG, hc⟩ := huc h
    exact ⟨G, o, e, fun j hj => (hB2.cell (p := ⟨G, o + j, none⟩) hG).trans (hc j hj)⟩
  clear huc hq0
  refine wp_loop_rounds 3 ?_
  rw [rounds_succ]
  go_wp2_with (at_builtin; go_loud (refine append_rows rfl _ _ rfl w.heap.size _ 0 [] rfl hv hvn a n c us rfl hul hcW h1 (by omega) hB2s ?_); intro v3 w3 hv3 hv3n hg3)
  rw [Nat.zero_add, List.nil_append] at hv3
  have hB3 : Below w.heap.size w w3 := hB2.grown hg3 hB2s (fun k e => (hv.lt k e).1)
  have hB3s := hB3.size
  have c1 := (hB3.cell (p := ⟨q, 1, none⟩) hq0l).trans hq1
  have c2 := (hB3.cell (p := ⟨q2, 0, none⟩) hq2l).trans hq2
  have c3 : 0 < 1 → ∃ G o, (some ⟨q2, 0, none⟩ : Option Addr) = some ⟨G, o, none⟩ ∧ ∀ j, j < 1 → w3.cell? ⟨G, o + j, none⟩ = some (([vr] : List Value).getD j undef) := fun _ => ⟨q2, 0, rfl, fun j hj => by
    obtain rfl : j = 0 := by omega
    exact c2⟩
  have h1' : ∀ u ∈ ([vr] : List Value), u.oneCell' = true := fun u hu => by simp at hu; subst hu; exact hvr
  clear hcW h1 c0 hq1 hq2 hg3 hB2 hv hvn
  rw [rounds_succ]
  go_wp2_with (at_builtin; go_loud (refine append_rows rfl _ _ rfl w.heap.size _ n us rfl hv3 hv3n (some ⟨q2, 0, none⟩) 1 1 [vr] rfl rfl c3 h1' (by omega) hB3s ?_); intro v4 w4 hv4 hv4n hg4)
  have hB4 : Below w.heap.size w w4 := hB3.grown hg4 hB3s (fun k e => (hv3.lt k e).1)
  obtain ⟨G, cp, rfl, h5, h6, h7, h8⟩ := hfin'.out v4 w4 hv4 hB4
  clear hfin' hv4 hg4 c3 h1' hv3
  rw [rounds_succ]
  go_wp2
  go_ret
  exact ⟨G, cp, rfl, h5, h6, h7, h8, hB4⟩
end Go.Proofs.Ytimnhedjapakhaa
