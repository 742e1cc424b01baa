/-
  The program's rowAfter: what a deed makes of a row.
-/
import Derived.Test.YtimnhedjapakhaaSpec12k
import Derived.Test.YtimnhedjapakhaaSideZ
namespace Go.Proofs.Ytimnhedjapakhaa
open Go.RowKit Go.Shelf
attribute [local go_sem] Oper.semAt_some

def mostN (k : Int) : Int := if k = 0 then 99 else if k = 1 then 9 else 0
theorem most_in (k : Int) (w : World) : Calls Try.prog 70 #[.int .i64 k] w fun e w' => e = .returned (.int .i64 (mostN k)) ∧ w = w' := by
  by_cases h0 : k = 0
  · subst h0
    go_enter Try.func70, Try.ntmps70
    go_wp2
    go_ret
    exact ⟨rfl, rfl⟩
  by_cases h1 : k = 1
  · subst h1
    go_enter Try.func70, Try.ntmps70
    go_wp2
    go_ret
    exact ⟨rfl, rfl⟩
  · have hm : mostN k = 0 := by unfold mostN; rw [if_neg h0, if_neg h1]
    rw [hm]
    have b0 : (k == 0) = false := by rw [beq_eq_false_iff_ne]; exact h0
    have b1 : (k == 1) = false := by rw [beq_eq_false_iff_ne]; exact h1
    clear h0 h1 hm
    go_enter Try.func70, Try.ntmps70
    go_wp2
    go_ret
    exact ⟨rfl, rfl⟩

theorem map_get {W : World} {g : Nat} {xs : List Int} (h : ∀ i, i < xs.length → W.cell? ⟨g, i, none⟩ = some (.int .i64 (xs.getD i 0))) : ∀ k u, (xs.map (Value.int .i64))[k]? = some u → W.cell? ⟨g, k, none⟩ = some u := fun k u hu => by
  rw [List.getElem?_map] at hu
  obtain ⟨z, hz, rfl⟩ := Option.map_eq_some_iff.1 hu
  have hk := (List.getElem?_eq_some_iff.1 hz).1
  rw [h k hk, List.getD, hz]; rfl
theorem one_cell {W : World} {q : Nat} {n : Int} (h : W.cell? ⟨q, 0, none⟩ = some (.int .i64 n)) : ∀ i, i < 1 → W.cell? ⟨q, i, none⟩ = some (.int .i64 (([n] : List Int).getD i 0)) := fun i hi => by
  obtain rfl : i = 0 := by omega
  exact h
theorem flipped_no (u : Value) (row : List Int) (n : Int) (w : World) (hu : Ints w u row) (hl : row.length ≤ 1000) (h : n < 0 ∨ (row.length : Int) - 1 < n) : Calls Try.prog 71 #[u, .int .i64 n] w fun e w' => e = .returned (.slice none 0 0) ∧ w = w' := by
  obtain ⟨a, c, rfl⟩ := hu.shape
  clear hu
  go_enter Try.func71, Try.ntmps71
  go_wp2_with (go_at_call 66; refine (within_f _ _ _ (by assumption)).mono ?_; rintro e w' ⟨rfl, rfl⟩)
  go_ret
  exact ⟨rfl, rfl⟩
set_option maxHeartbeats 1000000 in
theorem flipped_in (u : Value) (row : List Int) (m : Nat) (w : World) (hu : Ints w u row) (hs : sideB row = true) (hm : m < row.length) : Calls Try.prog 71 #[u, .int .i64 m] w fun e w' => ∃ r, e = .returned r ∧ Ints w' r (flipV row m) ∧ Below w.heap.size w w' := by
  have hl := sideB_len hs
  obtain ⟨g, c, rfl, hg, hc⟩ := hu.cells hl.1
  have hC := clone_in g row.length c row w rfl (by omega) (map_get hc)
  have hz := sideB_at hs hm
  have hfi := fun (W : World) (gb cb : Nat) (h : RowAt W gb row.length (fun i => if i = m then 1 - row.getD m 0 else row.getD i 0)) => (by
    have := flip_ints (cb := cb) h
    rwa [Int.toNat_natCast] at this : Ints W.drew (.slice (some ⟨gb, 0, none⟩) row.length cb) (flipV row m))
  have hfi' := hide hfi
  clear hc hu hg hs hfi
  have hm1 : (m : Int) ≤ (row.length : Int) - 1 := by omega
  have hl0 : 0 < row.length := hl.1
  obtain ⟨z, hzz⟩ : ∃ z, row.getD m 0 = z := ⟨_, rfl⟩
  rw [hzz] at hz
  have hz0 := hz.1
  have hz1 := hz.2
  have hzz' := hide hzz
  clear hz hzz
  go_enter Try.func71, Try.ntmps71
  go_wp2_with (first
    | (go_at_call 66; refine (within_t _ _ _ (by omega) (by assumption)).mono ?_; rintro e w' ⟨rfl, rfl⟩)
    | (go_at_call 69; refine hC.mono ?_; clear hC; go_loud (rintro e w2 ⟨r, rfl, hy, hB2⟩; obtain ⟨gb, cb, rfl, hgb, hra⟩ := RowAt.of_owns hy hl0; have hcz := hra.cell hm; rw [hzz'.out] at hcz; have hfz := hra.frozen m)))
  go_ret
  refine ⟨_, rfl, ?_, hB2.setCell (p := ⟨gb, m, none⟩) hgb _⟩
  have hset := hra.set (p := m) (1 - z)
  rw [← hzz'.out] at hset ⊢
  exact (hfi'.out _ gb cb hset)

set_option maxHeartbeats 1000000 in
/-- A row with a cell put behind it, or none if that is no side. -/
theorem longer_in (u : Value) (row : List Int) (n : Int) (w : World) (hu : Ints w u row) (hs : sideB row = true) : Calls Try.prog 72 #[u, .int .i64 n] w fun e w' => ∃ r, e = .returned r ∧ Ints w' r (if sideB (row ++ [n]) = true then row ++ [n] else []) ∧ Below w.heap.size w w' := by
  have hl := sideB_len hs
  obtain ⟨g, c, rfl, hg, hc⟩ := hu.cells hl.1
  have hC := clone_in g row.length c row w rfl (by omega) (map_get hc)
  clear hc hu hg hs
  go_enter Try.func72, Try.ntmps72
  go_wp2_with (first
    | (go_at_call 69; refine hC.mono ?_; clear hC; go_loud (rintro e w2 ⟨r, rfl, hy, hB2⟩; obtain ⟨ay, cy, rfl⟩ := own_form hy; have hy2 := hy.alloc (.cells #[.int .i64 n] 3); have hq := (Boxed.new w2 3 (.int .i64 n)).cell; have hB3 := hB2.alloc hB2.size (.cells #[.int .i64 n] 3)))
    | (at_builtin; go_loud (refine append_row rfl _ _ rfl w.heap.size _ row.length _ rfl hy2 w2.heap.size 1 1 [n] rfl rfl (one_cell hq) (by omega) (by have := hB2.size; simp; omega) ?_; intro y w4 hy4 hg4))
    | (go_at_call 33; fail))
  have hy5 : w4.ownsRow w.heap.size 3 1 y (row ++ [n]).length ((row ++ [n]).map (Value.int .i64)) := by simpa using hy4
  have hS := implSide y (row ++ [n]) w4 (Ints.of_owns hy5) (by simp; omega)
  have hB4 : Below w.heap.size w w4 := hB3.grown hg4 hB3.size (fun k e => (hy2.lt k e).1)
  obtain ⟨ay4, cy4, rfl⟩ := own_form hy4
  cases hsd : sideB (row ++ [n]) with
  | false =>
    rw [hsd] at hS
    go_wp2_with (go_at_call 33; refine hS.mono ?_; clear hS; rintro e w' ⟨rfl, hB5⟩)
    all_goals
      go_ret
      exact ⟨_, rfl, Ints.none _ _ _, hB4.trans (hB5.mono hB4.size)⟩
  | true =>
    rw [hsd] at hS
    go_wp2_with (go_at_call 33; refine hS.mono ?_; clear hS; rintro e w' ⟨rfl, hB5⟩)
    all_goals
      go_ret
      exact ⟨_, rfl, (Ints.of_owns hy5).below hB5, hB4.trans (hB5.mono hB4.size)⟩
theorem longer_made {row : List Int} (hs : sideB row = true) (n : Int) : (if sideB (row ++ [n]) = true then row ++ [n] else []) = madeV row 1 n := by
  have hl := sideB_len hs
  by_cases h : 0 ≤ n ∧ n ≤ 1 ∧ row.length < 12
  · rw [if_pos (put_side hs h.1 h.2.1 h.2.2), made_put ⟨rfl, h.1, h.2.1, by omega⟩]
  · rw [if_neg, made_none (by omega) (by omega) (by omega) (by omega) (by omega)]
    intro h2
    have h3 := sideB_len h2
    have h4 := sideB_at h2 (i := row.length) (by simp)
    rw [List.getD, List.getElem?_append_right (Nat.le_refl _), Nat.sub_self] at h4
    simp at h3 h4
    omega

end Go.Proofs.Ytimnhedjapakhaa
