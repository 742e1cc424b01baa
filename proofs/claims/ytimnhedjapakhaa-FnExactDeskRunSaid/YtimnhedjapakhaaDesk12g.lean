/-
  The program's deskOf at any rows of before; slices.Concat of rows.
-/
import Derived.Test.YtimnhedjapakhaaDesk12d
import Derived.Test.YtimnhedjapakhaaDesk12e
import Derived.Test.YtimnhedjapakhaaDesk12f
import Derived.Lib.AppendZeros
import Derived.Lib.AppendZerosOnto
namespace Go.Proofs.Ytimnhedjapakhaa
open Go.RowKit Go.Shelf

/-- The rows of before that are kept: the last eight. -/
def lastR (past : List (List Int)) : List (List Int) := past.drop (past.length - 8)
theorem pastV_last {past : List (List Int)} (h : past.length ≤ 8) (row : List Int) : lastR (past ++ [row]) = pastV past row := by
  unfold lastR pastV
  split
  · rename_i h8
    rw [show (past ++ [row]).length - 8 = 0 by simp; omega, List.drop_zero]
  · rw [show (past ++ [row]).length - 8 = 1 by simp; omega, List.drop_one]
theorem lastR_le {past : List (List Int)} (h : past.length ≤ 8) : lastR past = past := by
  unfold lastR
  rw [show past.length - 8 = 0 by omega, List.drop_zero]

theorem deskOf_in (u p : Value) (row : List Int) (past : List (List Int)) (w : World) (hu : Ints w u row) (h1 : 1 ≤ row.length) (h2 : row.length ≤ 12) (hp : PastI w p past) (hl : past.length ≤ 8) (hr : ∀ j, j < past.length → 1 ≤ (past.getD j []).length ∧ (past.getD j []).length ≤ 12) :
    Calls Try.prog 37 #[u, p] w fun e w' => ∃ x, e = .returned x ∧ OwnDk w' w.heap.size x (row, past) ∧ Below w.heap.size w w' := by
  obtain ⟨a, c, rfl, hrows⟩ := hp
  by_cases h8 : past.length = 8
  · obtain ⟨G, o, rfl, hG, hc⟩ := hrows (by omega)
    rw [h8] at hc hr ⊢
    exact deskOf_8 w u row past c G o h8 hG hc hr hu h1 h2
  · by_cases h0 : 0 < past.length
    · obtain ⟨G, o, rfl, hG, hc⟩ := hrows h0
      exact deskOf_lt w u row past _ c past.length G o (fun _ => rfl) rfl (by omega) (fun _ => hG) hc hr hu h1 h2
    · exact deskOf_lt w u row past a c past.length 0 0 (fun h => absurd h h0) rfl (by omega) (fun h => absurd h h0) (fun k hk => absurd hk (by omega)) hr hu h1 h2
theorem deskOf_full (u : Value) (row : List Int) (past : List (List Int)) (G o cp : Nat) (w : World) (hu : Ints w u row) (h1 : 1 ≤ row.length) (h2 : row.length ≤ 12) (hl : past.length = 9) (hcp : 9 ≤ cp) (hG : G < w.heap.size) (hc : ∀ k, k < 9 → ∃ u, w.cell? ⟨G, o + k, none⟩ = some u ∧ Ints w u (past.getD k []))
    (hr : ∀ j, j < past.length → 1 ≤ (past.getD j []).length ∧ (past.getD j []).length ≤ 12) :
    Calls Try.prog 37 #[u, .slice (some ⟨G, o, none⟩) 9 cp] w fun e w' => ∃ x, e = .returned x ∧ OwnDk w' w.heap.size x (row, past.tail) ∧ Below w.heap.size w w' := by
  have ht : ∀ k, past.tail.getD k [] = past.getD (k + 1) [] := fun k => by
    rw [List.getD, List.getD, List.getElem?_tail]
  exact deskOf_9 w u row past.tail cp G o (by simp [hl]) hG (fun k hk => by
    obtain ⟨v, e1, e2⟩ := hc (k + 1) (by omega)
    rw [ht k, show o + 1 + k = o + (k + 1) by omega]
    exact ⟨v, e1, e2⟩) (fun j hj => by rw [ht j]; exact hr (j + 1) (by omega)) hcp hu h1 h2

set_option maxRecDepth 100000 in
set_option maxHeartbeats 2000000 in
/-- slices.Grow of no rows. -/
theorem grow_nil (n : Nat) (h1 : 1 ≤ n) (hn : n ≤ 9) (w : World) : Calls Try.prog 76 #[.slice none 0 0, .int .i64 n] w fun e w' =>
    ∃ v, e = .returned v ∧ w'.ownsRow w.heap.size 23 1 v 0 [] ∧ v.ownBlock ≠ none ∧ Below w.heap.size w w' := by
  obtain ⟨i0, hi, hz0, hz1, hz2⟩ := info_rows Try.infoRow
  have hold : (Builtin.firstCells i0.size 0 (.slice none 0 0)).run Try.prog w.drew = .ok (([] : List Value).toArray) w.drew := run_firstCells_none w.drew i0.size 0 0 0
  have hrz : ∀ ty, (Builtin.append_ #[24, 3] ty #[.slice none 0 0, .int .i64 n]).run Try.prog w =
      .ok (.slice (some ⟨w.heap.size, 0, none⟩) n (grownCap w n 0 23)) (w.drew.alloc (.cells (([] : List Value).toArray ++ Builtin.zeroCells (Value.slice none 0 0).cells n ++ Builtin.zeroCells (Value.slice none 0 0).cells (grownCap w n 0 23 - n)) 23)) := fun ty => by
    have h := Lib.run_append_grow_zeros (P := Try.prog) w 24 3 ty 23 i0 (.slice none 0 0) .i64 .i64 Try.underlying24 Try.underlying3 hi hz0 none 0 0 [] hold n (by omega) (by omega) (by omega) (by omega) (by rw [hz2]; omega) (by rw [Nat.zero_add]; exact growslice_fits (by omega) (by rw [hz2]; omega))
    rw [Nat.zero_add] at h
    exact h
  have hge := grownCap_ge w n 0 23
  have hcm := grownCap_le_maxLen w n 0 23 (by unfold maxLen; omega)
  have hown : (w.drew.alloc (.cells (([] : List Value).toArray ++ Builtin.zeroCells (Value.slice none 0 0).cells n ++ Builtin.zeroCells (Value.slice none 0 0).cells (grownCap w n 0 23 - n)) 23)).ownsRow w.heap.size 23 1
      (.slice (some ⟨w.heap.size, 0, none⟩) 0 (grownCap w n 0 23)) 0 [] := by
    refine ⟨rfl, .inr ⟨w.heap.size, _, _, rfl, Nat.le_refl _, World.alloc_heap_new w.drew _, by omega, hcm, ?_, by simp⟩⟩
    simp only [Array.size_append, List.size_toArray, size_zeroCells, List.length_nil, Value.cells]
    simp
    omega
  have hB : Below w.heap.size w (w.drew.alloc (.cells (([] : List Value).toArray ++ Builtin.zeroCells (Value.slice none 0 0).cells n ++ Builtin.zeroCells (Value.slice none 0 0).cells (grownCap w n 0 23 - n)) 23)) :=
    (Below.refl w.heap.size w).drew.alloc (Nat.le_refl _) _
  generalize grownCap w n 0 23 = C at *
  generalize w.drew.alloc _ = W1 at *
  have hn1 : (n : Int) > 0 := by omega
  unfold maxLen at hcm
  go_enter Try.func76, Try.ntmps76
  go_wp2_with (at_builtin; refine Lib.wpList_append_run _ rfl _ _ _ _ rfl _ _ rfl rfl _ _ (hrz _) ?_)
  all_goals
    go_ret
    exact ⟨_, rfl, hown, by simp [Value.ownBlock], hB⟩
end Go.Proofs.Ytimnhedjapakhaa
