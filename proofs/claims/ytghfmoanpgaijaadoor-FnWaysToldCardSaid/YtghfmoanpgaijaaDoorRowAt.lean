/-
  A block of integer cells, known whole: 'RowAt w g N f': block g holds f 0 .. f (N-1). And the contract of addBefore.
-/
import Derived.Test.YtghfmoanpgaijaaDoorBase
import Derived.Test.YtghfmoanpgaijaaDoorRange
import Derived.BigRegion
namespace Go.Proofs.YtghfmoanpgaijaaDoor
open Go.RowKit

def RowAt (w : World) (g N : Nat) (f : Nat → Int) : Prop :=
  ∃ cur : Array Value, w.heap[g]? = some (.cells cur 3 (0, 0)) ∧ N ≤ cur.size ∧ ∀ i, i < N → cur[i]? = some (.int .i64 (f i))

theorem RowAt.lt {w : World} {g N : Nat} {f : Nat → Int} (h : RowAt w g N f) : g < w.heap.size := by
  obtain ⟨cur, h1, _⟩ := h; exact (Array.getElem?_eq_some_iff.1 h1).1
theorem RowAt.cell {w : World} {g N : Nat} {f : Nat → Int} (h : RowAt w g N f) {i : Nat} (hi : i < N) : w.cell? ⟨g, i, none⟩ = some (.int .i64 (f i)) := by
  obtain ⟨cur, h1, h2, h3⟩ := h
  rw [cell_of_row w g i cur 3 (0, 0) h1]; exact h3 i hi
theorem RowAt.frozen {w : World} {g N : Nat} {f : Nat → Int} (h : RowAt w g N f) (i : Nat) : w.frozen? ⟨g, i, none⟩ = false := by
  obtain ⟨cur, h1, _⟩ := h
  simp [World.frozen?, h1]
theorem RowAt.congr {w : World} {g N : Nat} {f f' : Nat → Int} (h : RowAt w g N f) (he : ∀ i, i < N → f i = f' i) : RowAt w g N f' := by
  obtain ⟨cur, h1, h2, h3⟩ := h
  exact ⟨cur, h1, h2, fun i hi => by rw [← he i hi]; exact h3 i hi⟩
theorem RowAt.set {w : World} {g N : Nat} {f : Nat → Int} (h : RowAt w g N f) {p : Nat} (z : Int) : RowAt (w.setCell ⟨g, p, none⟩ (.int .i64 z)) g N (fun i => if i = p then z else f i) := by
  obtain ⟨cur, h1, h2, h3⟩ := h
  obtain ⟨hlt, hk⟩ := Array.getElem?_eq_some_iff.1 h1
  have h2' : ∀ i, i < N → i < cur.size := fun i hi => Nat.lt_of_lt_of_le hi h2
  refine ⟨cur.setIfInBounds p (.int .i64 z), ?_, by simpa using h2, fun i hi => ?_⟩
  · show (w.heap.modify g _)[g]? = _
    rw [Array.getElem?_eq_getElem (by rw [Array.size_modify]; exact hlt), Array.getElem_modify_self, hk]; rfl
  · rw [Array.getElem?_setIfInBounds]
    by_cases e : p = i
    · subst e; simp [h2' _ hi]
    · rw [if_neg e, h3 i hi]; simp only []; rw [if_neg (fun h : i = p => e h.symm)]
theorem RowAt.of_block {w w' : World} {g N : Nat} {f : Nat → Int} (h : RowAt w g N f) (hb : w'.heap[g]? = w.heap[g]?) : RowAt w' g N f := by
  obtain ⟨cur, h1, h2, h3⟩ := h
  exact ⟨cur, hb.trans h1, h2, h3⟩
theorem RowAt.kept {w w' : World} {g N : Nat} {f : Nat → Int} {row : Option Nat} (h : RowAt w g N f) (hg : w.grownBy w' row) (hr : some g ≠ row) : RowAt w' g N f := h.of_block (hg.block g h.lt hr)
theorem RowAt.of_owns {w : World} {base n : Nat} {v : Value} {xs : List Int} (h : w.ownsRow base 3 1 v n (xs.map (Value.int .i64))) (hn : 0 < n) :
    ∃ g cap, v = .slice (some ⟨g, 0, none⟩) n cap ∧ base ≤ g ∧ RowAt w g n (fun i => xs.getD i 0) := by
  have hl : xs.length = n := by have := h.1; simpa using this
  rcases h.2 with ⟨_, h0⟩ | ⟨g, cap, cur, rfl, hb, hgb, hc, _, hs, ht⟩
  · omega
  · refine ⟨g, cap, rfl, hb, cur, hgb, by omega, fun i hi => ?_⟩
    have h1 : (cur.toList.take (n * 1))[i]? = some (.int .i64 (xs.getD i 0)) := by
      rw [ht, List.getElem?_map, List.getElem?_eq_getElem (by omega)]; simp [List.getD, hl, hi]
    rw [List.getElem?_take, if_pos (by omega)] at h1
    rw [← Array.getElem?_toList]; exact h1
theorem grownBy_drew {w w' : World} {row : Option Nat} (h : w.grownBy w' row) : w.grownBy w'.drew row := ⟨h.os, h.tape, h.output, h.size, h.block⟩
theorem grownBy_set {w w' : World} {g : Nat} (h : w.grownBy w' (some g)) (p : Nat) (v : Value) : w.grownBy (w'.setCell ⟨g, p, none⟩ v) (some g) :=
  ⟨h.os, h.tape, h.output, by simp [World.setCell]; exact h.size, fun k hk hr => (Below.heap_setCell _ _ _ k (fun e => hr (by rw [e]))).trans (h.block k hk hr)⟩
theorem grownBy_refl (w : World) (row : Option Nat) : w.grownBy w row := ⟨rfl, rfl, rfl, Nat.le_refl _, fun _ _ _ => rfl⟩

set_option maxHeartbeats 400000 in
/-- addBefore: each cell but the first gets the one before it added. -/
theorem addBefore_in (g n N : Nat) (f : Nat → Int) (w : World) (hn : 1 ≤ n) (hnN : n ≤ N) (hN : N ≤ 1000000) (hf : ∀ i, -2305843009213693952 ≤ f i ∧ f i ≤ 2305843009213693952) (hr : RowAt w g N f) :
    Calls Tryd.prog 65 #[.slice (some ⟨g, 0, none⟩) n N] w fun e w' =>
      (∃ v, e = .returned v) ∧ RowAt w' g N (fun i => if 0 < i ∧ i < n then f i + f (i - 1) else f i) ∧ w.grownBy w' (some g) := by
  go_enter Tryd.func65, Tryd.ntmps65
  go_wp2
  go_loopw [2] (fun p wr => ∃ k : Nat, k < n ∧ p = .int .i64 k ∧ RowAt wr g N (fun i => if k < i ∧ i < n then f i + f (i - 1) else f i) ∧ w.grownBy wr (some g)) (fun p _ => (intOf p).toNat)
  case atStart => exact ⟨n - 1, by omega, by go_num, hr.congr (fun i _ => by rw [if_neg (by omega)]), grownBy_refl _ _⟩
  case round =>
    obtain ⟨k, hk, rfl, hrow, hg⟩ := hrel
    by_cases hk0 : k = 0
    · subst hk0
      go_wp2
      go_end0
      exact ⟨⟨_, rfl⟩, hrow, hg⟩
    · obtain ⟨j, rfl⟩ : ∃ j, k = j + 1 := ⟨k - 1, by omega⟩
      have hca := hrow.cell (i := j + 1) (by omega)
      have hcb := hrow.cell (i := j) (by omega)
      rw [if_neg (by omega)] at hca hcb
      have hfr := hrow.frozen (j + 1)
      have h1 := hf (j + 1)
      have h2 := hf j
      go_wp2
      have hw1 : IntKind.i64.wrap (j : Int) = j := IntWalk.i64_in _ (by omega)
      have hw2 : IntKind.i64.wrap (f (j + 1) + f j) = f (j + 1) + f j := IntWalk.i64_in _ (by omega)
      have hw3 : ((j : Int) + 1).toNat = j + 1 := by omega
      have hw4 : (j : Int) + 1 < n := by omega
      have hw5 : (0 : Int) ≤ (j : Int) + 1 := by omega
      have hw6 : j < n := by omega
      go_region
      all_goals
        go_wp2

        go_roundw
        case rel =>
          refine ⟨j, by omega, by go_num, (hrow.of_block (w' := wr.drew) rfl).set _ |>.congr (fun i hi => ?_), grownBy_set (grownBy_drew hg) _ _⟩
          by_cases e : i = j + 1
          · subst e; rw [if_pos rfl, if_pos (by omega)]; rfl
          · rw [if_neg e]
            by_cases e2 : j + 1 < i ∧ i < n
            · rw [if_pos e2, if_pos (by omega)]
            · rw [if_neg e2, if_neg (by omega)]
        case measure => simp [intOf]
end Go.Proofs.YtghfmoanpgaijaaDoor
