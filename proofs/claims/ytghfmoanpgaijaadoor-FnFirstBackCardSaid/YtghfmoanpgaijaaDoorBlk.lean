/-
  A block of cells of any kinds, known in part: 'BlkAt w g t N V': block g has N cells of type t, and at the places that V names it holds what V says.
-/
import Derived.Test.YtghfmoanpgaijaaDoorRowAt
import Derived.Test.YtghfmoanpgaijaaDoorMathZ
namespace Go.Proofs.YtghfmoanpgaijaaDoor
open Go.RowKit

def BlkAt (w : World) (g : Nat) (t : TypeId) (N : Nat) (V : Nat → Option Value) : Prop :=
  ∃ cur : Array Value, w.heap[g]? = some (.cells cur t (0, 0)) ∧ cur.size = N ∧ ∀ i v, V i = some v → cur[i]? = some v
def updV (V : Nat → Option Value) (p : Nat) (v : Value) : Nat → Option Value := fun i => if i = p then some v else V i

theorem BlkAt.lt {w : World} {g N : Nat} {t : TypeId} {V : Nat → Option Value} (h : BlkAt w g t N V) : g < w.heap.size := by
  obtain ⟨cur, h1, _⟩ := h; exact (Array.getElem?_eq_some_iff.1 h1).1
theorem BlkAt.cell {w : World} {g N : Nat} {t : TypeId} {V : Nat → Option Value} (h : BlkAt w g t N V) {i : Nat} {v : Value} (hi : V i = some v) : w.cell? ⟨g, i, none⟩ = some v := by
  obtain ⟨cur, h1, _, h3⟩ := h
  rw [cell_of_row w g i cur t (0, 0) h1]; exact h3 i v hi
theorem BlkAt.frozen {w : World} {g N : Nat} {t : TypeId} {V : Nat → Option Value} (h : BlkAt w g t N V) (i : Nat) : w.frozen? ⟨g, i, none⟩ = false := by
  obtain ⟨cur, h1, _⟩ := h
  simp [World.frozen?, h1]
theorem BlkAt.weaken {w : World} {g N : Nat} {t : TypeId} {V V' : Nat → Option Value} (h : BlkAt w g t N V) (he : ∀ i v, V' i = some v → V i = some v) : BlkAt w g t N V' := by
  obtain ⟨cur, h1, h2, h3⟩ := h
  exact ⟨cur, h1, h2, fun i v hi => h3 i v (he i v hi)⟩
theorem BlkAt.of_block {w w' : World} {g N : Nat} {t : TypeId} {V : Nat → Option Value} (h : BlkAt w g t N V) (hb : w'.heap[g]? = w.heap[g]?) : BlkAt w' g t N V := by
  obtain ⟨cur, h1, h2⟩ := h
  exact ⟨cur, hb.trans h1, h2⟩
theorem BlkAt.kept {w w' : World} {g N : Nat} {t : TypeId} {V : Nat → Option Value} {row : Option Nat} (h : BlkAt w g t N V) (hg : w.grownBy w' row) (hr : some g ≠ row) : BlkAt w' g t N V := h.of_block (hg.block g h.lt hr)
theorem BlkAt.in_range {w : World} {g N : Nat} {t : TypeId} {V : Nat → Option Value} (h : BlkAt w g t N V) {i : Nat} {v : Value} (hi : V i = some v) : i < N := by
  obtain ⟨cur, _, h2, h3⟩ := h
  have := (Array.getElem?_eq_some_iff.1 (h3 i v hi)).1
  omega
theorem BlkAt.set {w : World} {g N : Nat} {t : TypeId} {V : Nat → Option Value} (h : BlkAt w g t N V) {p : Nat} (v : Value) (hp : p < N) : BlkAt (w.setCell ⟨g, p, none⟩ v) g t N (updV V p v) := by
  obtain ⟨cur, h1, h2, h3⟩ := h
  obtain ⟨hlt, hk⟩ := Array.getElem?_eq_some_iff.1 h1
  refine ⟨cur.setIfInBounds p v, ?_, by simpa using h2, fun i u hi => ?_⟩
  · show (w.heap.modify g _)[g]? = _
    rw [Array.getElem?_eq_getElem (by rw [Array.size_modify]; exact hlt), Array.getElem_modify_self, hk]; rfl
  · rw [Array.getElem?_setIfInBounds]
    unfold updV at hi
    by_cases e : i = p
    · subst e; rw [if_pos rfl] at hi; rw [if_pos rfl, if_pos (by omega)]; exact hi
    · rw [if_neg e] at hi; rw [if_neg (fun h => e h.symm)]; exact h3 i u hi
/-- A row of ints. -/
def intsV (N : Nat) (f : Nat → Int) : Nat → Option Value := fun i => if i < N then some (.int .i64 (f i)) else none
theorem intsV_at {N : Nat} {f : Nat → Int} {i : Nat} (h : i < N) : intsV N f i = some (.int .i64 (f i)) := if_pos h
theorem BlkAt.congr {w : World} {g N : Nat} {t : TypeId} {f f' : Nat → Int} (h : BlkAt w g t N (intsV N f)) (he : ∀ i, i < N → f i = f' i) : BlkAt w g t N (intsV N f') := by
  refine h.weaken (fun i v hi => ?_)
  unfold intsV at hi ⊢
  by_cases e : i < N
  · rw [if_pos e] at hi ⊢; rw [he i e]; exact hi
  · rw [if_neg e] at hi; cases hi
theorem BlkAt.setI {w : World} {g N : Nat} {t : TypeId} {f : Nat → Int} (h : BlkAt w g t N (intsV N f)) {p : Nat} (z : Int) (hp : p < N) : BlkAt (w.setCell ⟨g, p, none⟩ (.int .i64 z)) g t N (intsV N fun i => if i = p then z else f i) := by
  refine (h.set (.int .i64 z) hp).weaken (fun i v hi => ?_)
  unfold intsV at hi
  unfold updV intsV
  dsimp only at hi ⊢
  by_cases e : i = p
  · subst e; rw [if_pos hp, if_pos rfl] at hi; rw [if_pos rfl]; exact hi
  · by_cases e2 : i < N
    · rw [if_pos e2, if_neg e] at hi; rw [if_neg e, if_pos e2]; exact hi
    · rw [if_neg e2] at hi; cases hi
theorem BlkAt.row {w : World} {g N M : Nat} {V : Nat → Option Value} {f : Nat → Int} (h : BlkAt w g 3 N V) (hM : M ≤ N) (hv : ∀ i, i < M → V i = some (.int .i64 (f i))) : RowAt w g M f := by
  obtain ⟨cur, h1, h2, h3⟩ := h
  exact ⟨cur, h1, by omega, fun i hi => h3 i _ (hv i hi)⟩
theorem BlkAt.owns {w : World} {g N base : Nat} {V : Nat → Option Value} {xs : List Int} (h : BlkAt w g 3 N V) (hx : xs.length = N) (hv : ∀ i, i < N → V i = some (.int .i64 (xs.getD i 0))) (hb : base ≤ g) (hN : N ≤ 1000000000) :
    w.ownsRow base 3 1 (.slice (some ⟨g, 0, none⟩) N N) N (xs.map (Value.int .i64)) := by
  obtain ⟨cur, h1, h2, h3⟩ := h
  refine ⟨by simp [hx], .inr ⟨g, N, cur, rfl, hb, h1, Nat.le_refl _, by unfold maxLen; omega, by omega, ?_⟩⟩
  have ht : cur.toList.take (N * 1) = cur.toList := List.take_of_length_le (by simp; omega)
  rw [ht]
  apply List.ext_getElem?
  intro i
  by_cases hi : i < N
  · have h4 := h3 i _ (hv i hi)
    have h5 : xs[i]? = some (xs.getD i 0) := by rw [List.getD, List.getElem?_eq_getElem (by omega)]; rfl
    rw [Array.getElem?_toList, h4, List.getElem?_map, h5]; rfl
  · rw [List.getElem?_eq_none (by simp; omega), List.getElem?_eq_none (by simp; omega)]

/-- 'make([]int, n)': a block of n noughts. -/
theorem make_blk (w : World) {ops : Array Oper} {rest : List Oper} {o : Oper} {a : Act} {Q : Exit → Act → World → Prop}
    (hg : o.guard = none) (l c : Operand) (hop : o.op = Op.makeSlice 51 l c) (L C : Int) (N : Nat) (hl : a.eval l = .int .i64 L) (hc : a.eval c = .int .i64 C) (hL : L = (N : Int)) (hC : C = (N : Int)) (hN : N ≤ 10000000)
    (hK : ∀ w', BlkAt w' w.heap.size 3 N (intsV N fun _ => 0) → w.grownBy w' none → wpList Tryd.prog ops Q rest (a.put o.dst (.slice (some ⟨w.heap.size, 0, none⟩) N N)) w') :
    wpList Tryd.prog ops Q (o :: rest) a w := by
  obtain ⟨i0, hi, hz0, hz1, hz2⟩ := info_parts Tryd.infoInt
  refine wpList_plain hg fun K hK' => ?_
  obtain ⟨w', hrun, r1, r2⟩ := run_make_full (P := Tryd.prog) w w.heap.size 51 3 i0 (.int .i64 0) 1 Tryd.underlying51 hi hz0 hz1 .i64 .i64 N (by rw [hz2]; omega) (by unfold maxLen; omega) (Nat.le_refl _)
  subst hL
  subst hC
  unfold Oper.wp
  simp [execOp, hop, hl, hc, hrun, Result.andThen]
  refine hK' _ _ (hK w' ?_ r2)
  obtain ⟨hlen, hv⟩ := r1
  rcases hv with ⟨h, _⟩ | ⟨g, cap, cur, h, _, hgb, _, _, hs, ht⟩
  · cases h
  · cases h
    refine ⟨cur, hgb, by omega, fun i v hi' => ?_⟩
    have h1 : cur.toList.take (N * 1) = cur.toList := List.take_of_length_le (by simp; omega)
    unfold intsV at hi'
    split at hi'
    · rename_i hlt
      rw [h1] at ht
      rw [← Array.getElem?_toList, ht, Array.getElem?_toList]
      simpa [madeCells, Value.cells, hlt, Nat.mod_one] using hi'
    · cases hi'

set_option maxHeartbeats 400000 in
/-- addBefore over a block of ints: each cell but the first gets the one before it added. -/
theorem addBefore_blk (g n : Nat) (f : Nat → Int) (w : World) (hn : 1 ≤ n) (hN : n ≤ 1000000) (hf : ∀ i, -2305843009213693952 ≤ f i ∧ f i ≤ 2305843009213693952) (hr : BlkAt w g 3 n (intsV n f)) :
    Calls Tryd.prog 65 #[.slice (some ⟨g, 0, none⟩) n n] w fun e w' =>
      (∃ v, e = .returned v) ∧ BlkAt w' g 3 n (intsV n fun i => if 0 < i ∧ i < n then f i + f (i - 1) else f i) ∧ w.grownBy w' (some g) := by
  go_enter Tryd.func65, Tryd.ntmps65
  go_wp2
  go_loopw [2] (fun p wr => ∃ k : Nat, k < n ∧ p = .int .i64 k ∧ BlkAt wr g 3 n (intsV n fun i => if k < i ∧ i < n then f i + f (i - 1) else f i) ∧ w.grownBy wr (some g)) (fun p _ => (intOf p).toNat)
  case atStart =>
    exact ⟨n - 1, by omega, by go_num, hr.congr (fun i _ => by rw [if_neg (by omega)]), grownBy_refl _ _⟩
  case round =>
    obtain ⟨k, hk, rfl, hrow, hg⟩ := hrel
    by_cases hk0 : k = 0
    · subst hk0
      go_wp2
      go_end0
      exact ⟨⟨_, rfl⟩, hrow, hg⟩
    · obtain ⟨j, rfl⟩ : ∃ j, k = j + 1 := ⟨k - 1, by omega⟩
      have hca := hrow.cell (i := j + 1) (intsV_at (by omega))
      have hcb := hrow.cell (i := j) (intsV_at (by omega))
      rw [if_neg (by omega)] at hca hcb
      have hfr := hrow.frozen (j + 1)
      have h1 := hf (j + 1)
      have h2 := hf j
      go_wp2
      have hw1 : IntKind.i64.wrap (j : Int) = j := IntWalk.i64_in _ (by omega)
      have hw2 : IntKind.i64.wrap (f (j + 1) + f j) = f (j + 1) + f j := IntWalk.i64_in _ (by omega)
      have hw3 : ((j : Int) + 1).toNat = j + 1 := by omega
      have hw4 : (j : Int) + 1 < n := by omega
      have hw5 : (0 : Int) ≤ (j : Int) + 1 := by omega
      have hw6 : j < n := by omega
      go_region
      all_goals
        go_wp2
        go_roundw
        case rel =>
          refine ⟨j, by omega, by go_num, ((hrow.of_block (w' := wr.drew) rfl).setI _ (by omega)).congr (fun i hi => ?_), grownBy_set (grownBy_drew hg) _ _⟩
          by_cases e : i = j + 1
          · subst e; rw [if_pos rfl, if_pos (by omega)]; rfl
          · rw [if_neg e]
            by_cases e2 : j + 1 < i ∧ i < n
            · rw [if_pos e2, if_pos (by omega)]
            · rw [if_neg e2, if_neg (by omega)]
        case measure => simp [intOf]

end Go.Proofs.YtghfmoanpgaijaaDoor
