/-
  The iterator rowsTo: it hands out the rows 0 .. last, one after the other, in one block of its own.
-/
import Derived.Test.YtlkcdcmmcjkedabRowAt
import Derived.Shelf.Abstract
import Derived.Shelf.RegionOpen
import Derived.TacticsInMore
import Derived.LoopNIn
import Derived.LoopIn
namespace Go.Proofs.Ytlkcdcmmcjkedab
open Go.RowKit Go.Shelf
attribute [local go_sem] Oper.semAt_some

/-- 'make([]int, n)' in a fenced walk: a block of n noughts, known whole. -/
theorem make_row {F : Fence} {n : Nat} (w : World) {ops : Array Oper} {rest : List Oper} {o : Oper} {a : Act} {Q : Exit → Act → World → Prop}
    (hg : o.guard = none) (l c : Operand) (hop : o.op = Op.makeSlice 22 l c) (L C : Int) (N : Nat) (hl : a.eval l = .int .i64 L) (hc : a.eval c = .int .i64 C) (hL : L = (N : Int)) (hC : C = (N : Int)) (hN : N ≤ 1000000)
    (hK : ∀ w', RowAt w' w.heap.size N (fun _ => 0) → w.grownBy w' none → wpListIn F n Try.prog ops Q rest (a.put o.dst (.slice (some ⟨w.heap.size, 0, none⟩) N N)) w') :
    wpListIn F n Try.prog ops Q (o :: rest) a w := by
  obtain ⟨i0, hi, hz0, hz1, hz2⟩ := info_parts Try.infoInt
  refine wpListIn_plain hg fun K hK' => ?_
  obtain ⟨w', hrun, r1, r2⟩ := run_make_full (P := Try.prog) w w.heap.size 22 3 i0 (.int .i64 0) 1 Try.underlying22 hi hz0 hz1 .i64 .i64 N (by rw [hz2]; omega) (by unfold maxLen; omega) (Nat.le_refl _)
  subst hL
  subst hC
  unfold Oper.wpIn
  refine ⟨?_, ?_⟩
  · simp [Oper.about, hop]
  · rw [Oper.semAt_plain F _ _ (by rw [hop]; intro c hc'; cases hc')]
    simp [execOp, hop, hl, hc, hrun, Result.andThen]
    refine hK' _ _ (hK w' ?_ r2)
    obtain ⟨hlen, hv⟩ := r1
    rcases hv with ⟨h, _⟩ | ⟨g, cap, cur, h, _, hgb, _, _, hs, ht⟩
    · cases h
    · cases h
      refine ⟨cur, hgb, by omega, fun i hi' => ?_⟩
      have h1 : cur.toList.take (N * 1) = cur.toList := List.take_of_length_le (by simp; omega)
      rw [h1] at ht
      rw [← Array.getElem?_toList, ht, Array.getElem?_toList]
      simp [madeCells, Value.cells, hi', Nat.mod_one]

/-- Adding to each cell of row j - 1 the one before it makes row j (row 0 stays). -/
theorem bin_turn (j i : Nat) : (if 0 < i ∧ i < j + 1 then (bin (j - 1) i : Int) + bin (j - 1) (i - 1) else bin (j - 1) i) = bin j i := by
  cases j with
  | zero => rw [if_neg (by omega)]
  | succ j =>
    rw [show j + 1 - 1 = j by omega]
    cases i with
    | zero => rw [if_neg (by omega), bin_zero, bin_zero]
    | succ i =>
      by_cases h : i + 1 < j + 1 + 1
      · rw [if_pos ⟨by omega, h⟩, bin_succ, show i + 1 - 1 = i by omega]; omega
      · rw [if_neg (by omega), bin_over j (i + 1) (by omega), bin_over (j + 1) (i + 1) (by omega)]

end Go.Proofs.Ytlkcdcmmcjkedab
