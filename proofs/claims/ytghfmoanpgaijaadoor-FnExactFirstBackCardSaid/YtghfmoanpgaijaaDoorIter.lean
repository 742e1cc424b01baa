/-
  The iterator rowsTo: it hands out the rows 0 .. last, one after the other, in one block of its own.
-/
import Derived.Test.YtghfmoanpgaijaaDoorRowAt
import Derived.Shelf.Abstract
import Derived.Shelf.RegionOpen
import Derived.TacticsInMore
import Derived.LoopNIn
import Derived.LoopIn
namespace Go.Proofs.YtghfmoanpgaijaaDoor
open Go.RowKit Go.Shelf
attribute [local go_sem] Oper.semAt_some

/-- 'make([]int, n)' in a fenced walk: a block of n noughts, known whole. -/
theorem make_row {F : Fence} {n : Nat} (w : World) {ops : Array Oper} {rest : List Oper} {o : Oper} {a : Act} {Q : Exit → Act → World → Prop}
    (hg : o.guard = none) (l c : Operand) (hop : o.op = Op.makeSlice 51 l c) (L C : Int) (N : Nat) (hl : a.eval l = .int .i64 L) (hc : a.eval c = .int .i64 C) (hL : L = (N : Int)) (hC : C = (N : Int)) (hN : N ≤ 1000000)
    (hK : ∀ w', RowAt w' w.heap.size N (fun _ => 0) → w.grownBy w' none → wpListIn F n Tryd.prog ops Q rest (a.put o.dst (.slice (some ⟨w.heap.size, 0, none⟩) N N)) w') :
    wpListIn F n Tryd.prog ops Q (o :: rest) a w := by
  obtain ⟨i0, hi, hz0, hz1, hz2⟩ := info_parts Tryd.infoInt
  refine wpListIn_plain hg fun K hK' => ?_
  obtain ⟨w', hrun, r1, r2⟩ := run_make_full (P := Tryd.prog) w w.heap.size 51 3 i0 (.int .i64 0) 1 Tryd.underlying51 hi hz0 hz1 .i64 .i64 N (by rw [hz2]; omega) (by unfold maxLen; omega) (Nat.le_refl _)
  subst hL
  subst hC
  unfold Oper.wpIn
  refine ⟨?_, ?_⟩
  · simp [Oper.about, hop]
  · rw [Oper.semAt_plain F _ _ (by rw [hop]; intro c hc'; cases hc')]
    simp [execOp, hop, hl, hc, hrun, Result.andThen]
    refine hK' _ _ (hK w' ?_ r2)
    obtain ⟨hlen, hv⟩ := r1
    rcases hv with ⟨h, _⟩ | ⟨g, cap, cur, h, _, hgb, _, _, hs, ht⟩
    · cases h
    · cases h
      refine ⟨cur, hgb, by omega, fun i hi' => ?_⟩
      have h1 : cur.toList.take (N * 1) = cur.toList := List.take_of_length_le (by simp; omega)
      rw [h1] at ht
      rw [← Array.getElem?_toList, ht, Array.getElem?_toList]
      simp [madeCells, Value.cells, hi', Nat.mod_one]

/-- Adding to each cell of row j - 1 the one before it makes row j (row 0 stays). -/
theorem bin_turn (j i : Nat) : (if 0 < i ∧ i < j + 1 then (bin (j - 1) i : Int) + bin (j - 1) (i - 1) else bin (j - 1) i) = bin j i := by
  cases j with
  | zero => rw [if_neg (by omega)]
  | succ j =>
    rw [show j + 1 - 1 = j by omega]
    cases i with
    | zero => rw [if_neg (by omega), bin_zero, bin_zero]
    | succ i =>
      by_cases h : i + 1 < j + 1 + 1
      · rw [if_pos ⟨by omega, h⟩, bin_succ, show i + 1 - 1 = i by omega]; omega
      · rw [if_neg (by omega), bin_over j (i + 1) (by omega), bin_over (j + 1) (i + 1) (by omega)]

set_option maxRecDepth 100000 in
set_option maxHeartbeats 1000000 in
theorem rows_stops (n B L : Nat) (hL : L ≤ 60) (hn : 1 ≤ n) (w : World) (hB : B < w.heap.size) (hc : w.cell? ⟨B, 0, none⟩ = some (.int .i64 L)) :
    SeqMem Fence.wide n Tryd.prog 64 #[.pointer (some ⟨B, 0, none⟩)] 1 (fun n0 (j : Nat) => #[.slice (some ⟨n0, 0, none⟩) (j + 1) (L + 1)])
      (fun n0 pre j W => pre = List.range j ∧ j ≤ L ∧ RowAt W n0 (L + 1) (fun i => bin j i)) (fun n0 k => k = n0)
      (fun n0 xs W => xs = List.range (L + 1) ∧ RowAt W n0 (L + 1) (fun i => bin L i))
      (fun n0 pre W => ∃ j, j ≤ L ∧ pre = List.range (j + 1) ∧ RowAt W n0 (L + 1) (fun i => bin j i)) w := by
  intro l J Jx W hW hJ hJx hY h0
  have hc' := (hW.cell (p := ⟨B, 0, none⟩) hB).trans hc
  have hBW : B < W.heap.size := Nat.lt_of_lt_of_le hB hW.size
  refine callsIn_of_wp Tryd.func64 rfl trivial ?_ rfl
  simp only [Tryd.ntmps64, List.size_toArray, List.length_cons, List.length_nil, Nat.reduceAdd, Nat.reduceSub, Array.replicate_succ, Array.replicate_zero, List.push_toArray, List.append_toArray, List.nil_append, List.cons_append]
  gi_wp2_with (gi_at_make; go_loud (refine make_row W rfl _ _ rfl _ _ (L + 1) rfl rfl (by omega) (by omega) (by omega) ?_; intro w1 hrow hgrow; have hz := hrow.cell (i := 0) (by omega); have hzf := hrow.frozen 0; have hcb : w1.cell? ⟨B, 0, none⟩ = some (.int .i64 L) := hgrow.cell hc' (by simp); have hcc : (w1.setCell ⟨W.heap.size, 0, none⟩ (.int .i64 1)).cell? ⟨B, 0, none⟩ = some (.int .i64 L) := (World.cell?_setCell_other _ _ _ _ (by intro h; cases h; omega)).trans hcb))
  have hstart : RowAt (w1.setCell ⟨W.heap.size, 0, none⟩ (.int .i64 1)) W.heap.size (L + 1) (fun i => (bin (0 - 1) i : Int)) := (hrow.set (p := 0) 1).congr (fun i _ => by cases i <;> rfl)
  have hJ0 : J [] (w1.setCell ⟨W.heap.size, 0, none⟩ (.int .i64 1)) := hJ _ _ _ (some W.heap.size) (hJ _ _ _ none h0 hgrow (fun _ h => by cases h)) (grownBy_setCell' _ _ _) (fun r e => by cases e; omega)
  gi_loopw [12] (fun i wr => ∃ j : Nat, j ≤ L + 1 ∧ i = .int .i64 j ∧ J (List.range j) wr ∧ RowAt wr W.heap.size (L + 1) (fun i => (bin (j - 1) i : Int))) (fun i _ => L + 1 - (intOf i).toNat)
  case atStart => exact ⟨0, by omega, rfl, hJ0, hstart⟩
  case round =>
    obtain ⟨j, hj, rfl, hJs, hrw⟩ := hrel
    by_cases hlt : j < L + 1
    · have hA := addBefore_in W.heap.size (j + 1) (L + 1) (fun i => (bin (j - 1) i : Int)) wr (by omega) (by omega) (by omega) (fun i => by have := bin_small (j - 1) i (by omega); omega) hrw
      have hi1 : (j : Int) + 1 ≤ (L : Int) + 1 := by omega
      have hi2 : (0 : Int) ≤ (j : Int) + 1 := by omega
      have hi3 : ((j : Int) + 1).toNat = j + 1 := by omega
      gi_wp2_with (refine ⟨trivial, ?_⟩; gi_at_call 65; go_loud (refine (callsIn_wide.2 hA).mono ?_; clear hA; rintro e w2 ⟨⟨v, rfl⟩, hrow2, hg2⟩; have hrow3 := hrow2.congr (fun i _ => bin_turn j i); have hJ2 := hJ _ _ _ (some W.heap.size) hJs hg2 (fun r e => by cases e; omega); obtain ⟨fn, tmps, assign, body, hy, hR⟩ := hY _ j w2 hJ2 ⟨rfl, by omega, hrow3⟩; clear hY))
      refine hR.mono ?_
      rintro e W3 (⟨rfl, hJ3, hk3⟩ | ⟨rfl, hJx3, hk3⟩)
      · have hrow4 := hrow3.of_block (hk3.same _ hrow3.lt rfl)
        gi_wp2
        go_roundw
        case rel => exact ⟨j + 1, by omega, by go_num, by rw [List.range_succ]; exact hJ3, hrow4⟩
        case measure => simp [intOf]; omega
      · have hrow4 := hrow3.of_block (hk3.same _ hrow3.lt rfl)
        gi_wp2
        refine bodyPost_ret (results_none rfl _ _ _) rfl ?_
        exact ⟨⟨_, rfl⟩, .inr ⟨_, ⟨j, by omega, (List.range_succ).symm, hrow4⟩, hJx3⟩⟩
    · obtain rfl : j = L + 1 := by omega
      gi_wp2
      go_end0
      exact ⟨⟨_, rfl⟩, .inl ⟨_, ⟨rfl, hrw.congr (fun i _ => by rw [show L + 1 - 1 = L by omega])⟩, hJs⟩⟩
end Go.Proofs.YtghfmoanpgaijaaDoor
