/-
  The iterator rowsTo: it hands out the rows 0 .. last, one after the other, in one block of its own.
-/
import Derived.Test.YtehmobcfbifocaaDrawZ
import Derived.Shelf.Abstract
import Derived.Shelf.RegionOpen
import Derived.TacticsInMore
import Derived.LoopNIn
import Derived.LoopIn
import Derived.Test.YtehmobcfbifocaaMathZ
namespace Go.Proofs.Ytehmobcfbifocaa
open Go.RowKit Go.Shelf
attribute [local go_sem] Oper.semAt_some

/-- 'make([]int, n)' in a fenced walk: a block of n noughts, known whole. -/
theorem make_row {F : Fence} {n : Nat} (w : World) {ops : Array Oper} {rest : List Oper} {o : Oper} {a : Act} {Q : Exit → Act → World → Prop}
    (hg : o.guard = none) (l c : Operand) (hop : o.op = Op.makeSlice 37 l c) (L C : Int) (N : Nat) (hl : a.eval l = .int .i64 L) (hc : a.eval c = .int .i64 C) (hL : L = (N : Int)) (hC : C = (N : Int)) (hN : N ≤ 1000000)
    (hK : ∀ w', RowAt w' w.heap.size N (fun _ => 0) → w.grownBy w' none → wpListIn F n Try.prog ops Q rest (a.put o.dst (.slice (some ⟨w.heap.size, 0, none⟩) N N)) w') :
    wpListIn F n Try.prog ops Q (o :: rest) a w := by
  obtain ⟨i0, hi, hz0, hz1, hz2⟩ := info_parts Try.infoInt
  refine wpListIn_plain hg fun K hK' => ?_
  obtain ⟨w', hrun, r1, r2⟩ := run_make_full (P := Try.prog) w w.heap.size 37 3 i0 (.int .i64 0) 1 Try.underlying37 hi hz0 hz1 .i64 .i64 N (by rw [hz2]; omega) (by unfold maxLen; omega) (Nat.le_refl _)
  subst hL
  subst hC
  unfold Oper.wpIn
  refine ⟨?_, ?_⟩
  · simp [Oper.about, hop]
  · rw [Oper.semAt_plain F _ _ (by rw [hop]; intro c hc'; cases hc')]
    simp [execOp, hop, hl, hc, hrun, Result.andThen]
    refine hK' _ _ (hK w' ?_ r2)
    obtain ⟨hlen, hv⟩ := r1
    rcases hv with ⟨h, _⟩ | ⟨g, cap, cur, h, _, hgb, _, _, hs, ht⟩
    · cases h
    · cases h
      refine ⟨cur, hgb, by omega, fun i hi' => ?_⟩
      have h1 : cur.toList.take (N * 1) = cur.toList := List.take_of_length_le (by simp; omega)
      rw [h1] at ht
      rw [← Array.getElem?_toList, ht, Array.getElem?_toList]
      simp [madeCells, Value.cells, hi', Nat.mod_one]

/-- Adding to each cell of row j - 1 the one before it makes row j (row 0 stays). -/
theorem bin_turn (j i : Nat) : (if 0 < i ∧ i < j + 1 then (bin (j - 1) i : Int) + bin (j - 1) (i - 1) else bin (j - 1) i) = bin j i := by
  cases j with
  | zero => rw [if_neg (by omega)]
  | succ j =>
    rw [show j + 1 - 1 = j by omega]
    cases i with
    | zero => rw [if_neg (by omega), bin_zero, bin_zero]
    | succ i =>
      by_cases h : i + 1 < j + 1 + 1
      · rw [if_pos ⟨by omega, h⟩, bin_succ, show i + 1 - 1 = i by omega]; omega
      · rw [if_neg (by omega), bin_over j (i + 1) (by omega), bin_over (j + 1) (i + 1) (by omega)]

set_option maxRecDepth 100000 in
set_option maxHeartbeats 1000000 in
theorem rows_stops (n B L : Nat) (hL : L ≤ 60) (hn : 1 ≤ n) (w : World) (hB : B < w.heap.size) (hc : w.cell? ⟨B, 0, none⟩ = some (.int .i64 L)) :
    SeqMem Fence.wide n Try.prog 46 #[.pointer (some ⟨B, 0, none⟩)] 1 (fun n0 (j : Nat) => #[.slice (some ⟨n0, 0, none⟩) (j + 1) (L + 1)])
      (fun n0 pre j W => pre = List.range j ∧ j ≤ L ∧ RowAt W n0 (L + 1) (fun i => bin j i)) (fun n0 k => k = n0)
      (fun n0 xs W => xs = List.range (L + 1) ∧ RowAt W n0 (L + 1) (fun i => bin L i))
      (fun n0 pre W => ∃ j, j ≤ L ∧ pre = List.range (j + 1) ∧ RowAt W n0 (L + 1) (fun i => bin j i)) w := by
  intro l J Jx W hW hJ hJx hY h0
  have hc' := (hW.cell (p := ⟨B, 0, none⟩) hB).trans hc
  have hBW : B < W.heap.size := Nat.lt_of_lt_of_le hB hW.size
  refine callsIn_of_wp Try.func46 rfl trivial ?_ rfl
  simp only [Try.ntmps46, List.size_toArray, List.length_cons, List.length_nil, Nat.reduceAdd, Nat.reduceSub, Array.replicate_succ, Array.replicate_zero, List.push_toArray, List.append_toArray, List.nil_append, List.cons_append]
  gi_wp2_with (gi_at_make; go_loud (refine make_row W rfl _ _ rfl _ _ (L + 1) rfl rfl (by omega) (by omega) (by omega) ?_; intro w1 hrow hgrow; have hz := hrow.cell (i := 0) (by omega); have hzf := hrow.frozen 0; have hcb : w1.cell? ⟨B, 0, none⟩ = some (.int .i64 L) := hgrow.cell hc' (by simp); have hcc : (w1.setCell ⟨W.heap.size, 0, none⟩ (.int .i64 1)).cell? ⟨B, 0, none⟩ = some (.int .i64 L) := (World.cell?_setCell_other _ _ _ _ (by intro h; cases h; omega)).trans hcb))
  have hstart : RowAt (w1.setCell ⟨W.heap.size, 0, none⟩ (.int .i64 1)) W.heap.size (L + 1) (fun i => (bin (0 - 1) i : Int)) := (hrow.set (p := 0) 1).congr (fun i _ => by cases i <;> rfl)
  have hJ0 : J [] (w1.setCell ⟨W.heap.size, 0, none⟩ (.int .i64 1)) := hJ _ _ _ (some W.heap.size) (hJ _ _ _ none h0 hgrow (fun _ h => by cases h)) (grownBy_setCell' _ _ _) (fun r e => by cases e; omega)
  gi_loopw [12] (fun i wr => ∃ j : Nat, j ≤ L + 1 ∧ i = .int .i64 j ∧ J (List.range j) wr ∧ RowAt wr W.heap.size (L + 1) (fun i => (bin (j - 1) i : Int))) (fun i _ => L + 1 - (intOf i).toNat)
  case atStart => exact ⟨0, by omega, rfl, hJ0, hstart⟩
  case round =>
    obtain ⟨j, hj, rfl, hJs, hrw⟩ := hrel
    by_cases hlt : j < L + 1
    · have hA := addBefore_in W.heap.size (j + 1) (L + 1) (fun i => (bin (j - 1) i : Int)) wr (by omega) (by omega) (by omega) (fun i => by have := bin_small (j - 1) i (by omega); omega) hrw
      have hi1 : (j : Int) + 1 ≤ (L : Int) + 1 := by omega
      have hi2 : (0 : Int) ≤ (j : Int) + 1 := by omega
      have hi3 : ((j : Int) + 1).toNat = j + 1 := by omega
      gi_wp2_with (refine ⟨trivial, ?_⟩; gi_at_call 47; go_loud (refine (callsIn_wide.2 hA).mono ?_; clear hA; rintro e w2 ⟨⟨v, rfl⟩, hrow2, hg2⟩; have hrow3 := hrow2.congr (fun i _ => bin_turn j i); have hJ2 := hJ _ _ _ (some W.heap.size) hJs hg2 (fun r e => by cases e; omega); obtain ⟨fn, tmps, assign, body, hy, hR⟩ := hY _ j w2 hJ2 ⟨rfl, by omega, hrow3⟩; clear hY))
      refine hR.mono ?_
      rintro e W3 (⟨rfl, hJ3, hk3⟩ | ⟨rfl, hJx3, hk3⟩)
      · have hrow4 := hrow3.of_block (hk3.same _ hrow3.lt rfl)
        gi_wp2
        go_roundw
        case rel => exact ⟨j + 1, by omega, by go_num, by rw [List.range_succ]; exact hJ3, hrow4⟩
        case measure => simp [intOf]; omega
      · have hrow4 := hrow3.of_block (hk3.same _ hrow3.lt rfl)
        gi_wp2
        refine bodyPost_ret (results_none rfl _ _ _) rfl ?_
        exact ⟨⟨_, rfl⟩, .inr ⟨_, ⟨j, by omega, (List.range_succ).symm, hrow4⟩, hJx3⟩⟩
    · obtain rfl : j = L + 1 := by omega
      gi_wp2
      go_end0
      exact ⟨⟨_, rfl⟩, .inl ⟨_, ⟨rfl, hrw.congr (fun i _ => by rw [show L + 1 - 1 = L by omega])⟩, hJs⟩⟩
end Go.Proofs.Ytehmobcfbifocaa
/-
  The values of the functions of chapter 1 at every argument.
-/
namespace Go.Proofs.Ytehmobcfbifocaa
open Go.RowKit

def cellV (row place : Int) : Int := if row < 0 ∨ 60 < row ∨ place < 0 then -1 else (bin row.toNat place.toNat : Int)
theorem cellV_bad {row place : Int} (h : row < 0 ∨ 60 < row ∨ place < 0) : cellV row place = -1 := by unfold cellV; rw [if_pos h]
theorem cellV_nat {r k : Nat} (h : r ≤ 60) : cellV r k = bin r k := by unfold cellV; rw [if_neg (by omega)]; simp

theorem ret_int {k : IntKind} {a b : Int} (h : a = b) : Ending.returned (.int k a) = .returned (.int k b) := by rw [h]
end Go.Proofs.Ytehmobcfbifocaa
/-
  The program's RowOf and CellOf: for every argument what they hand back.
-/
namespace Go.Proofs.Ytehmobcfbifocaa
open Go.RowKit Go.Shelf
attribute [local go_sem] Oper.semAt_some

theorem rowsTo_in (L : Int) (w : World) : Calls Try.prog 40 #[.int .i64 L] w fun e w' => e = .returned (.func (.func 46) #[] #[.pointer (some ⟨w.heap.size, 0, none⟩)]) ∧ w.alloc (.cells #[.int .i64 L] 3) = w' := by
  have hmf : ∀ (fn : Fn) (first cap : Array Value) (w : World), (Instr.makeFunc fn first cap).run Try.prog w = .ok (.func fn first cap) w := fun _ _ _ _ => rfl
  go_enter Try.func40, Try.ntmps40
  go_wp2
  go_ret
  exact ⟨rfl, rfl⟩

theorem implRow_out (row : Int) (h : row < 0 ∨ 60 < row) (w : World) : Calls Try.prog 36 #[.int .i64 row] w fun e w' => e = .returned (.slice none 0 0) ∧ w = w' := by
  go_enter Try.func36, Try.ntmps36
  go_wp2_with (go_at_call 32; refine (within_f _ _ _ (by omega)).mono ?_; rintro e w' ⟨rfl, rfl⟩)
  go_ret
  exact ⟨rfl, rfl⟩

/-- What the variable 'last' holds when k rows have come. -/
def lastV (g k N : Nat) : Value := if k = 0 then .slice none 0 0 else .slice (some ⟨g, 0, none⟩) k N

set_option maxRecDepth 100000 in
set_option maxHeartbeats 1000000 in
theorem implRow_in (r : Nat) (hr : r ≤ 60) (w : World) : Calls Try.prog 36 #[.int .i64 r] w fun e w' =>
    ∃ v, e = .returned v ∧ w'.ownsRow w.heap.size 3 1 v (r + 1) ((rowN r).map (Value.int .i64)) ∧ Below w.heap.size w w' := by
  refine (callsIn_wide (n := 9)).1 ?_
  refine callsIn_of_wp_marks Try.func36 rfl trivial ?_ rfl
  simp only [Try.ntmps36, List.size_toArray, List.length_cons, List.length_nil, Nat.reduceAdd, Nat.reduceSub, Array.replicate_succ, Array.replicate_zero, List.push_toArray, List.append_toArray, List.nil_append, List.cons_append]
  gi_wp2_with (first | (refine ⟨trivial, ?_⟩; gi_at_call 32; refine (callsIn_wide.2 (within_t _ _ _ (by omega) (by omega))).mono ?_; rintro e w' ⟨rfl, rfl⟩) | (refine ⟨trivial, ?_⟩; gi_at_call 40; refine (callsIn_wide.2 (rowsTo_in _ _)).mono ?_; rintro e w' ⟨rfl, rfl⟩))
  obtain ⟨W0, hW0⟩ : ∃ W0, ((w.alloc (Obj.cells #[Value.slice none 0 0] 37)).alloc (Obj.cells #[Value.int IntKind.i64 ↑r] 3)) = W0 := ⟨_, rfl⟩
  have hsz1 : W0.heap.size ≤ w.heap.size + 2 := by rw [← hW0]; simp
  have hsz2 : w.heap.size + 2 ≤ W0.heap.size := by rw [← hW0]; simp
  have hbox : Boxed W0 w.heap.size 37 (.slice none 0 0) := by rw [← hW0]; exact (Boxed.new w _ _).alloc _
  have hbx : Boxed W0 (w.heap.size + 1) 3 (.int .i64 r) := by rw [← hW0]; have := Boxed.new (w.alloc (Obj.cells #[Value.slice none 0 0] 37)) 3 (.int .i64 r); rwa [World.size_alloc] at this
  have hbel : Below w.heap.size w W0 := by rw [← hW0]; exact ((Below.refl _ w).alloc (Nat.le_refl _) _).alloc (by simp) _
  rw [hW0]
  clear hW0
  refine wpIn_rangeFunc_mem rfl (by omega) (gf := 46) (lb := #[.pointer (some ⟨w.heap.size + 1, 0, none⟩)]) rfl trivial (enters_of Try.func46 (by kernel_rfl) rfl)
    (rows_stops (9 - 1) (w.heap.size + 1) r hr (by omega) W0 (by omega) hbx.cell) (fun _ _ => rfl) (by omega)
    (fun pre x W o h => ⟨h.1, h.2.1, h.2.2.of_block (World.putObj_heap_other (by omega))⟩) (fun xs W o h => ⟨h.1, h.2.of_block (World.putObj_heap_other (by omega))⟩)
    (fun pre W o h => by obtain ⟨j, h1, h2, h3⟩ := h; exact ⟨j, h1, h2, h3.of_block (World.putObj_heap_other (by omega))⟩)
    (fun pre W => Boxed W w.heap.size 37 (lastV (W0.heap.size + 2) pre.length (r + 1)) ∧ Below w.heap.size w W) (fun _ _ _ => False)
    (fun s A B row hs hg hr => ⟨hs.1.kept hg (fun e => by have := hr _ e.symm; omega), hs.2.grown hg hs.2.size (fun k e => by have := hr _ e; omega)⟩)
    (fun _ _ _ _ _ hs _ _ => hs) ⟨hbox, hbel⟩
    (fun x => { tmps := #[.int .i64 r, undef, .slice none 0 0, .pointer (some ⟨w.heap.size, 0, none⟩), .slice (some ⟨W0.heap.size + 2, 0, none⟩) (x + 1) (r + 1), .int .i64 r, .bool true, .bool false, .int .i64 r, .func (.func 46) #[] #[.pointer (some ⟨w.heap.size + 1, 0, none⟩)], .slice (some ⟨W0.heap.size + 2, 0, none⟩) (x + 1) (r + 1), undef, undef, undef], defers := [] }) ?assign ?body ?done ?stop
  case assign =>
    intro l x W K hK
    gi_wp2
    exact hK
  case body =>
    rintro l pre x W hlt ⟨hb, hB⟩ ⟨hpre, hx, hrow⟩
    have hc := hb.cell
    have hf := hb.frozen
    gi_wp2
    refine ⟨KeepsSet.setCell _ _ _ (by omega), ?_, hB.setCell (p := ⟨w.heap.size, 0, none⟩) (Nat.le_refl _) _⟩
    have := hb.set (.slice (some ⟨W0.heap.size + 2, 0, none⟩) (x + 1) (r + 1))
    rw [show lastV (W0.heap.size + 2) (pre ++ [x]).length (r + 1) = .slice (some ⟨W0.heap.size + 2, 0, none⟩) (x + 1) (r + 1) by subst hpre; simp [lastV]]
    exact this
  case done =>
    rintro ys W ⟨rfl, hrow⟩ ⟨hb, hB⟩ hK
    rw [show lastV (W0.heap.size + 2) (List.range (r + 1)).length (r + 1) = .slice (some ⟨W0.heap.size + 2, 0, none⟩) (r + 1) (r + 1) by simp [lastV]] at hb
    have hc := hb.cell
    have hcl := clone_in (W0.heap.size + 2) (r + 1) (r + 1) (rowN r) W (rowN_len r) (by omega) (fun k u hu => by
      rw [List.getElem?_map, rowN, List.getElem?_map] at hu
      by_cases hk : k < r + 1
      · rw [List.getElem?_range hk] at hu
        simp only [Option.map_some, Option.some.injEq] at hu
        rw [← hu]; exact hrow.cell hk
      · rw [List.getElem?_eq_none (by simp; omega)] at hu; cases hu)
    gi_wp2_with (refine ⟨trivial, ?_⟩; gi_at_call 41; refine (callsIn_wide.2 hcl).mono ?_; clear hcl; rintro e W5 ⟨v, rfl, hown, hB5⟩)
    have hDW : W0.heap.size < W.heap.size := (Array.getElem?_eq_some_iff.1 hK).1
    have hK5 := (hB5.block _ hDW).trans hK
    refine ⟨by simp, .inl ⟨_, _, rfl, run_takeDeferred hK5, ?_⟩⟩
    refine ⟨_, results_tmp rfl _ _ _, v, rfl, owns_from (ownsRow_putObj hown _ hK5 rfl) hB.size, ?_⟩
    refine (hB.trans (hB5.mono hB.size)).grown (grownBy_putObj' W5 _ _) ?_ (fun k e => by cases e; omega)
    exact Nat.le_trans hB.size hB5.size
  case stop =>
    rintro c pre W _ h _
    exact h.elim
end Go.Proofs.Ytehmobcfbifocaa
