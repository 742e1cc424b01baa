/-
  The iterator over the rounds of a circle.
-/
import Derived.Test.YtmnmbelmcdfcjaaCircB10
import Derived.Test.YtmnmbelmcdfcjaaRange2
import Derived.Test.YtmnmbelmcdfcjaaIter
namespace Go.Proofs.Ytmnmbelmcdfcjaa
open Go.RowKit Go.Shelf
attribute [local go_sem] Oper.semAt_some

section
variable {F : Fence} {n : Nat} {ops : Array Oper} {rest : List Oper} {o : Oper} {a : Act} {w : World} {Q : Exit → Act → World → Prop}
theorem load_crI (hgd : o.guard = none) (x : Operand) (hop : o.op = .load 47 x) (b : Nat) (hx : a.eval x = .pointer (some ⟨b, 0, none⟩)) {g : Nat → Nat} {m : Nat} (hg : CrAt w b g m)
    (h : wpListIn F n Try.prog ops Q rest (a.put o.dst (crV g m)) w) : wpListIn F n Try.prog ops Q (o :: rest) a w := by
  refine wpListIn_plain hgd fun K hK' => ?_
  have hrun : (Instr.loadAt 47 (.pointer (some ⟨b, 0, none⟩))).run Try.prog w = .ok (crV g m) w := by
    simp only [Instr.loadAt, Instr.sureAddr, Sem.run_bind, Sem.run_pure, Result.andThen_ok, run_loadVar_row w b _ 47 (crA g m) _ _ hg kindCircle rfl (sizeCircle g m)]
    rfl
  unfold Oper.wpIn
  refine ⟨?_, ?_⟩
  · simp [Oper.about, hop]
  · rw [Oper.semAt_plain F _ _ (by rw [hop]; intro c hc'; cases hc')]
    simp [execOp, hop, hx, hrun, Result.andThen]
    exact hK' _ _ h
theorem store_crI (hgd : o.guard = none) (x y : Operand) (hop : o.op = .store 47 x y) (b : Nat) (g : Nat → Nat) (m : Nat) (hx : a.eval x = .pointer (some ⟨b, 0, none⟩)) (hy : a.eval y = crV g m)
    {old : Array Value} (hb : w.heap[b]? = some (.cells old 47 (0, 0))) (hs : old.size = 9)
    (h : ∀ w', CrAt w' b g m → w.grownBy w' (some b) → wpListIn F n Try.prog ops Q rest (a.put o.dst undef) w') : wpListIn F n Try.prog ops Q (o :: rest) a w := by
  refine wpListIn_plain hgd fun K hK' => ?_
  have hrun : (Instr.storeAt 47 (.pointer (some ⟨b, 0, none⟩)) (crV g m)).run Try.prog w = .ok () (w.setRow b (crA g m)) := by
    unfold crV
    simp only [Instr.storeAt, Instr.sureAddr, Sem.run_bind, Sem.run_pure, Result.andThen_ok, run_storeVar_row w b _ 47 old (crA g m) hb (sizeCircle g m) hs (crA_one g m)]
  unfold Oper.wpIn
  refine ⟨?_, ?_⟩
  · simp [Oper.about, hop]
  · rw [Oper.semAt_plain F _ _ (by rw [hop]; intro c hc'; cases hc')]
    simp [execOp, hop, hx, hy, hrun, Result.andThen]
    exact hK' _ _ (h _ (setRow_heap w b old _ _ _ hb) (grown_setRow w b _))
end

theorem roundsTo_in (g : Nat → Nat) (m : Nat) (L : Int) (w : World) : Calls Try.prog 49 #[crV g m, .int .i64 L] w fun e w' =>
    e = .returned (.func (.func 58) #[] #[.pointer (some ⟨w.heap.size, 0, none⟩), .pointer (some ⟨w.heap.size + 1, 0, none⟩)]) ∧ (w.alloc (.cells (crA g m) 47)).alloc (.cells #[.int .i64 L] 3) = w' := by
  have hmf : ∀ (fn : Fn) (first cap : Array Value) (w : World), (Instr.makeFunc fn first cap).run Try.prog w = .ok (.func fn first cap) w := fun _ _ _ _ => rfl
  go_enter Try.func49, Try.ntmps49
  go_wp2_with (refine box_cr rfl _ rfl g m rfl ?_)
  go_ret
  exact ⟨rfl, rfl⟩

set_option maxRecDepth 100000 in
set_option maxHeartbeats 1000000 in
theorem rounds_stops (n C B L m : Nat) (f : Nat → Nat) (hL : L ≤ 2000) (h1 : 1 ≤ m) (hm : m ≤ 8) (hf : ∀ k, f k ≤ 100) (hp : per m f) (hn : 1 ≤ n) (w : World) (hC : CrAt w C (cz f m) m) (hB : Boxed w B 3 (.int .i64 L)) :
    SeqMem Fence.wide n Try.prog 58 #[.pointer (some ⟨C, 0, none⟩), .pointer (some ⟨B, 0, none⟩)] 1 (fun _ (j : Nat) => #[.int .i64 j, crV (cz (dR f j) m) m])
      (fun _ pre j _ => pre = List.range j ∧ j ≤ L) (fun n0 k => k = n0) (fun _ xs _ => xs = List.range (L + 1)) (fun _ _ _ => True) w := by
  intro l J Jx W hW hJ hJx hY h0
  have hCW : CrAt W C (cz f m) m := hC.of_block (hW.block C hC.lt)
  have hc' : W.cell? ⟨B, 0, none⟩ = some (.int .i64 L) := (hW.cell (p := ⟨B, 0, none⟩) hB.lt).trans hB.cell
  have hBW : B < W.heap.size := Nat.lt_of_lt_of_le hB.lt hW.size
  refine callsIn_of_wp Try.func58 rfl trivial ?_ rfl
  simp only [Try.ntmps58, List.size_toArray, List.length_cons, List.length_nil, Nat.reduceAdd, Nat.reduceSub, Array.replicate_succ, Array.replicate_zero, List.push_toArray, List.append_toArray, List.nil_append, List.cons_append]
  gi_wp2_with (first | (refine load_crI rfl _ rfl C rfl hCW ?_) | (refine store_crI rfl _ _ rfl W.heap.size _ _ rfl rfl (World.alloc_heap_new W _) rfl ?_; go_loud (intro w1 hC1 hg1; have hcb : w1.cell? ⟨B, 0, none⟩ = some (.int .i64 L) := (hg1.cell (by rw [World.cell?_alloc_past _ _ _ hBW]; exact hc') (by simp; omega)))))
  have hJ0 : J [] w1 := hJ _ _ _ (some W.heap.size) (hJ _ _ _ none h0 (World.grownBy_alloc W _ none) (fun _ h => by cases h)) hg1 (fun r e => by cases e; omega)
  gi_loopw [9] (fun i wr => ∃ j : Nat, j ≤ L + 1 ∧ i = .int .i64 j ∧ J (List.range j) wr ∧ CrAt wr W.heap.size (cz (dR f j) m) m) (fun i _ => L + 1 - (intOf i).toNat)
  case atStart => exact ⟨0, by omega, rfl, hJ0, hC1⟩
  case round =>
    clear hJ0 hC1 hcb hg1
    obtain ⟨j, hj, rfl, hJs, hCj⟩ := hrel
    by_cases hlt : j < L + 1
    · have hji : (j : Int) < (L : Int) + 1 := by omega
      obtain ⟨fn, tmps, assign, body, hy, hR⟩ := hY _ j wr hJs ⟨rfl, by omega⟩
      clear hY
      have hA := fun V => after_in (dR f j) m h1 hm (hundred hf j) (per_dR hp j) V
      gi_wp2_with (refine load_crI rfl _ rfl W.heap.size rfl hCj ?_)
      refine hR.mono ?_
      rintro e W3 (⟨rfl, hJ3, hk3⟩ | ⟨rfl, hJx3, hk3⟩)
      · have hC3 : CrAt W3 W.heap.size (cz (dR f j) m) m := hCj.of_block (hk3.same _ hCj.lt rfl)
        gi_wp2_with (first
          | (refine load_crI rfl _ rfl W.heap.size rfl hC3 ?_)
          | (refine ⟨trivial, ?_⟩; gi_at_call 45; refine (callsIn_wide.2 (hA _)).mono ?_; clear hA; go_loud (rintro e w4 ⟨rfl, hB4⟩; have hC4 : CrAt w4 W.heap.size (cz (dR f j) m) m := hC3.of_block (hB4.block _ hC3.lt)))
          | (refine store_crI rfl _ _ rfl W.heap.size _ _ rfl rfl hC4 rfl ?_; intro w5 hC5 hg5))
        have hJ5 := hJ _ _ _ (some W.heap.size) (hJ _ _ _ none hJ3 (⟨hB4.os, hB4.tape, hB4.output, hB4.size, fun b hb _ => hB4.block b hb⟩) (fun _ h => by cases h)) hg5 (fun r e => by cases e; omega)
        go_roundw
        case rel => exact ⟨j + 1, by omega, by go_num, by rw [List.range_succ]; exact hJ5, hC5⟩
        case measure => simp [intOf]; omega
      · gi_wp2
        refine bodyPost_ret (results_none rfl _ _ _) rfl ?_
        exact ⟨⟨_, rfl⟩, .inr ⟨_, trivial, hJx3⟩⟩
    · obtain rfl : j = L + 1 := by omega
      gi_wp2
      go_end0
      exact ⟨⟨_, rfl⟩, .inl ⟨_, rfl, hJs⟩⟩
end Go.Proofs.Ytmnmbelmcdfcjaa
