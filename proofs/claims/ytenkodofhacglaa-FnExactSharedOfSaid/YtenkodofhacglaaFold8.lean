/-
  Iterators over numbers (numbersTo, slices.Values), and the generic function that folds what they hand out.
-/
import Derived.Test.YtenkodofhacglaaSmall8
import Derived.Test.YtenkodofhacglaaRange
import Derived.Test.YtenkodofhacglaaImplRow
namespace Go.Proofs.Ytenkodofhacglaa
open Go.RowKit Go.Shelf
attribute [local go_sem] Oper.semAt_some

/-- What is known while an iterator hands out the numbers f 0, f 1, .. -/
def NumHd (n : Nat) (_n0 : Nat) (pre : List Nat) (x : Nat) (_W : World) : Prop := pre = List.range x ∧ x < n
def NumS (n : Nat) (_n0 : Nat) (xs : List Nat) (_W : World) : Prop := xs = List.range n

set_option maxRecDepth 100000 in
set_option maxHeartbeats 1000000 in
theorem numbers_stops (n B N : Nat) (hN : N ≤ 1000000) (hn : 1 ≤ n) (w : World) (hB : B < w.heap.size) (hc : w.cell? ⟨B, 0, none⟩ = some (.int .i64 N)) :
    SeqMem Fence.wide n Try.prog 56 #[.pointer (some ⟨B, 0, none⟩)] 0 (fun _ (j : Nat) => #[.int .i64 ((j : Int) + 1)])
      (NumHd N) (fun _ k => k = B) (NumS N) (fun _ _ _ => True) w := by
  intro l J Jx W hW hJ hJx hY h0
  have hc' := (hW.cell (p := ⟨B, 0, none⟩) hB).trans hc
  have hBW : B < W.heap.size := Nat.lt_of_lt_of_le hB hW.size
  refine callsIn_of_wp Try.func56 rfl trivial ?_ rfl
  simp only [Try.ntmps56, List.size_toArray, List.length_cons, List.length_nil, Nat.reduceAdd, Nat.reduceSub, Array.replicate_succ, Array.replicate_zero, List.push_toArray, List.append_toArray, List.nil_append, List.cons_append]
  gi_wp2
  clear hc
  gi_loopw [3] (fun i wr => ∃ j : Nat, j ≤ N ∧ i = .int .i64 ((j : Int) + 1) ∧ J (List.range j) wr ∧ B < wr.heap.size ∧ wr.cell? ⟨B, 0, none⟩ = some (.int .i64 N)) (fun i _ => N + 1 - (intOf i).toNat)
  case atStart => exact ⟨0, by omega, rfl, h0, hBW, hc'⟩
  case round =>
    clear hc' h0
    obtain ⟨j, hj, rfl, hJs, hBr, hcr⟩ := hrel
    by_cases hlt : j < N
    · have hi1 : (j : Int) + 1 ≤ (N : Int) := by omega
      obtain ⟨fn, tmps, assign, body, hy, hR⟩ := hY _ j wr hJs ⟨rfl, hlt⟩
      clear hY
      gi_wp2
      refine hR.mono ?_
      rintro e W3 (⟨rfl, hJ3, hk3⟩ | ⟨rfl, hJx3, hk3⟩)
      · have hc3 : W3.cell? ⟨B, 0, none⟩ = some (.int .i64 N) := (World.cell?_of_block (a := ⟨B, 0, none⟩) (hk3.same B hBr rfl)).trans hcr
        gi_wp2
        go_roundw
        case rel => exact ⟨j + 1, by omega, by go_num, by rw [List.range_succ]; exact hJ3, Nat.lt_of_lt_of_le hBr hk3.size, hc3⟩
        case measure => simp [intOf]; omega
      · gi_wp2
        refine bodyPost_ret (results_none rfl _ _ _) rfl ?_
        exact ⟨⟨_, rfl⟩, .inr ⟨_, trivial, hJx3⟩⟩
    · obtain rfl : j = N := by omega
      have hi1 : ¬ (j : Int) + 1 ≤ (j : Int) := by omega
      gi_wp2
      go_end0
      exact ⟨⟨_, rfl⟩, .inl ⟨_, rfl, hJs⟩⟩

set_option maxRecDepth 100000 in
set_option maxHeartbeats 1000000 in
theorem vals_stops (n B g off L cap : Nat) (f : Nat → Int) (hL : L ≤ 1000000) (hn : 1 ≤ n) (w : World) (hB : B < w.heap.size) (hg : g < w.heap.size)
    (hc : w.cell? ⟨B, 0, none⟩ = some (.slice (some ⟨g, off, none⟩) L cap)) (hv : ∀ i, i < L → w.cell? ⟨g, off + i, none⟩ = some (.int .i64 (f i))) :
    SeqMem Fence.wide n Try.prog 55 #[.pointer (some ⟨B, 0, none⟩)] 0 (fun _ (j : Nat) => #[.int .i64 (f j)])
      (NumHd L) (fun _ k => k = g) (NumS L) (fun _ _ _ => True) w := by
  intro l J Jx W hW hJ hJx hY h0
  have hc' := (hW.cell (p := ⟨B, 0, none⟩) hB).trans hc
  have hv' : ∀ i, i < L → W.cell? ⟨g, off + i, none⟩ = some (.int .i64 (f i)) := fun i hi => (hW.cell (p := ⟨g, off + i, none⟩) hg).trans (hv i hi)
  have hgW : g < W.heap.size := Nat.lt_of_lt_of_le hg hW.size
  clear hc hv
  refine callsIn_of_wp Try.func55 rfl trivial ?_ rfl
  simp only [Try.ntmps55, List.size_toArray, List.length_cons, List.length_nil, Nat.reduceAdd, Nat.reduceSub, Array.replicate_succ, Array.replicate_zero, List.push_toArray, List.append_toArray, List.nil_append, List.cons_append]
  gi_wp2
  clear hc'
  gi_loopw [7] (fun i wr => ∃ j : Nat, j ≤ L ∧ i = .int .i64 (j : Int) ∧ J (List.range j) wr ∧ g < wr.heap.size ∧ ∀ i, i < L → wr.cell? ⟨g, off + i, none⟩ = some (.int .i64 (f i))) (fun i _ => L - (intOf i).toNat)
  case atStart => exact ⟨0, by omega, rfl, h0, hgW, hv'⟩
  case round =>
    clear hv' h0
    obtain ⟨j, hj, rfl, hJs, hgr, hvr⟩ := hrel
    by_cases hlt : j < L
    · have hi1 : (j : Int) < (L : Int) := by omega
      have hcj := hvr j hlt
      obtain ⟨z, hz⟩ : ∃ z, f j = z := ⟨_, rfl⟩
      obtain ⟨fn, tmps, assign, body, hy, hR⟩ := hY _ j wr hJs ⟨rfl, hlt⟩
      rw [hz] at hcj hy
      clear hY
      gi_wp2
      refine hR.mono ?_
      rintro e W3 (⟨rfl, hJ3, hk3⟩ | ⟨rfl, hJx3, hk3⟩)
      · have hc3 : ∀ i, i < L → W3.cell? ⟨g, off + i, none⟩ = some (.int .i64 (f i)) := fun i hi => (World.cell?_of_block (a := ⟨g, off + i, none⟩) (hk3.same g hgr rfl)).trans (hvr i hi)
        clear hvr hcj
        gi_wp2
        go_roundw
        case rel => exact ⟨j + 1, by omega, by go_num, by rw [List.range_succ]; exact hJ3, Nat.lt_of_lt_of_le hgr hk3.size, hc3⟩
        case measure => simp [intOf]; omega
      · gi_wp2
        refine bodyPost_ret (results_none rfl _ _ _) rfl ?_
        exact ⟨⟨_, rfl⟩, .inr ⟨_, trivial, hJx3⟩⟩
    · obtain rfl : j = L := by omega
      have hi1 : ¬ (j : Int) < (j : Int) := by omega
      clear hvr
      gi_wp2
      go_end0
      exact ⟨⟨_, rfl⟩, .inl ⟨_, rfl, hJs⟩⟩

set_option maxRecDepth 100000 in
set_option maxHeartbeats 1000000 in
theorem fold_in (gf jf n : Nat) (hjf : jf = 51 ∨ jf = 44 ∨ jf = 58) (lb : Array Value) (f g : Nat → Int) (K : Nat → Nat → Prop) (w : World)
    (eg : ∀ args w, (callFunc gf args).run Try.prog w = .ok (.enter gf args) w)
    (hseq : ∀ W, Below w.heap.size w W → SeqMem Fence.wide 8 Try.prog gf lb 0 (fun _ (j : Nat) => #[.int .i64 (f j)]) (NumHd n) K (NumS n) (fun _ _ _ => True) W)
    (hK : ∀ n0 k, K n0 k → k < w.heap.size)
    (hj : ∀ j W, j < n → Calls Try.prog jf #[.int .i64 (g j), .int .i64 (f j)] W fun e W' => e = .returned (.int .i64 (g (j + 1))) ∧ Below W.heap.size W W') :
    Calls Try.prog 42 #[.func (.func gf) #[] lb, .int .i64 (g 0), .func (.func jf) #[] #[]] w fun e w' => e = .returned (.int .i64 (g n)) ∧ Below w.heap.size w w' := by
  refine (callsIn_wide (n := 9)).1 ?_
  refine callsIn_of_wp_marks Try.func42 rfl trivial ?_ rfl
  simp only [Try.ntmps42, List.size_toArray, List.length_cons, List.length_nil, Nat.reduceAdd, Nat.reduceSub, Array.replicate_succ, Array.replicate_zero, List.push_toArray, List.append_toArray, List.nil_append, List.cons_append]
  obtain ⟨g0, hg0⟩ : ∃ g0, g 0 = g0 := ⟨_, rfl⟩
  rw [hg0]
  have hg0' := hide hg0
  clear hg0
  gi_wp2
  obtain ⟨W0, hW0⟩ : ∃ W0, ((w.alloc (Obj.cells #[Value.int IntKind.i64 g0] 3)).alloc (Obj.cells #[Value.func (.func jf) #[] #[]] 33)) = W0 := ⟨_, rfl⟩
  have hsz1 : W0.heap.size ≤ w.heap.size + 2 := by rw [← hW0]; simp
  have hsz2 : w.heap.size + 2 ≤ W0.heap.size := by rw [← hW0]; simp
  have hbs : Boxed W0 w.heap.size 3 (.int .i64 g0) := by rw [← hW0]; exact (Boxed.new w _ _).alloc _
  have hbj : Boxed W0 (w.heap.size + 1) 33 (.func (.func jf) #[] #[]) := by rw [← hW0]; have := Boxed.new (w.alloc (Obj.cells #[Value.int IntKind.i64 g0] 3)) 33 (.func (.func jf) #[] #[]); rwa [World.size_alloc] at this
  have hbel : Below w.heap.size w W0 := by rw [← hW0]; exact ((Below.refl _ w).alloc (Nat.le_refl _) _).alloc (by simp) _
  rw [hW0]
  clear hW0
  refine wpIn_rangeFunc_mem rfl (by omega) (gf := gf) (lb := lb) rfl trivial eg
    (hseq W0 hbel) (fun _ _ => rfl) (fun h => by have := hK _ _ h; omega)
    (fun pre x W o h => h) (fun ys W o h => h) (fun pre W o h => h)
    (fun pre W => Boxed W w.heap.size 3 (.int .i64 (g pre.length)) ∧ Boxed W (w.heap.size + 1) 33 (.func (.func jf) #[] #[]) ∧ Below w.heap.size w W) (fun _ _ _ => False)
    (fun s A B row hs hg hr => ⟨hs.1.kept hg (fun e => by have := hr _ e.symm; omega), hs.2.1.kept hg (fun e => by have := hr _ e.symm; omega), hs.2.2.grown hg hs.2.2.size (fun k e => by have := hr _ e; omega)⟩)
    (fun _ _ _ _ _ hs _ _ => hs) ⟨by rw [List.length_nil, hg0'.out]; exact hbs, hbj, hbel⟩
    (fun x => { tmps := #[.func (.func gf) #[] lb, .int .i64 g0, .func (.func jf) #[] #[], undef, .pointer (some ⟨w.heap.size, 0, none⟩), .pointer (some ⟨w.heap.size + 1, 0, none⟩), .int .i64 0, .int .i64 (f x), .func (.func gf) #[] lb, .int .i64 (f x), undef, undef, undef, undef, undef], defers := [] }) ?assign ?body ?done ?stop
  case assign =>
    intro l x W Q hQ
    gi_wp2
    exact hQ
  case body =>
    rintro l pre x W hlt ⟨hbx, hbjj, hB⟩ ⟨hpre, hx⟩
    have hpl : pre.length = x := by rw [hpre, List.length_range]
    have hpl2 : (pre ++ [x]).length = x + 1 := by rw [List.length_append, hpl]; rfl
    rw [hpl] at hbx
    have hc := hbx.cell
    have hf := hbx.frozen
    have hcj := hbjj.cell
    have hcall := fun W => hj x W hx
    obtain ⟨z, hz⟩ : ∃ z, f x = z := ⟨_, rfl⟩
    obtain ⟨a, ha⟩ : ∃ a, g x = a := ⟨_, rfl⟩
    obtain ⟨b, hb⟩ : ∃ b, g (x + 1) = b := ⟨_, rfl⟩
    rw [hz, ha, hb] at hcall
    rw [ha] at hbx hc
    rw [hz]
    rw [← hpl2] at hb
    have hb' := hide hb
    clear hz ha hb hpl hpl2 hg0'
    rcases hjf with rfl | rfl | rfl
    · gi_wp2_with (refine ⟨trivial, ?_⟩; gi_at_call 51; refine (callsIn_wide.2 (hcall _)).mono ?_; rintro e w1 ⟨rfl, hB1⟩; have hb1 : Boxed w1 w.heap.size 3 (.int .i64 a) := (hB1.block _ hbx.lt).trans hbx; have hc1 := hb1.cell; have hf1 := hb1.frozen)
      refine ⟨(KeepsSet.of_below (hB1.mono (Nat.le_refl _)) (fun k hk => by
        rcases hk with hk | hk | hk
        · omega
        · omega
        · have := hK _ _ hk; have := hB.size; omega)).trans (KeepsSet.setCell _ _ _ (fun h => by
        rcases h with h | h | h
        · omega
        · omega
        · have := hK _ _ h; omega)), ?_, ?_, ?_⟩
      · rw [hb'.out]; exact hb1.set _
      · exact Boxed.other (W := w1) ((hB1.block _ hbjj.lt).trans hbjj) (by omega) _
      · exact (hB.trans (hB1.mono hB.size)).setCell (p := ⟨w.heap.size, 0, none⟩) (Nat.le_refl _) _
    · gi_wp2_with (refine ⟨trivial, ?_⟩; gi_at_call 44; refine (callsIn_wide.2 (hcall _)).mono ?_; rintro e w1 ⟨rfl, hB1⟩; have hb1 : Boxed w1 w.heap.size 3 (.int .i64 a) := (hB1.block _ hbx.lt).trans hbx; have hc1 := hb1.cell; have hf1 := hb1.frozen)
      refine ⟨(KeepsSet.of_below (hB1.mono (Nat.le_refl _)) (fun k hk => by
        rcases hk with hk | hk | hk
        · omega
        · omega
        · have := hK _ _ hk; have := hB.size; omega)).trans (KeepsSet.setCell _ _ _ (fun h => by
        rcases h with h | h | h
        · omega
        · omega
        · have := hK _ _ h; omega)), ?_, ?_, ?_⟩
      · rw [hb'.out]; exact hb1.set _
      · exact Boxed.other (W := w1) ((hB1.block _ hbjj.lt).trans hbjj) (by omega) _
      · exact (hB.trans (hB1.mono hB.size)).setCell (p := ⟨w.heap.size, 0, none⟩) (Nat.le_refl _) _
    · gi_wp2_with (refine ⟨trivial, ?_⟩; gi_at_call 58; refine (callsIn_wide.2 (hcall _)).mono ?_; rintro e w1 ⟨rfl, hB1⟩; have hb1 : Boxed w1 w.heap.size 3 (.int .i64 a) := (hB1.block _ hbx.lt).trans hbx; have hc1 := hb1.cell; have hf1 := hb1.frozen)
      refine ⟨(KeepsSet.of_below (hB1.mono (Nat.le_refl _)) (fun k hk => by
        rcases hk with hk | hk | hk
        · omega
        · omega
        · have := hK _ _ hk; have := hB.size; omega)).trans (KeepsSet.setCell _ _ _ (fun h => by
        rcases h with h | h | h
        · omega
        · omega
        · have := hK _ _ h; omega)), ?_, ?_, ?_⟩
      · rw [hb'.out]; exact hb1.set _
      · exact Boxed.other (W := w1) ((hB1.block _ hbjj.lt).trans hbjj) (by omega) _
      · exact (hB.trans (hB1.mono hB.size)).setCell (p := ⟨w.heap.size, 0, none⟩) (Nat.le_refl _) _
  case done =>
    rintro ys W hys ⟨hbx, hbjj, hB⟩ hK
    obtain rfl : ys = List.range n := hys
    rw [List.length_range] at hbx
    have hc := hbx.cell
    gi_wp2
    refine ⟨by simp, .inl ⟨_, _, rfl, run_takeDeferred hK, ?_⟩⟩
    refine ⟨_, results_tmp rfl _ _ _, rfl, ?_⟩
    exact hB.grown (grownBy_putObj' W _ _) hB.size (fun k e => by cases e; omega)
  case stop =>
    rintro c pre W _ h _
    exact h.elim
end Go.Proofs.Ytenkodofhacglaa
