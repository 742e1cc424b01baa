/-
  lastRow: the last one of the rows that rowsTo hands out, folded.
-/
import Derived.Test.YtenkodofhacglaaImplRow
namespace Go.Proofs.Ytenkodofhacglaa
open Go.RowKit Go.Shelf
attribute [local go_sem] Oper.semAt_some

theorem second_in (u v : Value) (w : World) : Calls Try.prog 54 #[u, v] w fun e w' => e = .returned v ∧ w = w' := by
  go_enter Try.func54, Try.ntmps54
  go_wp2
  go_ret
  exact ⟨rfl, rfl⟩

set_option maxRecDepth 100000 in
set_option maxHeartbeats 1000000 in
theorem foldRows_in (r B : Nat) (hr : r ≤ 60) (w : World) (hB0 : B < w.heap.size) (hc0 : w.cell? ⟨B, 0, none⟩ = some (.int .i64 r)) :
    Calls Try.prog 52 #[.func (.func 59) #[] #[.pointer (some ⟨B, 0, none⟩)], .slice none 0 0, .func (.func 54) #[] #[]] w fun e w' =>
      ∃ g, e = .returned (.slice (some ⟨g, 0, none⟩) (r + 1) (r + 1)) ∧ RowAt w' g (r + 1) (fun i => (bin r i : Int)) ∧ w.heap.size ≤ g ∧ Below w.heap.size w w' := by
  refine (callsIn_wide (n := 9)).1 ?_
  refine callsIn_of_wp_marks Try.func52 rfl trivial ?_ rfl
  simp only [Try.ntmps52, List.size_toArray, List.length_cons, List.length_nil, Nat.reduceAdd, Nat.reduceSub, Array.replicate_succ, Array.replicate_zero, List.push_toArray, List.append_toArray, List.nil_append, List.cons_append]
  gi_wp2
  obtain ⟨W0, hW0⟩ : ∃ W0, ((w.alloc (Obj.cells #[Value.slice none 0 0] 27)).alloc (Obj.cells #[Value.func (.func 54) #[] #[]] 56)) = W0 := ⟨_, rfl⟩
  have hsz1 : W0.heap.size ≤ w.heap.size + 2 := by rw [← hW0]; simp
  have hsz2 : w.heap.size + 2 ≤ W0.heap.size := by rw [← hW0]; simp
  have hbs : Boxed W0 w.heap.size 27 (.slice none 0 0) := by rw [← hW0]; exact (Boxed.new w _ _).alloc _
  have hbj : Boxed W0 (w.heap.size + 1) 56 (.func (.func 54) #[] #[]) := by rw [← hW0]; have := Boxed.new (w.alloc (Obj.cells #[Value.slice none 0 0] 27)) 56 (.func (.func 54) #[] #[]); rwa [World.size_alloc] at this
  have hbel : Below w.heap.size w W0 := by rw [← hW0]; exact ((Below.refl _ w).alloc (Nat.le_refl _) _).alloc (by simp) _
  rw [hW0]
  clear hW0
  refine wpIn_rangeFunc_mem rfl (by omega) (gf := 59) (lb := #[.pointer (some ⟨B, 0, none⟩)]) rfl trivial (enters_of Try.func59 (by kernel_rfl) rfl)
    (rows_stops (9 - 1) B r hr (by omega) W0 (by omega) ((hbel.cell (p := ⟨B, 0, none⟩) hB0).trans hc0)) (fun _ _ => rfl) (by omega)
    (fun pre x W o h => ⟨h.1, h.2.1, h.2.2.of_block (World.putObj_heap_other (by omega))⟩) (fun xs W o h => ⟨h.1, h.2.of_block (World.putObj_heap_other (by omega))⟩)
    (fun pre W o h => by obtain ⟨j, h1, h2, h3⟩ := h; exact ⟨j, h1, h2, h3.of_block (World.putObj_heap_other (by omega))⟩)
    (fun pre W => Boxed W w.heap.size 27 (lastV (W0.heap.size + 2) pre.length (r + 1)) ∧ Boxed W (w.heap.size + 1) 56 (.func (.func 54) #[] #[]) ∧ Below w.heap.size w W) (fun _ _ _ => False)
    (fun s A B row hs hg hr => ⟨hs.1.kept hg (fun e => by have := hr _ e.symm; omega), hs.2.1.kept hg (fun e => by have := hr _ e.symm; omega), hs.2.2.grown hg hs.2.2.size (fun k e => by have := hr _ e; omega)⟩)
    (fun _ _ _ _ _ hs _ _ => hs) ⟨hbs, hbj, hbel⟩
    (fun x => { tmps := #[.func (.func 59) #[] #[.pointer (some ⟨B, 0, none⟩)], .slice none 0 0, .func (.func 54) #[] #[], undef, .pointer (some ⟨w.heap.size, 0, none⟩), .pointer (some ⟨w.heap.size + 1, 0, none⟩), .slice none 0 0, .slice (some ⟨W0.heap.size + 2, 0, none⟩) (x + 1) (r + 1), .func (.func 59) #[] #[.pointer (some ⟨B, 0, none⟩)], .slice (some ⟨W0.heap.size + 2, 0, none⟩) (x + 1) (r + 1), undef, undef, undef, undef, undef], defers := [] }) ?assign ?body ?done ?stop
  case assign =>
    intro l x W K hK
    gi_wp2
    exact hK
  case body =>
    rintro l pre x W hlt ⟨hb, hbjj, hB⟩ ⟨hpre, hx, hrow⟩
    have hc := hb.cell
    have hf := hb.frozen
    have hcj := hbjj.cell
    gi_wp2_with (refine ⟨trivial, ?_⟩; gi_at_call 54; refine (callsIn_wide.2 (second_in _ _ _)).mono ?_; rintro e w1 ⟨rfl, rfl⟩)
    refine ⟨KeepsSet.setCell _ _ _ (by omega), ?_, hbjj.other (by omega) _, hB.setCell (p := ⟨w.heap.size, 0, none⟩) (Nat.le_refl _) _⟩
    have := hb.set (.slice (some ⟨W0.heap.size + 2, 0, none⟩) (x + 1) (r + 1))
    rw [show lastV (W0.heap.size + 2) (pre ++ [x]).length (r + 1) = .slice (some ⟨W0.heap.size + 2, 0, none⟩) (x + 1) (r + 1) by subst hpre; simp [lastV]]
    exact this
  case done =>
    rintro ys W ⟨rfl, hrow⟩ ⟨hb, hbjj, hB⟩ hK
    rw [show lastV (W0.heap.size + 2) (List.range (r + 1)).length (r + 1) = .slice (some ⟨W0.heap.size + 2, 0, none⟩) (r + 1) (r + 1) by simp [lastV]] at hb
    have hc := hb.cell
    gi_wp2
    refine ⟨by simp, .inl ⟨_, _, rfl, run_takeDeferred hK, ?_⟩⟩
    refine ⟨_, results_tmp rfl _ _ _, W0.heap.size + 2, rfl, hrow.of_block (World.putObj_heap_other (by omega)), by omega, ?_⟩
    exact hB.grown (grownBy_putObj' W _ _) hB.size (fun k e => by cases e; omega)
  case stop =>
    rintro c pre W _ h _
    exact h.elim

set_option maxHeartbeats 1000000 in
theorem lastRow_in (r : Nat) (hr : r ≤ 60) (w : World) : Calls Try.prog 38 #[.int .i64 r] w fun e w' =>
    ∃ g, e = .returned (.slice (some ⟨g, 0, none⟩) (r + 1) (r + 1)) ∧ RowAt w' g (r + 1) (fun i => (bin r i : Int)) ∧ Below w.heap.size w w' := by
  have hF : Calls Try.prog 52 #[.func (.func 59) #[] #[.pointer (some ⟨w.heap.size, 0, none⟩)], .slice none 0 0, .func (.func 54) #[] #[]] (w.alloc (.cells #[.int .i64 r] 3)) fun e w' =>
      ∃ g, e = .returned (.slice (some ⟨g, 0, none⟩) (r + 1) (r + 1)) ∧ RowAt w' g (r + 1) (fun i => (bin r i : Int)) ∧ Below w.heap.size w w' :=
    (foldRows_in r w.heap.size hr _ (by simp) (Boxed.new w 3 (.int .i64 r)).cell).mono fun e w' ⟨g, h1, h2, _, h4⟩ =>
      ⟨g, h1, h2, ((Below.refl _ w).alloc (Nat.le_refl _) _).trans (h4.mono (by simp))⟩
  go_enter Try.func38, Try.ntmps38
  go_wp2_with (first | (go_at_call 53; refine (rowsTo_in _ _).mono ?_; rintro e w' ⟨rfl, rfl⟩) | (go_at_call 52; refine hF.mono ?_; rintro e w2 ⟨g, rfl, hrow, hB⟩))
  go_ret
  exact ⟨g, rfl, hrow, hB⟩
end Go.Proofs.Ytenkodofhacglaa
