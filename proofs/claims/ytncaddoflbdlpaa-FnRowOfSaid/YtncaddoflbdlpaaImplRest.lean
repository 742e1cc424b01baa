/-
  The program's CellOf and SlopeOf: for every argument what they hand back.
-/
import Derived.Test.YtncaddoflbdlpaaImplRow
import Derived.Test.YtncaddoflbdlpaaSpecRest
namespace Go.Proofs.Ytncaddoflbdlpaa
open Go.RowKit Go.Shelf
attribute [local go_sem] Oper.semAt_some

theorem cellAt_row (g j N p : Nat) (w : World) (hN : j + 1 ≤ N) (h : RowAt w g N (fun i => (bin j i : Int))) : Calls Try.prog 38 #[.slice (some ⟨g, 0, none⟩) (j + 1) N, .int .i64 p] w fun e w' => e = .returned (.int .i64 (bin j p)) ∧ w = w' := by
  by_cases hp : p < j + 1
  · exact cellAt_in g (j + 1) N p _ w hp (h.cell (by omega))
  · rw [bin_over j p (by omega)]; exact cellAt_out _ _ _ _ _ (.inr (by omega))

theorem implCell (row place : Int) (w : World) : Calls Try.prog 19 #[.int .i64 row, .int .i64 place] w fun e w' =>
    e = .returned (.int .i64 (cellV row place)) ∧ Below w.heap.size w w' := by
  by_cases h1 : row < 0 ∨ 60 < row
  · have hv := hide (cellV_bad (row := row) (place := place) (by omega))
    go_enter Try.func19, Try.ntmps19
    go_wp2_with (go_at_call 35; refine (within_f _ _ _ (by assumption)).mono ?_; rintro e w' ⟨rfl, rfl⟩)
    go_ret
    exact ⟨ret_int hv.out.symm, Below.refl _ _⟩
  · by_cases h2 : place < 0
    · have hv := hide (cellV_bad (row := row) (place := place) (by omega))
      have h1a : 0 ≤ row := by omega
      have h1b : row ≤ 60 := by omega
      clear h1
      go_enter Try.func19, Try.ntmps19
      go_wp2_with (go_at_call 35; refine (within_t _ _ _ (by assumption) (by assumption)).mono ?_; rintro e w' ⟨rfl, rfl⟩)
      go_ret
      exact ⟨ret_int hv.out.symm, Below.refl _ _⟩
    · obtain ⟨r, rfl⟩ : ∃ r : Nat, row = r := ⟨row.toNat, by omega⟩
      obtain ⟨k, rfl⟩ : ∃ k : Nat, place = k := ⟨place.toNat, by omega⟩
      have h6 : r ≤ 60 := by omega
      have hv := hide (cellV_nat (k := k) h6)
      have h1a : (0 : Int) ≤ r := by omega
      have h1b : (r : Int) ≤ 60 := by omega
      clear h1
      go_enter Try.func19, Try.ntmps19
      go_wp2_with (first | (go_at_call 35; refine (within_t _ _ _ (by assumption) (by assumption)).mono ?_; rintro e w' ⟨rfl, rfl⟩) | (go_at_call 14; refine (implRow_in _ (by assumption) _).mono ?_; rintro e w1 ⟨v, rfl, hown, hB⟩; obtain ⟨g, cap, rfl, hg1, hg2, hg3, hcells⟩ := owns_open hown (by omega); have hC : Calls Try.prog 38 #[.slice (some ⟨g, 0, none⟩) (r + 1) cap, .int .i64 k] w1 (fun e w' => e = .returned (.int .i64 (bin r k)) ∧ w1 = w') := (by by_cases hp : k < r + 1; exact cellAt_in g (r + 1) cap k _ w1 hp (hcells k _ (by rw [List.getElem?_map, rowN, List.getElem?_map, List.getElem?_range hp]; rfl)); rw [bin_over r k (by omega)]; exact cellAt_out _ _ _ _ _ (.inr (by omega))); clear hcells) | (go_at_call 38; refine hC.mono ?_; clear hC; rintro e w2 ⟨rfl, rfl⟩))
      go_ret
      exact ⟨ret_int hv.out.symm, hB⟩

theorem implSlope_bad (row place : Int) (w : World) (h : row < 0 ∨ 59 < row ∨ place < 0 ∨ 60 < place) : Calls Try.prog 22 #[.int .i64 row, .int .i64 place] w fun e w' =>
    e = .returned (.int .i64 (-1)) ∧ Below w.heap.size w w' := by
  by_cases h1 : row < 0 ∨ 59 < row
  all_goals
    go_enter Try.func22, Try.ntmps22
    go_wp2_with (first | (go_at_call 35; refine (within_t _ _ _ (by omega) (by omega)).mono ?_; rintro e w' ⟨rfl, rfl⟩) | (go_at_call 35; refine (within_f _ _ _ (by omega)).mono ?_; rintro e w' ⟨rfl, rfl⟩))
    go_ret
    exact ⟨rfl, (Below.refl _ _).alloc (Nat.le_refl _) _⟩

set_option maxRecDepth 100000 in
set_option maxHeartbeats 1000000 in
theorem implSlope_ok (r p : Nat) (hr : r ≤ 59) (hp : p ≤ 60) (w : World) : Calls Try.prog 22 #[.int .i64 r, .int .i64 p] w fun e w' =>
    e = .returned (.int .i64 (bin (r + 1) (p + 1))) ∧ Below w.heap.size w w' := by
  refine (callsIn_wide (n := 9)).1 ?_
  refine callsIn_of_wp_marks Try.func22 rfl trivial ?_ rfl
  simp only [Try.ntmps22, List.size_toArray, List.length_cons, List.length_nil, Nat.reduceAdd, Nat.reduceSub, Array.replicate_succ, Array.replicate_zero, List.push_toArray, List.append_toArray, List.nil_append, List.cons_append]
  gi_wp2_with (first | (refine ⟨trivial, ?_⟩; gi_at_call 35; refine (callsIn_wide.2 (within_t _ _ _ (by omega) (by omega))).mono ?_; rintro e w' ⟨rfl, rfl⟩) | (refine ⟨trivial, ?_⟩; gi_at_call 36; refine (callsIn_wide.2 (rowsTo_in _ _)).mono ?_; rintro e w' ⟨rfl, rfl⟩))
  obtain ⟨W0, hW0⟩ : ∃ W0, (((w.alloc (Obj.cells #[Value.int IntKind.i64 ↑p] 3)).alloc (Obj.cells #[Value.int IntKind.i64 0] 3)).alloc (Obj.cells #[Value.int IntKind.i64 ↑r] 3)) = W0 := ⟨_, rfl⟩
  have hsz1 : W0.heap.size ≤ w.heap.size + 3 := by rw [← hW0]; simp
  have hsz2 : w.heap.size + 3 ≤ W0.heap.size := by rw [← hW0]; simp
  have hbp : Boxed W0 w.heap.size 3 (.int .i64 p) := by rw [← hW0]; exact ((Boxed.new w _ _).alloc _).alloc _
  have hbs : Boxed W0 (w.heap.size + 1) 3 (.int .i64 0) := by rw [← hW0]; have := Boxed.new (w.alloc (Obj.cells #[Value.int IntKind.i64 ↑p] 3)) 3 (.int .i64 0); rw [World.size_alloc] at this; exact this.alloc _
  have hbx : Boxed W0 (w.heap.size + 1 + 1) 3 (.int .i64 r) := by rw [← hW0]; have := Boxed.new ((w.alloc (Obj.cells #[Value.int IntKind.i64 ↑p] 3)).alloc (Obj.cells #[Value.int IntKind.i64 0] 3)) 3 (.int .i64 r); rwa [World.size_alloc, World.size_alloc] at this
  have hbel : Below w.heap.size w W0 := by rw [← hW0]; exact (((Below.refl _ w).alloc (Nat.le_refl _) _).alloc (by simp) _).alloc (by simp; omega) _
  rw [hW0]
  clear hW0
  refine wpIn_rangeFunc_mem rfl (by omega) (gf := 41) (lb := #[.pointer (some ⟨w.heap.size + 1 + 1, 0, none⟩)]) rfl trivial (enters_of Try.func41 (by kernel_rfl) rfl)
    (rows_stops (9 - 1) (w.heap.size + 1 + 1) r (by omega) (by omega) W0 (by omega) hbx.cell) (fun _ _ => rfl) (by omega)
    (fun pre x W o h => ⟨h.1, h.2.1, h.2.2.of_block (World.putObj_heap_other (by omega))⟩) (fun xs W o h => ⟨h.1, h.2.of_block (World.putObj_heap_other (by omega))⟩)
    (fun pre W o h => by obtain ⟨j, h1, h2, h3⟩ := h; exact ⟨j, h1, h2, h3.of_block (World.putObj_heap_other (by omega))⟩)
    (fun pre W => Boxed W w.heap.size 3 (.int .i64 p) ∧ Boxed W (w.heap.size + 1) 3 (.int .i64 (bin pre.length (p + 1))) ∧ Below w.heap.size w W) (fun _ _ _ => False)
    (fun s A B row hs hg hr => ⟨hs.1.kept hg (fun e => by have := hr _ e.symm; omega), hs.2.1.kept hg (fun e => by have := hr _ e.symm; omega), hs.2.2.grown hg hs.2.2.size (fun k e => by have := hr _ e; omega)⟩)
    (fun _ _ _ _ _ hs _ _ => hs) ⟨hbp, hbs, hbel⟩
    (fun x => { tmps := #[.int .i64 r, .int .i64 p, undef, .pointer (some ⟨w.heap.size, 0, none⟩), .int .i64 0, .pointer (some ⟨w.heap.size + 1, 0, none⟩), .slice (some ⟨W0.heap.size + 2, 0, none⟩) (x + 1) (r + 1), .int .i64 r, .bool true, .bool false, .bool false, .int .i64 p, .bool true, .bool false, .bool false, .int .i64 r, .func (.func 41) #[] #[.pointer (some ⟨w.heap.size + 1 + 1, 0, none⟩)], .slice (some ⟨W0.heap.size + 2, 0, none⟩) (x + 1) (r + 1), undef, undef, undef, undef, undef, undef], defers := [] }) ?assign ?body ?done ?stop
  case assign =>
    intro l x W K hK
    gi_wp2
    exact hK
  case body =>
    rintro l pre x W hlt ⟨hb1, hb2, hB⟩ ⟨hpre, hx, hrow⟩
    rw [show pre.length = x by rw [hpre]; simp] at hb2
    have hlen := hide (show (pre ++ [x]).length = x + 1 by rw [hpre]; simp)
    clear hpre
    have hc1 := hb1.cell
    have hc2 := hb2.cell
    have hf := hb2.frozen
    have hs1 := bin_small x (p + 1) (by omega)
    have hs2 := bin_small x p (by omega)
    have hw : IntKind.i64.wrap ((bin x (p + 1) : Int) + bin x p) = bin x (p + 1) + bin x p := IntWalk.i64_in _ (by omega)
    have hmo : Try.prog.follows .mixedOrders = true := by kernel_rfl
    gi_wp2
    gi_region_with_o (refine ⟨trivial, ?_⟩; gi_at_call 38; refine (CallsIn.inRound l (callsIn_wide.2 (cellAt_row _ _ _ _ W.drew (by omega) (hrow.of_block rfl)))).mono ?_; rintro e w' ⟨rfl, rfl⟩)
    all_goals
      gi_wp2
      refine ⟨(KeepsSet.setCell _ _ _ (by omega)).trans (KeepsSet.drew _ _), hb1.other (by omega) _, ?_, (hB.setCell (p := ⟨w.heap.size + 1, 0, none⟩) (by show w.heap.size ≤ w.heap.size + 1; omega) _).drew⟩
      rw [hlen.out, bin_succ, show ((bin x p + bin x (p + 1) : Nat) : Int) = (bin x (p + 1) : Int) + bin x p by omega]
      exact hb2.set _
  case done =>
    rintro ys W ⟨rfl, hrow⟩ ⟨hb1, hb2, hB⟩ hK
    rw [show (List.range (r + 1)).length = r + 1 by simp] at hb2
    have hc := hb2.cell
    gi_wp2
    refine ⟨by simp, .inl ⟨_, _, rfl, run_takeDeferred hK, ?_⟩⟩
    refine ⟨_, results_tmp rfl _ _ _, rfl, ?_⟩
    exact hB.grown (grownBy_putObj' W _ _) hB.size (fun k e => by cases e; omega)
  case stop =>
    rintro c pre W _ h _
    exact h.elim
end Go.Proofs.Ytncaddoflbdlpaa
