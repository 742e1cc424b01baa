/-
  The program's RowOf and CellOf: for every argument what they hand back.
-/
import Derived.Test.YtghfmoanpgaijaaDoorIter
import Derived.Test.YtghfmoanpgaijaaDoorMathZ
namespace Go.Proofs.YtghfmoanpgaijaaDoor
open Go.RowKit Go.Shelf
attribute [local go_sem] Oper.semAt_some

theorem rowsTo_in (L : Int) (w : World) : Calls Tryd.prog 58 #[.int .i64 L] w fun e w' => e = .returned (.func (.func 64) #[] #[.pointer (some ⟨w.heap.size, 0, none⟩)]) ∧ w.alloc (.cells #[.int .i64 L] 3) = w' := by
  have hmf : ∀ (fn : Fn) (first cap : Array Value) (w : World), (Instr.makeFunc fn first cap).run Tryd.prog w = .ok (.func fn first cap) w := fun _ _ _ _ => rfl
  go_enter Tryd.func58, Tryd.ntmps58
  go_wp2
  go_ret
  exact ⟨rfl, rfl⟩

theorem implRow_out (row : Int) (h : row < 0 ∨ 60 < row) (w : World) : Calls Tryd.prog 49 #[.int .i64 row] w fun e w' => e = .returned (.slice none 0 0) ∧ w = w' := by
  go_enter Tryd.func49, Tryd.ntmps49
  go_wp2_with (go_at_call 31; refine (within_f _ _ _ (by omega)).mono ?_; rintro e w' ⟨rfl, rfl⟩)
  go_ret
  exact ⟨rfl, rfl⟩

/-- What the variable 'last' holds when k rows have come. -/
def lastV (g k N : Nat) : Value := if k = 0 then .slice none 0 0 else .slice (some ⟨g, 0, none⟩) k N

set_option maxRecDepth 100000 in
set_option maxHeartbeats 1000000 in
theorem implRow_in (r : Nat) (hr : r ≤ 60) (w : World) : Calls Tryd.prog 49 #[.int .i64 r] w fun e w' =>
    ∃ v, e = .returned v ∧ w'.ownsRow w.heap.size 3 1 v (r + 1) ((rowN r).map (Value.int .i64)) ∧ Below w.heap.size w w' := by
  refine (callsIn_wide (n := 9)).1 ?_
  refine callsIn_of_wp_marks Tryd.func49 rfl trivial ?_ rfl
  simp only [Tryd.ntmps49, List.size_toArray, List.length_cons, List.length_nil, Nat.reduceAdd, Nat.reduceSub, Array.replicate_succ, Array.replicate_zero, List.push_toArray, List.append_toArray, List.nil_append, List.cons_append]
  gi_wp2_with (first | (refine ⟨trivial, ?_⟩; gi_at_call 31; refine (callsIn_wide.2 (within_t _ _ _ (by omega) (by omega))).mono ?_; rintro e w' ⟨rfl, rfl⟩) | (refine ⟨trivial, ?_⟩; gi_at_call 58; refine (callsIn_wide.2 (rowsTo_in _ _)).mono ?_; rintro e w' ⟨rfl, rfl⟩))
  obtain ⟨W0, hW0⟩ : ∃ W0, ((w.alloc (Obj.cells #[Value.slice none 0 0] 51)).alloc (Obj.cells #[Value.int IntKind.i64 ↑r] 3)) = W0 := ⟨_, rfl⟩
  have hsz1 : W0.heap.size ≤ w.heap.size + 2 := by rw [← hW0]; simp
  have hsz2 : w.heap.size + 2 ≤ W0.heap.size := by rw [← hW0]; simp
  have hbox : Boxed W0 w.heap.size 51 (.slice none 0 0) := by rw [← hW0]; exact (Boxed.new w _ _).alloc _
  have hbx : Boxed W0 (w.heap.size + 1) 3 (.int .i64 r) := by rw [← hW0]; have := Boxed.new (w.alloc (Obj.cells #[Value.slice none 0 0] 51)) 3 (.int .i64 r); rwa [World.size_alloc] at this
  have hbel : Below w.heap.size w W0 := by rw [← hW0]; exact ((Below.refl _ w).alloc (Nat.le_refl _) _).alloc (by simp) _
  rw [hW0]
  clear hW0
  refine wpIn_rangeFunc_mem rfl (by omega) (gf := 64) (lb := #[.pointer (some ⟨w.heap.size + 1, 0, none⟩)]) rfl trivial (enters_of Tryd.func64 (by kernel_rfl) rfl)
    (rows_stops (9 - 1) (w.heap.size + 1) r hr (by omega) W0 (by omega) hbx.cell) (fun _ _ => rfl) (by omega)
    (fun pre x W o h => ⟨h.1, h.2.1, h.2.2.of_block (World.putObj_heap_other (by omega))⟩) (fun xs W o h => ⟨h.1, h.2.of_block (World.putObj_heap_other (by omega))⟩)
    (fun pre W o h => by obtain ⟨j, h1, h2, h3⟩ := h; exact ⟨j, h1, h2, h3.of_block (World.putObj_heap_other (by omega))⟩)
    (fun pre W => Boxed W w.heap.size 51 (lastV (W0.heap.size + 2) pre.length (r + 1)) ∧ Below w.heap.size w W) (fun _ _ _ => False)
    (fun s A B row hs hg hr => ⟨hs.1.kept hg (fun e => by have := hr _ e.symm; omega), hs.2.grown hg hs.2.size (fun k e => by have := hr _ e; omega)⟩)
    (fun _ _ _ _ _ hs _ _ => hs) ⟨hbox, hbel⟩
    (fun x => { tmps := #[.int .i64 r, undef, .slice none 0 0, .pointer (some ⟨w.heap.size, 0, none⟩), .slice (some ⟨W0.heap.size + 2, 0, none⟩) (x + 1) (r + 1), .int .i64 r, .bool true, .bool false, .int .i64 r, .func (.func 64) #[] #[.pointer (some ⟨w.heap.size + 1, 0, none⟩)], .slice (some ⟨W0.heap.size + 2, 0, none⟩) (x + 1) (r + 1), undef, undef, undef], defers := [] }) ?assign ?body ?done ?stop
  case assign =>
    intro l x W K hK
    gi_wp2
    exact hK
  case body =>
    rintro l pre x W hlt ⟨hb, hB⟩ ⟨hpre, hx, hrow⟩
    have hc := hb.cell
    have hf := hb.frozen
    gi_wp2
    refine ⟨KeepsSet.setCell _ _ _ (by omega), ?_, hB.setCell (p := ⟨w.heap.size, 0, none⟩) (Nat.le_refl _) _⟩
    have := hb.set (.slice (some ⟨W0.heap.size + 2, 0, none⟩) (x + 1) (r + 1))
    rw [show lastV (W0.heap.size + 2) (pre ++ [x]).length (r + 1) = .slice (some ⟨W0.heap.size + 2, 0, none⟩) (x + 1) (r + 1) by subst hpre; simp [lastV]]
    exact this
  case done =>
    rintro ys W ⟨rfl, hrow⟩ ⟨hb, hB⟩ hK
    rw [show lastV (W0.heap.size + 2) (List.range (r + 1)).length (r + 1) = .slice (some ⟨W0.heap.size + 2, 0, none⟩) (r + 1) (r + 1) by simp [lastV]] at hb
    have hc := hb.cell
    have hcl := clone_in (W0.heap.size + 2) (r + 1) (r + 1) (rowN r) W (rowN_len r) (by omega) (fun k u hu => by
      rw [List.getElem?_map, rowN, List.getElem?_map] at hu
      by_cases hk : k < r + 1
      · rw [List.getElem?_range hk] at hu
        simp only [Option.map_some, Option.some.injEq] at hu
        rw [← hu]; exact hrow.cell hk
      · rw [List.getElem?_eq_none (by simp; omega)] at hu; cases hu)
    gi_wp2_with (refine ⟨trivial, ?_⟩; gi_at_call 59; refine (callsIn_wide.2 hcl).mono ?_; clear hcl; rintro e W5 ⟨v, rfl, hown, hB5⟩)
    have hDW : W0.heap.size < W.heap.size := (Array.getElem?_eq_some_iff.1 hK).1
    have hK5 := (hB5.block _ hDW).trans hK
    refine ⟨by simp, .inl ⟨_, _, rfl, run_takeDeferred hK5, ?_⟩⟩
    refine ⟨_, results_tmp rfl _ _ _, v, rfl, owns_from (ownsRow_putObj hown _ hK5 rfl) hB.size, ?_⟩
    refine (hB.trans (hB5.mono hB.size)).grown (grownBy_putObj' W5 _ _) ?_ (fun k e => by cases e; omega)
    exact Nat.le_trans hB.size hB5.size
  case stop =>
    rintro c pre W _ h _
    exact h.elim
end Go.Proofs.YtghfmoanpgaijaaDoor
