/-
  The program's CarriesOf and UnderOk: for every argument what they hand back.
-/
import Derived.Test.YtlkcdcmmcjkedaaIter2b
import Derived.Test.YtlkcdcmmcjkedaaImpl2
namespace Go.Proofs.Ytlkcdcmmcjkedaa
open Go.RowKit Go.Shelf
attribute [local go_sem] Oper.semAt_some

theorem boxed_at {W : World} {k : Nat} (t : TypeId) (v : Value) (h : W.heap.size = k) : Boxed (W.alloc (.cells #[v] t)) k t v := h ▸ Boxed.new W t v

theorem results_cell_one {fn : Func} {p : Tmp} {ty : TypeId} (h : fn.results = #[.cell p ty]) (tmps : Array Value) (P : Program) (w : World) :
    (results fn tmps).run P w = ((asAddr (tmps.getD p undef)).run P w).andThen fun a w₁ => (loadVar ty a).run P w₁ := by
  simp only [results, h]
  simp [Sem.run_bind, Result.andThen]

theorem results_cell_bool {fn : Func} {p : Tmp} (h : fn.results = #[.cell p 4]) (tmps : Array Value) (w : World) (B : Nat) (v : Bool) (hp : tmps.getD p undef = .pointer (some ⟨B, 0, none⟩)) (hb : Boxed w B 4 (.bool v)) :
    (results fn tmps).run Try.prog w = .ok (.bool v) w := by
  have hc := hb.cell
  rw [results_cell_one h, hp]
  go_simp

theorem digitsBeside_in (x y b : Int) (w : World) : Calls Try.prog 82 #[.int .i64 x, .int .i64 y, .int .i64 b] w fun e w' =>
    e = .returned (.func (.func 87) #[] #[.pointer (some ⟨w.heap.size, 0, none⟩), .pointer (some ⟨w.heap.size + 1 + 1, 0, none⟩), .pointer (some ⟨w.heap.size + 1, 0, none⟩)]) ∧
      ((w.alloc (.cells #[.int .i64 x] 3)).alloc (.cells #[.int .i64 y] 3)).alloc (.cells #[.int .i64 b] 3) = w' := by
  have hmf : ∀ (fn : Fn) (first cap : Array Value) (w : World), (Instr.makeFunc fn first cap).run Try.prog w = .ok (.func fn first cap) w := fun _ _ _ _ => rfl
  go_enter Try.func82, Try.ntmps82
  go_wp2
  go_ret
  exact ⟨by simp, rfl⟩

set_option maxRecDepth 100000 in
set_option maxHeartbeats 1000000 in
theorem implUnder_ok (X Y b : Nat) (hX : X ≤ 999999999) (hY : Y ≤ 999999999) (hb : 2 ≤ b) (hb2 : b ≤ 16) (w : World) : Calls Try.prog 73 #[.int .i64 X, .int .i64 Y, .int .i64 b] w fun e w' =>
    e = .returned (.bool (und b X Y)) ∧ Below w.heap.size w w' := by
  refine (callsIn_wide (n := 9)).1 ?_
  refine callsIn_of_wp_marks Try.func73 rfl trivial ?_ rfl
  simp only [Try.ntmps73, List.size_toArray, List.length_cons, List.length_nil, Nat.reduceAdd, Nat.reduceSub, Array.replicate_succ, Array.replicate_zero, List.push_toArray, List.append_toArray, List.nil_append, List.cons_append]
  gi_wp2_with (first | (refine ⟨trivial, ?_⟩; gi_at_call 63; refine (callsIn_wide.2 (within_t _ _ _ (by omega) (by omega))).mono ?_; rintro e w' ⟨rfl, rfl⟩) | (refine ⟨trivial, ?_⟩; gi_at_call 81; refine (callsIn_wide.2 (baseOk_t _ _ (by omega) (by omega))).mono ?_; rintro e w' ⟨rfl, rfl⟩) | (refine ⟨trivial, ?_⟩; gi_at_call 82; refine (callsIn_wide.2 (digitsBeside_in _ _ _ _)).mono ?_; rintro e w' ⟨rfl, rfl⟩))
  obtain ⟨W0, hW0⟩ : ∃ W0, ((((w.alloc (Obj.cells #[Value.bool false] 4)).alloc (Obj.cells #[Value.int IntKind.i64 X] 3)).alloc (Obj.cells #[Value.int IntKind.i64 Y] 3)).alloc (Obj.cells #[Value.int IntKind.i64 b] 3)) = W0 := ⟨_, rfl⟩
  have hsz1 : W0.heap.size ≤ w.heap.size + 4 := by rw [← hW0]; simp
  have hsz2 : w.heap.size + 4 ≤ W0.heap.size := by rw [← hW0]; simp
  have hb0 : Boxed W0 w.heap.size 4 (.bool false) := by rw [← hW0]; exact (((boxed_at _ _ (by simp)).alloc _).alloc _).alloc _
  have hb3 : Boxed W0 (w.heap.size + 1) 3 (.int .i64 X) := by rw [← hW0]; exact ((boxed_at _ _ (by simp)).alloc _).alloc _
  have hb4 : Boxed W0 (w.heap.size + 1 + 1) 3 (.int .i64 Y) := by rw [← hW0]; exact (boxed_at _ _ (by simp)).alloc _
  have hb5 : Boxed W0 (w.heap.size + 1 + 1 + 1) 3 (.int .i64 b) := by rw [← hW0]; exact boxed_at _ _ (by simp)
  have hbel : Below w.heap.size w W0 := by rw [← hW0]; exact ((((Below.refl _ w).alloc (Nat.le_refl _) _).alloc (by simp) _).alloc (by simp; omega) _).alloc (by simp; omega) _
  rw [hW0]
  clear hW0
  refine wpIn_rangeFunc_mem rfl (by omega) (gf := 87) (lb := #[.pointer (some ⟨w.heap.size + 1, 0, none⟩), .pointer (some ⟨w.heap.size + 1 + 1 + 1, 0, none⟩), .pointer (some ⟨w.heap.size + 1 + 1, 0, none⟩)]) rfl trivial (enters_of Try.func87 (by kernel_rfl) rfl)
    (beside_stops (9 - 1) (w.heap.size + 1) (w.heap.size + 1 + 1 + 1) (w.heap.size + 1 + 1) X Y b (by omega) (by omega) hb hb2 (by omega) W0 (by omega) (by omega) (by omega) hb3.cell hb5.cell hb4.cell) (fun _ _ => rfl) (by omega)
    (fun pre x W o h => by obtain ⟨R1, R2, m, k, ht, h1, h2, h3⟩ := h; exact ⟨R1, R2, m, k, ht, h1.of_block (World.putObj_heap_other (by unfold Two at ht; omega)), h2.of_block (World.putObj_heap_other (by unfold Two at ht; omega)), h3⟩) (fun xs W o h => h) (fun pre W o h => h)
    (fun pre W => Boxed W w.heap.size 4 (.bool false) ∧ (∀ z ∈ pre, z.1 ≤ z.2) ∧ Below w.heap.size w W) (fun c pre W => c = .ret ∧ Boxed W w.heap.size 4 (.bool false) ∧ und b X Y = false ∧ Below w.heap.size w W)
    (fun s A B row hs hg hr => ⟨hs.1.kept hg (fun e => by have := hr _ e.symm; omega), hs.2.1, hs.2.2.grown hg hs.2.2.size (fun k e => by have := hr _ e; omega)⟩)
    (fun c s A B row hs hg hr => ⟨hs.1, hs.2.1.kept hg (fun e => by have := hr _ e.symm; omega), hs.2.2.1, hs.2.2.2.grown hg hs.2.2.2.size (fun k e => by have := hr _ e; omega)⟩) ⟨hb0, by simp, hbel⟩
    (fun x => { tmps := #[.int .i64 X, .int .i64 Y, .int .i64 b, undef, undef, undef, .pointer (some ⟨w.heap.size, 0, none⟩), .int .i64 x.1, .int .i64 x.2, .int .i64 X, .bool true, .bool false, .bool false, .int .i64 Y, .bool true, .bool false, .bool false, .bool false, .int .i64 b, .bool true, .bool false, .bool false, .int .i64 X, .int .i64 Y, .int .i64 b,
      .func (.func 87) #[] #[.pointer (some ⟨w.heap.size + 1, 0, none⟩), .pointer (some ⟨w.heap.size + 1 + 1 + 1, 0, none⟩), .pointer (some ⟨w.heap.size + 1 + 1, 0, none⟩)], .int .i64 x.1, .int .i64 x.2, undef, undef, undef], defers := [] }) ?assign ?body ?done ?stop
  case assign =>
    intro l x W K hK
    gi_wp2
    exact hK
  case body =>
    rintro l pre ⟨p, q⟩ W hlt ⟨hx0, hpre, hB⟩ ⟨R1, R2, m, k, _, _, _, hp, hpb, hqb⟩
    simp only at hpb hqb
    have hf0 := hx0.frozen
    have hc0 := hx0.cell
    by_cases hle : p ≤ q
    · have hpre' := hide (show ∀ z ∈ pre ++ [(p, q)], z.1 ≤ z.2 by
        intro z hz
        rcases List.mem_append.1 hz with h | h
        · exact hpre z h
        · obtain rfl : z = (p, q) := by simpa using h
          exact hle)
      clear hp hpre
      gi_wp2
      exact ⟨KeepsSet.refl _ _, hx0, hpre'.out, hB⟩
    · have hu := hide (show und b X Y = false by
        unfold und
        rw [List.all_eq_false]
        exact ⟨(p, q), by rw [← hp]; simp, by simpa using hle⟩)
      clear hp hpre
      gi_wp2
      exact ⟨KeepsSet.setCell _ _ _ (by omega), rfl, hx0.set _, hu.out, hB.setCell (p := ⟨w.heap.size, 0, none⟩) (Nat.le_refl _) _⟩
  case done =>
    rintro ys W hys ⟨hx0, hpre, hB⟩ hK
    obtain rfl : ys = pairs b X Y := hys
    have hu : und b X Y = true := by unfold und; rw [List.all_eq_true]; intro z hz; simpa using hpre z hz
    have hu' := hide hu
    have hf := hx0.frozen
    have hc := hx0.cell
    clear hpre hu
    gi_wp2
    have hK' : (W.setCell ⟨w.heap.size, 0, none⟩ (.bool true)).heap[W0.heap.size]? = some (.deferred (some [])) := (Below.heap_setCell _ _ _ _ (by show W0.heap.size ≠ w.heap.size; omega)).trans hK
    refine ⟨by simp, .inl ⟨_, _, rfl, run_takeDeferred hK', ?_⟩⟩
    refine ⟨_, results_cell_bool rfl _ _ w.heap.size true rfl ((hx0.set (.bool true)).kept (grownBy_putObj' _ _ _) (by simp; omega)), by rw [hu'.out], ?_⟩
    have hB1 := hB.setCell (p := ⟨w.heap.size, 0, none⟩) (Nat.le_refl _) (.bool true)
    exact hB1.grown (grownBy_putObj' _ _ _) hB1.size (fun k e => by cases e; omega)
  case stop =>
    rintro c pre W _ ⟨rfl, hx0, hu, hB⟩ hK
    have hu' := hide hu
    clear hu
    gi_wp2
    refine ⟨by simp, .inl ⟨_, _, rfl, run_takeDeferred hK, ?_⟩⟩
    refine ⟨_, results_cell_bool rfl _ _ w.heap.size false rfl (hx0.kept (grownBy_putObj' _ _ _) (by simp; omega)), by rw [hu'.out], ?_⟩
    exact hB.grown (grownBy_putObj' _ _ _) hB.size (fun k e => by cases e; omega)
end Go.Proofs.Ytlkcdcmmcjkedaa
