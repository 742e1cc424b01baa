/-
  The program's SumOfDigits and CountUnder: for every argument what they hand back.
-/
import Derived.Test.YtdhcdgmceiganaaIter2
import Derived.Test.YtdhcdgmceiganaaVals2
namespace Go.Proofs.Ytdhcdgmceiganaa
open Go.RowKit Go.Shelf
attribute [local go_sem] Oper.semAt_some

theorem digitsIn_in (n b : Int) (w : World) : Calls Try.prog 43 #[.int .i64 n, .int .i64 b] w fun e w' =>
    e = .returned (.func (.func 51) #[] #[.pointer (some ⟨w.heap.size, 0, none⟩), .pointer (some ⟨w.heap.size + 1, 0, none⟩)]) ∧ (w.alloc (.cells #[.int .i64 n] 3)).alloc (.cells #[.int .i64 b] 3) = w' := by
  have hmf : ∀ (fn : Fn) (first cap : Array Value) (w : World), (Instr.makeFunc fn first cap).run Try.prog w = .ok (.func fn first cap) w := fun _ _ _ _ => rfl
  go_enter Try.func43, Try.ntmps43
  go_wp2
  go_ret
  exact ⟨by simp, rfl⟩

set_option maxRecDepth 100000 in
set_option maxHeartbeats 1000000 in
theorem implSum_ok (N b : Nat) (hN : N ≤ 999999999) (hb : 2 ≤ b) (hb2 : b ≤ 16) (w : World) : Calls Try.prog 16 #[.int .i64 N, .int .i64 b] w fun e w' =>
    e = .returned (.int .i64 (sumL (digs b N))) ∧ Below w.heap.size w w' := by
  refine (callsIn_wide (n := 9)).1 ?_
  refine callsIn_of_wp_marks Try.func16 rfl trivial ?_ rfl
  simp only [Try.ntmps16, List.size_toArray, List.length_cons, List.length_nil, Nat.reduceAdd, Nat.reduceSub, Array.replicate_succ, Array.replicate_zero, List.push_toArray, List.append_toArray, List.nil_append, List.cons_append]
  gi_wp2_with (first | (refine ⟨trivial, ?_⟩; gi_at_call 41; refine (callsIn_wide.2 (within_t _ _ _ (by omega) (by omega))).mono ?_; rintro e w' ⟨rfl, rfl⟩) | (refine ⟨trivial, ?_⟩; gi_at_call 42; refine (callsIn_wide.2 (baseOk_t _ _ (by omega) (by omega))).mono ?_; rintro e w' ⟨rfl, rfl⟩) | (refine ⟨trivial, ?_⟩; gi_at_call 43; refine (callsIn_wide.2 (digitsIn_in _ _ _)).mono ?_; rintro e w' ⟨rfl, rfl⟩))
  obtain ⟨W0, hW0⟩ : ∃ W0, (((w.alloc (Obj.cells #[Value.int IntKind.i64 0] 3)).alloc (Obj.cells #[Value.int IntKind.i64 N] 3)).alloc (Obj.cells #[Value.int IntKind.i64 b] 3)) = W0 := ⟨_, rfl⟩
  have hsz1 : W0.heap.size ≤ w.heap.size + 3 := by rw [← hW0]; simp
  have hsz2 : w.heap.size + 3 ≤ W0.heap.size := by rw [← hW0]; simp
  have hbs : Boxed W0 w.heap.size 3 (.int .i64 0) := by rw [← hW0]; exact ((Boxed.new w _ _).alloc _).alloc _
  have hbn : Boxed W0 (w.heap.size + 1) 3 (.int .i64 N) := by rw [← hW0]; have := Boxed.new (w.alloc (Obj.cells #[Value.int IntKind.i64 0] 3)) 3 (.int .i64 N); rw [World.size_alloc] at this; exact this.alloc _
  have hbb : Boxed W0 (w.heap.size + 1 + 1) 3 (.int .i64 b) := by rw [← hW0]; have := Boxed.new ((w.alloc (Obj.cells #[Value.int IntKind.i64 0] 3)).alloc (Obj.cells #[Value.int IntKind.i64 N] 3)) 3 (.int .i64 b); rwa [World.size_alloc, World.size_alloc] at this
  have hbel : Below w.heap.size w W0 := by rw [← hW0]; exact (((Below.refl _ w).alloc (Nat.le_refl _) _).alloc (by simp) _).alloc (by simp; omega) _
  rw [hW0]
  clear hW0
  refine wpIn_rangeFunc_mem rfl (by omega) (gf := 51) (lb := #[.pointer (some ⟨w.heap.size + 1, 0, none⟩), .pointer (some ⟨w.heap.size + 1 + 1, 0, none⟩)]) rfl trivial (enters_of Try.func51 (by kernel_rfl) rfl)
    (digits_stops (9 - 1) (w.heap.size + 1) (w.heap.size + 1 + 1) N b (by omega) hb hb2 (by omega) W0 (by omega) (by omega) hbn.cell hbb.cell) (fun _ _ => rfl) (by omega)
    (fun pre x W o h => by obtain ⟨m, h1, h2⟩ := h; exact ⟨m, h1.of_block (World.putObj_heap_other (by omega)), h2⟩) (fun xs W o h => h) (fun pre W o h => h)
    (fun pre W => Boxed W w.heap.size 3 (.int .i64 (sumL pre)) ∧ Below w.heap.size w W) (fun _ _ _ => False)
    (fun s A B row hs hg hr => ⟨hs.1.kept hg (fun e => by have := hr _ e.symm; omega), hs.2.grown hg hs.2.size (fun k e => by have := hr _ e; omega)⟩)
    (fun _ _ _ _ _ hs _ _ => hs) ⟨hbs, hbel⟩
    (fun x => { tmps := #[.int .i64 N, .int .i64 b, undef, undef, .int .i64 0, .pointer (some ⟨w.heap.size, 0, none⟩), .int .i64 x, .int .i64 N, .bool true, .bool false, .bool false, .int .i64 b, .bool true, .bool false, .bool false, .int .i64 N, .int .i64 b, .func (.func 51) #[] #[.pointer (some ⟨w.heap.size + 1, 0, none⟩), .pointer (some ⟨w.heap.size + 1 + 1, 0, none⟩)], .int .i64 x, undef, undef, undef, undef], defers := [] }) ?assign ?body ?done ?stop
  case assign =>
    intro l x W K hK
    gi_wp2
    exact hK
  case body =>
    rintro l pre x W hlt ⟨hbx, hB⟩ ⟨m, hU, hp, hxb⟩
    have hc := hbx.cell
    have hf := hbx.frozen
    have hsum : sumL pre + x ≤ 999999999 := by
      have h1 := sum_le hb N
      rw [← hp, sumL_app] at h1
      simp only [sumL] at h1
      omega
    clear hp
    gi_wp2
    refine ⟨KeepsSet.setCell _ _ _ (by omega), ?_, hB.setCell (p := ⟨w.heap.size, 0, none⟩) (Nat.le_refl _) _⟩
    rw [sumL_snoc]
    exact hbx.set _
  case done =>
    rintro ys W hys ⟨hbx, hB⟩ hK
    obtain rfl : ys = digs b N := hys
    have hc := hbx.cell
    gi_wp2
    refine ⟨by simp, .inl ⟨_, _, rfl, run_takeDeferred hK, ?_⟩⟩
    refine ⟨_, results_tmp rfl _ _ _, rfl, ?_⟩
    exact hB.grown (grownBy_putObj' W _ _) hB.size (fun k e => by cases e; omega)
  case stop =>
    rintro c pre W _ h _
    exact h.elim

theorem implSum (n b : Int) (w : World) : Calls Try.prog 16 #[.int .i64 n, .int .i64 b] w fun e w' => e = .returned (.int .i64 (sumV n b)) ∧ Below w.heap.size w w' := by
  by_cases h : bad1 n b
  · rw [sumV_bad h]
    unfold bad1 at h
    by_cases h1 : n < 0 ∨ 999999999 < n
    all_goals
      go_enter Try.func16, Try.ntmps16
      go_wp2_with (first | (go_at_call 41; refine (within_t _ _ _ (by omega) (by omega)).mono ?_; rintro e w' ⟨rfl, rfl⟩) | (go_at_call 41; refine (within_f _ _ _ (by omega)).mono ?_; rintro e w' ⟨rfl, rfl⟩) | (go_at_call 42; refine (baseOk_f _ _ (by omega)).mono ?_; rintro e w' ⟨rfl, rfl⟩))
      go_ret
      exact ⟨rfl, Below.refl _ _⟩
  · unfold bad1 at h
    obtain ⟨N, rfl⟩ : ∃ N : Nat, n = N := ⟨n.toNat, by omega⟩
    obtain ⟨B, rfl⟩ : ∃ B : Nat, b = B := ⟨b.toNat, by omega⟩
    rw [sumV_nat (by omega) (by omega) (by omega)]
    exact implSum_ok N B (by omega) (by omega) (by omega) w

set_option maxRecDepth 100000 in
set_option maxHeartbeats 1000000 in
theorem implCount_ok (N b : Nat) (hN : N ≤ 999999999) (hb : 2 ≤ b) (hb2 : b ≤ 16) (w : World) : Calls Try.prog 36 #[.int .i64 N, .int .i64 b] w fun e w' =>
    e = .returned (.int .i64 (mulL (digs b N))) ∧ Below w.heap.size w w' := by
  refine (callsIn_wide (n := 9)).1 ?_
  refine callsIn_of_wp_marks Try.func36 rfl trivial ?_ rfl
  simp only [Try.ntmps36, List.size_toArray, List.length_cons, List.length_nil, Nat.reduceAdd, Nat.reduceSub, Array.replicate_succ, Array.replicate_zero, List.push_toArray, List.append_toArray, List.nil_append, List.cons_append]
  gi_wp2_with (first | (refine ⟨trivial, ?_⟩; gi_at_call 41; refine (callsIn_wide.2 (within_t _ _ _ (by omega) (by omega))).mono ?_; rintro e w' ⟨rfl, rfl⟩) | (refine ⟨trivial, ?_⟩; gi_at_call 42; refine (callsIn_wide.2 (baseOk_t _ _ (by omega) (by omega))).mono ?_; rintro e w' ⟨rfl, rfl⟩) | (refine ⟨trivial, ?_⟩; gi_at_call 43; refine (callsIn_wide.2 (digitsIn_in _ _ _)).mono ?_; rintro e w' ⟨rfl, rfl⟩))
  obtain ⟨W0, hW0⟩ : ∃ W0, (((w.alloc (Obj.cells #[Value.int IntKind.i64 1] 3)).alloc (Obj.cells #[Value.int IntKind.i64 N] 3)).alloc (Obj.cells #[Value.int IntKind.i64 b] 3)) = W0 := ⟨_, rfl⟩
  have hsz1 : W0.heap.size ≤ w.heap.size + 3 := by rw [← hW0]; simp
  have hsz2 : w.heap.size + 3 ≤ W0.heap.size := by rw [← hW0]; simp
  have hbs : Boxed W0 w.heap.size 3 (.int .i64 1) := by rw [← hW0]; exact ((Boxed.new w _ _).alloc _).alloc _
  have hbn : Boxed W0 (w.heap.size + 1) 3 (.int .i64 N) := by rw [← hW0]; have := Boxed.new (w.alloc (Obj.cells #[Value.int IntKind.i64 1] 3)) 3 (.int .i64 N); rw [World.size_alloc] at this; exact this.alloc _
  have hbb : Boxed W0 (w.heap.size + 1 + 1) 3 (.int .i64 b) := by rw [← hW0]; have := Boxed.new ((w.alloc (Obj.cells #[Value.int IntKind.i64 1] 3)).alloc (Obj.cells #[Value.int IntKind.i64 N] 3)) 3 (.int .i64 b); rwa [World.size_alloc, World.size_alloc] at this
  have hbel : Below w.heap.size w W0 := by rw [← hW0]; exact (((Below.refl _ w).alloc (Nat.le_refl _) _).alloc (by simp) _).alloc (by simp; omega) _
  rw [hW0]
  clear hW0
  refine wpIn_rangeFunc_mem rfl (by omega) (gf := 51) (lb := #[.pointer (some ⟨w.heap.size + 1, 0, none⟩), .pointer (some ⟨w.heap.size + 1 + 1, 0, none⟩)]) rfl trivial (enters_of Try.func51 (by kernel_rfl) rfl)
    (digits_stops (9 - 1) (w.heap.size + 1) (w.heap.size + 1 + 1) N b (by omega) hb hb2 (by omega) W0 (by omega) (by omega) hbn.cell hbb.cell) (fun _ _ => rfl) (by omega)
    (fun pre x W o h => by obtain ⟨m, h1, h2⟩ := h; exact ⟨m, h1.of_block (World.putObj_heap_other (by omega)), h2⟩) (fun xs W o h => h) (fun pre W o h => h)
    (fun pre W => Boxed W w.heap.size 3 (.int .i64 (mulL pre)) ∧ Below w.heap.size w W) (fun _ _ _ => False)
    (fun s A B row hs hg hr => ⟨hs.1.kept hg (fun e => by have := hr _ e.symm; omega), hs.2.grown hg hs.2.size (fun k e => by have := hr _ e; omega)⟩)
    (fun _ _ _ _ _ hs _ _ => hs) ⟨hbs, hbel⟩
    (fun x => { tmps := #[.int .i64 N, .int .i64 b, undef, undef, .int .i64 0, .pointer (some ⟨w.heap.size, 0, none⟩), .int .i64 x, .int .i64 N, .bool true, .bool false, .bool false, .int .i64 b, .bool true, .bool false, .bool false, .int .i64 N, .int .i64 b, .func (.func 51) #[] #[.pointer (some ⟨w.heap.size + 1, 0, none⟩), .pointer (some ⟨w.heap.size + 1 + 1, 0, none⟩)], .int .i64 x, undef, undef, undef, undef, undef], defers := [] }) ?assign ?body ?done ?stop
  case assign =>
    intro l x W K hK
    gi_wp2
    exact hK
  case body =>
    rintro l pre x W hlt ⟨hbx, hB⟩ ⟨m, hU, hp, hxb⟩
    have hc := hbx.cell
    have hf := hbx.frozen
    have hsum : mulL pre * (x + 1) ≤ 1000000000 := by
      have h1 := mul_le hb N
      rw [← hp, mulL_app] at h1
      simp only [mulL] at h1
      rw [← Nat.mul_assoc] at h1
      have h2 := Nat.le_mul_of_pos_right (mulL pre * (x + 1)) (mulL_pos (digs b m))
      omega
    clear hp
    have hw4 : (mulL pre : Int) * ((x : Int) + 1) = ((mulL pre * (x + 1) : Nat) : Int) := by simp
    have hw3 : IntKind.i64.wrap ((mulL pre : Int) * ((x : Int) + 1)) = ((mulL pre * (x + 1) : Nat) : Int) := by rw [hw4]; exact IntWalk.i64_in _ (by omega)
    clear hw4
    gi_wp2
    refine ⟨KeepsSet.setCell _ _ _ (by omega), ?_, hB.setCell (p := ⟨w.heap.size, 0, none⟩) (Nat.le_refl _) _⟩
    rw [mulL_snoc]
    exact hbx.set _
  case done =>
    rintro ys W hys ⟨hbx, hB⟩ hK
    obtain rfl : ys = digs b N := hys
    have hc := hbx.cell
    gi_wp2
    refine ⟨by simp, .inl ⟨_, _, rfl, run_takeDeferred hK, ?_⟩⟩
    refine ⟨_, results_tmp rfl _ _ _, rfl, ?_⟩
    exact hB.grown (grownBy_putObj' W _ _) hB.size (fun k e => by cases e; omega)
  case stop =>
    rintro c pre W _ h _
    exact h.elim

theorem implCount (n b : Int) (w : World) : Calls Try.prog 36 #[.int .i64 n, .int .i64 b] w fun e w' => e = .returned (.int .i64 (countV n b)) ∧ Below w.heap.size w w' := by
  by_cases h : bad1 n b
  · rw [countV_bad h]
    unfold bad1 at h
    by_cases h1 : n < 0 ∨ 999999999 < n
    all_goals
      go_enter Try.func36, Try.ntmps36
      go_wp2_with (first | (go_at_call 41; refine (within_t _ _ _ (by omega) (by omega)).mono ?_; rintro e w' ⟨rfl, rfl⟩) | (go_at_call 41; refine (within_f _ _ _ (by omega)).mono ?_; rintro e w' ⟨rfl, rfl⟩) | (go_at_call 42; refine (baseOk_f _ _ (by omega)).mono ?_; rintro e w' ⟨rfl, rfl⟩))
      go_ret
      exact ⟨rfl, Below.refl _ _⟩
  · unfold bad1 at h
    obtain ⟨N, rfl⟩ : ∃ N : Nat, n = N := ⟨n.toNat, by omega⟩
    obtain ⟨B, rfl⟩ : ∃ B : Nat, b = B := ⟨b.toNat, by omega⟩
    rw [countV_nat (by omega) (by omega) (by omega)]
    exact implCount_ok N B (by omega) (by omega) (by omega) w

end Go.Proofs.Ytdhcdgmceiganaa
