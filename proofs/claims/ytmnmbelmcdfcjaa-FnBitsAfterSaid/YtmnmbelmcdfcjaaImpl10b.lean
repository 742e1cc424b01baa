/-
  The program's EndOf at every argument.
-/
import Derived.Test.YtmnmbelmcdfcjaaImpl10a
namespace Go.Proofs.Ytmnmbelmcdfcjaa
open Go.RowKit Go.Shelf
attribute [local go_sem] Oper.semAt_some

/-- A variable of one cell is read. -/
theorem loadVar_box {t : TypeId} {B : Nat} {v : Value} {w : World} (ht : (match Try.prog.underlying t with | some (.struct _) | some (.array _ _) => false | some _ => true | none => false) = true) (hb : Boxed w B t v) :
    (loadVar t ⟨B, 0, none⟩).run Try.prog w = .ok v w := by
  have hc := hb.cell
  have ha : (isAgg t).run Try.prog w = .ok false w := by
    unfold isAgg
    cases hu : Try.prog.underlying t with
    | none => rw [hu] at ht; cases ht
    | some d =>
      rw [Sem.run_bind, run_underlying hu w]
      rw [hu] at ht
      cases d <;> simp_all [Result.andThen]
  simp [loadVar, Sem.run_bind, ha, Result.andThen, hc]
theorem results_two {fn : Func} {p q : Tmp} {t u : TypeId} (h : fn.results = #[.cell p t, .cell q u]) (tmps : Array Value) (w : World) {B C : Nat} {v z : Value} (hp : tmps.getD p undef = .pointer (some ⟨B, 0, none⟩)) (hq : tmps.getD q undef = .pointer (some ⟨C, 0, none⟩))
    (hB : (loadVar t ⟨B, 0, none⟩).run Try.prog w = .ok v w) (hC : (loadVar u ⟨C, 0, none⟩).run Try.prog w = .ok z w) : (results fn tmps).run Try.prog w = .ok (.tuple #[v, z]) w := by
  have hp' : tmps[p]?.getD undef = .pointer (some ⟨B, 0, none⟩) := by simpa using hp
  have hq' : tmps[q]?.getD undef = .pointer (some ⟨C, 0, none⟩) := by simpa using hq
  simp [results, h, hp', hq', asAddr, hB, hC, Sem.run_bind, Result.andThen]
theorem results_three {fn : Func} {p q r : Tmp} {t u s : TypeId} (h : fn.results = #[.cell p t, .cell q u, .cell r s]) (tmps : Array Value) (w : World) {B C D : Nat} {v z y : Value} (hp : tmps.getD p undef = .pointer (some ⟨B, 0, none⟩)) (hq : tmps.getD q undef = .pointer (some ⟨C, 0, none⟩)) (hr : tmps.getD r undef = .pointer (some ⟨D, 0, none⟩))
    (hB : (loadVar t ⟨B, 0, none⟩).run Try.prog w = .ok v w) (hC : (loadVar u ⟨C, 0, none⟩).run Try.prog w = .ok z w) (hD : (loadVar s ⟨D, 0, none⟩).run Try.prog w = .ok y w) : (results fn tmps).run Try.prog w = .ok (.tuple #[v, z, y]) w := by
  have hp' : tmps[p]?.getD undef = .pointer (some ⟨B, 0, none⟩) := by simpa using hp
  have hq' : tmps[q]?.getD undef = .pointer (some ⟨C, 0, none⟩) := by simpa using hq
  have hr' : tmps[r]?.getD undef = .pointer (some ⟨D, 0, none⟩) := by simpa using hr
  simp [results, h, hp', hq', hr', asAddr, hB, hC, hD, Sem.run_bind, Result.andThen]

theorem box_at {W : World} {k : Nat} (t : TypeId) (v : Value) (h : W.heap.size = k) : Boxed (W.alloc (.cells #[v] t)) k t v := h ▸ Boxed.new W t v
theorem box_two {W : World} {B C : Nat} {t u : TypeId} {v z : Value} (hB : Boxed W B t v) (hC : Boxed W C u z) (h : B ≠ C) (v' z' : Value) :
    Boxed ((W.setCell ⟨B, 0, none⟩ v').setCell ⟨C, 0, none⟩ z') B t v' ∧ Boxed ((W.setCell ⟨B, 0, none⟩ v').setCell ⟨C, 0, none⟩ z') C u z' :=
  ⟨(hB.set v').kept (grown_cell _ _ _ _) (by simp; exact h), (hC.kept (grown_cell W B 0 v') (by simp; exact fun e => h e.symm)).set z'⟩
theorem box_int (B : Nat) (v : Value) {w : World} (hb : Boxed w B 3 v) : (loadVar 3 ⟨B, 0, none⟩).run Try.prog w = .ok v w := loadVar_box (by kernel_rfl) hb
theorem box_bool (B : Nat) (v : Value) {w : World} (hb : Boxed w B 4 v) : (loadVar 4 ⟨B, 0, none⟩).run Try.prog w = .ok v w := loadVar_box (by kernel_rfl) hb

/-- A ring that is not one. -/
theorem implEnd_no (v : Value) (xs : List Int) (w : World) (hv : Ints w v xs) (hl : xs.length ≤ 10000000) (hs : ringB xs = false) : Calls Try.prog 27 #[v] w fun e w' => e = .returned (.tuple #[.int .i64 (-1), .bool false]) ∧ Below w.heap.size w w' := by
  have hB0 : Below w.heap.size w ((w.alloc (.cells #[.int .i64 0] 3)).alloc (.cells #[.bool false] 4)) := ((Below.refl _ w).alloc (Nat.le_refl _) _).alloc (by simp) _
  have h2 : Boxed ((w.alloc (.cells #[.int .i64 0] 3)).alloc (.cells #[.bool false] 4)) w.heap.size 3 (.int .i64 0) := (Boxed.new w _ _).alloc _
  have h3 : Boxed ((w.alloc (.cells #[.int .i64 0] 3)).alloc (.cells #[.bool false] 4)) (w.heap.size + 1) 4 (.bool false) := box_at _ _ (by simp)
  have hS := implRing v xs _ (hv.below hB0) (by omega)
  rw [hs] at hS
  clear hv
  go_enter Try.func27, Try.ntmps27
  go_wp2_with (go_at_call 16; refine hS.mono ?_; clear hS; go_loud (rintro e w1 ⟨rfl, hB1⟩; have hx2 : Boxed w1 w.heap.size 3 (.int .i64 0) := (hB1.block _ h2.lt).trans h2; have hx3 : Boxed w1 (w.heap.size + 1) 4 (.bool false) := (hB1.block _ h3.lt).trans h3; have c2 := hx2.cell; have c3 := hx3.cell; have f2 := hx2.frozen; have f3 := hx3.frozen))
  obtain ⟨k2, k3⟩ := box_two hx2 hx3 (by omega) (.int .i64 (-1)) (.bool false)
  refine bodyPost_ret (results_two rfl _ _ rfl rfl (box_int _ _ k2) (box_bool _ _ k3)) rfl ⟨rfl, ?_⟩
  exact ((hB0.trans (hB1.mono hB0.size)).setCell (p := ⟨w.heap.size, 0, none⟩) (Nat.le_refl _) _).setCell (p := ⟨w.heap.size + 1, 0, none⟩) (by show w.heap.size ≤ w.heap.size + 1; omega) _

theorem cz_small {f : Nat → Nat} (hf : ∀ k, f k ≤ 100) (n : Nat) (i : Nat) (_ : i < 8) : cz f n i ≤ 1000000 := by
  unfold cz
  split
  · have := hf i; omega
  · omega
theorem cz_zero (f : Nat → Nat) (n x : Nat) (hn : n ≤ 8) : (∀ i, i < 8 → cz (dR f x) n i = 0) ↔ zeroB f n x = true := by
  rw [zeroB_iff]
  refine ⟨fun h j hj => ?_, fun h i _ => ?_⟩
  · have := h j (by omega)
    rwa [cz_in hj] at this
  · unfold cz
    split
    · exact h i (by assumption)
    · rfl

set_option maxRecDepth 100000 in
set_option maxHeartbeats 1000000 in
theorem implEnd_in (v : Value) (xs : List Int) (w : World) (hv : Ints w v xs) (hs : ringB xs = true) : Calls Try.prog 27 #[v] w fun e w' => e = .returned (.tuple #[.int .i64 (endI xs), .bool (endB xs)]) ∧ Below w.heap.size w w' := by
  have hlen := ringB_len hs
  have hB0 : Below w.heap.size w ((w.alloc (.cells #[.int .i64 0] 3)).alloc (.cells #[.bool false] 4)) := ((Below.refl _ w).alloc (Nat.le_refl _) _).alloc (by simp) _
  have h2 : Boxed ((w.alloc (.cells #[.int .i64 0] 3)).alloc (.cells #[.bool false] 4)) w.heap.size 3 (.int .i64 0) := (Boxed.new w _ _).alloc _
  have h3 : Boxed ((w.alloc (.cells #[.int .i64 0] 3)).alloc (.cells #[.bool false] 4)) (w.heap.size + 1) 4 (.bool false) := box_at _ _ (by simp)
  have hS := implRing v xs _ (hv.below hB0) (by omega)
  rw [hs] at hS
  have hO := fun w1 (hB : Below w.heap.size w w1) => circleOf_in v xs w1 (hv.below hB) hs
  have hf := ringF_le hs
  have hp := ringF_per (xs := xs)
  have hsome : ∀ r, r ≤ 2000 → zeroB (ringF xs) xs.length r = true → (∀ j, j < r → zeroB (ringF xs) xs.length j = false) → endI xs = r ∧ endB xs = true := fun r h1 h2 h3 => by
    have : endN xs = some r := by unfold endN; rw [if_pos hs, firstI_some]; exact ⟨by omega, h2, h3⟩
    unfold endI endB; rw [this]; exact ⟨rfl, rfl⟩
  have hnone : (∀ j, j < 2001 → zeroB (ringF xs) xs.length j = false) → endI xs = -1 ∧ endB xs = false := fun h => by
    have : endN xs = none := by unfold endN; rw [if_pos hs, firstI_none]; exact h
    unfold endI endB; rw [this]; exact ⟨rfl, rfl⟩
  have hsome' := hide hsome
  have hnone' := hide hnone
  clear hv hs hsome hnone
  generalize endI xs = I at *
  generalize endB xs = E at *
  generalize ringF xs = f at *
  generalize xs.length = n at *
  refine (callsIn_wide (n := 9)).1 ?_
  refine callsIn_of_wp_marks Try.func27 rfl trivial ?_ rfl
  simp only [Try.ntmps27, List.size_toArray, List.length_cons, List.length_nil, Nat.reduceAdd, Nat.reduceSub, Array.replicate_succ, Array.replicate_zero, List.push_toArray, List.append_toArray, List.nil_append, List.cons_append]
  have hD := fun w => roundsTo_in (cz f n) n 2000 w
  gi_wp2_with (first
    | (refine ⟨trivial, ?_⟩; gi_at_call 16; refine (callsIn_wide.2 hS).mono ?_; clear hS; go_loud (rintro e w1 ⟨rfl, hB1⟩; have hB1' := hB0.trans (hB1.mono hB0.size)))
    | (refine ⟨trivial, ?_⟩; gi_at_call 44; refine (callsIn_wide.2 (hO _ hB1')).mono ?_; clear hO; rintro e w4 ⟨rfl, hB4⟩)
    | (refine ⟨trivial, ?_⟩; gi_at_call 49; refine (callsIn_wide.2 (hD _)).mono ?_; clear hD; rintro e w' ⟨rfl, rfl⟩))
  obtain ⟨W0, hW0⟩ : ∃ W0, (w4.alloc (Obj.cells (crA (cz f n) n) 47)).alloc (Obj.cells #[Value.int IntKind.i64 2000] 3) = W0 := ⟨_, rfl⟩
  have hC0 : CrAt W0 w4.heap.size (cz f n) n := by rw [← hW0]; exact (CrAt.new w4 _ _).alloc _
  have hL0 : Boxed W0 (w4.heap.size + 1) 3 (.int .i64 (2000 : Nat)) := by
    rw [← hW0]
    have := Boxed.new (w4.alloc (Obj.cells (crA (cz f n) n) 47)) 3 (.int .i64 2000)
    rwa [World.size_alloc] at this
  have k2 : Boxed W0 w.heap.size 3 (.int .i64 0) := by
    rw [← hW0]
    have h12 : Boxed w1 w.heap.size 3 (.int .i64 0) := (hB1.block _ h2.lt).trans h2
    have h42 : Boxed w4 w.heap.size 3 (.int .i64 0) := (hB4.block _ h12.lt).trans h12
    exact (h42.alloc _).alloc _
  have k3 : Boxed W0 (w.heap.size + 1) 4 (.bool false) := by
    rw [← hW0]
    have h12 : Boxed w1 (w.heap.size + 1) 4 (.bool false) := (hB1.block _ h3.lt).trans h3
    have h42 : Boxed w4 (w.heap.size + 1) 4 (.bool false) := (hB4.block _ h12.lt).trans h12
    exact (h42.alloc _).alloc _
  have hBx : Below w.heap.size w w4 := hB1'.trans (hB4.mono hB1'.size)
  have hB0' : Below w.heap.size w W0 := by rw [← hW0]; exact (hBx.alloc hBx.size _).alloc (by simp; have := hBx.size; omega) _
  have hsz0 : w4.heap.size + 1 < W0.heap.size := by rw [← hW0]; simp
  have hlt3 : w.heap.size + 1 < W0.heap.size := k3.lt
  rw [hW0]
  clear hW0 hB4 hBx hB1 hB1' hB0 h2 h3
  generalize w4.heap.size = C at *
  refine wpIn_rangeFunc_box rfl (by omega) (gf := 58) (lb := #[.pointer (some ⟨C, 0, none⟩), .pointer (some ⟨C + 1, 0, none⟩)]) rfl trivial (enters_of Try.func58 (by kernel_rfl) rfl)
    (rounds_stops (9 - 1) C (C + 1) 2000 n f (by omega) hlen.1 hlen.2 hf hp (by omega) W0 hC0 hL0) (fun _ _ => rfl) (by omega)
    (fun ys W o h => h) (fun pre W o h => h)
    (fun pre W => Boxed W w.heap.size 3 (.int .i64 0) ∧ Boxed W (w.heap.size + 1) 4 (.bool false) ∧ Hid (∀ j ∈ pre, zeroB f n j = false) ∧ Below w.heap.size w W)
    (fun c pre W => ∃ r : Nat, c = .ret ∧ Boxed W w.heap.size 3 (.int .i64 r) ∧ Boxed W (w.heap.size + 1) 4 (.bool true) ∧ Hid (r ≤ 2000 ∧ zeroB f n r = true ∧ ∀ j, j < r → zeroB f n j = false) ∧ Below w.heap.size w W)
    (fun s A B' row hs hg hr => ⟨hs.1.kept hg (fun e => by have := hr _ e.symm; omega), hs.2.1.kept hg (fun e => by have := hr _ e.symm; omega), hs.2.2.1, hs.2.2.2.grown hg hs.2.2.2.size (fun k e => by have := hr _ e; omega)⟩)
    (fun c s A B' row hs hg hr => by
      obtain ⟨r, h1, h2, h3, h4, h5⟩ := hs
      exact ⟨r, h1, h2.kept hg (fun e => by have := hr _ e.symm; omega), h3.kept hg (fun e => by have := hr _ e.symm; omega), h4, h5.grown hg h5.size (fun k e => by have := hr _ e; omega)⟩) ⟨k2, k3, hide (by simp), hB0'⟩
    (fun pre x b W => ∃ k, b = { tmps := #[v, undef, .pointer (some ⟨w.heap.size, 0, none⟩), .pointer (some ⟨w.heap.size + 1, 0, none⟩), .int .i64 x, .pointer (some ⟨k, 0, none⟩), v, .bool true, .bool false, v, crV (cz f n) n,
      .func (.func 58) #[] #[.pointer (some ⟨C, 0, none⟩), .pointer (some ⟨C + 1, 0, none⟩)], .int .i64 x, crV (cz (dR f x) n) n, undef, undef, undef], defers := [] } ∧ (CrAt W k (cz (dR f x) n) n ∧ (Boxed W w.heap.size 3 (.int .i64 0) ∧ Boxed W (w.heap.size + 1) 4 (.bool false)) ∧ Below w.heap.size w W ∧ Hid (∀ j ∈ pre, zeroB f n j = false) ∧ Hid (pre = List.range x ∧ x ≤ 2000) ∧ W0.heap.size + 2 ≤ k))
    (fun pre x b W o ⟨k, hb, hO⟩ => ⟨k, hb, hO.1.of_block (World.putObj_heap_other (by have := hO.2.2.2.2.2; omega)), ⟨hO.2.1.1.kept (grownBy_putObj' W _ _) (by simp; omega), hO.2.1.2.kept (grownBy_putObj' W _ _) (by simp; omega)⟩, hO.2.2.1.grown (grownBy_putObj' W _ _) hO.2.2.1.size (fun k e => by cases e; omega), hO.2.2.2⟩) ?assign ?body ?done ?stop
  case assign =>
    rintro l pre x W Q' hlt ⟨hx2, hx3, hpz, hB⟩ ⟨hpre, hx⟩ hQ
    have hQ' := hide hQ
    clear hQ
    gi_wp2_with (refine store_crI rfl _ _ rfl W.heap.size _ _ rfl rfl (World.alloc_heap_new W _) rfl ?_; intro w6 hC6 hg6)
    have hgW := World.grownBy_alloc W (Obj.cells (crA (fun _ => 0) 0) 47) none
    have hg6' : (W.alloc (Obj.cells (crA (fun _ => 0) 0) 47)).grownBy w6 (some W.heap.size) := hg6
    exact hQ'.out _ _ ⟨Nat.le_trans hgW.size hg6'.size, fun q hq _ => (hg6'.block q (Nat.lt_of_lt_of_le hq hgW.size) (by simp; omega)).trans (hgW.block q hq (by simp))⟩
      ⟨W.heap.size, rfl, hC6, ⟨(hx2.kept hgW (by simp)).kept hg6' (by simp; omega), (hx3.kept hgW (by simp)).kept hg6' (by simp; omega)⟩, (hB.alloc hB.size _).grown hg6' (by simp; have := hB.size; omega) (fun _ e => by cases e; exact hB.size), hpz, hide ⟨hpre, hx⟩, by omega⟩
  case body =>
    rintro l pre x b W hlt ⟨k, rfl, hC, ⟨hx2, hx3⟩, hB, hpz, hpx, hk⟩
    have hE := fun V => ended_in (cz (dR f x) n) n (cz_small (hundred hf x) n) V
    have hzz := cz_zero f n x hlen.2
    have hzz' := hide hzz
    clear hzz
    cases hz : zeroB f n x with
    | true =>
      have hr := hide (show x ≤ 2000 ∧ zeroB f n x = true ∧ ∀ j, j < x → zeroB f n j = false from ⟨hpx.out.2, hz, fun j hj => hpz.out j (by rw [hpx.out.1]; simpa using hj)⟩)
      rw [hz] at hzz'
      clear hz
      gi_wp2_with (first
        | (refine load_crI rfl _ rfl k rfl hC ?_)
        | (refine ⟨trivial, ?_⟩; gi_at_call 50; refine (callsIn_wide.2 (hE _)).mono ?_; clear hE; go_loud (rintro e w6 ⟨⟨b, rfl, hb⟩, hB6⟩; obtain rfl : b = true := hb.2 (hzz'.out.2 (by simp)); clear hb; have k2 : Boxed w6 w.heap.size 3 (.int .i64 0) := (hB6.block _ hx2.lt).trans hx2; have k3 : Boxed w6 (w.heap.size + 1) 4 (.bool false) := (hB6.block _ hx3.lt).trans hx3; have c2 := k2.cell; have c3 := k3.cell; have f2 := k2.frozen; have f3 := k3.frozen)))
      obtain ⟨y2, y3⟩ := box_two k2 k3 (by omega) (.int .i64 x) (.bool true)
      exact ⟨⟨by simpa [World.setCell] using hB6.size, fun q hq _ => (Below.heap_setCell _ _ _ q (by simp; omega)).trans ((Below.heap_setCell _ _ _ q (by simp; omega)).trans (hB6.block q hq))⟩, x, rfl, y2, y3, hr,
        ((hB.trans (hB6.mono hB.size)).setCell (p := ⟨w.heap.size, 0, none⟩) (Nat.le_refl _) _).setCell (p := ⟨w.heap.size + 1, 0, none⟩) (by show w.heap.size ≤ w.heap.size + 1; omega) _⟩
    | false =>
      have hp' := hide (show ∀ j ∈ pre ++ [x], zeroB f n j = false from fun j hj => by
        rcases List.mem_append.1 hj with h | h
        · exact hpz.out j h
        · obtain rfl : j = x := by simpa using h
          exact hz)
      rw [hz] at hzz'
      simp only [Bool.false_eq_true] at hzz'
      clear hz
      gi_wp2_with (first
        | (refine load_crI rfl _ rfl k rfl hC ?_)
        | (refine ⟨trivial, ?_⟩; gi_at_call 50; refine (callsIn_wide.2 (hE _)).mono ?_; clear hE; go_loud (rintro e w6 ⟨⟨b, rfl, hb⟩, hB6⟩; obtain rfl : b = false := (by cases b; rfl; exact (hzz'.out.1 (hb.1 rfl)).elim); clear hb)))
      exact ⟨⟨hB6.size, fun q hq _ => hB6.block q hq⟩, (hB6.block _ hx2.lt).trans hx2, (hB6.block _ hx3.lt).trans hx3, hp', hB.trans (hB6.mono hB.size)⟩
  case done =>
    rintro ys W hys ⟨hx2, hx3, hpz, hB⟩ hK
    obtain rfl : ys = List.range 2001 := hys
    obtain ⟨rfl, rfl⟩ := hnone'.out fun j hj => hpz.out j (by simpa using hj)
    have hK0 := (Array.getElem?_eq_some_iff.1 hK).1
    have c2 := hx2.cell
    have c3 := hx3.cell
    have f2 := hx2.frozen
    have f3 := hx3.frozen
    gi_wp2
    obtain ⟨y2, y3⟩ := box_two hx2 hx3 (by omega) (.int .i64 (-1)) (.bool false)
    have hB2 := (hB.setCell (p := ⟨w.heap.size, 0, none⟩) (Nat.le_refl _) (.int .i64 (-1))).setCell (p := ⟨w.heap.size + 1, 0, none⟩) (by show w.heap.size ≤ w.heap.size + 1; omega) (.bool false)
    have hK2 : ((W.setCell ⟨w.heap.size, 0, none⟩ (.int .i64 (-1))).setCell ⟨w.heap.size + 1, 0, none⟩ (.bool false)).heap[W0.heap.size]? = some (.deferred (some [])) := (Below.heap_setCell _ _ _ _ (by simp; omega)).trans ((Below.heap_setCell _ _ _ _ (by simp; omega)).trans hK)
    refine ⟨by simp, .inl ⟨_, _, rfl, run_takeDeferred hK2, ?_⟩⟩
    refine ⟨_, results_two rfl _ _ rfl rfl (box_int _ _ (y2.kept (grownBy_putObj' _ _ _) (by simp; omega))) (box_bool _ _ (y3.kept (grownBy_putObj' _ _ _) (by simp; omega))), rfl, ?_⟩
    exact hB2.grown (grownBy_putObj' _ _ _) hB2.size (fun k e => by cases e; omega)
  case stop =>
    rintro cd pre W _ ⟨r, rfl, hx2, hx3, hr, hB⟩ hK
    obtain ⟨rfl, rfl⟩ := hsome'.out r hr.out.1 hr.out.2.1 hr.out.2.2
    gi_wp2
    refine ⟨by simp, .inl ⟨_, _, rfl, run_takeDeferred hK, ?_⟩⟩
    refine ⟨_, results_two rfl _ _ rfl rfl (box_int _ _ (hx2.kept (grownBy_putObj' _ _ _) (by simp; omega))) (box_bool _ _ (hx3.kept (grownBy_putObj' _ _ _) (by simp; omega))), rfl, ?_⟩
    exact hB.grown (grownBy_putObj' _ _ _) hB.size (fun k e => by cases e; omega)

theorem implEnd10 (v : Value) (xs : List Int) (w : World) (hv : Ints w v xs) (_hlies : Lies v) (hl : xs.length ≤ 10000000) : Calls Try.prog 27 #[v] w fun e w' => e = .returned (.tuple #[.int .i64 (endI xs), .bool (endB xs)]) ∧ Below w.heap.size w w' := by
  cases hs : ringB xs with
  | true => exact implEnd_in v xs w hv hs
  | false =>
    have h := implEnd_no v xs w hv hl hs
    have : endN xs = none := by unfold endN; rw [hs]; rfl
    unfold endI endB
    rw [this]
    exact h
end Go.Proofs.Ytmnmbelmcdfcjaa
