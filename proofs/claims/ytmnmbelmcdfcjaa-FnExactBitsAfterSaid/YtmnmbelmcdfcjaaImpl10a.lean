/-
  The program's RoundOf and RoundsOf at every argument.
-/
import Derived.Test.YtmnmbelmcdfcjaaIter10
namespace Go.Proofs.Ytmnmbelmcdfcjaa
open Go.RowKit Go.Shelf
attribute [local go_sem] Oper.semAt_some

theorem implRound (v : Value) (xs : List Int) (w : World) (hv : Ints w v xs) (_hlies : Lies v) (hl : xs.length ≤ 10000000) : Calls Try.prog 20 #[v] w fun e w' =>
    ∃ r, e = .returned r ∧ w'.ownsRow w.heap.size 3 1 r (roundV xs).length ((roundV xs).map (Value.int .i64)) ∧ Below w.heap.size w w' := by
  have hS := implRing v xs w hv (by omega)
  cases hs : ringB xs with
  | false =>
    rw [roundV_no hs]
    rw [hs] at hS
    clear hv
    go_enter Try.func20, Try.ntmps20
    go_wp2_with (go_at_call 16; refine hS.mono ?_; clear hS; rintro e w1 ⟨rfl, hB1⟩)
    go_ret
    exact ⟨_, rfl, World.ownsRow_nil _ _ _ _, hB1⟩
  | true =>
    rw [hs] at hS
    have hlen := ringB_len hs
    have hO := fun w1 (hB : Below w.heap.size w w1) => circleOf_in v xs w1 (hv.below hB) hs
    have hA := fun V => after_in (ringF xs) xs.length hlen.1 hlen.2 (ringF_le hs) ringF_per V
    have hG := fun V => ring_in (dF (ringF xs)) xs.length hlen.2 V
    rw [roundV_yes hs, rgL_len]
    clear hv hs hl
    generalize ringF xs = f at *
    generalize xs.length = n at *
    go_enter Try.func20, Try.ntmps20
    go_wp2_with (first
      | (go_at_call 16; refine hS.mono ?_; clear hS; rintro e w1 ⟨rfl, hB1⟩)
      | (go_at_call 44; refine (hO _ hB1).mono ?_; clear hO; rintro e w2 ⟨rfl, hB2⟩)
      | (go_at_call 45; refine (hA _).mono ?_; clear hA; rintro e w3 ⟨rfl, hB3⟩)
      | (go_at_call 46; refine (hG _).mono ?_; clear hG; rintro e w4 ⟨r, rfl, hown, hB4⟩))
    go_ret
    have h2 := hB1.trans (hB2.mono hB1.size)
    have h3 := h2.trans (hB3.mono h2.size)
    exact ⟨_, rfl, owns_from hown h3.size, h3.trans (hB4.mono h3.size)⟩

set_option maxRecDepth 100000 in
set_option maxHeartbeats 1000000 in
theorem implRounds_in (v : Value) (xs : List Int) (R : Nat) (hR : R ≤ 2000) (w : World) (hv : Ints w v xs) (hs : ringB xs = true) : Calls Try.prog 24 #[v, .int .i64 R] w fun e w' =>
    ∃ u, e = .returned u ∧ w'.ownsRow w.heap.size 3 1 u xs.length ((rgL (dR (ringF xs) R) xs.length).map (Value.int .i64)) ∧ Below w.heap.size w w' := by
  have hlen := ringB_len hs
  have hS := implRing v xs w hv (by omega)
  rw [hs] at hS
  have hO := fun w1 (hB : Below w.heap.size w w1) => circleOf_in v xs w1 (hv.below hB) hs
  have hf := ringF_le hs
  have hp := ringF_per (xs := xs)
  clear hv hs
  generalize ringF xs = f at *
  generalize xs.length = n at *
  refine (callsIn_wide (n := 9)).1 ?_
  refine callsIn_of_wp_marks Try.func24 rfl trivial ?_ rfl
  simp only [Try.ntmps24, List.size_toArray, List.length_cons, List.length_nil, Nat.reduceAdd, Nat.reduceSub, Array.replicate_succ, Array.replicate_zero, List.push_toArray, List.append_toArray, List.nil_append, List.cons_append]
  have hD := fun w => roundsTo_in (cz f n) n R w
  gi_wp2_with (first
    | (refine ⟨trivial, ?_⟩; gi_at_call 16; refine (callsIn_wide.2 hS).mono ?_; clear hS; rintro e w1 ⟨rfl, hB1⟩)
    | (refine ⟨trivial, ?_⟩; gi_at_call 48; refine (callsIn_wide.2 (within_t _ _ _ (by omega) (by omega))).mono ?_; rintro e w' ⟨rfl, rfl⟩)
    | (refine ⟨trivial, ?_⟩; gi_at_call 44; refine (callsIn_wide.2 (hO _ (hB1.alloc hB1.size _))).mono ?_; clear hO; rintro e w4 ⟨rfl, hB4⟩)
    | (refine ⟨trivial, ?_⟩; gi_at_call 49; refine (callsIn_wide.2 (hD _)).mono ?_; clear hD; rintro e w' ⟨rfl, rfl⟩))
  obtain ⟨W0, hW0⟩ : ∃ W0, (w4.alloc (Obj.cells (crA (cz f n) n) 47)).alloc (Obj.cells #[Value.int IntKind.i64 R] 3) = W0 := ⟨_, rfl⟩
  have hC0 : CrAt W0 w4.heap.size (cz f n) n := by rw [← hW0]; exact (CrAt.new w4 _ _).alloc _
  have hL0 : Boxed W0 (w4.heap.size + 1) 3 (.int .i64 R) := by
    rw [← hW0]
    have := Boxed.new (w4.alloc (Obj.cells (crA (cz f n) n) 47)) 3 (.int .i64 R)
    rwa [World.size_alloc] at this
  have h5 : CrAt W0 w1.heap.size (fun _ => 0) 0 := by
    rw [← hW0]
    have := CrAt.new w1 (fun _ => 0) 0
    exact ((this.of_block (hB4.block _ (by simp))).alloc _).alloc _
  have hBx : Below w.heap.size w w4 := (hB1.alloc hB1.size _).trans (hB4.mono (by simp; have := hB1.size; omega))
  have hB0 : Below w.heap.size w W0 := by rw [← hW0]; exact (hBx.alloc hBx.size _).alloc (by simp; have := hBx.size; omega) _
  have hsz0 : w4.heap.size + 1 < W0.heap.size := by rw [← hW0]; simp
  have h15 : w1.heap.size < w4.heap.size := Nat.lt_of_lt_of_le (by simp) hB4.size
  have hg5 : w.heap.size ≤ w1.heap.size := hB1.size
  rw [hW0]
  clear hW0 hB4 hBx hB1
  generalize w1.heap.size = B5 at *
  generalize w4.heap.size = C at *
  refine wpIn_rangeFunc_box rfl (by omega) (gf := 58) (lb := #[.pointer (some ⟨C, 0, none⟩), .pointer (some ⟨C + 1, 0, none⟩)]) rfl trivial (enters_of Try.func58 (by kernel_rfl) rfl)
    (rounds_stops (9 - 1) C (C + 1) R n f hR hlen.1 hlen.2 hf hp (by omega) W0 hC0 hL0) (fun _ _ => rfl) (by omega)
    (fun ys W o h => h) (fun pre W o h => h)
    (fun pre W => (∃ g m, CrAt W B5 g m ∧ Hid (∀ k, pre.length = k + 1 → g = cz (dR f k) n ∧ m = n)) ∧ Below w.heap.size w W) (fun _ _ _ => False)
    (fun s A B' row hs hg hr => ⟨(by obtain ⟨g, m, h1, h2⟩ := hs.1; exact ⟨g, m, h1.kept hg (fun e => by have := hr _ e.symm; omega), h2⟩), hs.2.grown hg hs.2.size (fun k e => by have := hr _ e; omega)⟩)
    (fun _ _ _ _ _ hs _ _ => hs) ⟨⟨_, _, h5, hide (fun k e => by cases e)⟩, hB0⟩
    (fun pre x b W => ∃ k, b = { tmps := #[v, .int .i64 R, undef, undef, .slice none 0 0, .pointer (some ⟨B5, 0, none⟩), undef, .pointer (some ⟨k, 0, none⟩), v, .bool true, .bool false, .bool false, .int .i64 R, .bool true, .bool false, .bool false, v, crV (cz f n) n, .int .i64 R,
      .func (.func 58) #[] #[.pointer (some ⟨C, 0, none⟩), .pointer (some ⟨C + 1, 0, none⟩)], .int .i64 x, crV (cz (dR f x) n) n, undef, undef, undef], defers := [] } ∧ (CrAt W k (cz (dR f x) n) n ∧ (∃ g m, CrAt W B5 g m) ∧ Below w.heap.size w W ∧ pre = List.range x ∧ W0.heap.size + 2 ≤ k))
    (fun pre x b W o ⟨k, hb, hO⟩ => ⟨k, hb, hO.1.of_block (World.putObj_heap_other (by have := hO.2.2.2.2; omega)), (by obtain ⟨g, m, h⟩ := hO.2.1; exact ⟨g, m, h.of_block (World.putObj_heap_other (by omega))⟩), hO.2.2.1.grown (grownBy_putObj' W _ _) hO.2.2.1.size (fun k e => by cases e; omega), hO.2.2.2⟩) ?assign ?body ?done ?stop
  case assign =>
    rintro l pre x W Q' hlt ⟨⟨g, m, h5, _⟩, hB⟩ ⟨hpre, hx⟩ hQ
    have hQ' := hide hQ
    clear hQ
    gi_wp2_with (refine store_crI rfl _ _ rfl W.heap.size _ _ rfl rfl (World.alloc_heap_new W _) rfl ?_; intro w6 hC6 hg6)
    have hgW := World.grownBy_alloc W (Obj.cells (crA (fun _ => 0) 0) 47) none
    have hg6' : (W.alloc (Obj.cells (crA (fun _ => 0) 0) 47)).grownBy w6 (some W.heap.size) := hg6
    exact hQ'.out _ _ ⟨Nat.le_trans hgW.size hg6'.size, fun q hq _ => (hg6'.block q (Nat.lt_of_lt_of_le hq hgW.size) (by simp; omega)).trans (hgW.block q hq (by simp))⟩ ⟨W.heap.size, rfl, hC6, ⟨g, m, (h5.kept hgW (by simp)).kept hg6' (by simp; omega)⟩, (hB.alloc hB.size _).grown hg6' (by simp; have := hB.size; omega) (fun _ e => by cases e; exact hB.size), hpre, by omega⟩
  case body =>
    rintro l pre x b W hlt ⟨k, rfl, hC, ⟨g, m, h5⟩, hB, hpre, hk⟩
    have hpl := hide (show (pre ++ [x]).length = x + 1 by rw [List.length_append, hpre, List.length_range]; rfl)
    gi_wp2_with (first | (refine load_crI rfl _ rfl k rfl hC ?_) | (refine store_crI rfl _ _ rfl B5 _ _ rfl rfl h5 rfl ?_; intro w6 hC6 hg6))
    exact ⟨KeepsSet.of_grownBy hg6 (fun r e => by cases e; omega), ⟨_, _, hC6, hide (fun j e => by rw [hpl.out] at e; obtain rfl : x = j := (by omega); exact ⟨rfl, rfl⟩)⟩, hB.grown hg6 hB.size (fun _ e => by cases e; omega)⟩
  case done =>
    rintro ys W hys ⟨⟨g, m, h5, hgm⟩, hB⟩ hK
    obtain rfl : ys = List.range (R + 1) := hys
    obtain ⟨rfl, rfl⟩ := hgm.out R (by simp)
    have hG := fun V => ring_in (dR f R) m hlen.2 V
    gi_wp2_with (first | (refine load_crI rfl _ rfl B5 rfl h5 ?_) | (refine ⟨trivial, ?_⟩; gi_at_call 46; refine (callsIn_wide.2 (hG _)).mono ?_; clear hG; rintro e w6 ⟨r, rfl, hown, hB6⟩))
    have hK0 := (Array.getElem?_eq_some_iff.1 hK).1
    have hK6 := (hB6.block _ hK0).trans hK
    refine ⟨by simp, .inl ⟨_, _, rfl, run_takeDeferred hK6, ?_⟩⟩
    refine ⟨_, results_tmp rfl _ _ _, _, rfl, ?_, ?_⟩
    · exact owns_from (hown.kept (grownBy_putObj' w6 _ _) (.inr (fun e => by have := (hown.lt _ e).1; omega))) hB.size
    · exact (hB.trans (hB6.mono hB.size)).grown (grownBy_putObj' w6 _ _) (Nat.le_trans hB.size hB6.size) (fun k e => by cases e; omega)
  case stop =>
    rintro cd pre W _ h _
    exact h.elim

theorem implRounds (v : Value) (xs : List Int) (r : Int) (_hf : Fits r) (w : World) (hv : Ints w v xs) (_hlies : Lies v) (hl : xs.length ≤ 10000000) : Calls Try.prog 24 #[v, .int .i64 r] w fun e w' =>
    ∃ u, e = .returned u ∧ w'.ownsRow w.heap.size 3 1 u (roundsV xs r).length ((roundsV xs r).map (Value.int .i64)) ∧ Below w.heap.size w w' := by
  cases hs : ringB xs with
  | false =>
    have hS := implRing v xs w hv (by omega)
    rw [roundsV_no (.inl hs)]
    rw [hs] at hS
    clear hv
    go_enter Try.func24, Try.ntmps24
    go_wp2_with (go_at_call 16; refine hS.mono ?_; clear hS; rintro e w1 ⟨rfl, hB1⟩)
    go_ret
    exact ⟨_, rfl, World.ownsRow_nil _ _ _ _, hB1⟩
  | true =>
    by_cases h : r < 0 ∨ 2000 < r
    · have hS := implRing v xs w hv (by omega)
      rw [roundsV_no (.inr h)]
      rw [hs] at hS
      clear hv
      go_enter Try.func24, Try.ntmps24
      go_wp2_with (first
        | (go_at_call 16; refine hS.mono ?_; clear hS; rintro e w1 ⟨rfl, hB1⟩)
        | (go_at_call 48; refine (within_f _ _ _ (by omega)).mono ?_; rintro e w' ⟨rfl, rfl⟩))
      go_ret
      exact ⟨_, rfl, World.ownsRow_nil _ _ _ _, hB1⟩
    · obtain ⟨R, rfl⟩ : ∃ R : Nat, r = R := ⟨r.toNat, by omega⟩
      have := implRounds_in v xs R (by omega) w hv hs
      rw [roundsV_nat hs (by omega), rgL_len]
      exact this
end Go.Proofs.Ytmnmbelmcdfcjaa
