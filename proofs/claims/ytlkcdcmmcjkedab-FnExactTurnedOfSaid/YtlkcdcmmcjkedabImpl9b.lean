/-
  The program's TurnedOf at every argument.
-/
import Derived.Test.YtlkcdcmmcjkedabImpl9a
import Derived.Test.YtlkcdcmmcjkedabRegKinds
namespace Go.Proofs.Ytlkcdcmmcjkedab
open Go.RowKit Go.Shelf
attribute [local go_sem] Oper.semAt_some

/-- The first k cells of the side. -/
def turnU (N c k : Nat) : List Value := (List.range k).map fun j => Value.int .i64 (bitF (rowB c N j) (c - 1 - j) : Int)
theorem turnU_len (N c k : Nat) : (turnU N c k).length = k := by simp [turnU]
theorem turnU_next (N c k : Nat) : turnU N c k ++ [Value.int .i64 (bitF (rowB c N k) (c - 1 - k) : Int)] = turnU N c (k + 1) := by simp [turnU, List.range_succ]
theorem turnU_all {xs : List Int} (h : sideB xs = true) : turnU (numF (natL xs) xs.length) xs.length xs.length = (turnV xs).map (Value.int .i64) := by
  rw [turnV_yes h]
  unfold turnU
  rw [List.map_map]
  refine List.map_congr_left fun j hj => ?_
  have hj' := List.mem_range.1 hj
  show Value.int .i64 _ = Value.int .i64 _
  rw [rowB_bit _ _ (by omega)]
  show Value.int .i64 (st (bitF (numF (natL xs) xs.length)) j (xs.length - 1 - j) : Int) = Value.int .i64 (st (natL xs) j (xs.length - 1 - j) : Int)
  rw [st_congr j _ (fun i _ h2 => numF_bit (side_bit h) xs.length i (by omega))]

/-- What is known in a round of TurnedOf. -/
structure TnAx (w0 n0 B g c N : Nat) (w W : World) (pre : List Nat) (x b : Nat) : Prop where
  side : SdAt W b (rowB c N x) (c - x)
  box : Boxed W B 22 (.slice (some ⟨g, 0, none⟩) x c)
  own : W.ownsRow w0 3 1 (.slice (some ⟨g, 0, none⟩) x c) x (turnU N c x)
  below : Below w0 w W
  pre : pre = List.range x
  lt : x < c
  at_ : n0 ≤ b

set_option maxRecDepth 100000 in
set_option maxHeartbeats 1000000 in
theorem implTurned_in (v : Value) (xs : List Int) (w : World) (hv : Ints w v xs) (hs : sideB xs = true) : Calls Try.prog 7 #[v] w fun e w' =>
    ∃ r, e = .returned r ∧ w'.ownsRow w.heap.size 3 1 r xs.length ((turnV xs).map (Value.int .i64)) ∧ Below w.heap.size w w' := by
  have hsl := sideB_len hs
  have hS := implSide v xs w hv (by omega)
  rw [hs] at hS
  have hO := fun w1 (hB : Below w.heap.size w w1) => sideOf_in v xs w1 (hv.below hB) hs
  have hN := numF_lt (side_bit hs) xs.length
  have hall := hide (turnU_all hs)
  obtain ⟨a, cp, rfl⟩ := ints_form hv
  have hc := hsl.2
  have hc1 := hsl.1
  clear hs hv hsl
  generalize numF (natL xs) xs.length = N at *
  generalize xs.length = c at *
  refine (callsIn_wide (n := 9)).1 ?_
  refine callsIn_of_wp_marks Try.func7 rfl trivial ?_ rfl
  simp only [Try.ntmps7, List.size_toArray, List.length_cons, List.length_nil, Nat.reduceAdd, Nat.reduceSub, Array.replicate_succ, Array.replicate_zero, List.push_toArray, List.append_toArray, List.nil_append, List.cons_append]
  obtain ⟨i0, hi, hz0, hz1, hz2⟩ := info_parts Try.infoInt
  have hD := fun w => down_in N c w
  gi_wp2_with (first
    | (refine ⟨trivial, ?_⟩; gi_at_call 14; refine (callsIn_wide.2 hS).mono ?_; clear hS; rintro e w1 ⟨rfl, hB1⟩)
    | (gi_at_make; refine wpListIn_make_own _ rfl _ _ 22 rfl w.heap.size 3 i0 (.int .i64 0) 1 Try.underlying22 hi hz0 hz1 .i64 .i64 c c rfl rfl rfl (by rw [hz2]; omega) (by unfold maxLen; omega) hB1.size ?_; intro w2 hown hg2)
    | (refine ⟨trivial, ?_⟩; gi_at_call 15; fail))
  have hgl : w1.heap.size < w2.heap.size := by
    rcases hown.2 with ⟨h, _⟩ | ⟨g', cap', cur, h, _, hg, _⟩
    · cases h
    · cases h; exact (Array.getElem?_eq_some_iff.1 hg).1
  have hB2 : Below w.heap.size w (w2.alloc (.cells #[.slice (some ⟨w1.heap.size, 0, none⟩) 0 c] 22)) := (hB1.grown hg2 hB1.size (fun _ e => by cases e)).alloc (Nat.le_trans hB1.size hg2.size) _
  have hbx2 : Boxed (w2.alloc (.cells #[.slice (some ⟨w1.heap.size, 0, none⟩) 0 c] 22)) w2.heap.size 22 (.slice (some ⟨w1.heap.size, 0, none⟩) 0 c) := Boxed.new _ _ _
  have hown2 := hown.alloc (.cells #[.slice (some ⟨w1.heap.size, 0, none⟩) 0 c] 22)
  have hgb : w.heap.size ≤ w1.heap.size := hB1.size
  generalize w1.heap.size = g at *
  obtain ⟨W2, hW2⟩ : ∃ W2, w2.alloc (.cells #[.slice (some ⟨g, 0, none⟩) 0 c] 22) = W2 := ⟨_, rfl⟩
  have hsz : w2.heap.size < W2.heap.size := by rw [← hW2]; simp
  rw [hW2] at hB2 hbx2 hown2 ⊢
  generalize w2.heap.size = B at *
  clear hW2 hown hg2 hB1
  refine ⟨trivial, ?_⟩
  gi_at_call 15
  refine (callsIn_wide.2 (hO _ hB2)).mono ?_
  clear hO
  rintro e w4 ⟨rfl, hB4⟩
  have hbx4 : Boxed w4 B 22 (.slice (some ⟨g, 0, none⟩) 0 c) := (hB4.block _ hbx2.lt).trans hbx2
  have hown4 := own_below hown2 hB4
  have hBw4 := hB2.trans (hB4.mono hB2.size)
  have hsz4 : B < w4.heap.size := hbx4.lt
  clear hbx2 hown2 hB2 hB4 hsz
  unfold sdV at hD
  unfold sdV
  gi_wp2_with (refine ⟨trivial, ?_⟩; gi_at_call 16; refine (callsIn_wide.2 (hD _)).mono ?_; rintro e w' ⟨rfl, rfl⟩)
  clear hD
  obtain ⟨W0, hW0⟩ : ∃ W0, w4.alloc (Obj.cells #[Value.int IntKind.u64 N, Value.int IntKind.i64 c] 35) = W0 := ⟨_, rfl⟩
  have hbx0 : Boxed W0 B 22 (.slice (some ⟨g, 0, none⟩) 0 c) := by rw [← hW0]; exact hbx4.alloc _
  have hown0 : W0.ownsRow w.heap.size 3 1 (.slice (some ⟨g, 0, none⟩) 0 c) 0 [] := by rw [← hW0]; exact hown4.alloc _
  have hB0 : Below w.heap.size w W0 := by rw [← hW0]; exact hBw4.alloc hBw4.size _
  have hs0 : SdAt W0 w4.heap.size N c := by rw [← hW0]; exact SdAt.new _ _ _
  have hsz0 : w4.heap.size < W0.heap.size := by rw [← hW0]; simp
  rw [hW0]
  clear hW0 hbx4 hown4 hBw4
  generalize w4.heap.size = S at *
  refine wpIn_rangeFunc_box rfl (by omega) (gf := 24) (lb := #[.pointer (some ⟨S, 0, none⟩)]) rfl trivial (enters_of Try.func24 (by kernel_rfl) rfl)
    (down_stops (9 - 1) S N c hN hc (by omega) W0 hs0) (fun _ _ => rfl) (by omega)
    (fun ys W o h => h) (fun pre W o h => h)
    (fun pre W => Boxed W B 22 (.slice (some ⟨g, 0, none⟩) pre.length c) ∧ W.ownsRow w.heap.size 3 1 (.slice (some ⟨g, 0, none⟩) pre.length c) pre.length (turnU N c pre.length) ∧ Below w.heap.size w W) (fun _ _ _ => False)
    (fun s A B' row hs hg hr => ⟨hs.1.kept hg (fun e => by have := hr _ e.symm; omega), hs.2.1.kept hg (.inr (fun (e : some g = row) => by have := hr _ e.symm; omega)), hs.2.2.grown hg hs.2.2.size (fun k e => by have := hr _ e; omega)⟩)
    (fun _ _ _ _ _ hs _ _ => hs) ⟨hbx0, hown0, hB0⟩
    (fun pre x b W => ∃ k, b = { tmps := #[.slice a c cp, undef, .slice none 0 0, .pointer (some ⟨B, 0, none⟩), .pointer (some ⟨k, 0, none⟩), .slice a c cp, .bool true, .bool false, .slice a c cp, .int .i64 c, .slice (some ⟨g, 0, none⟩) 0 c, .slice a c cp, .agg #[.int .u64 N, .int .i64 c],
      .func (.func 24) #[] #[.pointer (some ⟨S, 0, none⟩)], .agg #[.int .u64 (rowB c N x), .int .i64 ((c - x : Nat) : Int)], undef, undef, undef, undef, undef, undef, undef, undef, undef], defers := [] } ∧ TnAx w.heap.size (W0.heap.size + 2) B g c N w W pre x k)
    (fun pre x b W o ⟨k, hb, hO⟩ => ⟨k, hb, hO.side.of_block (World.putObj_heap_other (by have := hO.at_; omega)), hO.box.kept (grownBy_putObj' W _ _) (by simp; omega), hO.own.kept (grownBy_putObj' W _ _) (by simp [Value.ownBlock]; omega), hO.below.grown (grownBy_putObj' W _ _) hO.below.size (fun k e => by cases e; omega), hO.pre, hO.lt, hO.at_⟩) ?assign ?body ?done ?stop
  case assign =>
    rintro l pre x W Q' hlt ⟨hb, ho, hB⟩ ⟨hpre, hx⟩ hQ
    have hpl : pre.length = x := by rw [hpre, List.length_range]
    rw [hpl] at hb ho
    have hQ' := hide hQ
    clear hQ hpl hall
    unfold sdV
    gi_wp2
    exact hQ'.out _ _ (KeepsSet.of_grownBy (World.grownBy_alloc W _ none) (fun _ e => by cases e)) ⟨W.heap.size, rfl, SdAt.new W _ _, hb.alloc _, ho.alloc _, hB.alloc hB.size _, hpre, hx, by omega⟩
  case body =>
    rintro l pre x b W hlt ⟨k, rfl, hO⟩
    have hxc := hO.lt
    have hpl : (pre ++ [x]).length = x + 1 := by rw [List.length_append, hO.pre, List.length_range]; rfl
    have hnext := turnU_next N c x
    have hM := rowB_small hN hc x
    have hcell := fun V => cell_in (rowB c N x) (c - x) (c - 1 - x) hM (by omega) V
    have hbx := hO.box
    have hsd := hO.side
    have hk := hO.side.lt
    have hka := hO.at_
    have hbl := hO.below
    have how := hO.own
    clear hO
    unfold sdV at hcell
    have hbit := bitF_le (rowB c N x) (c - 1 - x)
    generalize rowB c N x = M at *
    generalize bitF M (c - 1 - x) = z at *
    have hpl' := hide hpl
    have hnext' := hide hnext
    obtain ⟨d, hd⟩ : ∃ d, c - x = d + 1 := ⟨c - x - 1, by omega⟩
    rw [hd] at hcell hsd ⊢
    rw [show c - 1 - x = d by omega] at hcell
    have hd12 : d < 12 := by omega
    clear hpl hnext hall hd
    gi_wp2
    refine wpIn_region_kinds 7 (by kernel_rfl) (by kernel_rfl) (by kernel_rfl) (by decide)
      (fun s => { tmps := #[.slice a c cp, undef, .slice none 0 0, .pointer (some ⟨B, 0, none⟩), .pointer (some ⟨k, 0, none⟩), .slice a c cp, .bool true, .bool false, .slice a c cp, .int .i64 c, .slice (some ⟨g, 0, none⟩) 0 c, .slice a c cp, .agg #[.int .u64 N, .int .i64 c],
      .func (.func 24) #[] #[.pointer (some ⟨S, 0, none⟩)], .agg #[.int .u64 M, .int .i64 ((d + 1 : Nat) : Int)], s 0, s 1, s 2, s 3, s 4, s 5, s 6, undef, undef], defers := [] })
      [.val (.slice (some ⟨g, 0, none⟩) x c), .val (.agg #[.int .u64 M, .int .i64 ((d + 1 : Nat) : Int)]), .val (.pointer (some ⟨k, 1, none⟩)), .val (.int .i64 ((d + 1 : Nat) : Int)), .val (.int .i64 d), .val (.int .i64 z), .one (.int .i64 z)]
      ⟨fun _ => undef, rfl⟩ ?put ?step ?tail
    case put =>
      intro i o s v hi ho
      rcases (show i = 0 ∨ i = 1 ∨ i = 2 ∨ i = 3 ∨ i = 4 ∨ i = 5 ∨ i = 6 by omega) with rfl | rfl | rfl | rfl | rfl | rfl | rfl
      all_goals
        simp at ho
        subst ho
        simp [Act.put]
    case step =>
      rintro i o s V hi ho hV hd Q' hQ
      rcases (show i = 0 ∨ i = 1 ∨ i = 2 ∨ i = 3 ∨ i = 4 ∨ i = 5 ∨ i = 6 by omega) with rfl | rfl | rfl | rfl | rfl | rfl | rfl
      all_goals
        simp at ho
        subst ho
        simp [Act.put] at hQ
        have hQ' := hide hQ
        clear hQ
      case inl =>
        have hcc := (boxed_below hbx hV).cell
        clear hd
        gi_wp2
        exact hQ'.out _ _ (Below.refl _ _) rfl
      case inr.inl =>
        have h0 := (hsd.of_block (hV.block _ hsd.lt)).cell0
        have h1 := (hsd.of_block (hV.block _ hsd.lt)).cell1
        clear hd
        gi_wp2
        exact hQ'.out _ _ (Below.refl _ _) rfl
      case inr.inr.inl =>
        clear hd
        gi_wp2
        exact hQ'.out _ _ (Below.refl _ _) rfl
      case inr.inr.inr.inl =>
        have e1 : s 2 = .pointer (some ⟨k, 1, none⟩) := hd 2 (by kernel_rfl)
        have h1 := (hsd.of_block (hV.block _ hsd.lt)).cell1
        clear hd
        gi_wp2
        exact hQ'.out _ _ (Below.refl _ _) rfl
      case inr.inr.inr.inr.inl =>
        have e1 : s 3 = .int .i64 ((d + 1 : Nat) : Int) := hd 3 (by kernel_rfl)
        have hw : IntKind.i64.wrap (d : Int) = d := IntWalk.i64_in _ (by omega)
        clear hd
        gi_wp2
        exact hQ'.out _ _ (Below.refl _ _) rfl
      case inr.inr.inr.inr.inr.inl =>
        have e1 : s 1 = .agg #[.int .u64 M, .int .i64 ((d + 1 : Nat) : Int)] := hd 1 (by kernel_rfl)
        have e2 : s 4 = .int .i64 d := hd 4 (by kernel_rfl)
        clear hd
        gi_wp2_with (refine ⟨trivial, ?_⟩; gi_at_call 17; refine (callsIn_wide.2 (hcell _)).mono ?_; rintro e w' ⟨rfl, hB'⟩)
        have hr := hQ'.out
        rw [e1, e2] at hr
        exact hr _ _ hB' rfl
      case inr.inr.inr.inr.inr.inr =>
        have e1 : s 5 = .int .i64 z := hd 5 (by kernel_rfl)
        clear hd
        gi_wp2
        refine hQ'.out _ _ ((Below.refl _ V).alloc (Nat.le_refl _) _) ⟨V.heap.size, rfl, by simp, ?_⟩
        exact (Boxed.new V 3 (.int .i64 z)).cell
    case tail =>
      rintro s V hV hd
      have e0 : s 0 = .slice (some ⟨g, 0, none⟩) x c := hd 0 (by omega)
      obtain ⟨q, e6, hq, hcq⟩ : ∃ q, s 6 = .slice (some ⟨q, 0, none⟩) 1 1 ∧ q < V.heap.size ∧ V.cell? ⟨q, 0, none⟩ = some (.int .i64 z) := hd 6 (by omega)
      have hbV := boxed_below hbx hV
      have howV := owns_below how hV
      clear hd
      simp only [List.drop_succ_cons, List.drop_zero]
      refine wpListIn_append_fits _ rfl _ _ 22 rfl w.heap.size 3 i0 1 Try.underlying22 hi hz1 g x c _ e0 howV ⟨q, 0, none⟩ 1 1 [.int .i64 z] e6 rfl (fun j u hj => ?_) (fun u hu => by simp at hu; subst hu; rfl) (by omega) ?_
      · match j, hj with
        | 0, hj => simp at hj; subst hj; exact hcq
      · intro W3 how3 hg3
        rw [hnext'.out] at how3
        have hb3 := hbV.kept hg3 (by simp; omega)
        have hcc := hb3.cell
        have hff := hb3.frozen
        gi_wp2
        have hV3 := hV.size
        refine ⟨(⟨hV.size, fun k hk _ => hV.block k hk⟩ : KeepsSet _ W V).trans ((KeepsSet.of_grownBy hg3 (fun r e => by cases e; omega)).trans (KeepsSet.setCell _ _ _ (by omega))), ?_, ?_, ?_⟩
        · rw [hpl'.out]; exact hb3.set _
        · rw [hpl'.out]; exact how3.kept (grownBy_setCell' W3 B _) (by simp [Value.ownBlock]; omega)
        · exact ((hbl.trans (hV.mono hbl.size)).grown hg3 (Nat.le_trans hbl.size hV.size) (fun k e => by cases e; omega)).setCell (p := ⟨B, 0, none⟩) (by show w.heap.size ≤ B; omega) _
  case done =>
    rintro ys W hys ⟨hb, ho, hB⟩ hK
    obtain rfl : ys = List.range c := hys
    rw [List.length_range] at hb ho
    rw [hall.out] at ho
    have hcc := hb.cell
    gi_wp2
    refine ⟨by simp, .inl ⟨_, _, rfl, run_takeDeferred hK, ?_⟩⟩
    refine ⟨_, results_tmp rfl _ _ _, _, rfl, ?_, ?_⟩
    · exact ho.kept (grownBy_putObj' W _ _) (by simp [Value.ownBlock]; omega)
    · exact hB.grown (grownBy_putObj' W _ _) hB.size (fun k e => by cases e; omega)
  case stop =>
    rintro cd pre W _ h _
    exact h.elim

theorem implTurned (v : Value) (xs : List Int) (w : World) (hv : Ints w v xs) (_hlies : Lies v) (hl : xs.length ≤ 10000000) : Calls Try.prog 7 #[v] w fun e w' =>
    ∃ r, e = .returned r ∧ w'.ownsRow w.heap.size 3 1 r (turnV xs).length ((turnV xs).map (Value.int .i64)) ∧ Below w.heap.size w w' := by
  by_cases hs : sideB xs = true
  · have h := implTurned_in v xs w hv hs
    have hl2 : (turnV xs).length = xs.length := by rw [turnV_yes hs]; simp
    rw [← hl2] at h
    exact h
  · have hs' : sideB xs = false := by simpa using hs
    have hS := implSide v xs w hv (by omega)
    rw [turnV_no hs']
    rw [hs'] at hS
    clear hs hs' hv hl
    go_enter Try.func7, Try.ntmps7
    go_wp2_with (go_at_call 14; refine hS.mono ?_; rintro e w1 ⟨rfl, hB⟩)
    go_ret
    exact ⟨_, rfl, World.ownsRow_nil _ _ _ _, hB⟩
end Go.Proofs.Ytlkcdcmmcjkedab
