/-
  The program's RowsUnder at every argument.
-/
import Derived.Test.YtlkcdcmmcjkedaaImpl9a
import Derived.Test.YtlkcdcmmcjkedaaRegKinds
namespace Go.Proofs.Ytlkcdcmmcjkedaa
open Go.RowKit Go.Shelf
attribute [local go_sem] Oper.semAt_some

/-- The row x of the triangle. -/
def rowU (N c x : Nat) : List Int := stL (bitF (rowB c N x)) 0 (c - x)
theorem rowU_len (N c x : Nat) : (rowU N c x).length = c - x := stL_len _ _ _
theorem rowU_side {xs : List Int} (h : sideB xs = true) (x : Nat) : rowU (numF (natL xs) xs.length) xs.length x = stL (natL xs) x (xs.length - x) := by
  unfold rowU stL
  refine List.map_congr_left fun k hk => ?_
  have hk' := List.mem_range.1 hk
  show ((bitF (rowB xs.length (numF (natL xs) xs.length) x) k : Nat) : Int) = _
  rw [rowB_bit _ _ (by omega), st_congr x k (fun i _ h2 => numF_bit (side_bit h) xs.length i (by omega))]

/-- The rows that have been laid: each its own, none shared. -/
structure Rws (w0 n0 g N c n : Nat) (W : World) (us : List Value) : Prop where
  len : us.length = n
  own : W.ownsRow w0 23 1 (.slice (some ⟨g, 0, none⟩) n c) n us
  row : ∀ j, j < n → W.ownsRow n0 3 1 (us.getD j undef) (c - j) ((rowU N c j).map (Value.int .i64))
  ne : ∀ i j, i < j → j < n → (us.getD i undef).ownBlock ≠ (us.getD j undef).ownBlock
theorem rows_block {W : World} {w0 n : Nat} {v : Value} {xs : List Value} {e : TypeId} (h : W.ownsRow w0 e 1 v n xs) : v.ownBlock = none ∨ ∃ b, v.ownBlock = some b ∧ w0 ≤ b ∧ b < W.heap.size := by
  rcases h.2 with ⟨rfl, _⟩ | ⟨b, cap, cur, rfl, hb, hg, _⟩
  · exact .inl rfl
  · exact .inr ⟨b, rfl, hb, (Array.getElem?_eq_some_iff.1 hg).1⟩
/-- What lies elsewhere is kept. -/
theorem Rws.kept {w0 n0 g N c n : Nat} {W W' : World} {us : List Value} {row : Option Nat} (h : Rws w0 n0 g N c n W us) (hg : W.grownBy W' row) (hr : ∀ k, row = some k → k ≠ g ∧ k < n0) : Rws w0 n0 g N c n W' us :=
  ⟨h.len, h.own.kept hg (.inr (fun (e : some g = row) => (hr g e.symm).1 rfl)), fun j hj => (h.row j hj).kept hg (by
    rcases rows_block (h.row j hj) with h1 | ⟨b, h1, h2, _⟩
    · exact .inl h1
    · refine .inr (fun e => ?_)
      rw [h1] at e
      have := (hr b e.symm).2
      omega), h.ne⟩
theorem Rws.below {w0 n0 g N c n : Nat} {W W' : World} {us : List Value} (h : Rws w0 n0 g N c n W us) (hB : Below W.heap.size W W') : Rws w0 n0 g N c n W' us :=
  h.kept (row := none) ⟨hB.os, hB.tape, hB.output, hB.size, fun k hk _ => hB.block k hk⟩ (fun k e => by cases e)
/-- One row more. -/
theorem Rws.next {w0 n0 g N c n : Nat} {W W' V : World} {us : List Value} {u : Value} (h : Rws w0 n0 g N c n W us) (hB : Below W.heap.size W V) (hu : V.ownsRow W.heap.size 3 1 u (c - n) ((rowU N c n).map (Value.int .i64))) (hn : n < c) (hW : n0 ≤ W.heap.size) (hg0 : g < n0)
    (hg : V.grownBy W' (some g)) (how : W'.ownsRow w0 23 1 (.slice (some ⟨g, 0, none⟩) (n + 1) c) (n + 1) (us ++ [u])) : Rws w0 n0 g N c (n + 1) W' (us ++ [u]) := by
  have hlen := h.len
  have hnew : (us ++ [u]).getD n undef = u := by simp [List.getD, ← hlen]
  have hold : ∀ j, j < n → (us ++ [u]).getD j undef = us.getD j undef := fun j hj => by
    rw [List.getD, List.getD, List.getElem?_append_left (by omega)]
  have hkeep : ∀ {v : Value} {m b : Nat} {xs : List Value}, V.ownsRow b 3 1 v m xs → n0 ≤ b → W'.ownsRow b 3 1 v m xs := fun {v} {m} {b} {xs} h0 hb => h0.kept hg (by
    rcases rows_block h0 with h1 | ⟨q, h1, h2, _⟩
    · exact .inl h1
    · exact .inr (fun e => by rw [h1] at e; injection e with e; omega))
  refine ⟨by simp [hlen], how, fun j hj => ?_, fun i j hij hj => ?_⟩
  · by_cases e : j = n
    · subst e; rw [hnew]; exact owns_from (hkeep hu hW) hW
    · rw [hold j (by omega)]; exact hkeep (owns_below (h.row j (by omega)) hB) (Nat.le_refl _)
  · by_cases e : j = n
    · subst e
      rw [hnew, hold i hij]
      rcases rows_block hu with h1 | ⟨q, h1, h2, _⟩
      · rcases hu.2 with ⟨_, h0⟩ | ⟨q', _, _, rfl, _⟩
        · omega
        · cases h1
      · rcases rows_block (h.row i hij) with h3 | ⟨q', h3, _, h4⟩
        · rw [h1, h3]; exact fun e => by cases e
        · rw [h1, h3]; exact fun e => by injection e with e; omega
    · rw [hold i (by omega), hold j (by omega)]; exact h.ne i j hij (by omega)

/-- What is known in a round of RowsUnder. -/
structure RwAx (w0 n0 B g c N : Nat) (w W : World) (pre : List Nat) (x b : Nat) : Prop where
  side : SdAt W b (rowB c N x) (c - x)
  box : Boxed W B 35 (.slice (some ⟨g, 0, none⟩) x c)
  rws : ∃ us, Rws w0 n0 g N c x W us
  below : Below w0 w W
  pre : pre = List.range x
  lt : x < c
  at_ : n0 ≤ b

set_option maxRecDepth 100000 in
set_option maxHeartbeats 1000000 in
theorem implRowsU_in (v : Value) (xs : List Int) (w : World) (hv : Ints w v xs) (hs : sideB xs = true) : Calls Try.prog 30 #[v] w fun e w' =>
    ∃ r, e = .returned r ∧ OwnRows w' w.heap.size r (rowsV xs) ∧ Below w.heap.size w w' := by
  have hsl := sideB_len hs
  have hS := implSide v xs w hv (by omega)
  rw [hs] at hS
  have hO := fun w1 (hB : Below w.heap.size w w1) => sideOf_in v xs w1 (hv.below hB) hs
  have hN := numF_lt (side_bit hs) xs.length
  have hall := hide (show (rowsV xs).length = xs.length ∧ ∀ j, j < xs.length → (rowsV xs).getD j [] = rowU (numF (natL xs) xs.length) xs.length j from by
    rw [rowsV_yes hs]
    refine ⟨by simp, fun j hj => ?_⟩
    rw [rowU_side hs j]
    simp [List.getD, hj])
  obtain ⟨a, cp, rfl⟩ := ints_form hv
  have hc := hsl.2
  have hc1 := hsl.1
  clear hs hv hsl
  generalize numF (natL xs) xs.length = N at *
  generalize xs.length = c at *
  refine (callsIn_wide (n := 9)).1 ?_
  refine callsIn_of_wp_marks Try.func30 rfl trivial ?_ rfl
  simp only [Try.ntmps30, List.size_toArray, List.length_cons, List.length_nil, Nat.reduceAdd, Nat.reduceSub, Array.replicate_succ, Array.replicate_zero, List.push_toArray, List.append_toArray, List.nil_append, List.cons_append]
  obtain ⟨i0, hi, hz0, hz1, hz2⟩ := info_rows Try.infoRow
  have hD := fun w => down_in N c w
  gi_wp2_with (first
    | (refine ⟨trivial, ?_⟩; gi_at_call 24; refine (callsIn_wide.2 hS).mono ?_; clear hS; rintro e w1 ⟨rfl, hB1⟩)
    | (gi_at_make; refine wpListIn_make_own _ rfl _ _ 35 rfl w.heap.size 23 i0 (.slice none 0 0) 1 Try.underlying35 hi hz0 hz1 .i64 .i64 c c rfl rfl rfl (by rw [hz2]; omega) (by unfold maxLen; omega) hB1.size ?_; intro w2 hown hg2)
    | (refine ⟨trivial, ?_⟩; gi_at_call 67; fail))
  have hgl : w1.heap.size < w2.heap.size := by
    rcases hown.2 with ⟨h, _⟩ | ⟨g', cap', cur, h, _, hg, _⟩
    · cases h
    · cases h; exact (Array.getElem?_eq_some_iff.1 hg).1
  have hB2 : Below w.heap.size w (w2.alloc (.cells #[.slice (some ⟨w1.heap.size, 0, none⟩) 0 c] 35)) := (hB1.grown hg2 hB1.size (fun _ e => by cases e)).alloc (Nat.le_trans hB1.size hg2.size) _
  have hbx2 : Boxed (w2.alloc (.cells #[.slice (some ⟨w1.heap.size, 0, none⟩) 0 c] 35)) w2.heap.size 35 (.slice (some ⟨w1.heap.size, 0, none⟩) 0 c) := Boxed.new _ _ _
  have hown2 := hown.alloc (.cells #[.slice (some ⟨w1.heap.size, 0, none⟩) 0 c] 35)
  have hgb : w.heap.size ≤ w1.heap.size := hB1.size
  generalize w1.heap.size = g at *
  obtain ⟨W2, hW2⟩ : ∃ W2, w2.alloc (.cells #[.slice (some ⟨g, 0, none⟩) 0 c] 35) = W2 := ⟨_, rfl⟩
  have hsz : w2.heap.size < W2.heap.size := by rw [← hW2]; simp
  rw [hW2] at hB2 hbx2 hown2 ⊢
  generalize w2.heap.size = B at *
  clear hW2 hown hg2 hB1
  refine ⟨trivial, ?_⟩
  gi_at_call 67
  refine (callsIn_wide.2 (hO _ hB2)).mono ?_
  clear hO
  rintro e w4 ⟨rfl, hB4⟩
  have hbx4 : Boxed w4 B 35 (.slice (some ⟨g, 0, none⟩) 0 c) := (hB4.block _ hbx2.lt).trans hbx2
  have hown4 := own_below hown2 hB4
  have hBw4 := hB2.trans (hB4.mono hB2.size)
  have hsz4 : B < w4.heap.size := hbx4.lt
  clear hbx2 hown2 hB2 hB4 hsz
  unfold sdV at hD
  unfold sdV
  gi_wp2_with (refine ⟨trivial, ?_⟩; gi_at_call 70; refine (callsIn_wide.2 (hD _)).mono ?_; rintro e w' ⟨rfl, rfl⟩)
  clear hD
  obtain ⟨W0, hW0⟩ : ∃ W0, w4.alloc (Obj.cells #[Value.int IntKind.u64 N, Value.int IntKind.i64 c] 58) = W0 := ⟨_, rfl⟩
  have hbx0 : Boxed W0 B 35 (.slice (some ⟨g, 0, none⟩) 0 c) := by rw [← hW0]; exact hbx4.alloc _
  have hown0 : W0.ownsRow w.heap.size 23 1 (.slice (some ⟨g, 0, none⟩) 0 c) 0 [] := by rw [← hW0]; exact hown4.alloc _
  have hB0 : Below w.heap.size w W0 := by rw [← hW0]; exact hBw4.alloc hBw4.size _
  have hs0 : SdAt W0 w4.heap.size N c := by rw [← hW0]; exact SdAt.new _ _ _
  have hsz0 : w4.heap.size < W0.heap.size := by rw [← hW0]; simp
  rw [hW0]
  clear hW0 hbx4 hown4 hBw4
  generalize w4.heap.size = S at *
  have hr0 : Rws w.heap.size (W0.heap.size + 2) g N c 0 W0 [] := ⟨rfl, hown0, fun j h => by omega, fun i j _ h => by omega⟩
  refine wpIn_rangeFunc_box rfl (by omega) (gf := 79) (lb := #[.pointer (some ⟨S, 0, none⟩)]) rfl trivial (enters_of Try.func79 (by kernel_rfl) rfl)
    (down_stops (9 - 1) S N c hN hc (by omega) W0 hs0) (fun _ _ => rfl) (by omega)
    (fun ys W o h => h) (fun pre W o h => h)
    (fun pre W => Boxed W B 35 (.slice (some ⟨g, 0, none⟩) pre.length c) ∧ (∃ us, Rws w.heap.size (W0.heap.size + 2) g N c pre.length W us) ∧ Below w.heap.size w W) (fun _ _ _ => False)
    (fun s A B' row hs hg hr => ⟨hs.1.kept hg (fun e => by have := hr _ e.symm; omega), (by obtain ⟨us, h⟩ := hs.2.1; exact ⟨us, h.kept hg (fun k e => by have := hr _ e; omega)⟩), hs.2.2.grown hg hs.2.2.size (fun k e => by have := hr _ e; omega)⟩)
    (fun _ _ _ _ _ hs _ _ => hs) ⟨hbx0, ⟨_, hr0⟩, hB0⟩
    (fun pre x b W => ∃ k, b = { tmps := #[.slice a c cp, undef, .slice none 0 0, .pointer (some ⟨B, 0, none⟩), .pointer (some ⟨k, 0, none⟩), .slice a c cp, .bool true, .bool false, .slice a c cp, .int .i64 c, .slice (some ⟨g, 0, none⟩) 0 c, .slice a c cp, .agg #[.int .u64 N, .int .i64 c],
      .func (.func 79) #[] #[.pointer (some ⟨S, 0, none⟩)], .agg #[.int .u64 (rowB c N x), .int .i64 ((c - x : Nat) : Int)], undef, undef, undef, undef, undef, undef], defers := [] } ∧ RwAx w.heap.size (W0.heap.size + 2) B g c N w W pre x k)
    (fun pre x b W o ⟨k, hb, hO⟩ => ⟨k, hb, hO.side.of_block (World.putObj_heap_other (by have := hO.at_; omega)), hO.box.kept (grownBy_putObj' W _ _) (by simp; omega), (by obtain ⟨us, h⟩ := hO.rws; exact ⟨us, h.kept (grownBy_putObj' W _ _) (fun k e => by cases e; omega)⟩), hO.below.grown (grownBy_putObj' W _ _) hO.below.size (fun k e => by cases e; omega), hO.pre, hO.lt, hO.at_⟩) ?assign ?body ?done ?stop
  case assign =>
    rintro l pre x W Q' hlt ⟨hb, ⟨us, ho⟩, hB⟩ ⟨hpre, hx⟩ hQ
    have hpl : pre.length = x := by rw [hpre, List.length_range]
    rw [hpl] at hb ho
    have hQ' := hide hQ
    clear hQ hpl hall
    unfold sdV
    gi_wp2
    exact hQ'.out _ _ (KeepsSet.of_grownBy (World.grownBy_alloc W _ none) (fun _ e => by cases e)) ⟨W.heap.size, rfl, SdAt.new W _ _, hb.alloc _, ⟨us, ho.kept (World.grownBy_alloc W _ none) (fun _ e => by cases e)⟩, hB.alloc hB.size _, hpre, hx, by omega⟩
  case body =>
    rintro l pre x b W hlt ⟨k, rfl, hO⟩
    have hxc := hO.lt
    have hpl : (pre ++ [x]).length = x + 1 := by rw [List.length_append, hO.pre, List.length_range]; rfl
    have hM := rowB_small hN hc x
    have hrow := fun V => row_in (rowB c N x) (c - x) hM (by omega) V
    have hbx := hO.box
    have hsd := hO.side
    have hk := hO.side.lt
    have hka := hO.at_
    have hbl := hO.below
    obtain ⟨us, hrws⟩ := hO.rws
    clear hO
    unfold sdV at hrow
    have hrU := hide (show rowU N c x = stL (bitF (rowB c N x)) 0 (c - x) from rfl)
    generalize hLL : stL (bitF (rowB c N x)) 0 (c - x) = LL at *
    have hLL' := hide hLL
    clear hLL
    generalize rowB c N x = M at *
    have hpl' := hide hpl
    obtain ⟨d, hd⟩ : ∃ d, c - x = d := ⟨_, rfl⟩
    rw [hd] at hrow hsd ⊢
    have hd' := hide hd
    have hd12 : d ≤ 12 := by omega
    clear hpl hall hd
    gi_wp2
    refine wpIn_region_kinds 4 (by kernel_rfl) (by kernel_rfl) (by kernel_rfl) (by decide)
      (fun s => { tmps := #[.slice a c cp, undef, .slice none 0 0, .pointer (some ⟨B, 0, none⟩), .pointer (some ⟨k, 0, none⟩), .slice a c cp, .bool true, .bool false, .slice a c cp, .int .i64 c, .slice (some ⟨g, 0, none⟩) 0 c, .slice a c cp, .agg #[.int .u64 N, .int .i64 c],
      .func (.func 79) #[] #[.pointer (some ⟨S, 0, none⟩)], .agg #[.int .u64 M, .int .i64 d], s 0, s 1, s 2, s 3, undef, undef], defers := [] })
      [.val (.slice (some ⟨g, 0, none⟩) x c), .val (.agg #[.int .u64 M, .int .i64 d]), .own W.heap.size d (LL.map (Value.int .i64)), .oneOwn W.heap.size d (LL.map (Value.int .i64))]
      ⟨fun _ => undef, rfl⟩ ?put ?step ?tail
    case put =>
      intro i o s v hi ho
      rcases (show i = 0 ∨ i = 1 ∨ i = 2 ∨ i = 3 by omega) with rfl | rfl | rfl | rfl
      all_goals
        simp at ho
        subst ho
        simp [Act.put]
    case step =>
      rintro i o s V hi ho hV hd Q' hQ
      rcases (show i = 0 ∨ i = 1 ∨ i = 2 ∨ i = 3 by omega) with rfl | rfl | rfl | rfl
      all_goals
        simp at ho
        subst ho
        simp [Act.put] at hQ
        have hQ' := hide hQ
        clear hQ
      case inl =>
        have hcc := (boxed_below hbx hV).cell
        clear hd
        gi_wp2
        exact hQ'.out _ _ (Below.refl _ _) rfl
      case inr.inl =>
        have h0 := (hsd.of_block (hV.block _ hsd.lt)).cell0
        have h1 := (hsd.of_block (hV.block _ hsd.lt)).cell1
        clear hd
        gi_wp2
        exact hQ'.out _ _ (Below.refl _ _) rfl
      case inr.inr.inl =>
        have e1 : s 1 = .agg #[.int .u64 M, .int .i64 d] := hd 1 (by kernel_rfl)
        clear hd
        gi_wp2_with (refine ⟨trivial, ?_⟩; gi_at_call 69; refine (callsIn_wide.2 (hrow _)).mono ?_; rintro e w' ⟨r, rfl, hown', hB'⟩)
        have hr := hQ'.out
        rw [e1] at hr
        exact hr _ _ hB' (owns_from hown' hV.size)
      case inr.inr.inr =>
        have e1 : V.ownsRow W.heap.size 3 1 (s 2) d (LL.map (Value.int .i64)) := hd 2 (by kernel_rfl)
        clear hd
        obtain ⟨ar, cr, er⟩ := own_form e1
        rw [er] at e1
        gi_wp2
        exact hQ'.out _ _ ((Below.refl _ V).alloc (Nat.le_refl _) _) ⟨V.heap.size, .slice ar d cr, rfl, by simp, (Boxed.new V 23 (.slice ar d cr)).cell, e1.alloc _⟩
    case tail =>
      rintro s V hV hd
      have e0 : s 0 = .slice (some ⟨g, 0, none⟩) x c := hd 0 (by omega)
      obtain ⟨q, u, e6, hq, hcq, hu⟩ : ∃ q u, s 3 = .slice (some ⟨q, 0, none⟩) 1 1 ∧ q < V.heap.size ∧ V.cell? ⟨q, 0, none⟩ = some u ∧ V.ownsRow W.heap.size 3 1 u d (LL.map (Value.int .i64)) := hd 3 (by omega)
      have hbV := boxed_below hbx hV
      have hrV := hrws.below hV
      obtain ⟨au, cu, rfl⟩ := own_form hu
      clear hd
      simp only [List.drop_succ_cons, List.drop_zero]
      refine wpListIn_append_fits _ rfl _ _ 35 rfl w.heap.size 23 i0 1 Try.underlying35 hi hz1 g x c _ e0 hrV.own ⟨q, 0, none⟩ 1 1 [.slice au d cu] e6 rfl (fun j u hj => ?_) (fun u hu => by simp at hu; subst hu; rfl) (by omega) ?_
      · match j, hj with
        | 0, hj => simp at hj; subst hj; exact hcq
      · intro W3 how3 hg3
        have hb3 := hbV.kept hg3 (by simp; omega)
        have hcc := hb3.cell
        have hff := hb3.frozen
        have hR3 := hrws.next hV (by rw [hrU.out, hd'.out]; exact hu) hxc (by omega) (by omega) hg3 how3
        gi_wp2
        have hV3 := hV.size
        refine ⟨(⟨hV.size, fun k hk _ => hV.block k hk⟩ : KeepsSet _ W V).trans ((KeepsSet.of_grownBy hg3 (fun r e => by cases e; omega)).trans (KeepsSet.setCell _ _ _ (by omega))), ?_, ?_, ?_⟩
        · rw [hpl'.out]; exact hb3.set _
        · rw [hpl'.out]; exact ⟨_, hR3.kept (grownBy_setCell' W3 B _) (fun k e => by cases e; omega)⟩
        · exact ((hbl.trans (hV.mono hbl.size)).grown hg3 (Nat.le_trans hbl.size hV.size) (fun k e => by cases e; omega)).setCell (p := ⟨B, 0, none⟩) (by show w.heap.size ≤ B; omega) _
  case done =>
    rintro ys W hys ⟨hb, ⟨us, ho⟩, hB⟩ hK
    obtain rfl : ys = List.range c := hys
    rw [List.length_range] at hb ho
    have hcc := hb.cell
    have hallo := hall.out
    clear hall
    have ho2 := hide hallo
    clear hallo
    gi_wp2
    refine ⟨by simp, .inl ⟨_, _, rfl, run_takeDeferred hK, ?_⟩⟩
    have ho3 := ho.kept (grownBy_putObj' W W0.heap.size (.deferred none)) (fun k e => by cases e; omega)
    refine ⟨_, results_tmp rfl _ _ _, _, rfl, ⟨us, ?_, ?_, fun j hj => ?_, fun i j hij hj => ?_⟩, ?_⟩
    · rw [ho3.len, ho2.out.1]
    · rw [ho3.len]; exact ho3.own
    · rw [ho2.out.1] at hj
      rw [ho2.out.2 j hj, rowU_len]
      exact owns_from (ho3.row j hj) (by have := hB.size; omega)
    · rw [ho2.out.1] at hj
      exact ho3.ne i j hij hj
    · exact hB.grown (grownBy_putObj' W _ _) hB.size (fun k e => by cases e; omega)
  case stop =>
    rintro cd pre W _ h _
    exact h.elim

theorem implRowsU (v : Value) (xs : List Int) (w : World) (hv : Ints w v xs) (_hlies : Lies v) (hl : xs.length ≤ 10000000) : Calls Try.prog 30 #[v] w fun e w' =>
    ∃ r, e = .returned r ∧ OwnRows w' w.heap.size r (rowsV xs) ∧ Below w.heap.size w w' := by
  by_cases hs : sideB xs = true
  · exact implRowsU_in v xs w hv hs
  · have hs' : sideB xs = false := by simpa using hs
    have hS := implSide v xs w hv (by omega)
    rw [rowsV_no hs']
    rw [hs'] at hS
    clear hs hs' hv hl
    go_enter Try.func30, Try.ntmps30
    go_wp2_with (go_at_call 24; refine hS.mono ?_; rintro e w1 ⟨rfl, hB⟩)
    go_ret
    exact ⟨_, rfl, ⟨[], rfl, World.ownsRow_nil _ _ _ _, fun j h => by simp at h, fun i j _ h => by simp at h⟩, hB⟩
end Go.Proofs.Ytlkcdcmmcjkedaa
