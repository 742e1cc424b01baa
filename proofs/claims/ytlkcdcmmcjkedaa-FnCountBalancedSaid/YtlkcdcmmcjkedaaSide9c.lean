/-
  The program's sides: how many ones their triangles have, their cells as rows.
-/
import Derived.Test.YtlkcdcmmcjkedaaSide9b
import Derived.Test.YtlkcdcmmcjkedaaRegTail
namespace Go.Proofs.Ytlkcdcmmcjkedaa
open Go.RowKit Go.Shelf
attribute [local go_sem] Oper.semAt_some

/-- What is known in the round of the row x. -/
structure OnAx (w0 n0 B c N : Nat) (w W : World) (pre : List Nat) (x b : Nat) : Prop where
  side : SdAt W b (rowB c N x) (c - x)
  box : Boxed W B 3 (.int .i64 (onesU c N x))
  below : Below w0 w W
  pre : pre = List.range x
  lt : x < c
  at_ : n0 ≤ b

set_option maxRecDepth 100000 in
set_option maxHeartbeats 1000000 in
theorem onesDown_in (N c : Nat) (hN : N < 2 ^ c) (hc : c ≤ 12) (w : World) : Calls Try.prog 71 #[sdV N c] w fun e w' => e = .returned (.int .i64 (onesN c N)) ∧ Below w.heap.size w w' := by
  have hall := hide (onesU_all hN hc)
  refine (callsIn_wide (n := 9)).1 ?_
  unfold sdV
  refine callsIn_of_wp_marks Try.func71 rfl trivial ?_ rfl
  simp only [Try.ntmps71, List.size_toArray, List.length_cons, List.length_nil, Nat.reduceAdd, Nat.reduceSub, Array.replicate_succ, Array.replicate_zero, List.push_toArray, List.append_toArray, List.nil_append, List.cons_append]
  have hD := fun w => down_in N c w
  unfold sdV at hD
  gi_wp2_with (refine ⟨trivial, ?_⟩; gi_at_call 70; refine (callsIn_wide.2 (hD _)).mono ?_; rintro e w' ⟨rfl, rfl⟩)
  clear hD
  obtain ⟨W0, hW0⟩ : ∃ W0, ((w.alloc (Obj.cells #[Value.int IntKind.u64 N, Value.int IntKind.i64 c] 58)).alloc (Obj.cells #[Value.int IntKind.i64 0] 3)).alloc (Obj.cells #[Value.int IntKind.u64 N, Value.int IntKind.i64 c] 58) = W0 := ⟨_, rfl⟩
  have hsz1 : W0.heap.size ≤ w.heap.size + 3 := by rw [← hW0]; simp
  have hsz2 : w.heap.size + 3 ≤ W0.heap.size := by rw [← hW0]; simp
  have hbo : Boxed W0 (w.heap.size + 1) 3 (.int .i64 0) := by rw [← hW0]; exact (boxed_at _ _ (by simp)).alloc _
  have hbs : SdAt W0 (w.heap.size + 1 + 1) N c := by
    rw [← hW0]
    have := SdAt.new ((w.alloc (Obj.cells #[Value.int IntKind.u64 N, Value.int IntKind.i64 c] 58)).alloc (Obj.cells #[Value.int IntKind.i64 0] 3)) N c
    rwa [World.size_alloc, World.size_alloc] at this
  have hbel : Below w.heap.size w W0 := by rw [← hW0]; exact (((Below.refl _ w).alloc (Nat.le_refl _) _).alloc (by simp) _).alloc (by simp; omega) _
  rw [hW0]
  clear hW0
  refine wpIn_rangeFunc_box rfl (by omega) (gf := 79) (lb := #[.pointer (some ⟨w.heap.size + 1 + 1, 0, none⟩)]) rfl trivial (enters_of Try.func79 (by kernel_rfl) rfl)
    (down_stops (9 - 1) (w.heap.size + 1 + 1) N c hN hc (by omega) W0 hbs) (fun _ _ => rfl) (by omega)
    (fun ys W o h => h) (fun pre W o h => h)
    (fun pre W => Boxed W (w.heap.size + 1) 3 (.int .i64 (onesU c N pre.length)) ∧ Below w.heap.size w W) (fun _ _ _ => False)
    (fun s A B row hs hg hr => ⟨hs.1.kept hg (fun e => by have := hr _ e.symm; omega), hs.2.grown hg hs.2.size (fun k e => by have := hr _ e; omega)⟩)
    (fun _ _ _ _ _ hs _ _ => hs) ⟨hbo, hbel⟩
    (fun pre x b W => ∃ k, b = { tmps := #[.agg #[.int .u64 N, .int .i64 c], .pointer (some ⟨w.heap.size, 0, none⟩), .int .i64 0, .pointer (some ⟨w.heap.size + 1, 0, none⟩), .pointer (some ⟨k, 0, none⟩), .agg #[.int .u64 N, .int .i64 c],
      .func (.func 79) #[] #[.pointer (some ⟨w.heap.size + 1 + 1, 0, none⟩)], .agg #[.int .u64 (rowB c N x), .int .i64 ((c - x : Nat) : Int)], undef, undef, undef, undef, undef, undef], defers := [] } ∧ OnAx w.heap.size (W0.heap.size + 2) (w.heap.size + 1) c N w W pre x k)
    (fun pre x b W o ⟨k, hb, hO⟩ => ⟨k, hb, hO.side.of_block (World.putObj_heap_other (by have := hO.at_; omega)), hO.box.kept (grownBy_putObj' W _ _) (by simp; omega), hO.below.grown (grownBy_putObj' W _ _) hO.below.size (fun k e => by cases e; omega), hO.pre, hO.lt, hO.at_⟩) ?assign ?body ?done ?stop
  case assign =>
    rintro l pre x W Q' hlt ⟨hb, hB⟩ ⟨hpre, hx⟩ hQ
    have hpl : pre.length = x := by rw [hpre, List.length_range]
    rw [hpl] at hb
    have hQ' := hide hQ
    clear hQ hpl hall
    unfold sdV
    gi_wp2
    exact hQ'.out _ _ (KeepsSet.of_grownBy (World.grownBy_alloc W _ none) (fun _ e => by cases e)) ⟨W.heap.size, rfl, SdAt.new W _ _, hb.alloc _, hB.alloc hB.size _, hpre, hx, by omega⟩
  case body =>
    rintro l pre x b W hlt ⟨k, rfl, hO⟩
    have hA12 := onesU_le c N x
    have hP12 := pop_le12 (rowB c N x) 12
    have hnx : onesU c N (x + 1) = onesU c N x + pop (rowB c N x) 12 := rfl
    have hcall := fun V => ones_in (rowB c N x) (rowB_small hN hc x) V
    have hxc := hO.lt
    have hpl : (pre ++ [x]).length = x + 1 := by rw [List.length_append, hO.pre, List.length_range]; rfl
    have hbx := hO.box
    have hs0 := hO.side.cell0
    have hk := hO.side.lt
    have hka := hO.at_
    have hbl := hO.below
    clear hO
    rw [← hpl] at hnx
    have hnx' := hide hnx
    generalize rowB c N x = M at *
    generalize onesU c N x = A at *
    generalize pop M 12 = R at *
    have hbd := hide (show A + R ≤ 1000 by omega)
    clear hA12 hP12 hpl hall hnx
    gi_wp2
    refine wpIn_region_tail 5 (by kernel_rfl) (by kernel_rfl) (by kernel_rfl) (by decide)
      (fun s => { tmps := #[.agg #[.int .u64 N, .int .i64 c], .pointer (some ⟨w.heap.size, 0, none⟩), .int .i64 0, .pointer (some ⟨w.heap.size + 1, 0, none⟩), .pointer (some ⟨k, 0, none⟩), .agg #[.int .u64 N, .int .i64 c],
        .func (.func 79) #[] #[.pointer (some ⟨w.heap.size + 1 + 1, 0, none⟩)], .agg #[.int .u64 M, .int .i64 ((c - x : Nat) : Int)], s 0, s 1, s 2, s 3, s 4, undef], defers := [] })
      (fun V => V = W.drew) (fun _ _ => True) (fun i v _ => v = [.int .i64 A, .pointer (some ⟨k, 0, none⟩), .int .u64 M, .int .i64 R, .int .i64 ((A : Int) + R)].getD i undef)
      ⟨fun _ => undef, rfl⟩ ?put rfl (fun _ _ _ _ h _ => h) ?step ?tail
    case put =>
      intro i o s v hi ho
      rcases (show i = 0 ∨ i = 1 ∨ i = 2 ∨ i = 3 ∨ i = 4 by omega) with rfl | rfl | rfl | rfl | rfl
      all_goals
        simp at ho
        subst ho
        simp [Act.put]
    case step =>
      rintro i o s _ hi ho rfl hd Q' hQ
      have hcc := hbx.cell
      rcases (show i = 0 ∨ i = 1 ∨ i = 2 ∨ i = 3 ∨ i = 4 by omega) with rfl | rfl | rfl | rfl | rfl
      all_goals
        simp at ho
        subst ho
        simp [Act.put] at hQ
        have hQ' := hide hQ
        clear hQ
      case inl =>
        clear hd
        gi_wp2
        exact hQ'.out
      case inr.inl =>
        clear hd
        gi_wp2
        exact hQ'.out
      case inr.inr.inl =>
        have e1 : s 1 = .pointer (some ⟨k, 0, none⟩) := hd 1 (by kernel_rfl)
        clear hd
        gi_wp2
        exact hQ'.out
      case inr.inr.inr.inl =>
        have e1 : s 2 = .int .u64 M := hd 2 (by kernel_rfl)
        clear hd
        gi_wp2_with (refine ⟨trivial, ?_⟩; gi_at_call 80; refine (callsIn_wide.2 (hcall _)).mono ?_; rintro e w' ⟨rfl, rfl⟩)
        have hr := hQ'.out
        rw [e1] at hr
        exact hr
      case inr.inr.inr.inr =>
        have e1 : s 0 = .int .i64 A := hd 0 (by kernel_rfl)
        have e2 : s 3 = .int .i64 R := hd 3 (by kernel_rfl)
        have hw := hide (show IntKind.i64.wrap ((A : Int) + R) = (A : Int) + R from IntWalk.i64_in _ (by have := hbd.out; omega))
        have hbb := hbd.out
        clear hd
        gi_wp2
        exact hQ'.out
    case tail =>
      rintro s _ rfl hd
      have e1 : s 4 = .int .i64 ((A : Int) + R) := hd 4 (by omega)
      have hcc := hbx.cell
      have hff := hbx.frozen
      clear hd
      simp only [List.drop_succ_cons, List.drop_zero]
      gi_wp2
      refine ⟨(KeepsSet.setCell _ _ _ (by omega)).trans (KeepsSet.drew _ _), ?_, ?_⟩
      · rw [hnx'.out, Int.natCast_add]
        exact (hbx.set _ : Boxed (W.setCell ⟨w.heap.size + 1, 0, none⟩ (.int .i64 ((A : Int) + R))) _ _ _)
      · exact (hbl.setCell (p := ⟨w.heap.size + 1, 0, none⟩) (by show w.heap.size ≤ w.heap.size + 1; omega) _).drew
  case done =>
    rintro ys W hys ⟨hb, hB⟩ hK
    obtain rfl : ys = List.range c := hys
    rw [List.length_range, hall.out] at hb
    have hcc := hb.cell
    gi_wp2
    refine ⟨by simp, .inl ⟨_, _, rfl, run_takeDeferred hK, ?_⟩⟩
    refine ⟨_, results_tmp rfl _ _ _, rfl, ?_⟩
    exact hB.grown (grownBy_putObj' W _ _) hB.size (fun k e => by cases e; omega)
  case stop =>
    rintro cd pre W _ h _
    exact h.elim

/-- 'make([]int, n)' as in addresses: a block of noughts; the side's cells, put into it. -/
theorem row_in (N c : Nat) (hN : N < 4096) (hc : c ≤ 12) (w : World) : Calls Try.prog 69 #[sdV N c] w fun e w' =>
    ∃ r, e = .returned r ∧ w'.ownsRow w.heap.size 3 1 r c ((stL (bitF N) 0 c).map (Value.int .i64)) ∧ Below w.heap.size w w' := by
  have hcell := fun k hk w => cell_in N c k hN hk w
  unfold sdV at hcell ⊢
  go_enter Try.func69, Try.ntmps69
  go_wp2_with (refine make_blk _ rfl _ _ rfl _ _ c rfl rfl (by first | rfl | omega) (by first | rfl | omega) (by omega) ?_; go_loud (intro w1 hb1 hg1))
  rw [World.size_alloc] at hb1
  have hS1 : SdAt w1 w.heap.size N c := (SdAt.new w N c).kept hg1 (by simp)
  have hB1 : Below w.heap.size w w1 := ((Below.refl _ w).alloc (Nat.le_refl _) _).grown hg1 (by simp) (fun _ e => by cases e)
  clear hg1
  go_loopw [10] (fun i wr => ∃ k : Nat, k ≤ c ∧ i = .int .i64 k ∧ BlkAt wr (w.heap.size + 1) 3 c (intsV c fun i => if i < k then (bitF N i : Int) else 0) ∧ SdAt wr w.heap.size N c ∧ Below w.heap.size w wr) (fun i _ => c - (intOf i).toNat)
  case atStart => exact ⟨0, by omega, rfl, hb1.congr (fun i _ => by rw [if_neg (by omega)]), hS1, hB1⟩
  case round =>
    clear hb1 hS1 hB1
    obtain ⟨k, hk, rfl, hb, hS, hB⟩ := hrel
    by_cases hlt : k < c
    · have hc0 := hS.cell0
      have hc1 := hS.cell1
      have hki : (k : Int) < (c : Int) := by omega
      have hcl := hcell k (by omega) wr
      clear hcell
      go_wp2_with fail
      go_at_call 72
      refine hcl.mono ?_
      clear hcl
      rintro e w2 ⟨rfl, hB2⟩
      have hb2 := hb.of_block (hB2.block _ hb.lt)
      have hS2 := hS.of_block (hB2.block _ hS.lt)
      have hcc := hb2.cell (i := k) (intsV_at hlt)
      have hff := hb2.frozen k
      have hb3 := hb2.setI (p := k) (bitF N k : Int) hlt
      have hS3 : SdAt (w2.setCell ⟨w.heap.size + 1, k, none⟩ (.int .i64 (bitF N k : Int))) w.heap.size N c := hS2.of_block (Below.heap_setCell _ _ _ _ (by show w.heap.size ≠ w.heap.size + 1; omega))
      have hB3 : Below w.heap.size w (w2.setCell ⟨w.heap.size + 1, k, none⟩ (.int .i64 (bitF N k : Int))) := (hB.trans (hB2.mono hB.size)).setCell (p := ⟨w.heap.size + 1, k, none⟩) (by show w.heap.size ≤ w.heap.size + 1; omega) _
      clear hb hS hc0 hc1 hb2 hS2 hB
      go_wp2
      go_roundw
      case rel =>
        refine ⟨k + 1, by omega, by go_num, hb3.congr (fun i _ => ?_), hS3, hB3⟩
        by_cases e : i = k
        · subst e; rw [if_pos rfl, if_pos (by omega)]
        · rw [if_neg e]
          by_cases e2 : i < k
          · rw [if_pos e2, if_pos (by omega)]
          · rw [if_neg e2, if_neg (by omega)]
      case measure => simp [intOf]; omega
    · obtain rfl : k = c := by omega
      clear hcell
      go_wp2
      go_ret
      refine ⟨_, rfl, hb.owns (stL_len _ _ _) (fun i hi => ?_) (by omega) (by omega), hB⟩
      rw [intsV_at hi, if_pos hi, stL_getD _ _ _ _ hi]; rfl
end Go.Proofs.Ytlkcdcmmcjkedaa
