/-
  Parts of the proofs, laid together: Answer12, Draw12b, Draw12c, Draw12e, Impl12d, L12Y, LawKit14, LineI12, MadeRd, Q12Y, Read12b, Read12c, RegMadeP, Said12.
-/
import Derived.WalkKit
import Derived.Laws.Concat
import Derived.Laws.Strings2
import Derived.OrdersIn
import Derived.TacticsIn
import Derived.Test.YtiaaefapbcjgmaaGreatDoorProg
import Derived.OwnWalkIn
import Derived.Deep.RegionLaw
import Derived.RangeFuncBox
import Derived.Laws.DeepStrings4
import Derived.Laws.Cover1
import Derived.Maps.AppendAt
import Derived.WalkSpells
import Derived.RangeFuncNested
import Derived.RangeFuncBound
import Derived.RangeFuncCalls
import Derived.RangeFuncLeaves
import Derived.BigRegion
import Derived.Shelf.Abstract
import Derived.Shelf.RegionOpen
import Derived.TacticsInMore
import Derived.LoopNIn
import Derived.LoopIn
import Derived.Deep.QuietTactic
import Derived.BigQuiet
import Derived.Below
import Derived.Laws.BytesString
import Derived.Deep.RegionWith
import Derived.DeepKeys5
import Derived.Maps.Keyed
import Derived.Deep.DeepCutAuto
import Derived.Laws.AppendOwnNone
import Derived.ControlIn
import Derived.Laws.CopyOwn
import Derived.StillTailTactics
import Derived.Maps.OwnSet
import Derived.Laws.Bits64
import Derived.Laws.Bits64b
import Derived.Lib.AppendZeros
import Derived.Lib.AppendZerosOnto
import Derived.Lib.AtoiAll
import Derived.Lib.AtoiAllCases
import Derived.Lib.ItoaNum
import Derived.Lib.ItoaMem
import Derived.Lib.SplitLaws
import Derived.Lib.AppendIntMem
import Derived.WideLaws
import Derived.Lib.SlicesS
import Derived.BigCall
import Derived.Maps.Own
import Derived.Maps.OwnOps
import Derived.StringKeys
import Derived.Shelf.Strings.BuilderK
import Derived.Lib.FrozenHead
import Derived.Tactics
import Derived.Tactics2
import Derived.Defers
import Derived.Laws.Pointers
import Derived.Laws.LoneSync
import Derived.RegionTactic
import Derived.RegionCalls
import Derived.ChangeAlike
import Derived.Laws.EntriesVeiled
import Derived.Test.YtiaaefapbcjgmaaGreatDoorLay12
import Derived.Test.YtiaaefapbcjgmaaGreatDoorLay6
import Derived.Test.YtiaaefapbcjgmaaGreatDoorPb0
import Derived.Test.YtiaaefapbcjgmaaGreatDoorPb1
import Derived.Test.YtiaaefapbcjgmaaGreatDoorPb2
import Derived.Test.YtiaaefapbcjgmaaGreatDoorPb3
namespace Go.Proofs.YtiaaefapbcjgmaaGreatDoor
open Go.RowKit Go.Shelf
attribute [local go_sem] Oper.semAt_some

set_option maxRecDepth 100000 in
set_option maxHeartbeats 1000000 in
theorem fill_in (R p : Nat) (hp : prm p) (w : World) (h : SmAt w R p 0 1 (fun _ => 0)) : Calls Tryz.prog 244 #[.pointer (some ⟨R, 0, none⟩)] w fun e w' =>
    (∃ v, e = .returned v) ∧ SmAt w' R p 0 1 (tabU p p) ∧ w.grownBy w' (some R) := by
  have hp2 := prm_two hp
  have hRw := BlkAt.lt h
  obtain ⟨L, hL⟩ : ∃ L, p = L + 1 := ⟨p - 1, by omega⟩
  refine (callsIn_wide (n := 9)).1 ?_
  refine callsIn_of_wp_marks Tryz.func244 rfl trivial ?_ rfl
  simp only [Tryz.ntmps244, List.size_toArray, List.length_cons, List.length_nil, Nat.reduceAdd, Nat.reduceSub, Array.replicate_succ, Array.replicate_zero, List.push_toArray, List.append_toArray, List.nil_append, List.cons_append]
  have h1 : SmAt (w.alloc (.cells #[.pointer (some ⟨R, 0, none⟩)] 221)) R p 0 1 (fun _ => 0) := BlkAt.kept h (World.grownBy_alloc w _ none) (by simp)
  have hc0 := SmAt.cell0 h1
  have hpi : (p : Int) - 1 = (L : Int) := by omega
  have hLb : L ≤ 12 := by omega
  have hL' := hide hL
  clear hL
  gi_wp2_with (refine ⟨trivial, ?_⟩; gi_at_call 145; refine (callsIn_wide.2 (rowsTo_in _ _)).mono ?_; rintro e w' ⟨rfl, rfl⟩)
  clear hc0 hpi
  obtain ⟨W0, hW0⟩ : ∃ W0, ((w.alloc (.cells #[.pointer (some ⟨R, 0, none⟩)] 221)).alloc (Obj.cells #[Value.int IntKind.i64 L] 3)) = W0 := ⟨_, rfl⟩
  have hsz1 : W0.heap.size ≤ w.heap.size + 2 := by rw [← hW0]; simp
  have hsz2 : w.heap.size + 2 ≤ W0.heap.size := by rw [← hW0]; simp
  have hbox : Boxed W0 w.heap.size 221 (.pointer (some ⟨R, 0, none⟩)) := by rw [← hW0]; exact (Boxed.new w _ _).alloc _
  have hbx : Boxed W0 (w.heap.size + 1) 3 (.int .i64 L) := by rw [← hW0]; have := Boxed.new (w.alloc (.cells #[.pointer (some ⟨R, 0, none⟩)] 221)) 3 (.int .i64 L); rwa [World.size_alloc] at this
  have hgr : w.grownBy W0 (some R) := by rw [← hW0]; exact grown_seq (World.grownBy_alloc w _ none) (World.grownBy_alloc _ _ none) (fun _ e => by cases e) (fun _ e => by cases e)
  have hsm : SmAt W0 R p 0 1 (fun _ => 0) := by rw [← hW0]; exact BlkAt.kept h1 (World.grownBy_alloc _ _ none) (by simp)
  rw [hW0]
  clear hW0 h1
  refine wpIn_rangeFunc_mem rfl (by omega) (gf := 182) (lb := #[.pointer (some ⟨w.heap.size + 1, 0, none⟩)]) rfl trivial (enters_of Tryz.func182 (by kernel_rfl) rfl)
    (rows_stops (9 - 1) (w.heap.size + 1) L (by omega) (by omega) W0 (by omega) hbx.cell) (fun _ _ => rfl) (by omega)
    (fun pre x W o h => ⟨h.1, h.2.1, h.2.2.of_block (World.putObj_heap_other (by omega))⟩) (fun xs W o h => ⟨h.1, h.2.of_block (World.putObj_heap_other (by omega))⟩)
    (fun pre W o h => by obtain ⟨j, h1, h2, h3⟩ := h; exact ⟨j, h1, h2, h3.of_block (World.putObj_heap_other (by omega))⟩)
    (fun pre W => Boxed W w.heap.size 221 (.pointer (some ⟨R, 0, none⟩)) ∧ SmAt W R p 0 1 (tabU p pre.length) ∧ w.grownBy W (some R)) (fun _ _ _ => False)
    (fun s A B row hs hg hr => ⟨hs.1.kept hg (fun e => by have := hr _ e.symm; omega), BlkAt.kept hs.2.1 hg (fun e => by have := hr _ e.symm; omega), grown_seq hs.2.2 hg (fun k e _ => e) (fun k e hk => by have := hr _ e; omega)⟩)
    (fun _ _ _ _ _ hs _ _ => hs) ⟨hbox, hsm.weaken (fun i v hi => by rw [show tabU p ([] : List Nat).length = fun _ => 0 by funext i; exact tabU_zero p i] at hi; exact hi), hgr⟩
    (fun x => { tmps := #[.pointer (some ⟨R, 0, none⟩), .pointer (some ⟨w.heap.size, 0, none⟩), .slice (some ⟨W0.heap.size + 2, 0, none⟩) (x + 1) (L + 1), undef, .pointer (some ⟨R, 0, none⟩), .pointer (some ⟨R, 0, none⟩), .pointer (some ⟨R, 0, none⟩), .int .i64 p, .int .i64 L,
      .func (.func 182) #[] #[.pointer (some ⟨w.heap.size + 1, 0, none⟩)], .slice (some ⟨W0.heap.size + 2, 0, none⟩) (x + 1) (L + 1), undef, undef, undef, undef, undef, undef, undef, undef, undef, undef, undef, undef, undef, undef, undef, undef, undef, undef, undef, undef, undef, undef], defers := [] }) ?assign ?body ?done ?stop
  case assign =>
    intro l x W K hK
    gi_wp2
    exact hK
  case body =>
    rintro l pre x W hlt ⟨hb, hS, hB⟩ ⟨hpre, hx, hrow⟩
    have hc := hb.cell
    have hpl : pre.length = x := by subst hpre; simp
    rw [hpl] at hS
    have hc0 := SmAt.cell0 hS
    have hx16 : (x : Int) < 16 := by omega
    obtain ⟨W2, hcp, hS2, hg2⟩ := copy_blk W 3 R (4 + x * 16) 16 16 (W0.heap.size + 2) (x + 1) (L + 1) 260 _ _ (bin x) (by omega) (by omega) hS (fun i hi => hrow.cell (i := i) (by omega))
    have hb2 := hb.kept hg2 (by simp; omega)
    have hcb := hb2.cell
    have hcz : W2.cell? ⟨R, 0, none⟩ = some (.int .i64 p) := BlkAt.cell hS2 (by rw [if_neg (by omega)]; rfl)
    gi_wp2
    have hkl := keepLeft_blk R (4 + x * 16) 16 16 260 _ _ (bin x) p W2.drew (by omega) (by omega) (by omega) (by omega) (fun i => bin_small x i (by omega)) (hS2.of_block rfl) (fun i hi => by
      by_cases e : i < x + 1
      · rw [if_pos (by omega), show 4 + x * 16 + i - (4 + x * 16) = i by omega]
      · rw [if_neg (by omega), Nat.add_assoc, smV_at p 0 1 _ (by omega)]
        unfold tabU
        rw [if_neg (by omega), bin_over x i (by omega)])
    have hcb' : W2.drew.cell? ⟨w.heap.size, 0, none⟩ = some (.pointer (some ⟨R, 0, none⟩)) := hcb
    have hcz' : W2.drew.cell? ⟨R, 0, none⟩ = some (.int .i64 p) := hcz
    have hbl : ∀ k, k ≠ R → k < W.heap.size → W2.drew.heap[k]? = W.heap[k]? := fun k hk hlt => hg2.block k hlt (fun e => hk (by injection e))
    obtain ⟨Post, hPost⟩ : ∃ Post : World → Prop, Post = fun W3 => SmAt W3 R p 0 1 (tabU p (x + 1)) ∧ W.grownBy W3 (some R) := ⟨_, rfl⟩
    have hkl' : Calls Tryz.prog 248 #[.slice (some ⟨R, 4 + x * 16, none⟩) 16 16, .int .i64 p] W2.drew fun e w' => (∃ v, e = .returned v) ∧ Post w' := hkl.mono fun e w' ⟨h1, h2, h3⟩ => ⟨h1, by
      rw [hPost]
      refine ⟨h2.weaken (fun i v hi => tab_next (V := fun i => if 4 + x * 16 ≤ i ∧ i < 4 + x * 16 + (x + 1) then some (.int .i64 (bin x (i - (4 + x * 16)))) else smV p 0 1 (tabU p x) i) (fun i hi => ?_) hi), grown_seq hg2 (⟨h3.os, h3.tape, h3.output, h3.size, h3.block⟩ : W2.grownBy w' (some R)) (fun _ e _ => e) (fun _ e _ => e)⟩
      rw [if_neg (by omega)]⟩
    have hPost' := hide hPost
    clear hS2 hkl hcb hcz hc hc0 hcp hrow hPost
    refine wpIn_region_inv (by kernel_rfl) (by kernel_rfl) (fun M b V => ∃ s0 s1 s2 s3 s4 s5 s6 s7 s8 s9 s10 : Value, b = { tmps := #[.pointer (some ⟨R, 0, none⟩), .pointer (some ⟨w.heap.size, 0, none⟩), .slice (some ⟨W0.heap.size + 2, 0, none⟩) (x + 1) (L + 1), .int .i64 x, .pointer (some ⟨R, 0, none⟩), .pointer (some ⟨R, 0, none⟩), .pointer (some ⟨R, 0, none⟩), .int .i64 p, .int .i64 L,
        .func (.func 182) #[] #[.pointer (some ⟨w.heap.size + 1, 0, none⟩)], .slice (some ⟨W0.heap.size + 2, 0, none⟩) (x + 1) (L + 1), .slice (some ⟨W0.heap.size + 2, 0, none⟩) (x + 1) (L + 1), .int .i64 ((x : Int) + 1), .int .i64 x, .pointer (some ⟨R, 0, none⟩), .int .i64 x, .pointer (some ⟨R, 0, none⟩), .pointer (some ⟨R, 4, none⟩), .pointer (some ⟨R, 4 + x * 16, none⟩), .slice (some ⟨R, 4 + x * 16, none⟩) 16 16, .slice (some ⟨W0.heap.size + 2, 0, none⟩) (x + 1) (L + 1), .int .i64 ((x : Int) + 1), s0, s1, s2, s3, s4, s5, s6, s7, s8, s9, s10], defers := [] } ∧
        (M 0 = true → s0 = .pointer (some ⟨R, 0, none⟩)) ∧ (M 1 = true → s1 = .int .i64 x) ∧ (M 2 = true → s2 = .pointer (some ⟨R, 0, none⟩) ∧ M 0 = true) ∧ (M 3 = true → s3 = .pointer (some ⟨R, 4, none⟩) ∧ M 2 = true) ∧
        (M 4 = true → s4 = .pointer (some ⟨R, 4 + x * 16, none⟩) ∧ M 3 = true) ∧ (M 5 = true → s5 = .slice (some ⟨R, 4 + x * 16, none⟩) 16 16 ∧ M 4 = true) ∧ (M 6 = true → s6 = .pointer (some ⟨R, 0, none⟩)) ∧ (M 7 = true → s7 = .pointer (some ⟨R, 0, none⟩) ∧ M 6 = true) ∧
        (M 8 = true → s8 = .pointer (some ⟨R, 0, none⟩) ∧ M 7 = true) ∧ (M 9 = true → s9 = .int .i64 p ∧ M 8 = true) ∧
        ((M 10 = false ∧ V = W2.drew) ∨ (M 10 = true ∧ M 0 = true ∧ M 6 = true ∧ M 9 = true ∧ Post V))) ?h0 ?step ?fin
    case h0 => exact ⟨undef, undef, undef, undef, undef, undef, undef, undef, undef, undef, undef, rfl, by simp, by simp, by simp, by simp, by simp, by simp, by simp, by simp, by simp, by simp, .inl ⟨rfl, rfl⟩⟩
    case step =>
      rintro M b V i o ho hMi hde ⟨s0, s1, s2, s3, s4, s5, s6, s7, s8, s9, s10, rfl, f0, f1, f2, f3, f4, f5, f6, f7, f8, f9, fw⟩ Q' hQ'
      have hi : i < 11 := (Array.getElem?_eq_some_iff.1 ho).1
      have hQ := hide hQ'
      clear hQ'
      rcases (show i = 0 ∨ i = 1 ∨ i = 2 ∨ i = 3 ∨ i = 4 ∨ i = 5 ∨ i = 6 ∨ i = 7 ∨ i = 8 ∨ i = 9 ∨ i = 10 by omega) with rfl | rfl | rfl | rfl | rfl | rfl | rfl | rfl | rfl | rfl | rfl
      all_goals
        simp at ho
        subst ho
        simp [Region.binds] at hde
      case' inl => rcases fw with ⟨fw0, rfl⟩ | ⟨_, h1, h2, h3, _⟩
      case' inr.inr.inl => obtain rfl := f0 hde
      case' inr.inr.inr.inl => obtain ⟨rfl, h0⟩ := f2 hde
      case' inr.inr.inr.inr.inl => obtain ⟨rfl, h0⟩ := f3 hde.1; obtain rfl := f1 hde.2
      case' inr.inr.inr.inr.inr.inl => obtain ⟨rfl, h0⟩ := f4 hde
      case' inr.inr.inr.inr.inr.inr.inl => rcases fw with ⟨fw0, rfl⟩ | ⟨_, h1, h2, h3, _⟩
      case' inr.inr.inr.inr.inr.inr.inr.inl => obtain rfl := f6 hde
      case' inr.inr.inr.inr.inr.inr.inr.inr.inl => obtain ⟨rfl, h0⟩ := f7 hde
      case' inr.inr.inr.inr.inr.inr.inr.inr.inr.inl => obtain ⟨rfl, h0⟩ := f8 hde; rcases fw with ⟨fw0, rfl⟩ | ⟨_, h1, h2, h3, _⟩
      case' inr.inr.inr.inr.inr.inr.inr.inr.inr.inr => obtain ⟨rfl, h5⟩ := f5 hde.1; obtain ⟨rfl, h9⟩ := f9 hde.2; rcases fw with ⟨fw0, rfl⟩ | ⟨h1, _⟩
      all_goals
        first | (rw [h1] at hMi; cases hMi; done) | (rw [h2] at hMi; cases hMi; done) | (rw [h3] at hMi; cases hMi; done) | skip
      all_goals
        gi_wp2_with (refine ⟨trivial, ?_⟩; gi_at_call 248; refine (callsIn_wide.2 hkl').mono ?_; clear hkl'; rintro e W3 ⟨⟨v, rfl⟩, hP3⟩)
        refine hQ.out _ _ ⟨_, _, _, _, _, _, _, _, _, _, _, rfl, ?_, ?_, ?_, ?_, ?_, ?_, ?_, ?_, ?_, ?_, ?_⟩
        all_goals first
          | (intro hM; first
            | exact rfl
            | exact ⟨rfl, by simpa using hde⟩
            | exact ⟨rfl, by simpa using hde.1⟩
            | exact f0 (by simpa using hM)
            | exact f1 (by simpa using hM)
            | exact f6 (by simpa using hM)
            | (have g := f2 (by simpa using hM); exact ⟨by first | rfl | exact g.1, by first | (simp; done) | simpa using g.2⟩)
            | (have g := f3 (by simpa using hM); exact ⟨by first | rfl | exact g.1, by first | (simp; done) | simpa using g.2⟩)
            | (have g := f4 (by simpa using hM); exact ⟨by first | rfl | exact g.1, by first | (simp; done) | simpa using g.2⟩)
            | (have g := f5 (by simpa using hM); exact ⟨by first | rfl | exact g.1, by first | (simp; done) | simpa using g.2⟩)
            | (have g := f7 (by simpa using hM); exact ⟨by first | rfl | exact g.1, by first | (simp; done) | simpa using g.2⟩)
            | (have g := f8 (by simpa using hM); exact ⟨by first | rfl | exact g.1, by first | (simp; done) | simpa using g.2⟩)
            | (have g := f9 (by simpa using hM); exact ⟨by first | rfl | exact g.1, by first | (simp; done) | simpa using g.2⟩))
          | exact .inl ⟨by simpa using fw0, rfl⟩
          | exact .inr ⟨by simp, by simpa using (f2 (f3 (f4 h5).2).2).2, by simpa using (f7 (f8 h9).2).2, by simpa using hde.2, hP3⟩
          | exact fw.elim (fun ⟨u, v⟩ => .inl ⟨by simpa using u, v⟩) (fun ⟨u, v, x, y, z⟩ => .inr ⟨by simpa using u, by simpa using v, by simpa using x, by simpa using y, z⟩)
    case fin =>
      rintro M b V hall ⟨s0, s1, s2, s3, s4, s5, s6, s7, s8, s9, s10, rfl, _, _, _, _, _, _, _, _, _, _, fw⟩
      rcases fw with ⟨u, _⟩ | ⟨_, _, _, _, hP3⟩
      · rw [hall 10 (by simp)] at u; cases u
      · rw [hPost'.out] at hP3
        obtain ⟨hS3, hg3⟩ := hP3
        gi_wp2
        refine ⟨KeepsSet.of_grownBy hg3 (fun r e => by cases e; omega), hb.kept hg3 (by simp; omega), ?_, grown_seq hB hg3 (fun _ e _ => e) (fun _ e _ => e)⟩
        rw [show (pre ++ [x]).length = x + 1 by simp [hpl]]
        exact hS3
  case done =>
    rintro ys W ⟨rfl, hrow⟩ ⟨hb, hS, hB⟩ hK
    rw [List.length_range] at hS
    gi_wp2
    refine ⟨by simp, .inl ⟨_, _, rfl, run_takeDeferred hK, ?_⟩⟩
    refine ⟨_, results_none rfl _ _ _, ⟨_, rfl⟩, ?_, ?_⟩
    · rw [hL'.out]; rw [hL'.out] at hS; exact BlkAt.kept hS (grownBy_putObj' W _ _) (by simp; omega)
    · exact grown_seq hB (grownBy_putObj' W _ _) (fun _ e _ => e) (fun k e hk => by cases e; omega)
  case stop =>
    rintro c pre W _ h _
    exact h.elim
end Go.Proofs.YtiaaefapbcjgmaaGreatDoor
namespace Go.Proofs.YtiaaefapbcjgmaaGreatDoor
open Go.RowKit

set_option maxRecDepth 100000 in
set_option maxHeartbeats 1600000 in
theorem slow_in (R p : Nat) (hp : prm p) (w : World) (h : SmAt w R p 0 0 (fun _ => 0)) :
    Calls Tryz.prog 247 #[.pointer (some ⟨R, 1, none⟩), .func (.func 244) #[.pointer (some ⟨R, 0, none⟩)] #[]] w fun e w' => e = .returned (.tuple #[]) ∧ SmAt w' R p 1 0 (tabU p p) ∧ w.grownBy w' (some R) := by
  have h1 := h.state 1
  have hg1 : w.grownBy (w.setCell ⟨R, 2, none⟩ (.int .i32 1)) (some R) := grownBy_set (grownBy_refl _ _) _ _
  have hl := run_call_load (P := Tryz.prog) Tryz.func249 (by kernel_rfl) (by kernel_rfl) (by kernel_rfl) .u32 (by kernel_rfl) (w := w.setCell ⟨R, 2, none⟩ (.int .i32 1)) (a := ⟨R, 1, none⟩) (x := 0) h1.cell1
  have hnot : ∀ (x : Bool) (w : World), (Op.unary .not (.bool x)).run Tryz.prog w = .ok (.bool (!x)) w := fun _ _ => rfl
  go_enter_defers Tryz.func247, Tryz.ntmps247
  go_wp2_with (go_at_call 250; refine (lock_free ⟨R, 2, none⟩ _ h.cell2 (BlkAt.frozen h 2)).mono ?_; rintro e w' ⟨rfl, rfl⟩)
  go_wp2_with (first | (go_at_call 246; go_in) | (go_at_call 244; refine (fill_in R p hp _ h1).mono ?_; clear hl; rintro e w2 ⟨⟨v, rfl⟩, h2, hg2⟩))
  refine leaves_cons (f := 252) (args := #[.pointer (some ⟨R, 1, none⟩), .bool true]) (by simp) (by simp [go_sem]) ?_
  refine (store_deferred ⟨R, 1, none⟩ (.int .u32 0) .returning _ h2.cell1 (BlkAt.frozen h2 1)).mono ?_
  rintro e u' w'' ⟨rfl, rfl, rfl⟩
  have h3 := SmAt.done (BlkAt.of_block (w' := w2.drew) h2 rfl) 1
  refine leaves_cons (f := 251) (args := #[.pointer (some ⟨R, 2, none⟩)]) (by simp [settle]) (by simp [go_sem]) ?_
  refine (unlock_deferred ⟨R, 2, none⟩ _ _ h3.cell2 (BlkAt.frozen h3 2)).mono ?_
  rintro e u' w'' ⟨rfl, rfl, rfl⟩
  have h4 := h3.state 0
  have hgE : w.grownBy ((w2.drew.setCell ⟨R, 1, none⟩ (.int .u32 1)).setCell ⟨R, 2, none⟩ (.int .i32 0)) (some R) := grownBy_set (grownBy_set (grownBy_drew (hg1.trans hg2)) _ _) _ _
  simp only [Leaves, settle]
  exact ⟨_, results_none rfl _ _ _, rfl, h4, hgE⟩

/-- Do, not yet done. -/
theorem do_first (R p : Nat) (hp : prm p) (w : World) (h : SmAt w R p 0 0 (fun _ => 0)) :
    Calls Tryz.prog 243 #[.pointer (some ⟨R, 1, none⟩), .func (.func 244) #[.pointer (some ⟨R, 0, none⟩)] #[]] w fun e w' => (∃ v, e = .returned v) ∧ SmAt w' R p 1 0 (tabU p p) ∧ w.grownBy w' (some R) := by
  have hl := run_call_load (P := Tryz.prog) Tryz.func249 (by kernel_rfl) (by kernel_rfl) (by kernel_rfl) .u32 (by kernel_rfl) h.cell1
  have hnot : ∀ (x : Bool) (w : World), (Op.unary .not (.bool x)).run Tryz.prog w = .ok (.bool (!x)) w := fun _ _ => rfl
  go_enter Tryz.func243, Tryz.ntmps243
  go_wp2_with (first | (go_at_call 247; refine (slow_in R p hp _ h).mono ?_; rintro e w' ⟨rfl, h2, hg2⟩) | (go_at_call 246; go_in))
  go_end0
  exact ⟨⟨_, rfl⟩, h2, hg2⟩

/-- Do, done already. -/
theorem do_done (R p : Nat) (T : Nat → Nat) (fv : Value) (w : World) (h : SmAt w R p 1 0 T) :
    Calls Tryz.prog 243 #[.pointer (some ⟨R, 1, none⟩), fv] w fun e w' => (∃ v, e = .returned v) ∧ w' = w := by
  have hl := run_call_load (P := Tryz.prog) Tryz.func249 (by kernel_rfl) (by kernel_rfl) (by kernel_rfl) .u32 (by kernel_rfl) h.cell1
  have hnot : ∀ (x : Bool) (w : World), (Op.unary .not (.bool x)).run Tryz.prog w = .ok (.bool (!x)) w := fun _ _ => rfl
  go_enter Tryz.func243, Tryz.ntmps243
  go_wp2_with (go_at_call 246; go_in)
  go_end0
  exact ⟨⟨_, rfl⟩, rfl⟩

/-- The small triangle, not yet filled or filled. -/
def Sm (w : World) (R p : Nat) : Prop := SmAt w R p 0 0 (fun _ => 0) ∨ SmAt w R p 1 0 (tabU p p)

theorem Sm.once {w : World} {R p : Nat} (hp : prm p) (h : Sm w R p) :
    Calls Tryz.prog 243 #[.pointer (some ⟨R, 1, none⟩), .func (.func 244) #[.pointer (some ⟨R, 0, none⟩)] #[]] w fun e w' => (∃ v, e = .returned v) ∧ SmAt w' R p 1 0 (tabU p p) ∧ w.grownBy w' (some R) := by
  rcases h with h | h
  · exact do_first R p hp w h
  · exact (do_done R p _ _ w h).mono fun e w' ⟨h1, h2⟩ => ⟨h1, h2 ▸ h, h2 ▸ grownBy_refl _ _⟩

theorem Sm.kept {w w' : World} {R p : Nat} {row : Option Nat} (h : Sm w R p) (hg : w.grownBy w' row) (hr : some R ≠ row) : Sm w' R p := by
  rcases h with h | h
  · exact .inl (BlkAt.kept h hg hr)
  · exact .inr (BlkAt.kept h hg hr)

theorem Sm.drew {w : World} {R p : Nat} (h : Sm w R p) : Sm w.drew R p := by
  rcases h with h | h
  · exact .inl (BlkAt.of_block h rfl)
  · exact .inr (BlkAt.of_block h rfl)

theorem Sm.cell0 {w : World} {R p : Nat} (h : Sm w R p) : w.cell? ⟨R, 0, none⟩ = some (.int .i64 p) := by
  rcases h with h | h
  · exact SmAt.cell0 h
  · exact SmAt.cell0 h

theorem Sm.lt {w : World} {R p : Nat} (h : Sm w R p) : R < w.heap.size := by
  rcases h with h | h
  · exact BlkAt.lt h
  · exact BlkAt.lt h

set_option maxHeartbeats 400000 in
theorem smallCell_in (R p a b : Nat) (hp : prm p) (ha : a < p) (hb : b < p) (w : World) (h : Sm w R p) : Calls Tryz.prog 226 #[.pointer (some ⟨R, 0, none⟩), .int .i64 a, .int .i64 b] w fun e w' =>
    e = .returned (.int .i64 ((bin a b % p : Nat) : Int)) ∧ Sm w' R p ∧ w.grownBy w' (some R) := by
  have hp2 := prm_two hp
  have hmf : ∀ (fn : Fn) (first cap : Array Value) (w : World), (Instr.makeFunc fn first cap).run Tryz.prog w = .ok (.func fn first cap) w := fun _ _ _ _ => rfl
  have hO := h.once hp
  clear h
  obtain ⟨C, hC⟩ : ∃ C, bin a b % p = C := ⟨_, rfl⟩
  rw [hC]
  have hC' := hide hC
  clear hC
  go_enter Tryz.func226, Tryz.ntmps226
  go_wp2_with fail
  go_at_call 243
  refine hO.mono ?_
  clear hO
  rintro e w1 ⟨⟨v, rfl⟩, h1, hg1⟩
  have hc : w1.cell? ⟨R, 4 + a * 16 + b, none⟩ = some (.int .i64 C) := by
    have := BlkAt.cell h1 (i := 4 + (16 * a + b)) (smV_at p 1 0 _ (by omega))
    rw [tabU_at ha (by omega), hC'.out] at this
    rw [show 4 + a * 16 + b = 4 + (16 * a + b) by omega]; exact this
  have ha16 : (a : Int) < 16 := by omega
  have hb16 : (b : Int) < 16 := by omega
  go_wp2
  go_ret
  exact ⟨rfl, .inr h1, hg1⟩
end Go.Proofs.YtiaaefapbcjgmaaGreatDoor
namespace Go.Proofs.YtiaaefapbcjgmaaGreatDoor
open Go.RowKit Go.Shelf
attribute [local go_sem] Oper.semAt_some

set_option maxRecDepth 100000 in
set_option maxHeartbeats 1000000 in
theorem leftIn_in (R X Y p : Nat) (hp : prm p) (hX : X ≤ 999999999) (hY : Y ≤ 999999999) (w : World) (h : Sm w R p) : Calls Tryz.prog 200 #[.pointer (some ⟨R, 0, none⟩), .int .i64 X, .int .i64 Y] w fun e w' =>
    e = .returned (.int .i64 ((bin X Y % p : Nat) : Int)) ∧ Sm w' R p ∧ w.grownBy w' (some R) := by
  have hp2 := prm_two hp
  have hR := h.lt
  refine (callsIn_wide (n := 9)).1 ?_
  refine callsIn_of_wp_marks Tryz.func200 rfl trivial ?_ rfl
  simp only [Tryz.ntmps200, List.size_toArray, List.length_cons, List.length_nil, Nat.reduceAdd, Nat.reduceSub, Array.replicate_succ, Array.replicate_zero, List.push_toArray, List.append_toArray, List.nil_append, List.cons_append]
  have hc0 : ((w.alloc (.cells #[.pointer (some ⟨R, 0, none⟩)] 221)).alloc (.cells #[.int .i64 1] 3)).cell? ⟨R, 0, none⟩ = some (.int .i64 p) := ((h.kept (World.grownBy_alloc w _ none) (by simp)).kept (World.grownBy_alloc _ _ none) (by simp)).cell0
  have hcb : ((w.alloc (.cells #[.pointer (some ⟨R, 0, none⟩)] 221)).alloc (.cells #[.int .i64 1] 3)).cell? ⟨w.heap.size, 0, none⟩ = some (.pointer (some ⟨R, 0, none⟩)) := ((Boxed.new w _ _).alloc _).cell
  gi_wp2_with (refine ⟨trivial, ?_⟩; gi_at_call 203; refine (callsIn_wide.2 (digitsBeside_in _ _ _ _)).mono ?_; rintro e w' ⟨rfl, rfl⟩)
  clear hc0 hcb
  obtain ⟨W0, hW0⟩ : ∃ W0, (((((w.alloc (.cells #[.pointer (some ⟨R, 0, none⟩)] 221)).alloc (.cells #[.int .i64 1] 3)).alloc (.cells #[.int .i64 X] 3)).alloc (.cells #[.int .i64 Y] 3)).alloc (.cells #[.int .i64 p] 3)) = W0 := ⟨_, rfl⟩
  have hsz1 : W0.heap.size ≤ w.heap.size + 5 := by rw [← hW0]; simp
  have hsz2 : w.heap.size + 5 ≤ W0.heap.size := by rw [← hW0]; simp
  have hb0 : Boxed W0 w.heap.size 221 (.pointer (some ⟨R, 0, none⟩)) := by rw [← hW0]; exact ((((boxed_at _ _ (by simp)).alloc _).alloc _).alloc _).alloc _
  have hb1 : Boxed W0 (w.heap.size + 1) 3 (.int .i64 1) := by rw [← hW0]; exact (((boxed_at _ _ (by simp)).alloc _).alloc _).alloc _
  have hb3 : Boxed W0 (w.heap.size + 1 + 1) 3 (.int .i64 X) := by rw [← hW0]; exact ((boxed_at _ _ (by simp)).alloc _).alloc _
  have hb4 : Boxed W0 (w.heap.size + 1 + 1 + 1) 3 (.int .i64 Y) := by rw [← hW0]; exact (boxed_at _ _ (by simp)).alloc _
  have hb5 : Boxed W0 (w.heap.size + 1 + 1 + 1 + 1) 3 (.int .i64 p) := by rw [← hW0]; exact boxed_at _ _ (by simp)
  have hgr : w.grownBy W0 (some R) := by
    rw [← hW0]
    exact grown_seq (grown_seq (grown_seq (grown_seq (grown_seq (row := some R) (grownBy_refl w none) (World.grownBy_alloc _ _ none) (fun _ e => by cases e) (fun _ e => by cases e)) (World.grownBy_alloc _ _ none) (fun _ e _ => e) (fun _ e => by cases e)) (World.grownBy_alloc _ _ none) (fun _ e _ => e) (fun _ e => by cases e)) (World.grownBy_alloc _ _ none) (fun _ e _ => e) (fun _ e => by cases e)) (World.grownBy_alloc _ _ none) (fun _ e _ => e) (fun _ e => by cases e)
  have hsm : Sm W0 R p := by
    rw [← hW0]
    exact ((((h.kept (World.grownBy_alloc _ _ none) (by simp)).kept (World.grownBy_alloc _ _ none) (by simp)).kept (World.grownBy_alloc _ _ none) (by simp)).kept (World.grownBy_alloc _ _ none) (by simp)).kept (World.grownBy_alloc _ _ none) (by simp)
  rw [hW0]
  clear hW0
  have hone : prodL ([] : List (Nat × Nat)) % p = 1 := by show 1 % p = 1; exact Nat.mod_eq_of_lt (by omega)
  refine wpIn_rangeFunc_mem rfl (by omega) (gf := 228) (lb := #[.pointer (some ⟨w.heap.size + 1 + 1, 0, none⟩), .pointer (some ⟨w.heap.size + 1 + 1 + 1 + 1, 0, none⟩), .pointer (some ⟨w.heap.size + 1 + 1 + 1, 0, none⟩)]) rfl trivial (enters_of Tryz.func228 (by kernel_rfl) rfl)
    (beside_stops (9 - 1) (w.heap.size + 1 + 1) (w.heap.size + 1 + 1 + 1 + 1) (w.heap.size + 1 + 1 + 1) X Y p (by omega) (by omega) hp2.1 (by omega) (by omega) W0 (by omega) (by omega) (by omega) hb3.cell hb5.cell hb4.cell) (fun _ _ => rfl) (by omega)
    (fun pre x W o h => by obtain ⟨R1, R2, m, k, ht, h1, h2, h3⟩ := h; exact ⟨R1, R2, m, k, ht, h1.of_block (World.putObj_heap_other (by unfold Two at ht; omega)), h2.of_block (World.putObj_heap_other (by unfold Two at ht; omega)), h3⟩) (fun xs W o h => h) (fun pre W o h => h)
    (fun pre W => Boxed W w.heap.size 221 (.pointer (some ⟨R, 0, none⟩)) ∧ Boxed W (w.heap.size + 1) 3 (.int .i64 ((prodL pre % p : Nat) : Int)) ∧ Sm W R p ∧ w.grownBy W (some R)) (fun _ _ _ => False)
    (fun s A B row hs hg hr => ⟨hs.1.kept hg (fun e => by have := hr _ e.symm; omega), hs.2.1.kept hg (fun e => by have := hr _ e.symm; omega), hs.2.2.1.kept hg (fun e => by have := hr _ e.symm; omega), grown_seq hs.2.2.2 hg (fun k e _ => e) (fun k e hk => by have := hr _ e; omega)⟩)
    (fun _ _ _ _ _ hs _ _ => hs) ⟨hb0, by rw [hone]; exact hb1, hsm, hgr⟩
    (fun x => { tmps := #[.pointer (some ⟨R, 0, none⟩), .int .i64 X, .int .i64 Y, .pointer (some ⟨w.heap.size, 0, none⟩), undef, undef, .int .i64 0, .pointer (some ⟨w.heap.size + 1, 0, none⟩), .int .i64 x.1, .int .i64 x.2, .int .i64 X, .int .i64 Y, .pointer (some ⟨R, 0, none⟩), .pointer (some ⟨R, 0, none⟩), .pointer (some ⟨R, 0, none⟩), .int .i64 p,
      .func (.func 228) #[] #[.pointer (some ⟨w.heap.size + 1 + 1, 0, none⟩), .pointer (some ⟨w.heap.size + 1 + 1 + 1 + 1, 0, none⟩), .pointer (some ⟨w.heap.size + 1 + 1 + 1, 0, none⟩)], .int .i64 x.1, .int .i64 x.2, undef, undef, undef, undef, undef, undef, undef, undef, undef, undef, undef, undef], defers := [] }) ?assign ?body ?done ?stop
  case assign =>
    intro l x W K hK
    gi_wp2
    exact hK
  case body =>
    rintro l pre ⟨u, v⟩ W hlt ⟨hx0, hx1, hS, hB⟩ ⟨R1, R2, m, k, _, _, _, _, hu, hv⟩
    simp only at hu hv
    have hstep := prodL_step (p := p) pre (u, v)
    simp only at hstep
    have hAl : prodL pre % p < p := Nat.mod_lt _ (by omega)
    have hCl : bin u v % p < p := Nat.mod_lt _ (by omega)
    have hcall := fun V (hV : Sm V R p) => smallCell_in R p u v hp hu hv V hV
    obtain ⟨A, hA⟩ : ∃ A, prodL pre % p = A := ⟨_, rfl⟩
    obtain ⟨C, hC⟩ : ∃ C, bin u v % p = C := ⟨_, rfl⟩
    rw [hA, hC] at hstep
    rw [hA] at hAl hx1
    rw [hC] at hCl
    simp only [hC] at hcall
    clear hA hC
    obtain ⟨D, hD⟩ : ∃ D, A * C = D := ⟨_, rfl⟩
    have hDl : D ≤ 13 * 13 := by rw [← hD]; exact Nat.mul_le_mul (by omega) (by omega)
    have hDi : (A : Int) * (C : Int) = (D : Int) := by rw [← hD]; simp
    rw [hD] at hstep
    clear hD
    have hq := tmod_n D p
    rw [hstep] at hq
    have hrl : prodL (pre ++ [(u, v)]) % p < p := Nat.mod_lt _ (by omega)
    clear hstep
    obtain ⟨E, hE⟩ : ∃ E, prodL (pre ++ [(u, v)]) % p = E := ⟨_, rfl⟩
    rw [hE] at hq hrl
    have hE' := hide hE
    clear hE
    have hw1 : IntKind.i64.wrap (D : Int) = D := IntWalk.i64_in _ (by omega)
    have hw2 : IntKind.i64.wrap (E : Int) = E := IntWalk.i64_in _ (by omega)
    have hp0 : ((p : Int) == 0) = false := by simp; omega
    obtain ⟨Pre, hPre⟩ : ∃ Pre : World → Prop, Pre = fun V => Boxed V w.heap.size 221 (.pointer (some ⟨R, 0, none⟩)) ∧ Boxed V (w.heap.size + 1) 3 (.int .i64 A) ∧ Sm V R p ∧ W.grownBy V (some R) := ⟨_, rfl⟩
    obtain ⟨Post, hPost⟩ : ∃ Post : World → Prop, Post = fun V => Boxed V w.heap.size 221 (.pointer (some ⟨R, 0, none⟩)) ∧ Boxed V (w.heap.size + 1) 3 (.int .i64 E) ∧ Sm V R p ∧ ∃ V0, W.grownBy V0 (some R) ∧ V0.grownBy V (some (w.heap.size + 1)) := ⟨_, rfl⟩
    have p0 : Pre W.drew := by rw [hPre]; exact ⟨hx0, hx1, hS.drew, grownBy_drew (grownBy_refl _ _)⟩
    have pbox : ∀ V, Pre V → V.cell? ⟨w.heap.size, 0, none⟩ = some (.pointer (some ⟨R, 0, none⟩)) := fun V h => by rw [hPre] at h; exact h.1.cell
    have pleft : ∀ V, Pre V → V.cell? ⟨w.heap.size + 1, 0, none⟩ = some (.int .i64 A) := fun V h => by rw [hPre] at h; exact h.2.1.cell
    have pfr : ∀ V, Pre V → V.frozen? ⟨w.heap.size + 1, 0, none⟩ = false := fun V h => by rw [hPre] at h; exact h.2.1.frozen
    have pp : ∀ V, Pre V → V.cell? ⟨R, 0, none⟩ = some (.int .i64 p) := fun V h => by rw [hPre] at h; exact h.2.2.1.cell0
    have pcall : ∀ V, Pre V → Calls Tryz.prog 226 #[.pointer (some ⟨R, 0, none⟩), .int .i64 u, .int .i64 v] V fun e w' => e = .returned (.int .i64 C) ∧ Pre w' := fun V h => by
      rw [hPre] at h ⊢
      exact (hcall V h.2.2.1).mono fun e w' ⟨h1, h2, h3⟩ => ⟨h1, h.1.kept h3 (by simp; omega), h.2.1.kept h3 (by simp; omega), h2, h.2.2.2.trans h3⟩
    have ppost : ∀ V, Pre V → Post (V.setCell ⟨w.heap.size + 1, 0, none⟩ (.int .i64 E)) := fun V h => by
      rw [hPre] at h
      rw [hPost]
      exact ⟨h.1.other (by omega) _, h.2.1.set _, h.2.2.1.kept (grownBy_set (grownBy_refl V (some (w.heap.size + 1))) 0 (.int .i64 E)) (by simp; omega), V, h.2.2.2, grownBy_set (grownBy_refl _ _) _ _⟩
    have hPost' := hide hPost
    clear hcall hPre hPost
    gi_wp2
    refine wpIn_region_inv (by kernel_rfl) (by kernel_rfl) (fun M b V => ∃ s0 s1 s2 s3 s4 s5 s6 s7 s8 s9 s10 : Value, b = { tmps := #[.pointer (some ⟨R, 0, none⟩), .int .i64 X, .int .i64 Y, .pointer (some ⟨w.heap.size, 0, none⟩), undef, undef, .int .i64 0, .pointer (some ⟨w.heap.size + 1, 0, none⟩), .int .i64 u, .int .i64 v, .int .i64 X, .int .i64 Y, .pointer (some ⟨R, 0, none⟩), .pointer (some ⟨R, 0, none⟩), .pointer (some ⟨R, 0, none⟩), .int .i64 p,
      .func (.func 228) #[] #[.pointer (some ⟨w.heap.size + 1 + 1, 0, none⟩), .pointer (some ⟨w.heap.size + 1 + 1 + 1 + 1, 0, none⟩), .pointer (some ⟨w.heap.size + 1 + 1 + 1, 0, none⟩)], .int .i64 u, .int .i64 v, s0, s1, s2, s3, s4, s5, s6, s7, s8, s9, s10, undef], defers := [] } ∧
        (M 0 = true → s0 = .int .i64 A) ∧ (M 1 = true → s1 = .pointer (some ⟨R, 0, none⟩)) ∧ (M 2 = true → s2 = .int .i64 u) ∧ (M 3 = true → s3 = .int .i64 v) ∧
        (M 4 = true → s4 = .int .i64 C ∧ M 1 = true) ∧ (M 5 = true → s5 = .int .i64 D ∧ M 0 = true ∧ M 4 = true) ∧ (M 6 = true → s6 = .pointer (some ⟨R, 0, none⟩)) ∧ (M 7 = true → s7 = .pointer (some ⟨R, 0, none⟩) ∧ M 6 = true) ∧
        (M 8 = true → s8 = .pointer (some ⟨R, 0, none⟩) ∧ M 7 = true) ∧ (M 9 = true → s9 = .int .i64 p ∧ M 8 = true) ∧ (M 10 = true → s10 = .int .i64 E ∧ M 5 = true ∧ M 9 = true) ∧
        ((M 11 = false ∧ Pre V) ∨ (M 11 = true ∧ M 0 = true ∧ M 1 = true ∧ M 4 = true ∧ M 6 = true ∧ M 9 = true ∧ Post V))) ?h0 ?step ?fin
    case h0 => exact ⟨undef, undef, undef, undef, undef, undef, undef, undef, undef, undef, undef, rfl, by simp, by simp, by simp, by simp, by simp, by simp, by simp, by simp, by simp, by simp, by simp, .inl ⟨rfl, p0⟩⟩
    case step =>
      rintro M b V i o ho hMi hde ⟨s0, s1, s2, s3, s4, s5, s6, s7, s8, s9, s10, rfl, f0, f1, f2, f3, f4, f5, f6, f7, f8, f9, f10, fw⟩ Q' hQ'
      have hi : i < 12 := (Array.getElem?_eq_some_iff.1 ho).1
      have hQ := hide hQ'
      clear hQ'
      rcases (show i = 0 ∨ i = 1 ∨ i = 2 ∨ i = 3 ∨ i = 4 ∨ i = 5 ∨ i = 6 ∨ i = 7 ∨ i = 8 ∨ i = 9 ∨ i = 10 ∨ i = 11 by omega) with rfl | rfl | rfl | rfl | rfl | rfl | rfl | rfl | rfl | rfl | rfl | rfl
      all_goals
        simp at ho
        subst ho
        simp [Region.binds] at hde
      case' inl => have gw := fw; rcases gw with ⟨fw0, hP⟩ | ⟨h11, h1, h2, h3, h4, h5, _⟩; have hc := pleft V hP
      case' inr.inl => have gw := fw; rcases gw with ⟨fw0, hP⟩ | ⟨h11, h1, h2, h3, h4, h5, _⟩; have hc := pbox V hP
      case' inr.inr.inr.inr.inl => obtain rfl := f1 hde.1; obtain rfl := f2 hde.2.1; obtain rfl := f3 hde.2.2; rcases fw with ⟨fw0, hP⟩ | ⟨h11, h1, h2, h3, h4, h5, _⟩; have hcl := pcall V hP
      case' inr.inr.inr.inr.inr.inl => obtain rfl := f0 hde.1; obtain ⟨rfl, _⟩ := f4 hde.2
      case' inr.inr.inr.inr.inr.inr.inl => have gw := fw; rcases gw with ⟨fw0, hP⟩ | ⟨h11, h1, h2, h3, h4, h5, _⟩; have hc := pbox V hP
      case' inr.inr.inr.inr.inr.inr.inr.inl => obtain rfl := f6 hde
      case' inr.inr.inr.inr.inr.inr.inr.inr.inl => obtain ⟨rfl, _⟩ := f7 hde
      case' inr.inr.inr.inr.inr.inr.inr.inr.inr.inl => obtain ⟨rfl, _⟩ := f8 hde; have gw := fw; rcases gw with ⟨fw0, hP⟩ | ⟨h11, h1, h2, h3, h4, h5, _⟩; have hc := pp V hP
      case' inr.inr.inr.inr.inr.inr.inr.inr.inr.inr.inl => obtain ⟨rfl, _⟩ := f5 hde.1; obtain ⟨rfl, _⟩ := f9 hde.2
      case' inr.inr.inr.inr.inr.inr.inr.inr.inr.inr.inr => obtain ⟨rfl, g5, g9⟩ := f10 hde.1; rcases fw with ⟨fw0, hP⟩ | ⟨h11, h1, h2, h3, h4, h5, _⟩; have hc := pleft V hP; have hfz := pfr V hP
      all_goals
        first | (rw [h1] at hMi; cases hMi; done) | (rw [h2] at hMi; cases hMi; done) | (rw [h3] at hMi; cases hMi; done) | (rw [h4] at hMi; cases hMi; done) | (rw [h5] at hMi; cases hMi; done) | (rw [h11] at hMi; cases hMi; done) | skip
      all_goals
        gi_wp2_with (refine ⟨trivial, ?_⟩; gi_at_call 226; refine (callsIn_wide.2 hcl).mono ?_; clear hcl; rintro e W3 ⟨rfl, hP3⟩)
        refine hQ.out _ _ ⟨_, _, _, _, _, _, _, _, _, _, _, rfl, ?_, ?_, ?_, ?_, ?_, ?_, ?_, ?_, ?_, ?_, ?_, ?_⟩
        all_goals first
          | (intro hM; first
            | exact rfl
            | exact ⟨rfl, by simpa using hde⟩
            | exact ⟨rfl, by simpa using hde.1⟩
            | exact ⟨rfl, by simpa using hde.1, by simpa using hde.2⟩
            | exact f0 (by simpa using hM)
            | exact f1 (by simpa using hM)
            | exact f2 (by simpa using hM)
            | exact f3 (by simpa using hM)
            | exact f6 (by simpa using hM)
            | (have g := f4 (by simpa using hM); exact ⟨by first | rfl | exact g.1, by first | (simp; done) | simpa using g.2⟩)
            | (have g := f5 (by simpa using hM); exact ⟨by first | rfl | exact g.1, by first | (simp; done) | simpa using g.2.1, by first | (simp; done) | simpa using g.2.2⟩)
            | (have g := f7 (by simpa using hM); exact ⟨by first | rfl | exact g.1, by first | (simp; done) | simpa using g.2⟩)
            | (have g := f8 (by simpa using hM); exact ⟨by first | rfl | exact g.1, by first | (simp; done) | simpa using g.2⟩)
            | (have g := f9 (by simpa using hM); exact ⟨by first | rfl | exact g.1, by first | (simp; done) | simpa using g.2⟩)
            | (have g := f10 (by simpa using hM); exact ⟨by first | rfl | exact g.1, by first | (simp; done) | simpa using g.2.1, by first | (simp; done) | simpa using g.2.2⟩))
          | exact .inl ⟨by simpa using fw0, hP⟩
          | exact .inl ⟨by simpa using fw0, hP3⟩
          | exact .inr ⟨by simp, by simpa using (f5 g5).2.1, by simpa using (f4 (f5 g5).2.2).2, by simpa using (f5 g5).2.2, by simpa using (f7 (f8 (f9 g9).2).2).2, by simpa using g9, ppost V hP⟩
          | exact fw.elim (fun ⟨a, b⟩ => .inl ⟨by simpa using a, b⟩) (fun ⟨a, b, c, d, e, f, z⟩ => .inr ⟨by simpa using a, by simpa using b, by simpa using c, by simpa using d, by simpa using e, by simpa using f, z⟩)
    case fin =>
      rintro M b V hall ⟨s0, s1, s2, s3, s4, s5, s6, s7, s8, s9, s10, rfl, _, _, _, _, _, _, _, _, _, _, _, fw⟩
      rcases fw with ⟨a, _⟩ | ⟨_, _, _, _, _, _, hP3⟩
      · rw [hall 11 (by simp)] at a; cases a
      · rw [hPost'.out] at hP3
        obtain ⟨q0, q1, q2, V0, q3, q4⟩ := hP3
        gi_wp2
        refine ⟨(KeepsSet.of_grownBy q3 (fun r e => by cases e; omega)).trans (KeepsSet.of_grownBy q4 (fun r e => by cases e; omega)), q0, by rw [hE'.out]; exact q1, q2, grown_seq (grown_seq hB q3 (fun _ e _ => e) (fun _ e _ => e)) q4 (fun _ e _ => e) (fun k e hk => by cases e; omega)⟩
  case done =>
    rintro ys W hys ⟨hx0, hx1, hS, hB⟩ hK
    obtain rfl : ys = pairs p X Y := hys
    rw [prodL_left hp] at hx1
    have hc := hx1.cell
    gi_wp2
    refine ⟨by simp, .inl ⟨_, _, rfl, run_takeDeferred hK, ?_⟩⟩
    refine ⟨_, results_tmp rfl _ _ _, rfl, hS.kept (grownBy_putObj' W _ _) (by simp; omega), ?_⟩
    exact grown_seq hB (grownBy_putObj' W _ _) (fun _ e _ => e) (fun k e hk => by cases e; omega)
  case stop =>
    rintro c pre W _ h _
    exact h.elim

/-- The small triangle's block: as it is laid, and with the prime in it. -/
def smZ : Array Value := #[.int .i64 0, .int .u32 0, .int .i32 0, .int .u32 0] ++ Array.replicate 256 (.int .i64 0)

def smP (p : Int) : Array Value := #[.int .i64 p, .int .u32 0, .int .i32 0, .int .u32 0] ++ Array.replicate 256 (.int .i64 0)

theorem smP_built (p : Int) : Tryz.prog.built 195 [(0, .int .i64 p)] = some (smP p) := by kernel_rfl

theorem smZ_zero (w : World) : (zeroValue 195).run Tryz.prog w = .ok (.agg smZ) w := by kernel_rfl

theorem smP_info (p : Int) : (Tryz.prog.info? 195).map (·.size) = some (smP p).size := by kernel_rfl

theorem smZ_size (p : Int) : smZ.size = (smP p).size := by kernel_rfl

theorem smP_one (p : Int) : (smP p).all (·.oneCell') = true := by kernel_rfl

theorem smP_size (p : Int) : (smP p).size = 260 := by kernel_rfl

theorem smP_at (p : Nat) (i : Nat) (v : Value) (h : smV p 0 0 (fun _ => 0) i = some v) : (smP p)[i]? = some v := by
  unfold smV at h
  unfold smP
  by_cases e0 : i = 0
  · subst e0; simpa using h
  · by_cases e1 : i = 1
    · subst e1; simpa using h
    · by_cases e2 : i = 2
      · subst e2; simpa using h
      · by_cases e3 : 4 ≤ i ∧ i < 260
        · rw [if_neg e0, if_neg e1, if_neg e2, if_pos e3] at h
          rw [Array.getElem?_append_right (by simp; omega), Array.getElem?_replicate, if_pos (by simp; omega)]
          exact h
        · rw [if_neg e0, if_neg e1, if_neg e2, if_neg e3] at h; cases h

theorem build_sm {ops : Array Oper} {rest : List Oper} {o : Oper} {a : Act} {w : World} {Q : Exit → Act → World → Prop} (hg : o.guard = none) (x : Operand) (ho : o.op = .build 195 #[(0, x)]) (p : Int) (hx : a.eval x = .int .i64 p)
    (h : wpList Tryz.prog ops Q rest (a.put o.dst (.agg (smP p))) w) : wpList Tryz.prog ops Q (o :: rest) a w := by
  refine wpList_plain hg fun K hK => ?_
  unfold Oper.wp execOp
  simp only [ho]
  have := run_build (P := Tryz.prog) w 195 #[(0, .int .i64 p)] (smP p) (smP_built p)
  simp [hx, this]
  exact hK _ _ h

theorem alloc_sm {ops : Array Oper} {rest : List Oper} {o : Oper} {a : Act} {w : World} {Q : Exit → Act → World → Prop} (hg : o.guard = none) (ho : o.op = .alloc 195)
    (h : wpList Tryz.prog ops Q rest (a.put o.dst (.pointer (some ⟨w.heap.size, 0, none⟩))) (w.alloc (.cells smZ 195))) : wpList Tryz.prog ops Q (o :: rest) a w := by
  refine wpList_plain hg fun K hK => ?_
  unfold Oper.wp execOp
  simp only [ho]
  have hr : (Instr.alloc 195 true (.tuple #[])).run Tryz.prog w = .ok (.pointer (some ⟨w.heap.size, 0, none⟩)) (w.alloc (.cells smZ 195)) := by
    unfold Instr.alloc
    simp only [Sem.run_bind, smZ_zero, Result.andThen_ok]
    rfl
  simp [hr]
  exact hK _ _ h

theorem store_sm {ops : Array Oper} {rest : List Oper} {o : Oper} {a : Act} {w : World} {Q : Exit → Act → World → Prop} (hgd : o.guard = none) (x y : Operand) (ho : o.op = .store 195 x y) (g p : Nat)
    (hx : a.eval x = .pointer (some ⟨g, 0, none⟩)) (hy : a.eval y = .agg (smP p)) (hg : w.heap[g]? = some (.cells smZ 195 (0, 0)))
    (h : ∀ w', SmAt w' g p 0 0 (fun _ => 0) → w.grownBy w' (some g) → wpList Tryz.prog ops Q rest (a.put o.dst undef) w') : wpList Tryz.prog ops Q (o :: rest) a w :=
  wpList_store_row hgd 195 x y ho g (smP p) hx hy 195 smZ hg (smP_info p) (smZ_size p) (smP_one p)
    (h _ ⟨smP p, setRow_heap w g smZ _ _ _ hg, smP_size p, smP_at p⟩ ⟨rfl, rfl, rfl, by simp, fun k _ hr => setRow_other w g k _ (fun e => hr (by rw [e]))⟩)

set_option maxHeartbeats 400000 in
theorem implLeft (row place p : Int) (hpf : Fits p) (w : World) : Calls Tryz.prog 166 #[.int .i64 row, .int .i64 place, .int .i64 p] w fun e w' => e = .returned (.int .i64 (leftV row place p)) ∧ Below w.heap.size w w' := by
  by_cases h1 : row < 0 ∨ 999999999 < row
  · rw [leftV_bad (h1.imp id .inl)]
    go_enter Tryz.func166, Tryz.ntmps166
    go_wp2_with (go_at_call 55; refine (within_f _ _ _ (by omega)).mono ?_; rintro e w' ⟨rfl, rfl⟩)
    go_ret
    exact ⟨rfl, Below.refl _ _⟩
  · by_cases h2 : place < 0 ∨ 999999999 < place
    · rw [leftV_bad (.inr (.inr (h2.imp id .inl)))]
      go_enter Tryz.func166, Tryz.ntmps166
      go_wp2_with (first | (go_at_call 55; refine (within_t _ _ _ (by omega) (by omega)).mono ?_; rintro e w' ⟨rfl, rfl⟩) | (go_at_call 55; refine (within_f _ _ _ (by omega)).mono ?_; rintro e w' ⟨rfl, rfl⟩))
      go_ret
      exact ⟨rfl, Below.refl _ _⟩
    · cases hpr : prmI p with
      | false =>
        rw [leftV_bad (.inr (.inr (.inr (.inr hpr))))]
        have hP := fun w => implPrime_is hpf hpr w
        clear hpr
        go_enter Tryz.func166, Tryz.ntmps166
        go_wp2_with (first | (go_at_call 55; refine (within_t _ _ _ (by omega) (by omega)).mono ?_; rintro e w' ⟨rfl, rfl⟩) | (go_at_call 198; refine (hP _).mono ?_; rintro e w' ⟨rfl, hB⟩))
        go_ret
        exact ⟨rfl, hB⟩
      | true =>
        have hP := fun w => implPrime_is hpf hpr w
        obtain ⟨B, rfl, hB⟩ := prmI_t hpr
        obtain ⟨N, rfl⟩ : ∃ N : Nat, row = N := ⟨row.toNat, by omega⟩
        obtain ⟨K, rfl⟩ : ∃ K : Nat, place = K := ⟨place.toNat, by omega⟩
        have hN : N ≤ 999999999 := by omega
        have hK : K ≤ 999999999 := by omega
        rw [leftV_nat hN hK hB]
        have hU := fun R w h => leftIn_in R N K B hB hN hK w h
        generalize bin N K % B = T at *
        clear hpr
        go_enter Tryz.func166, Tryz.ntmps166
        go_wp2_with (first
          | (go_at_call 55; refine (within_t _ _ _ (by omega) (by omega)).mono ?_; rintro e w' ⟨rfl, rfl⟩)
          | (go_at_call 198; refine (hP _).mono ?_; rintro e w1 ⟨rfl, hB1⟩)
          | (refine build_sm rfl _ rfl B rfl ?_)
          | (refine alloc_sm rfl rfl ?_)
          | (refine store_sm rfl _ _ rfl w1.heap.size B rfl rfl (heap_alloc_new _ _) ?_; intro w2 hS2 hg2)
          | (go_at_call 200; refine (hU _ _ (.inl hS2)).mono ?_; rintro e w3 ⟨rfl, _, hg3⟩))
        go_ret
        refine ⟨rfl, ?_⟩
        have hb1 := (hB1.alloc hB1.size (.cells smZ 195)).grown hg2 (by have := hB1.size; simp; omega) (fun k e => by cases e; exact hB1.size)
        exact hb1.grown hg3 hb1.size (fun k e => by cases e; exact hB1.size)
end Go.Proofs.YtiaaefapbcjgmaaGreatDoor
namespace Go.Proofs.YtiaaefapbcjgmaaGreatDoor
open Go.RowKit Go.Maps

theorem upTo (N B : Nat) (hN : N ≤ 999999999) (hB2 : 2 ≤ B) (hB13 : B ≤ 13) (w : World) : Calls Tryz.prog 227 #[.int .i64 N, .int .i64 B] w fun e w' => e = .returned (.int .i64 (tup B N)) ∧ w = w' := by
  have hlt := tup_le hB2 N
  obtain ⟨S, hS⟩ : ∃ S, tup B N = S := ⟨_, rfl⟩
  rw [hS] at hlt ⊢
  have hS0 : 0 + tup B N = S := by omega
  clear hS
  go_enter Tryz.func227, Tryz.ntmps227
  go_wp2
  go_loop [0, 5] (fun n s => ∃ m t : Nat, n = .int .i64 m ∧ s = .int .i64 t ∧ m ≤ N ∧ t + tup B m = S) (fun n _ => (intOf n).toNat)
  case atStart => exact ⟨N, 0, rfl, rfl, Nat.le_refl _, hS0⟩
  case round =>
    clear hS0
    obtain ⟨m, t, rfl, rfl, hm, hs⟩ := hrel
    by_cases hlt : 0 < m
    · rw [tup_pos hB2 hlt] at hs
      have hq2 := tdiv_n m B
      have hb0 : ((B : Int) == 0) = false := by simp; omega
      have hdl := Nat.div_lt_self hlt hB2
      generalize m / B = q at *
      have hs' := hide hs
      have hts : t + q ≤ S := by omega
      clear hs
      have hw2 : IntKind.i64.wrap (q : Int) = q := IntWalk.i64_in _ (by omega)
      go_wp2
      go_round
      case rel => exact ⟨q, t + q, rfl, by go_num, by omega, by have := hs'.out; omega⟩
      case measure => simp [intOf]; omega
    · obtain rfl : m = 0 := by omega
      rw [tup_zero] at hs
      obtain rfl : t = S := by omega
      clear hs
      go_wp2
      go_ret
      exact ⟨rfl, rfl⟩

set_option maxHeartbeats 400000 in
theorem timesAt_in (N K B : Nat) (hN : N ≤ 499999999) (hK : K ≤ N) (hB2 : 2 ≤ B) (hB13 : B ≤ 13) (w : World) : Calls Tryz.prog 201 #[.int .i64 N, .int .i64 K, .int .i64 B] w fun e w' => e = .returned (.int .i64 (cars B N K)) ∧ w = w' := by
  obtain ⟨R, hR⟩ : ∃ R, N - K = R := ⟨_, rfl⟩
  have hRi : (N : Int) - (K : Int) = (R : Int) := by omega
  have e1 := fun w => upTo N B (by omega) hB2 hB13 w
  have e2 := fun w => upTo K B (by omega) hB2 hB13 w
  have e3 := fun w => upTo R B (by omega) hB2 hB13 w
  have hc := tup_cars hB2 hK
  rw [hR] at hc
  have hl := tup_le hB2 N
  generalize tup B N = T1 at *
  generalize tup B K = T2 at *
  generalize tup B R = T3 at *
  generalize cars B N K = C at *
  have hv := hide (show (T1 : Int) - T2 - T3 = C by omega)
  have hl1 : (T1 : Int) ≤ 499999999 := by omega
  have hl2 : (T2 : Int) ≤ 499999999 := by omega
  have hl3 : (T3 : Int) ≤ 499999999 := by omega
  clear hc hR hl
  go_enter Tryz.func201, Tryz.ntmps201
  go_wp2_with (first | (go_at_call 227; (with_reducible refine (e1 _).mono ?_); rintro e w' ⟨rfl, rfl⟩) | (go_at_call 227; (with_reducible refine (e2 _).mono ?_); rintro e w' ⟨rfl, rfl⟩) | (go_at_call 227; (with_reducible refine (e3 _).mono ?_); rintro e w' ⟨rfl, rfl⟩))
  go_ret
  exact ⟨ret_int hv.out, rfl⟩

set_option maxHeartbeats 400000 in
theorem implCellT (row place p : Int) (hp : Fits p) (w : World) : Calls Tryz.prog 167 #[.int .i64 row, .int .i64 place, .int .i64 p] w fun e w' => e = .returned (.int .i64 (cellTV row place p)) ∧ Below w.heap.size w w' := by
  by_cases h1 : row < 0 ∨ 499999999 < row
  · rw [cellTV_bad (h1.imp id .inl)]
    go_enter Tryz.func167, Tryz.ntmps167
    go_wp2_with (go_at_call 55; refine (within_f _ _ _ (by omega)).mono ?_; rintro e w' ⟨rfl, rfl⟩)
    go_ret
    exact ⟨rfl, Below.refl _ _⟩
  · by_cases h2 : place < 0 ∨ row < place
    · rw [cellTV_bad (.inr (.inr (h2.imp id .inl)))]
      go_enter Tryz.func167, Tryz.ntmps167
      go_wp2_with (first | (go_at_call 55; refine (within_t _ _ _ (by omega) (by omega)).mono ?_; rintro e w' ⟨rfl, rfl⟩) | (go_at_call 55; refine (within_f _ _ _ (by omega)).mono ?_; rintro e w' ⟨rfl, rfl⟩))
      go_ret
      exact ⟨rfl, Below.refl _ _⟩
    · cases hpr : prmI p with
      | false =>
        rw [cellTV_bad (.inr (.inr (.inr (.inr hpr))))]
        have hP := fun w => implPrime_is hp hpr w
        clear hpr
        go_enter Tryz.func167, Tryz.ntmps167
        go_wp2_with (first | (go_at_call 55; refine (within_t _ _ _ (by omega) (by omega)).mono ?_; rintro e w' ⟨rfl, rfl⟩) | (go_at_call 198; refine (hP _).mono ?_; rintro e w' ⟨rfl, hB⟩))
        go_ret
        exact ⟨rfl, hB⟩
      | true =>
        have hP := fun w => implPrime_is hp hpr w
        obtain ⟨B, rfl, hB⟩ := prmI_t hpr
        obtain ⟨N, rfl⟩ : ∃ N : Nat, row = N := ⟨row.toNat, by omega⟩
        obtain ⟨K, rfl⟩ : ∃ K : Nat, place = K := ⟨place.toNat, by omega⟩
        have hN : N ≤ 499999999 := by omega
        have hK : K ≤ N := by omega
        have hB2 := prm_two hB
        rw [cellTV_nat hN hK hB]
        have hU := fun w => timesAt_in N K B hN hK hB2.1 hB2.2 w
        generalize cars B N K = T at *
        clear hpr
        go_enter Tryz.func167, Tryz.ntmps167
        go_wp2_with (first | (go_at_call 55; refine (within_t _ _ _ (by omega) (by omega)).mono ?_; rintro e w' ⟨rfl, rfl⟩) | (go_at_call 198; refine (hP _).mono ?_; rintro e w' ⟨rfl, hB⟩) | (go_at_call 201; refine (hU _).mono ?_; rintro e w' ⟨rfl, rfl⟩))
        go_ret
        exact ⟨rfl, hB⟩
end Go.Proofs.YtiaaefapbcjgmaaGreatDoor
namespace Go.Proofs.YtiaaefapbcjgmaaGreatDoor
open Go.RowKit Go.Shelf
attribute [local go_sem] Oper.semAt_some

set_option maxRecDepth 100000 in
set_option maxHeartbeats 1000000 in
theorem foldS_in (gf jf n : Nat) (hjf : jf = 221) (lb : Array Value) (f g : Nat → Int) (K : Nat → Nat → Prop) (w : World)
    (eg : ∀ args w, (callFunc gf args).run Tryz.prog w = .ok (.enter gf args) w)
    (hseq : ∀ W, Below w.heap.size w W → SeqMem Fence.wide 8 Tryz.prog gf lb 0 (fun _ (j : Nat) => #[.int .i64 (f j)]) (NumHd n) K (NumS n) (fun _ _ _ => True) W)
    (hK : ∀ n0 k, K n0 k → k < w.heap.size)
    (hj : ∀ j W, j < n → Calls Tryz.prog jf #[.int .i64 (g j), .int .i64 (f j)] W fun e W' => e = .returned (.int .i64 (g (j + 1))) ∧ Below W.heap.size W W') :
    Calls Tryz.prog 219 #[.func (.func gf) #[] lb, .int .i64 (g 0), .func (.func jf) #[] #[]] w fun e w' => e = .returned (.int .i64 (g n)) ∧ Below w.heap.size w w' := by
  subst hjf
  refine (callsIn_wide (n := 9)).1 ?_
  refine callsIn_of_wp_marks Tryz.func219 rfl trivial ?_ rfl
  simp only [Tryz.ntmps219, List.size_toArray, List.length_cons, List.length_nil, Nat.reduceAdd, Nat.reduceSub, Array.replicate_succ, Array.replicate_zero, List.push_toArray, List.append_toArray, List.nil_append, List.cons_append]
  obtain ⟨g0, hg0⟩ : ∃ g0, g 0 = g0 := ⟨_, rfl⟩
  rw [hg0]
  have hg0' := hide hg0
  clear hg0
  gi_wp2
  obtain ⟨W0, hW0⟩ : ∃ W0, ((w.alloc (Obj.cells #[Value.int IntKind.i64 g0] 3)).alloc (Obj.cells #[Value.func (.func 221) #[] #[]] 95)) = W0 := ⟨_, rfl⟩
  have hsz1 : W0.heap.size ≤ w.heap.size + 2 := by rw [← hW0]; simp
  have hsz2 : w.heap.size + 2 ≤ W0.heap.size := by rw [← hW0]; simp
  have hbs : Boxed W0 w.heap.size 3 (.int .i64 g0) := by rw [← hW0]; exact (Boxed.new w _ _).alloc _
  have hbj : Boxed W0 (w.heap.size + 1) 95 (.func (.func 221) #[] #[]) := by rw [← hW0]; have := Boxed.new (w.alloc (Obj.cells #[Value.int IntKind.i64 g0] 3)) 95 (.func (.func 221) #[] #[]); rwa [World.size_alloc] at this
  have hbel : Below w.heap.size w W0 := by rw [← hW0]; exact ((Below.refl _ w).alloc (Nat.le_refl _) _).alloc (by simp) _
  rw [hW0]
  clear hW0
  refine wpIn_rangeFunc_mem rfl (by omega) (gf := gf) (lb := lb) rfl trivial eg
    (hseq W0 hbel) (fun _ _ => rfl) (fun h => by have := hK _ _ h; omega)
    (fun pre x W o h => h) (fun ys W o h => h) (fun pre W o h => h)
    (fun pre W => Boxed W w.heap.size 3 (.int .i64 (g pre.length)) ∧ Boxed W (w.heap.size + 1) 95 (.func (.func 221) #[] #[]) ∧ Below w.heap.size w W) (fun _ _ _ => False)
    (fun s A B row hs hg hr => ⟨hs.1.kept hg (fun e => by have := hr _ e.symm; omega), hs.2.1.kept hg (fun e => by have := hr _ e.symm; omega), hs.2.2.grown hg hs.2.2.size (fun k e => by have := hr _ e; omega)⟩)
    (fun _ _ _ _ _ hs _ _ => hs) ⟨by rw [List.length_nil, hg0'.out]; exact hbs, hbj, hbel⟩
    (fun x => { tmps := #[.func (.func gf) #[] lb, .int .i64 g0, .func (.func 221) #[] #[], undef, .pointer (some ⟨w.heap.size, 0, none⟩), .pointer (some ⟨w.heap.size + 1, 0, none⟩), .int .i64 0, .int .i64 (f x), .func (.func gf) #[] lb, .int .i64 (f x), undef, undef, undef, undef, undef], defers := [] }) ?assign ?body ?done ?stop
  case assign =>
    intro l x W Q hQ
    gi_wp2
    exact hQ
  case body =>
    rintro l pre x W hlt ⟨hbx, hbjj, hB⟩ ⟨hpre, hx⟩
    have hpl : pre.length = x := by rw [hpre, List.length_range]
    have hpl2 : (pre ++ [x]).length = x + 1 := by rw [List.length_append, hpl]; rfl
    rw [hpl] at hbx
    have hc := hbx.cell
    have hf := hbx.frozen
    have hcj := hbjj.cell
    have hcall := fun W => hj x W hx
    obtain ⟨z, hz⟩ : ∃ z, f x = z := ⟨_, rfl⟩
    obtain ⟨a, ha⟩ : ∃ a, g x = a := ⟨_, rfl⟩
    obtain ⟨b, hb⟩ : ∃ b, g (x + 1) = b := ⟨_, rfl⟩
    rw [hz, ha, hb] at hcall
    rw [ha] at hbx hc
    rw [hz]
    rw [← hpl2] at hb
    have hb' := hide hb
    clear hz ha hb hpl hpl2 hg0'
    · gi_wp2_with (refine ⟨trivial, ?_⟩; gi_at_call 221; refine (callsIn_wide.2 (hcall _)).mono ?_; rintro e w1 ⟨rfl, hB1⟩; have hb1 : Boxed w1 w.heap.size 3 (.int .i64 a) := (hB1.block _ hbx.lt).trans hbx; have hc1 := hb1.cell; have hf1 := hb1.frozen)
      refine ⟨(KeepsSet.of_below (hB1.mono (Nat.le_refl _)) (fun k hk => by
        rcases hk with hk | hk | hk
        · omega
        · omega
        · have := hK _ _ hk; have := hB.size; omega)).trans (KeepsSet.setCell _ _ _ (fun h => by
        rcases h with h | h | h
        · omega
        · omega
        · have := hK _ _ h; omega)), ?_, ?_, ?_⟩
      · rw [hb'.out]; exact hb1.set _
      · exact Boxed.other (W := w1) ((hB1.block _ hbjj.lt).trans hbjj) (by omega) _
      · exact (hB.trans (hB1.mono hB.size)).setCell (p := ⟨w.heap.size, 0, none⟩) (Nat.le_refl _) _
  case done =>
    rintro ys W hys ⟨hbx, hbjj, hB⟩ hK
    obtain rfl : ys = List.range n := hys
    rw [List.length_range] at hbx
    have hc := hbx.cell
    gi_wp2
    refine ⟨by simp, .inl ⟨_, _, rfl, run_takeDeferred hK, ?_⟩⟩
    refine ⟨_, results_tmp rfl _ _ _, rfl, ?_⟩
    exact hB.grown (grownBy_putObj' W _ _) hB.size (fun k e => by cases e; omega)
  case stop =>
    rintro c pre W _ h _
    exact h.elim

/-- The numbers of a slice, folded. -/
theorem foldValsS_in (jf : Nat) (hjf : jf = 221) (b off L cap : Nat) (f g : Nat → Int) (hL : L ≤ 1000000) (w : World) (hb : b < w.heap.size)
    (hv : ∀ i, i < L → w.cell? ⟨b, off + i, none⟩ = some (.int .i64 (f i)))
    (hj : ∀ j W, j < L → Calls Tryz.prog jf #[.int .i64 (g j), .int .i64 (f j)] W fun e W' => e = .returned (.int .i64 (g (j + 1))) ∧ Below W.heap.size W W') :
    Calls Tryz.prog 219 #[.func (.func 241) #[] #[.pointer (some ⟨w.heap.size, 0, none⟩)], .int .i64 (g 0), .func (.func jf) #[] #[]]
      (w.alloc (.cells #[.slice (some ⟨b, off, none⟩) L cap] 28)) fun e w' => e = .returned (.int .i64 (g L)) ∧ Below w.heap.size w w' := by
  have hA := (Below.refl w.heap.size w).alloc (Nat.le_refl _) (.cells #[.slice (some ⟨b, off, none⟩) L cap] 28)
  have hbx := Boxed.new w 28 (.slice (some ⟨b, off, none⟩) L cap)
  obtain ⟨W0, hW0⟩ : ∃ W0, w.alloc (.cells #[.slice (some ⟨b, off, none⟩) L cap] 28) = W0 := ⟨_, rfl⟩
  rw [hW0] at hA hbx ⊢
  refine (foldS_in 241 jf L hjf _ f g (fun _ k => k = b) W0 (enters_of Tryz.func241 (by kernel_rfl) rfl) (fun W hW => ?_) (fun _ k hk => by have := hA.size; omega) hj).mono
    fun e w' h => ⟨h.1, hA.trans (h.2.mono hA.size)⟩
  have hs := hA.size
  have hs2 := hW.size
  exact vals_stops 8 w.heap.size b off L cap f hL (by omega) W (Nat.lt_of_lt_of_le hbx.lt hs2) (by omega) ((hW.cell (p := ⟨w.heap.size, 0, none⟩) hbx.lt).trans hbx.cell)
    (fun i hi => (hW.cell (p := ⟨b, off + i, none⟩) (by show b < _; omega)).trans ((hA.cell (p := ⟨b, off + i, none⟩) hb).trans (hv i hi)))

theorem sharedOfAllS_in (b off L cap : Nat) (f : Nat → Nat) (hL : L ≤ 1000000) (w : World) (hb : b < w.heap.size) (hf : ∀ i, i < L → 0 < f i ∧ f i ≤ 1152921504606846976)
    (hv : ∀ i, i < L → w.cell? ⟨b, off + i, none⟩ = some (.int .i64 (f i : Nat))) :
    Calls Tryz.prog 196 #[.slice (some ⟨b, off, none⟩) L cap] w fun e w' => e = .returned (.int .i64 (gcdU f L : Nat)) ∧ Below w.heap.size w w' := by
  have hF := foldValsS_in 221 rfl b off L cap (fun i => (f i : Nat)) (fun i => (gcdU f i : Nat)) hL w hb hv (fun j W hj => by
    have h1 := gcdU_le f j (fun i hi => (hf i (by omega)).1) (fun i hi => (hf i (by omega)).2)
    have h2 := (hf j hj).2
    exact two_in (gcdU f j) (f j) (by omega) (by omega) W)
  have hF' : Calls Tryz.prog 219 #[.func (.func 241) #[] #[.pointer (some ⟨w.heap.size, 0, none⟩)], .int .i64 0, .func (.func 221) #[] #[]]
      (w.alloc (.cells #[.slice (some ⟨b, off, none⟩) L cap] 28)) fun e w' => e = .returned (.int .i64 (gcdU f L : Nat)) ∧ Below w.heap.size w w' := hF
  clear hF hv hf
  go_enter Tryz.func196, Tryz.ntmps196
  go_wp2_with (first | (go_at_call 220; refine (values_in _ _ _ _).mono ?_; rintro e w' ⟨rfl, rfl⟩) | (go_at_call 219; refine hF'.mono ?_; rintro e w2 ⟨rfl, hB⟩))
  go_ret
  exact ⟨rfl, hB⟩

set_option maxHeartbeats 1000000 in
theorem implSharedS (row : Int) (w : World) : Calls Tryz.prog 163 #[.int .i64 row] w fun e w' => e = .returned (.int .i64 (sharedV row)) ∧ Below w.heap.size w w' := by
  by_cases hbad : row < 2 ∨ 60 < row
  · rw [sharedV_bad hbad]
    by_cases h2 : row < 2
    all_goals
      go_enter Tryz.func163, Tryz.ntmps163
      go_wp2
      go_ret
      exact ⟨rfl, Below.refl _ _⟩
  · obtain ⟨N, rfl⟩ : ∃ N : Nat, row = N := ⟨row.toNat, by omega⟩
    have hN2 : 2 ≤ N := by omega
    have hN : N ≤ 60 := by omega
    rw [sharedV_nat hN2 hN]
    have h1 : (1 : Int) ≤ (N : Int) := by omega
    have h3 : ¬ (N : Int) < 2 := by omega
    have h4 : ¬ (60 : Int) < (N : Int) := by omega
    have h5 : (N : Int) ≤ (N : Int) + 1 := by omega
    have hsh : shared N = gcdU (fun k => bin N (k + 1)) (N - 1) := rfl
    clear hbad
    go_enter Tryz.func163, Tryz.ntmps163
    go_wp2_with (go_at_call 197; refine (lastRow_in N hN _).mono ?_; rintro e w1 ⟨g, rfl, hrow, hB⟩)
    have hS := sharedOfAllS_in g 1 (N - 1) N (fun k => bin N (k + 1)) (by omega) w1 hrow.lt (fun i hi => ⟨bin_pos _ _ (by omega), bin_60 hN _⟩) (fun i hi => by have := hrow.cell (i := i + 1) (by omega); rw [Nat.add_comm 1 i]; exact this)
    rw [← hsh] at hS
    clear hsh
    go_wp2_with (go_at_call 196; refine hS.mono ?_; rintro e w2 ⟨rfl, hB2⟩)
    go_ret
    exact ⟨rfl, hB.trans (hB2.mono hB.size)⟩
end Go.Proofs.YtiaaefapbcjgmaaGreatDoor
namespace Go.Proofs.YtiaaefapbcjgmaaGreatDoor
open Go.RowKit Go.BigFrame

theorem lies_intsQ {w : World} {v : Value} {xs : List Int} (h : Ints w v xs) (h1 : 1 ≤ xs.length) : Lies v := by
  rcases h with ⟨a, c, rfl, h⟩ | ⟨g, c, rfl, _⟩
  · rw [h] at h1; simp at h1
  · exact .inr ⟨_, _, _, rfl⟩

/-- A question is answered: with these numbers, by that text. -/
def SaidBy (f : FuncId) (cnt : Nat) (out : List Int → List Int → List Nat) : Prop :=
  ∀ (x p v : Value) (row ns : List Int) (w : World), Ints w x row → sideB row = true → Ints w v ns → ns.length = cnt → (∀ n ∈ ns, 0 ≤ n ∧ n ≤ 999999999) → Env w →
    Calls Tryz.prog f #[.agg #[x, p], v] w fun e w' => e = .returned (.string (str (out row ns))) ∧ Below w.heap.size w w'

theorem said_ones : SaidBy 126 0 (fun row ns => qA row ns 1) := by
  intro x p v row ns w hx hs hv hn hns hE
  have hl := sideB_len hs
  have hB0 := (Below.refl _ w).alloc (Nat.le_refl _) (.cells #[x, p] 31)
  obtain ⟨c0, c1⟩ := desk_box (w := w) (x := x) (p := p) (t := 31)
  obtain ⟨W1, hW1⟩ : ∃ W1, w.alloc (.cells #[x, p] 31) = W1 := ⟨_, rfl⟩
  rw [hW1] at hB0 c0 c1
  have hE1 := hE.below hB0
  have hO := implOnes x row W1 (hx.below hB0) (lies_intsQ hx hl.1) (by omega)
  have hT := fun V hV => implTold (onesV row) (by have := onesV_big hs; omega) V hV
  show Calls Tryz.prog _ _ w fun e w' => e = .returned (.string (str (toldI (onesV row)))) ∧ Below w.heap.size w w'
  obtain ⟨N, hN⟩ : ∃ N, onesV row = N := ⟨_, rfl⟩
  rw [hN] at hO hT ⊢
  obtain ⟨S, hS⟩ : ∃ S, str (toldI N) = S := ⟨_, rfl⟩
  rw [hS] at hT ⊢
  clear hx hv hE hN hS hns
  go_enter Tryz.func126, Tryz.ntmps126
  go_wp2_with fail
  go_at_call 159
  refine hO.mono ?_
  rintro e W2 ⟨rfl, hB2⟩
  have hE2 := hE1.below hB2
  go_wp2_with fail
  go_at_call 158
  refine (hT _ hE2).mono ?_
  rintro e W3 ⟨rfl, hB3⟩
  go_wp2
  go_ret
  exact ⟨rfl, (hB0.trans (hB2.mono hB0.size)).trans (hB3.mono (Nat.le_trans hB0.size hB2.size))⟩

theorem said_last : SaidBy 127 0 (fun row ns => qA row ns 2) := by
  intro x p v row ns w hx hs hv hn hns hE
  have hl := sideB_len hs
  have hB0 := (Below.refl _ w).alloc (Nat.le_refl _) (.cells #[x, p] 31)
  obtain ⟨c0, c1⟩ := desk_box (w := w) (x := x) (p := p) (t := 31)
  obtain ⟨W1, hW1⟩ : ∃ W1, w.alloc (.cells #[x, p] 31) = W1 := ⟨_, rfl⟩
  rw [hW1] at hB0 c0 c1
  have hE1 := hE.below hB0
  have hO := implEnd x row W1 (hx.below hB0) (lies_intsQ hx hl.1) (by omega)
  have hT := fun V hV => implTold (endV row) (by have := endV_big hs; omega) V hV
  show Calls Tryz.prog _ _ w fun e w' => e = .returned (.string (str (toldI (endV row)))) ∧ Below w.heap.size w w'
  obtain ⟨N, hN⟩ : ∃ N, endV row = N := ⟨_, rfl⟩
  rw [hN] at hO hT ⊢
  obtain ⟨S, hS⟩ : ∃ S, str (toldI N) = S := ⟨_, rfl⟩
  rw [hS] at hT ⊢
  clear hx hv hE hN hS hns
  go_enter Tryz.func127, Tryz.ntmps127
  go_wp2_with fail
  go_at_call 160
  refine hO.mono ?_
  rintro e W2 ⟨rfl, hB2⟩
  have hE2 := hE1.below hB2
  go_wp2_with fail
  go_at_call 158
  refine (hT _ hE2).mono ?_
  rintro e W3 ⟨rfl, hB3⟩
  go_wp2
  go_ret
  exact ⟨rfl, (hB0.trans (hB2.mono hB0.size)).trans (hB3.mono (Nat.le_trans hB0.size hB2.size))⟩

theorem said_end : SaidBy 128 0 (fun row ns => qA row ns 3) := by
  intro x p v row ns w hx hs hv hn hns hE
  have hl := sideB_len hs
  have hB0 := (Below.refl _ w).alloc (Nat.le_refl _) (.cells #[x, p] 31)
  obtain ⟨c0, c1⟩ := desk_box (w := w) (x := x) (p := p) (t := 31)
  obtain ⟨W1, hW1⟩ : ∃ W1, w.alloc (.cells #[x, p] 31) = W1 := ⟨_, rfl⟩
  rw [hW1] at hB0 c0 c1
  have hE1 := hE.below hB0
  have hO := implEnd10 x row W1 (hx.below hB0) (lies_intsQ hx hl.1) (by omega)
  have hT := fun V hV => implTold (endI row) (by have := endI_big row; omega) V hV
  show Calls Tryz.prog _ _ w fun e w' => e = .returned (.string (str (toldI (endI row)))) ∧ Below w.heap.size w w'
  obtain ⟨N, hN⟩ : ∃ N, endI row = N := ⟨_, rfl⟩
  obtain ⟨b, hb⟩ : ∃ b, endB row = b := ⟨_, rfl⟩
  rw [hN, hb] at hO
  rw [hN] at hT ⊢
  obtain ⟨S, hS⟩ : ∃ S, str (toldI N) = S := ⟨_, rfl⟩
  rw [hS] at hT ⊢
  clear hx hv hE hN hS hb hns
  go_enter Tryz.func128, Tryz.ntmps128
  go_wp2_with fail
  go_at_call 161
  refine hO.mono ?_
  rintro e W2 ⟨rfl, hB2⟩
  have hE2 := hE1.below hB2
  go_wp2_with fail
  go_at_call 158
  refine (hT _ hE2).mono ?_
  rintro e W3 ⟨rfl, hB3⟩
  go_wp2
  go_ret
  exact ⟨rfl, (hB0.trans (hB2.mono hB0.size)).trans (hB3.mono (Nat.le_trans hB0.size hB2.size))⟩

theorem upSum_in (n : Nat) (hn : n ≤ 12) (w : World) : Calls Tryz.prog 162 #[.int .i64 n] w fun e w' => e = .returned (.int .i64 ((n * (n + 1) / 2 : Nat) : Int)) ∧ w = w' := by
  rcases (show n = 0 ∨ n = 1 ∨ n = 2 ∨ n = 3 ∨ n = 4 ∨ n = 5 ∨ n = 6 ∨ n = 7 ∨ n = 8 ∨ n = 9 ∨ n = 10 ∨ n = 11 ∨ n = 12 by omega) with rfl | rfl | rfl | rfl | rfl | rfl | rfl | rfl | rfl | rfl | rfl | rfl | rfl
  all_goals
    go_enter Tryz.func162, Tryz.ntmps162
    go_wp2
    go_ret
    exact ⟨by simp, rfl⟩

theorem half_two (n : Nat) : 2 * (n * (n + 1) / 2) = n * (n + 1) := by
  have h : n * (n + 1) % 2 = 0 := by
    rcases Nat.mod_two_eq_zero_or_one n with h | h
    · rw [Nat.mul_mod, h]; simp
    · rw [Nat.mul_mod, show (n + 1) % 2 = 0 by omega]; simp
  omega

theorem said_balanced : SaidBy 129 0 (fun row ns => qA row ns 4) := by
  intro x p v row ns w hx hs hv hn hns hE
  have hl := sideB_len hs
  have hB0 := (Below.refl _ w).alloc (Nat.le_refl _) (.cells #[x, p] 31)
  obtain ⟨c0, c1⟩ := desk_box (w := w) (x := x) (p := p) (t := 31)
  have hO := fun V (hV : Below w.heap.size w V) => implOnes x row V (hx.below hV) (lies_intsQ hx hl.1) (by omega)
  have hU := fun V => upSum_in row.length hl.2 V
  have h0 := ones_nn hs
  have h1 := onesV_big hs
  have hx2 := half_two row.length
  show Calls Tryz.prog _ _ w fun e w' => e = .returned (.string (str (if 4 * onesV row = (row.length : Int) * ((row.length : Int) + 1) then [121, 101, 115] else [110, 111]))) ∧ Below w.heap.size w w'
  obtain ⟨xa, xc, rfl⟩ := hx.shape
  obtain ⟨N, hN⟩ : ∃ N, onesV row = N := ⟨_, rfl⟩
  obtain ⟨M, hM⟩ : ∃ M, row.length * (row.length + 1) / 2 = M := ⟨_, rfl⟩
  have hMl : M ≤ 78 := by
    have : row.length * (row.length + 1) ≤ 12 * 13 := Nat.mul_le_mul hl.2 (by omega)
    omega
  have hiff : (4 * N = (row.length : Int) * ((row.length : Int) + 1)) ↔ 2 * N = (M : Int) := by
    have : ((row.length * (row.length + 1) : Nat) : Int) = (row.length : Int) * ((row.length : Int) + 1) := by simp
    rw [← this, ← hx2, hM]
    omega
  rw [hN] at hO h0 h1 ⊢
  rw [hM] at hU
  obtain ⟨L, hL⟩ : ∃ L, row.length = L := ⟨_, rfl⟩
  rw [hL] at hO hU hiff ⊢
  obtain ⟨W1, hW1⟩ : ∃ W1, w.alloc (.cells #[.slice xa L xc, p] 31) = W1 := ⟨_, rfl⟩
  rw [hL, hW1] at hB0 c0 c1
  have d0 : ∀ m : After W1, m.now.cell? ⟨w.heap.size, 0, none⟩ = some (.slice xa L xc) := fun m => (m.ok.cell (p := ⟨w.heap.size, 0, none⟩) (World.block_lt_of_cell? _ _ c0)).trans c0
  have hOq := fun m : After W1 => hO m.now (hB0.trans (m.ok.mono hB0.size))
  have hUq := fun m : After W1 => hU m.now
  have hw : IntKind.i64.wrap (2 * N) = 2 * N := IntWalk.i64_in _ (by omega)
  have hhy := hide hiff
  have hB0h := hB0
  clear hx hv hE hN hO hU hM hL hs hl hx2 hiff hns hMl c0 c1
  by_cases he : 2 * N = (M : Int)
  · have hif : (if 4 * N = (L : Int) * ((L : Int) + 1) then ([121, 101, 115] : List Nat) else [110, 111]) = [121, 101, 115] := if_pos (hhy.out.2 he)
    rw [hif]
    clear hhy hif
    go_enter Tryz.func129, Tryz.ntmps129
    go_wp2
    refine wp_region_below W1 (by kernel_rfl) (by kernel_rfl) (Below.refl _ _) ?_
    repeat (go_big_quiet_step (first | (go_at_call 159; exact after_of (hOq _)) | (go_at_call 162; exact after_of_same (hUq _))))
    refine wpQuiet_nil ?_
    rintro _ ⟨nq, rfl⟩
    go_wp2
    go_ret
    exact ⟨rfl, hB0h.trans (nq.ok.mono hB0h.size)⟩
  · have hif : (if 4 * N = (L : Int) * ((L : Int) + 1) then ([121, 101, 115] : List Nat) else [110, 111]) = [110, 111] := if_neg (fun h => he (hhy.out.1 h))
    rw [hif]
    clear hhy hif
    go_enter Tryz.func129, Tryz.ntmps129
    go_wp2
    refine wp_region_below W1 (by kernel_rfl) (by kernel_rfl) (Below.refl _ _) ?_
    repeat (go_big_quiet_step (first | (go_at_call 159; exact after_of (hOq _)) | (go_at_call 162; exact after_of_same (hUq _))))
    refine wpQuiet_nil ?_
    rintro _ ⟨nq, rfl⟩
    go_wp2
    go_ret
    exact ⟨rfl, hB0h.trans (nq.ok.mono hB0h.size)⟩

theorem said_shared : SaidBy 130 1 (fun row ns => qA row ns 5) := by
  intro x p v row ns w hx hs hv hn hns hE
  obtain ⟨a, rfl⟩ : ∃ a, ns = [a] := by
    match ns, hn with
    | [a], _ => exact ⟨a, rfl⟩
  have ha := hns a (by simp)
  have hB0 := (Below.refl _ w).alloc (Nat.le_refl _) (.cells #[x, p] 31)
  obtain ⟨W1, hW1⟩ : ∃ W1, w.alloc (.cells #[x, p] 31) = W1 := ⟨_, rfl⟩
  rw [hW1] at hB0
  have hE1 := hE.below hB0
  obtain ⟨g, cap, rfl, hg, hc⟩ : ∃ g cap, v = .slice (some ⟨g, 0, none⟩) 1 cap ∧ g < w.heap.size ∧ ∀ i, i < 1 → w.cell? ⟨g, i, none⟩ = some (.int .i64 ([a].getD i 0)) := by
    rcases hv with ⟨_, _, _, h⟩ | ⟨g, cap, rfl, h1, h2⟩
    · cases h
    · exact ⟨g, cap, rfl, h1, h2⟩
  have q0 : ∀ m : After W1, m.now.cell? ⟨g, 0, none⟩ = some (.int .i64 a) := fun m => ((hB0.trans (m.ok.mono hB0.size)).cell (p := ⟨g, 0, none⟩) hg).trans (hc 0 (by omega))
  have hO := fun m : After W1 => implSharedS a m.now
  have hT := fun m : After W1 => implTold (sharedV a) (sharedV_big a) m.now (hE1.below m.ok)
  show Calls Tryz.prog _ _ w fun e w' => e = .returned (.string (str (toldI (sharedV a)))) ∧ Below w.heap.size w w'
  obtain ⟨N, hN⟩ : ∃ N, sharedV a = N := ⟨_, rfl⟩
  rw [hN] at hT ⊢
  simp only [hN] at hO
  obtain ⟨S, hS⟩ : ∃ S, str (toldI N) = S := ⟨_, rfl⟩
  rw [hS] at hT ⊢
  clear hx hv hE hN hS hc hg hns hs hE1
  have r0 := q0 ⟨W1, Below.refl _ _⟩
  have hO1 := hO ⟨W1, Below.refl _ _⟩
  simp only at r0 hO1
  go_enter Tryz.func130, Tryz.ntmps130
  go_wp2_with fail
  go_at_call 163
  refine hO1.mono ?_
  rintro e W2 ⟨rfl, hB2⟩
  have hT2 := hT ⟨W2, hB2⟩
  simp only at hT2
  go_wp2_with fail
  go_at_call 158
  refine hT2.mono ?_
  rintro e W3 ⟨rfl, hB3⟩
  go_wp2
  go_ret
  exact ⟨rfl, (hB0.trans (hB2.mono hB0.size)).trans (hB3.mono (Nat.le_trans hB0.size hB2.size))⟩

theorem said_ways : SaidBy 131 1 (fun row ns => qA row ns 6) := by
  intro x p v row ns w hx hs hv hn hns hE
  obtain ⟨a, rfl⟩ : ∃ a, ns = [a] := by
    match ns, hn with
    | [a], _ => exact ⟨a, rfl⟩
  have ha := hns a (by simp)
  have hB0 := (Below.refl _ w).alloc (Nat.le_refl _) (.cells #[x, p] 31)
  obtain ⟨W1, hW1⟩ : ∃ W1, w.alloc (.cells #[x, p] 31) = W1 := ⟨_, rfl⟩
  rw [hW1] at hB0
  have hE1 := hE.below hB0
  obtain ⟨g, cap, rfl, hg, hc⟩ : ∃ g cap, v = .slice (some ⟨g, 0, none⟩) 1 cap ∧ g < w.heap.size ∧ ∀ i, i < 1 → w.cell? ⟨g, i, none⟩ = some (.int .i64 ([a].getD i 0)) := by
    rcases hv with ⟨_, _, _, h⟩ | ⟨g, cap, rfl, h1, h2⟩
    · cases h
    · exact ⟨g, cap, rfl, h1, h2⟩
  have q0 : ∀ m : After W1, m.now.cell? ⟨g, 0, none⟩ = some (.int .i64 a) := fun m => ((hB0.trans (m.ok.mono hB0.size)).cell (p := ⟨g, 0, none⟩) hg).trans (hc 0 (by omega))
  have hO := fun m : After W1 => implWaysOf a m.now
  have hT := fun m : After W1 => implTold (waysV a) (waysV_big a) m.now (hE1.below m.ok)
  show Calls Tryz.prog _ _ w fun e w' => e = .returned (.string (str (toldI (waysV a)))) ∧ Below w.heap.size w w'
  obtain ⟨N, hN⟩ : ∃ N, waysV a = N := ⟨_, rfl⟩
  rw [hN] at hT ⊢
  simp only [hN] at hO
  obtain ⟨S, hS⟩ : ∃ S, str (toldI N) = S := ⟨_, rfl⟩
  rw [hS] at hT ⊢
  clear hx hv hE hN hS hc hg hns hs hE1
  have r0 := q0 ⟨W1, Below.refl _ _⟩
  have hO1 := hO ⟨W1, Below.refl _ _⟩
  simp only at r0 hO1
  go_enter Tryz.func131, Tryz.ntmps131
  go_wp2_with fail
  go_at_call 164
  refine hO1.mono ?_
  rintro e W2 ⟨rfl, hB2⟩
  have hT2 := hT ⟨W2, hB2⟩
  simp only at hT2
  go_wp2_with fail
  go_at_call 158
  refine hT2.mono ?_
  rintro e W3 ⟨rfl, hB3⟩
  go_wp2
  go_ret
  exact ⟨rfl, (hB0.trans (hB2.mono hB0.size)).trans (hB3.mono (Nat.le_trans hB0.size hB2.size))⟩

theorem said_cell : SaidBy 132 2 (fun row ns => qA row ns 7) := by
  intro x p v row ns w hx hs hv hn hns hE
  obtain ⟨a, b, rfl⟩ : ∃ a b, ns = [a, b] := by
    match ns, hn with
    | [a, b], _ => exact ⟨a, b, rfl⟩
  have ha := hns a (by simp)
  have hb := hns b (by simp)
  have hB0 := (Below.refl _ w).alloc (Nat.le_refl _) (.cells #[x, p] 31)
  obtain ⟨W1, hW1⟩ : ∃ W1, w.alloc (.cells #[x, p] 31) = W1 := ⟨_, rfl⟩
  rw [hW1] at hB0
  have hE1 := hE.below hB0
  obtain ⟨g, cap, rfl, hg, hc⟩ : ∃ g cap, v = .slice (some ⟨g, 0, none⟩) 2 cap ∧ g < w.heap.size ∧ ∀ i, i < 2 → w.cell? ⟨g, i, none⟩ = some (.int .i64 ([a, b].getD i 0)) := by
    rcases hv with ⟨_, _, _, h⟩ | ⟨g, cap, rfl, h1, h2⟩
    · cases h
    · exact ⟨g, cap, rfl, h1, h2⟩
  have q0 : ∀ m : After W1, m.now.cell? ⟨g, 0, none⟩ = some (.int .i64 a) := fun m => ((hB0.trans (m.ok.mono hB0.size)).cell (p := ⟨g, 0, none⟩) hg).trans (hc 0 (by omega))
  have q1 : ∀ m : After W1, m.now.cell? ⟨g, 1, none⟩ = some (.int .i64 b) := fun m => ((hB0.trans (m.ok.mono hB0.size)).cell (p := ⟨g, 1, none⟩) hg).trans (hc 1 (by omega))
  have hO := fun m : After W1 => implCell a b m.now
  have hT := fun m : After W1 => implTold (cellV a b) (cellV_big a b) m.now (hE1.below m.ok)
  show Calls Tryz.prog _ _ w fun e w' => e = .returned (.string (str (toldI (cellV a b)))) ∧ Below w.heap.size w w'
  obtain ⟨N, hN⟩ : ∃ N, cellV a b = N := ⟨_, rfl⟩
  rw [hN] at hT ⊢
  simp only [hN] at hO
  obtain ⟨S, hS⟩ : ∃ S, str (toldI N) = S := ⟨_, rfl⟩
  rw [hS] at hT ⊢
  clear hx hv hE hN hS hc hg hns hs hE1
  go_enter Tryz.func132, Tryz.ntmps132
  go_wp2
  refine wp_region_below W1 (by kernel_rfl) (by kernel_rfl) (Below.refl _ _) ?_
  repeat (go_big_quiet_step (first | (go_at_call 63; exact after_of (hO _)) | (go_at_call 158; exact after_of (hT _))))
  refine wpQuiet_nil ?_
  rintro _ ⟨nq, rfl⟩
  go_wp2
  go_ret
  exact ⟨rfl, hB0.trans (nq.ok.mono hB0.size)⟩

theorem said_kept : SaidBy 133 2 (fun row ns => qA row ns 8) := by
  intro x p v row ns w hx hs hv hn hns hE
  obtain ⟨a, b, rfl⟩ : ∃ a b, ns = [a, b] := by
    match ns, hn with
    | [a, b], _ => exact ⟨a, b, rfl⟩
  have ha := hns a (by simp)
  have hb := hns b (by simp)
  have hB0 := (Below.refl _ w).alloc (Nat.le_refl _) (.cells #[x, p] 31)
  obtain ⟨W1, hW1⟩ : ∃ W1, w.alloc (.cells #[x, p] 31) = W1 := ⟨_, rfl⟩
  rw [hW1] at hB0
  have hE1 := hE.below hB0
  obtain ⟨g, cap, rfl, hg, hc⟩ : ∃ g cap, v = .slice (some ⟨g, 0, none⟩) 2 cap ∧ g < w.heap.size ∧ ∀ i, i < 2 → w.cell? ⟨g, i, none⟩ = some (.int .i64 ([a, b].getD i 0)) := by
    rcases hv with ⟨_, _, _, h⟩ | ⟨g, cap, rfl, h1, h2⟩
    · cases h
    · exact ⟨g, cap, rfl, h1, h2⟩
  have q0 : ∀ m : After W1, m.now.cell? ⟨g, 0, none⟩ = some (.int .i64 a) := fun m => ((hB0.trans (m.ok.mono hB0.size)).cell (p := ⟨g, 0, none⟩) hg).trans (hc 0 (by omega))
  have q1 : ∀ m : After W1, m.now.cell? ⟨g, 1, none⟩ = some (.int .i64 b) := fun m => ((hB0.trans (m.ok.mono hB0.size)).cell (p := ⟨g, 1, none⟩) hg).trans (hc 1 (by omega))
  have hO := fun m : After W1 => implLeftIn a b (by unfold Fits; omega) m.now
  have hT := fun m : After W1 => implTold (keepV a b) (keepV_big a b) m.now (hE1.below m.ok)
  show Calls Tryz.prog _ _ w fun e w' => e = .returned (.string (str (toldI (keepV a b)))) ∧ Below w.heap.size w w'
  obtain ⟨N, hN⟩ : ∃ N, keepV a b = N := ⟨_, rfl⟩
  rw [hN] at hT ⊢
  simp only [hN] at hO
  obtain ⟨S, hS⟩ : ∃ S, str (toldI N) = S := ⟨_, rfl⟩
  rw [hS] at hT ⊢
  clear hx hv hE hN hS hc hg hns hs hE1
  go_enter Tryz.func133, Tryz.ntmps133
  go_wp2
  refine wp_region_below W1 (by kernel_rfl) (by kernel_rfl) (Below.refl _ _) ?_
  repeat (go_big_quiet_step (first | (go_at_call 165; exact after_of (hO _)) | (go_at_call 158; exact after_of (hT _))))
  refine wpQuiet_nil ?_
  rintro _ ⟨nq, rfl⟩
  go_wp2
  go_ret
  exact ⟨rfl, hB0.trans (nq.ok.mono hB0.size)⟩

theorem said_left : SaidBy 134 3 (fun row ns => qA row ns 9) := by
  intro x p v row ns w hx hs hv hn hns hE
  obtain ⟨a, b, c, rfl⟩ : ∃ a b c, ns = [a, b, c] := by
    match ns, hn with
    | [a, b, c], _ => exact ⟨a, b, c, rfl⟩
  have ha := hns a (by simp)
  have hb := hns b (by simp)
  have hc := hns c (by simp)
  have hB0 := (Below.refl _ w).alloc (Nat.le_refl _) (.cells #[x, p] 31)
  obtain ⟨W1, hW1⟩ : ∃ W1, w.alloc (.cells #[x, p] 31) = W1 := ⟨_, rfl⟩
  rw [hW1] at hB0
  have hE1 := hE.below hB0
  obtain ⟨g, cap, rfl, hg, hc⟩ : ∃ g cap, v = .slice (some ⟨g, 0, none⟩) 3 cap ∧ g < w.heap.size ∧ ∀ i, i < 3 → w.cell? ⟨g, i, none⟩ = some (.int .i64 ([a, b, c].getD i 0)) := by
    rcases hv with ⟨_, _, _, h⟩ | ⟨g, cap, rfl, h1, h2⟩
    · cases h
    · exact ⟨g, cap, rfl, h1, h2⟩
  have q0 : ∀ m : After W1, m.now.cell? ⟨g, 0, none⟩ = some (.int .i64 a) := fun m => ((hB0.trans (m.ok.mono hB0.size)).cell (p := ⟨g, 0, none⟩) hg).trans (hc 0 (by omega))
  have q1 : ∀ m : After W1, m.now.cell? ⟨g, 1, none⟩ = some (.int .i64 b) := fun m => ((hB0.trans (m.ok.mono hB0.size)).cell (p := ⟨g, 1, none⟩) hg).trans (hc 1 (by omega))
  have q2 : ∀ m : After W1, m.now.cell? ⟨g, 2, none⟩ = some (.int .i64 c) := fun m => ((hB0.trans (m.ok.mono hB0.size)).cell (p := ⟨g, 2, none⟩) hg).trans (hc 2 (by omega))
  have hO := fun m : After W1 => implLeft a b c (by unfold Fits; omega) m.now
  have hT := fun m : After W1 => implTold (leftV a b c) (leftV_big a b c) m.now (hE1.below m.ok)
  show Calls Tryz.prog _ _ w fun e w' => e = .returned (.string (str (toldI (leftV a b c)))) ∧ Below w.heap.size w w'
  obtain ⟨N, hN⟩ : ∃ N, leftV a b c = N := ⟨_, rfl⟩
  rw [hN] at hT ⊢
  simp only [hN] at hO
  obtain ⟨S, hS⟩ : ∃ S, str (toldI N) = S := ⟨_, rfl⟩
  rw [hS] at hT ⊢
  clear hx hv hE hN hS hc hg hns hs hE1
  go_enter Tryz.func134, Tryz.ntmps134
  go_wp2
  refine wp_region_below W1 (by kernel_rfl) (by kernel_rfl) (Below.refl _ _) ?_
  repeat (go_big_quiet_step (first | (go_at_call 166; exact after_of (hO _)) | (go_at_call 158; exact after_of (hT _))))
  refine wpQuiet_nil ?_
  rintro _ ⟨nq, rfl⟩
  go_wp2
  go_ret
  exact ⟨rfl, hB0.trans (nq.ok.mono hB0.size)⟩

theorem said_often : SaidBy 135 3 (fun row ns => qA row ns 10) := by
  intro x p v row ns w hx hs hv hn hns hE
  obtain ⟨a, b, c, rfl⟩ : ∃ a b c, ns = [a, b, c] := by
    match ns, hn with
    | [a, b, c], _ => exact ⟨a, b, c, rfl⟩
  have ha := hns a (by simp)
  have hb := hns b (by simp)
  have hc := hns c (by simp)
  have hB0 := (Below.refl _ w).alloc (Nat.le_refl _) (.cells #[x, p] 31)
  obtain ⟨W1, hW1⟩ : ∃ W1, w.alloc (.cells #[x, p] 31) = W1 := ⟨_, rfl⟩
  rw [hW1] at hB0
  have hE1 := hE.below hB0
  obtain ⟨g, cap, rfl, hg, hc⟩ : ∃ g cap, v = .slice (some ⟨g, 0, none⟩) 3 cap ∧ g < w.heap.size ∧ ∀ i, i < 3 → w.cell? ⟨g, i, none⟩ = some (.int .i64 ([a, b, c].getD i 0)) := by
    rcases hv with ⟨_, _, _, h⟩ | ⟨g, cap, rfl, h1, h2⟩
    · cases h
    · exact ⟨g, cap, rfl, h1, h2⟩
  have q0 : ∀ m : After W1, m.now.cell? ⟨g, 0, none⟩ = some (.int .i64 a) := fun m => ((hB0.trans (m.ok.mono hB0.size)).cell (p := ⟨g, 0, none⟩) hg).trans (hc 0 (by omega))
  have q1 : ∀ m : After W1, m.now.cell? ⟨g, 1, none⟩ = some (.int .i64 b) := fun m => ((hB0.trans (m.ok.mono hB0.size)).cell (p := ⟨g, 1, none⟩) hg).trans (hc 1 (by omega))
  have q2 : ∀ m : After W1, m.now.cell? ⟨g, 2, none⟩ = some (.int .i64 c) := fun m => ((hB0.trans (m.ok.mono hB0.size)).cell (p := ⟨g, 2, none⟩) hg).trans (hc 2 (by omega))
  have hO := fun m : After W1 => implCellT a b c (by unfold Fits; omega) m.now
  have hT := fun m : After W1 => implTold (cellTV a b c) (cellTV_big a b c) m.now (hE1.below m.ok)
  show Calls Tryz.prog _ _ w fun e w' => e = .returned (.string (str (toldI (cellTV a b c)))) ∧ Below w.heap.size w w'
  obtain ⟨N, hN⟩ : ∃ N, cellTV a b c = N := ⟨_, rfl⟩
  rw [hN] at hT ⊢
  simp only [hN] at hO
  obtain ⟨S, hS⟩ : ∃ S, str (toldI N) = S := ⟨_, rfl⟩
  rw [hS] at hT ⊢
  clear hx hv hE hN hS hc hg hns hs hE1
  go_enter Tryz.func135, Tryz.ntmps135
  go_wp2
  refine wp_region_below W1 (by kernel_rfl) (by kernel_rfl) (Below.refl _ _) ?_
  repeat (go_big_quiet_step (first | (go_at_call 167; exact after_of (hO _)) | (go_at_call 158; exact after_of (hT _))))
  refine wpQuiet_nil ?_
  rintro _ ⟨nq, rfl⟩
  go_wp2
  go_ret
  exact ⟨rfl, hB0.trans (nq.ok.mono hB0.size)⟩

theorem said_carries : SaidBy 136 3 (fun row ns => qA row ns 11) := by
  intro x p v row ns w hx hs hv hn hns hE
  obtain ⟨a, b, c, rfl⟩ : ∃ a b c, ns = [a, b, c] := by
    match ns, hn with
    | [a, b, c], _ => exact ⟨a, b, c, rfl⟩
  have ha := hns a (by simp)
  have hb := hns b (by simp)
  have hc := hns c (by simp)
  have hB0 := (Below.refl _ w).alloc (Nat.le_refl _) (.cells #[x, p] 31)
  obtain ⟨W1, hW1⟩ : ∃ W1, w.alloc (.cells #[x, p] 31) = W1 := ⟨_, rfl⟩
  rw [hW1] at hB0
  have hE1 := hE.below hB0
  obtain ⟨g, cap, rfl, hg, hc⟩ : ∃ g cap, v = .slice (some ⟨g, 0, none⟩) 3 cap ∧ g < w.heap.size ∧ ∀ i, i < 3 → w.cell? ⟨g, i, none⟩ = some (.int .i64 ([a, b, c].getD i 0)) := by
    rcases hv with ⟨_, _, _, h⟩ | ⟨g, cap, rfl, h1, h2⟩
    · cases h
    · exact ⟨g, cap, rfl, h1, h2⟩
  have q0 : ∀ m : After W1, m.now.cell? ⟨g, 0, none⟩ = some (.int .i64 a) := fun m => ((hB0.trans (m.ok.mono hB0.size)).cell (p := ⟨g, 0, none⟩) hg).trans (hc 0 (by omega))
  have q1 : ∀ m : After W1, m.now.cell? ⟨g, 1, none⟩ = some (.int .i64 b) := fun m => ((hB0.trans (m.ok.mono hB0.size)).cell (p := ⟨g, 1, none⟩) hg).trans (hc 1 (by omega))
  have q2 : ∀ m : After W1, m.now.cell? ⟨g, 2, none⟩ = some (.int .i64 c) := fun m => ((hB0.trans (m.ok.mono hB0.size)).cell (p := ⟨g, 2, none⟩) hg).trans (hc 2 (by omega))
  have hO := fun m : After W1 => implCarries a b c m.now
  have hT := fun m : After W1 => implTold (carriesV a b c) (carriesV_big a b c) m.now (hE1.below m.ok)
  show Calls Tryz.prog _ _ w fun e w' => e = .returned (.string (str (toldI (carriesV a b c)))) ∧ Below w.heap.size w w'
  obtain ⟨N, hN⟩ : ∃ N, carriesV a b c = N := ⟨_, rfl⟩
  rw [hN] at hT ⊢
  simp only [hN] at hO
  obtain ⟨S, hS⟩ : ∃ S, str (toldI N) = S := ⟨_, rfl⟩
  rw [hS] at hT ⊢
  clear hx hv hE hN hS hc hg hns hs hE1
  go_enter Tryz.func136, Tryz.ntmps136
  go_wp2
  refine wp_region_below W1 (by kernel_rfl) (by kernel_rfl) (Below.refl _ _) ?_
  repeat (go_big_quiet_step (first | (go_at_call 168; exact after_of (hO _)) | (go_at_call 158; exact after_of (hT _))))
  refine wpQuiet_nil ?_
  rintro _ ⟨nq, rfl⟩
  go_wp2
  go_ret
  exact ⟨rfl, hB0.trans (nq.ok.mono hB0.size)⟩

set_option maxRecDepth 100000 in
set_option maxHeartbeats 1000000 in
theorem said_row : SaidBy 125 0 (fun row ns => qA row ns 0) := by
  intro x p v row ns w hx hs hv hn hns hE
  have hl := sideB_len hs
  have hbit := fun i (hi : i < row.length) => sideB_at hs hi
  show Calls Tryz.prog _ _ w fun e w' => e = .returned (.string (str (rowTx row))) ∧ Below w.heap.size w w'
  have hB0 := (Below.refl _ w).alloc (Nat.le_refl _) (.cells #[x, p] 31)
  obtain ⟨c0, c1⟩ := desk_box (w := w) (x := x) (p := p) (t := 31)
  have z0 := World.size_alloc w (.cells #[x, p] 31)
  obtain ⟨g, cap, rfl, hg, hc⟩ : ∃ g cap, x = .slice (some ⟨g, 0, none⟩) row.length cap ∧ g < w.heap.size ∧ ∀ i, i < row.length → w.cell? ⟨g, i, none⟩ = some (.int .i64 (row.getD i 0)) := by
    rcases hx with ⟨_, _, _, h⟩ | ⟨g, cap, rfl, h1, h2⟩
    · rw [h] at hl; simp at hl
    · exact ⟨g, cap, rfl, h1, h2⟩
  obtain ⟨N, hN⟩ : ∃ N, row.length = N := ⟨_, rfl⟩
  rw [hN] at hB0 c0 c1 z0 hc hl hbit ⊢
  obtain ⟨W1, hW1⟩ : ∃ W1, w.alloc (.cells #[.slice (some ⟨g, 0, none⟩) N cap, p] 31) = W1 := ⟨_, rfl⟩
  rw [hW1] at hB0 c0 c1 z0
  have l0 := World.block_lt_of_cell? _ _ c0
  have hB1 : Below w.heap.size w (W1.alloc (.cells #[.pointer none, .slice none 0 0] 87)) := hB0.alloc hB0.size _
  have d0 : (W1.alloc (.cells #[.pointer none, .slice none 0 0] 87)).cell? ⟨w.heap.size, 0, none⟩ = some (.slice (some ⟨g, 0, none⟩) N cap) := (((Below.refl _ W1).alloc (Nat.le_refl _) _).cell (p := ⟨w.heap.size, 0, none⟩) l0).trans c0
  have hbl0 : BldJ (W1.alloc (.cells #[.pointer none, .slice none 0 0] 87)) W1.heap.size [] := Lib.IsBuilderF.of (Lib.fresh_isBuilder _ _ W1)
  have hz1 : w.heap.size ≤ W1.heap.size := hB0.size
  obtain ⟨W2, hW2⟩ : ∃ W2, W1.alloc (.cells #[.pointer none, .slice none 0 0] 87) = W2 := ⟨_, rfl⟩
  rw [hW2] at hB1 hbl0 d0
  rw [z0] at hbl0 hz1
  have hz2 : w.heap.size + 1 ≤ W2.heap.size := by rw [← hW2, World.size_alloc]; omega
  have hall : ∀ k, k < N → rowTx (row.take (k + 1)) = rowTx (row.take k) ++ decI (row.getD k 0) := fun k hk => by
    have : row.take (k + 1) = row.take k ++ [row.getD k 0] := by
      rw [List.take_add_one, List.getElem?_eq_getElem (by omega), List.getD, List.getElem?_eq_getElem (by omega)]; rfl
    unfold rowTx
    rw [this, List.flatMap_append]
    simp
  have hlen : ∀ k, k ≤ N → (rowTx (row.take k)).length ≤ 12 := fun k hk => by
    have h1 : ∀ m, m ≤ N → (rowTx (row.take m)).length = m := fun m => by
      induction m with
      | zero => intro _; simp [rowTx]
      | succ m ih =>
        intro hm
        rw [hall m (by omega), List.length_append, ih (by omega)]
        have := hbit m (by omega)
        rcases (show row.getD m 0 = 0 ∨ row.getD m 0 = 1 by omega) with e | e <;> rw [e] <;> rfl
    rw [h1 k hk]; omega
  replace hall := hide hall
  replace hlen := hide hlen
  have hfin : rowTx (row.take N) = rowTx row := by rw [← hN, List.take_length]
  replace hfin := hide hfin
  obtain ⟨R, hR⟩ : ∃ R, rowTx row = R := ⟨_, rfl⟩
  rw [hR] at hfin ⊢
  clear hx hv c0 c1 hB0 hs hns hR hN l0
  go_enter Tryz.func125, Tryz.ntmps125
  go_wp2
  go_loopw [11] (fun p wr => ∃ k : Nat, k ≤ N ∧ p = .int .i64 k ∧ BldJ wr (w.heap.size + 1) (rowTx (row.take k)) ∧ Below w.heap.size w wr ∧ w.heap.size + 1 ≤ wr.heap.size) (fun p _ => N - (intOf p).toNat)
  case atStart => exact ⟨0, by omega, rfl, hbl0, hB1, hz2⟩
  case round =>
    clear hB1 hbl0
    obtain ⟨k, hk, rfl, hbl, hB, hBz⟩ := hrel
    by_cases hlt : k < N
    · have hki : (k : Int) < (N : Int) := by omega
      have d1 := (hB.cell (p := ⟨g, k, none⟩) hg).trans (hc k hlt)
      have hb01 := hbit k hlt
      have hst := hide (hall.out k hlt)
      have hl1 := hide (hlen.out k hk)
      obtain ⟨y, hy⟩ : ∃ y, row.getD k 0 = y := ⟨_, rfl⟩
      rw [hy] at d1 hb01 hst
      have hI := itoaBig_in y (by omega) (by omega) wr (hE.below hB)
      have hdl : (decI y).length ≤ 1 := by
        rcases (show y = 0 ∨ y = 1 by omega) with e | e <;> rw [e] <;> decide
      have hl2 : (rowTx (row.take k)).length ≤ 12 := hl1.out
      obtain ⟨X, hX⟩ : ∃ X, rowTx (row.take k) = X := ⟨_, rfl⟩
      rw [hX] at hbl hst hl2
      clear hc hall hlen hbit hy hl1
      go_wp2_with fail
      go_at_call 58
      refine hI.mono ?_
      rintro e w2 ⟨rfl, hB2⟩
      have hbl2 := hbl.below hB2
      have hBw := hB.trans (hB2.mono hB.size)
      have hz2 := hB2.size
      have hW := hbl2.str (decI y) (by omega) (by omega) (by omega)
      rw [← hst.out] at hW
      obtain ⟨S, hS⟩ : ∃ S, str (decI y) = S := ⟨_, rfl⟩
      rw [hS] at hW ⊢
      clear hI hS hdl hbl hX
      go_wp2_with fail
      go_at_call 59
      refine hW.mono ?_
      rintro e w3 ⟨rfl, hbl3, hB3⟩
      have hz3 := hB3.size
      have hBw3 := hBw.trans (hB3.mono hz1)
      go_wp2
      go_roundw
      case rel => exact ⟨k + 1, by omega, by go_num, hbl3, hBw3, by omega⟩
      case measure => simp [intOf]; omega
    · obtain rfl : k = N := by omega
      have hki : ¬ ((k : Nat) : Int) < (k : Int) := by omega
      have hW := hbl.text hBz
      rw [hfin.out] at hW
      clear hbl hc hall hlen hbit hfin
      go_wp2_with (go_at_call 61; refine hW.mono ?_; clear hW; rintro e w3 ⟨rfl, hB3⟩)
      go_ret
      exact ⟨rfl, hB.trans (hB3.mono hz1)⟩
end Go.Proofs.YtiaaefapbcjgmaaGreatDoor
namespace Go.Proofs.YtiaaefapbcjgmaaGreatDoor
open Go.RowKit

def wL (i : Nat) : List Nat := match i with
  | 0 => [102, 108, 105, 112]
  | 1 => [112, 117, 116]
  | 2 => [117, 110, 100, 101, 114]
  | 3 => [116, 117, 114, 110]
  | 4 => [114, 111, 117, 110, 100]
  | 5 => [98, 97, 99, 107]
  | _ => []

def ixL (p : List Nat) : Int := if p = wL 0 then 0 else if p = wL 1 then 1 else if p = wL 2 then 2 else if p = wL 3 then 3 else if p = wL 4 then 4 else if p = wL 5 then 5 else -1

theorem wL_byte : ((List.range 6).all fun i => (wL i).all fun c => decide (c < 256)) = true := by decide

theorem ixL_at : ((List.range 6).all fun i => decide (ixL (wL i) = i)) = true := by decide

theorem words_str : ∀ i, i < 6 → wordsA[i]? = some (.string (str (wL i)))
  | 0, _ => by kernel_rfl
  | 1, _ => by kernel_rfl
  | 2, _ => by kernel_rfl
  | 3, _ => by kernel_rfl
  | 4, _ => by kernel_rfl
  | 5, _ => by kernel_rfl
  | _ + 6, h => by omega

theorem index_in (p : List Nat) (hp : ∀ x ∈ p, x < 256) (g : Nat) (W : World) (hc : ∀ k v, wordsA[k]? = some v → W.cell? ⟨g, k, none⟩ = some v) :
    Calls Tryz.prog 92 #[.slice (some ⟨g, 0, none⟩) 6 6, .string (str p)] W fun e w' => e = .returned (.int .i64 (ixL p)) ∧ W = w' := by
  have hcw : ∀ i, i < 6 → W.cell? ⟨g, i, none⟩ = some (.string (str (wL i))) := fun i hi => hc i _ (words_str i hi)
  have hit : ∀ i, i < 6 → str p = str (wL i) → ixL p = i := fun i hi e => by
    have hb := List.all_eq_true.1 wL_byte i (List.mem_range.2 hi)
    have hx := List.all_eq_true.1 ixL_at i (List.mem_range.2 hi)
    have e2 : p = wL i := str_inj hp (fun x hx => by have := List.all_eq_true.1 hb x hx; simpa using this) (congrArg (fun b : ByteArray => b.data.toList) e)
    subst e2
    simpa using hx
  have miss : (∀ j, j < 6 → ¬ str p = str (wL j)) → ixL p = -1 := fun h => by
    have h' : ∀ j, j < 6 → ¬ p = wL j := fun j hj e => h j hj (by rw [e])
    unfold ixL
    rw [if_neg (h' 0 (by omega)), if_neg (h' 1 (by omega)), if_neg (h' 2 (by omega)), if_neg (h' 3 (by omega)), if_neg (h' 4 (by omega)), if_neg (h' 5 (by omega))]
  replace hcw := hide hcw
  replace hit := hide hit
  replace miss := hide miss
  obtain ⟨X, hX⟩ : ∃ X, str p = X := ⟨_, rfl⟩
  rw [hX] at hit miss ⊢
  obtain ⟨R, hR⟩ : ∃ R, ixL p = R := ⟨_, rfl⟩
  rw [hR] at hit miss ⊢
  clear hc hX hR hp
  go_enter Tryz.func92, Tryz.ntmps92
  go_wp2
  go_loopw [8] (fun a wr => ∃ i : Nat, i ≤ 6 ∧ a = .int .i64 i ∧ wr = W ∧ Hid (∀ j, j < i → ¬ X = str (wL j))) (fun a _ => 6 - (intOf a).toNat)
  case atStart => exact ⟨0, by omega, rfl, rfl, hide fun j hj => absurd hj (Nat.not_lt_zero j)⟩
  case round =>
    obtain ⟨i, hi, rfl, rfl, hno⟩ := hrel
    by_cases hlt : i < 6
    · have hlti : (i : Int) < 6 := by omega
      have hcell := hcw.out i hlt
      obtain ⟨Y, hY⟩ : ∃ Y, str (wL i) = Y := ⟨_, rfl⟩
      rw [hY] at hcell
      by_cases e : X = Y
      · have hr := hit.out i hlt (e.trans hY.symm)
        subst e
        subst hr
        go_wp2
        go_ret
        exact ⟨rfl, rfl⟩
      · have hne := (Lib.bytes_beq_false_iff X Y).2 e
        have hno' := hide (show ∀ j, j < i + 1 → ¬ X = str (wL j) from fun j hj => by
          rcases Nat.lt_or_ge j i with h | h
          · exact hno.out j h
          · obtain rfl : j = i := by omega
            rw [hY]; exact e)
        clear hno
        go_wp2
        go_roundw
        case rel => exact ⟨i + 1, by omega, by go_num, trivial, hno'⟩
        case measure => simp [intOf]; omega
    · obtain rfl : i = 6 := by omega
      have hr := miss.out hno.out
      subst hr
      go_wp2
      go_ret
      exact ⟨rfl, rfl⟩

/-- What ReadDeed finds of a text: the kind by the word, the number behind it. -/
def okR (i : Nat) : Bool :=
  let a := nthD i
  let r := rlV (deedT a.1 a.2)
  decide (ixL r.1 = a.1 ∧ r.2.headD 0 = a.2)

set_option maxRecDepth 100000 in
theorem okR_all : ((List.range 114).all okR) = true := by decide +kernel

theorem okR_of {l : List Nat} {a : Int × Int} (h : readD l = some a) : ixL (rlV l).1 = a.1 ∧ (rlV l).2.headD 0 = a.2 := by
  obtain ⟨h1, h2⟩ := readD_text h
  subst h2
  obtain ⟨i, hi, he⟩ := isD_nth (deedT_is h1)
  have h3 := List.all_eq_true.1 okR_all i (List.mem_range.2 hi)
  unfold okR at h3
  rw [he] at h3
  simpa using h3

theorem rdv_none {l : List Nat} (h : ixL (rlV l).1 < 0) : rdV l = ((0, 0), false) := by
  unfold rdV
  cases hr : readD l with
  | none => rfl
  | some a =>
    have := (okR_of hr).1
    obtain ⟨h3, h4⟩ := readD_text hr
    rw [← h4] at h3
    have h5 := deedT_is h3
    unfold isD at h5
    omega

theorem rdv_other {l : List Nat} (h : ¬ deedT (ixL (rlV l).1) ((rlV l).2.headD 0) = l) : rdV l = ((0, 0), false) := by
  unfold rdV
  cases hr : readD l with
  | none => rfl
  | some a =>
    obtain ⟨h1, h2⟩ := okR_of hr
    rw [h1, h2] at h
    exact absurd (readD_text hr).2 h

theorem rdv_this {l : List Nat} (h0 : 0 ≤ ixL (rlV l).1) (h : deedT (ixL (rlV l).1) ((rlV l).2.headD 0) = l) : rdV l = ((ixL (rlV l).1, (rlV l).2.headD 0), true) := by
  unfold rdV
  have hne : l ≠ [] := fun e => by
    subst e
    revert h0
    decide
  have h2 := read_of_text (k := ixL (rlV l).1) (n := (rlV l).2.headD 0) (by rw [h]; exact hne)
  rw [h] at h2
  rw [h2]

theorem numsL_le : ∀ (ps : List (List Nat)) (ns : List Int), numsL ps = some ns → ∀ x ∈ ns, 0 ≤ x ∧ x ≤ 999999999
  | [], ns, h, x, hx => by
    rw [numsL] at h
    injection h with h
    subst h
    cases hx
  | p :: r, ns, h, x, hx => by
    rw [numsL_cons] at h
    cases hd : digT p with
    | none => rw [hd] at h; cases h
    | some m =>
      rw [hd] at h
      simp only at h
      cases hr : numsL r with
      | none => rw [hr] at h; cases h
      | some ms =>
        rw [hr] at h
        injection h with h
        subst h
        rcases List.mem_cons.1 hx with rfl | hx
        · have := (dig_is hd).1; omega
        · exact numsL_le r ms hr x hx

theorem rl_le (l : List Nat) : ∀ x ∈ (rlV l).2, 0 ≤ x ∧ x ≤ 999999999 := by
  unfold rlV
  cases h : numsL (cutT 32 l).tail with
  | none => intro x hx; cases hx
  | some ns => exact numsL_le _ ns h

theorem rl_byte (l : List Nat) (hl : ∀ x ∈ l, x < 256) : ∀ x ∈ (rlV l).1, x < 256 := by
  unfold rlV
  cases h : numsL (cutT 32 l).tail with
  | none => intro x hx; cases hx
  | some ns =>
    intro x hx
    have := cutL_mem 32 l [] ((cutT 32 l).getD 0 []) (word_mem _ 0 (cutL_pos 32 l []))
    exact hl x ((this.1 x hx).resolve_left (by simp))

theorem ixL_le (p : List Nat) : -1 ≤ ixL p ∧ ixL p ≤ 5 := by
  unfold ixL
  repeat' split
  all_goals omega
end Go.Proofs.YtiaaefapbcjgmaaGreatDoor
namespace Go.Proofs.YtiaaefapbcjgmaaGreatDoor
open Go.RowKit

theorem ints_first {w : World} {base : Nat} {v : Value} {xs : List Int} (h : w.ownsRow base 3 1 v xs.length (xs.map (Value.int .i64))) :
    (xs = [] ∧ ∃ a c, v = .slice a 0 c) ∨ (∃ g c n, xs ≠ [] ∧ v = .slice (some ⟨g, 0, none⟩) (n + 1) c ∧ xs.length = n + 1 ∧ base ≤ g ∧ w.cell? ⟨g, 0, none⟩ = some (.int .i64 (xs.headD 0))) := by
  cases xs with
  | nil =>
    rcases h.2 with ⟨rfl, _⟩ | ⟨g, cap, cur, rfl, _⟩
    · exact .inl ⟨rfl, _, _, rfl⟩
    · exact .inl ⟨rfl, _, _, rfl⟩
  | cons x xs =>
    rcases h.2 with ⟨_, h0⟩ | ⟨g, cap, cur, rfl, hb, hk, hn, hm, hs, hx⟩
    · simp at h0
    · refine .inr ⟨g, cap, xs.length, by simp, rfl, by simp, hb, ?_⟩
      have h0 := congrArg (fun q : List Value => q[0]?) hx
      simp at h0
      simp [World.cell?, hk, h0]

theorem cr_blockD {W : World} {b : Nat} {cur : Array Value} {t : TypeId} (h : W.heap[b]? = some (.cells cur t (0, 0))) (p : Nat) (v : Value) : (W.setCell ⟨b, p, none⟩ v).heap[b]? = some (.cells (cur.setIfInBounds p v) t (0, 0)) := by
  obtain ⟨hlt, hk⟩ := Array.getElem?_eq_some_iff.1 h
  show (W.heap.modify b _)[b]? = _
  rw [Array.getElem?_eq_getElem (by rw [Array.size_modify]; exact hlt), Array.getElem_modify_self, hk]; rfl

set_option maxRecDepth 100000 in
set_option maxHeartbeats 2000000 in
theorem implReadDeed (l : List Nat) (hl : ∀ x ∈ l, x < 256) (hn : l.length ≤ 1100000) (w : World) (hE : Env w) : Calls Tryz.prog 46 #[.string (str l)] w fun e w' => e = .returned (.tuple #[dV (rdV l).1.1 (rdV l).1.2, .bool (rdV l).2]) ∧ Below w.heap.size w w' := by
  have hR := fun V hV => readLine_in l hl hn V hV
  have hI := fun g W hc => index_in (rlV l).1 (rl_byte l hl) g W hc
  have h1 := rdv_none (l := l)
  have h2 := rdv_other (l := l)
  have h3 := rdv_this (l := l)
  have hle := ixL_le (rlV l).1
  have hns := rl_le l
  obtain ⟨⟨p, xs⟩, hr⟩ : ∃ r, rlV l = r := ⟨_, rfl⟩
  rw [hr] at hR hI h1 h2 h3 hle hns
  simp only at hR hI h1 h2 h3 hle hns
  obtain ⟨K, hK⟩ : ∃ K, ixL p = K := ⟨_, rfl⟩
  rw [hK] at hI h1 h2 h3 hle
  have hNb : 0 ≤ xs.headD 0 ∧ xs.headD 0 ≤ 999999999 := by
    cases xs with
    | nil => exact ⟨by decide, by decide⟩
    | cons x xs => exact hns x (by simp)
  have hT := fun V => implDeedText K (xs.headD 0) ⟨by omega, by omega⟩ ⟨by omega, by omega⟩ V
  have hcmp : ((str (deedT K (xs.headD 0))).toList == (str l).toList) = decide (deedT K (xs.headD 0) = l) := by
    rw [Bool.eq_iff_iff, beq_iff_eq, decide_eq_true_eq, str_toList, str_toList]
    exact ⟨fun e => str_inj (fun x hx => (deed_byte _ _ x hx).1) hl e, fun e => by rw [e]⟩
  obtain ⟨P, hP⟩ : ∃ P, str p = P := ⟨_, rfl⟩
  obtain ⟨S, hS⟩ : ∃ S, str l = S := ⟨_, rfl⟩
  rw [hS] at hR hcmp ⊢
  rw [hP] at hR hI
  clear hr hK hP hS hns hl hn
  have hB0 : Below w.heap.size w (w.alloc (.cells #[.int .i64 0, .int .i64 0] 39)) := (Below.refl _ w).alloc (Nat.le_refl _) _
  have hres0 := World.alloc_heap_new w (.cells #[.int .i64 0, .int .i64 0] 39)
  have hsz0 := World.size_alloc w (.cells #[.int .i64 0, .int .i64 0] 39)
  have hE0 := hE.below hB0
  obtain ⟨W0, hW0⟩ : ∃ W0, w.alloc (.cells #[.int .i64 0, .int .i64 0] 39) = W0 := ⟨_, rfl⟩
  rw [hW0] at hB0 hres0 hsz0 hE0
  have hres : ∀ W, Below W0.heap.size W0 W → W.heap[w.heap.size]? = some (.cells #[.int .i64 0, .int .i64 0] 39 (0, 0)) := fun W hW => (hW.block _ (by omega)).trans hres0
  replace hres := hide hres
  have hk : K < 0 ∨ 0 ≤ K := by omega
  rcases hk with hk | hk
  · have hrd := hide (h1 hk)
    clear h1 h2 h3 hT hcmp hNb
    go_enter Tryz.func46, Tryz.ntmps46
    go_wp2_with (first
      | (go_at_call 91; refine (hR _ hE0).mono ?_; clear hR; rintro e w1 ⟨v, rfl, hown, hB1⟩)
      | (go_at_call 57; refine (words_at _).mono ?_; go_loud (rintro e w2 ⟨rfl, hwk, hB2⟩; have hB12 := hB1.trans (hB2.mono hB1.size); have hI2 := hI _ _ hwk; have hr8 := hres.out _ hB12; have d0 : w2.cell? ⟨w.heap.size, 0, none⟩ = some (.int .i64 0) := (by simp [World.cell?, hr8]); have d1 : w2.cell? ⟨w.heap.size, 1, none⟩ = some (.int .i64 0) := (by simp [World.cell?, hr8]); have f0 : w2.frozen? ⟨w.heap.size, 0, none⟩ = false := (by simp [World.frozen?, hr8]); have f1 : w2.frozen? ⟨w.heap.size, 1, none⟩ = false := (by simp [World.frozen?, hr8]); clear hI hwk))
      | (go_at_call 92; refine hI2.mono ?_; clear hI2; rintro e w3 ⟨rfl, rfl⟩))
    have hset := deed_set hr8 0 0
    refine bodyPost_ret (results_deed rfl _ _ w.heap.size 0 0 rfl hset) rfl ⟨by rw [hrd.out]; rfl, ?_⟩
    exact (((hB0.trans (hB12.mono hB0.size)).setCell (p := ⟨w.heap.size, 0, none⟩) (Nat.le_refl _) _).setCell (p := ⟨w.heap.size, 1, none⟩) (Nat.le_refl _) _)
  · obtain ⟨DT, hDT⟩ : ∃ DT, str (deedT K (xs.headD 0)) = DT := ⟨_, rfl⟩
    obtain ⟨N, hN⟩ : ∃ N, xs.headD 0 = N := ⟨_, rfl⟩
    rw [hN] at h2 h3 hT hcmp hDT
    rw [hDT] at hT hcmp
    unfold dV at hT
    have hk1 : ¬ K < 0 := by omega
    have hfin : Hid (rdV l = if deedT K N = l then ((K, N), true) else ((0, 0), false)) := by
      by_cases e : deedT K N = l
      · rw [if_pos e]; exact hide (h3 hk e)
      · rw [if_neg e]; exact hide (h2 e)
    have hfirst := fun (W : World) (v : Value) (h : W.ownsRow W0.heap.size 3 1 v xs.length (xs.map (Value.int .i64))) => ints_first h
    rw [hN] at hfirst
    have hNx : xs = [] → N = 0 := fun e => by rw [← hN, e]; rfl
    clear h1 h2 h3 hDT hNb hN
    go_enter Tryz.func46, Tryz.ntmps46
    go_wp2_with (go_at_call 91; refine (hR _ hE0).mono ?_; clear hR)
    intro e w1 v he hown hB1
    subst he
    rw [← hsz0] at hown hB1
    have hf := hfirst _ _ hown
    clear hfirst hown
    rcases hf with ⟨hx0, a0, c0, rfl⟩ | ⟨g, c0, n0, hx0, rfl, hx1, hg, hcell⟩
    · have hN0 := hNx hx0
      subst hx0
      subst hN0
      go_wp2_with (first
        | (go_at_call 57; refine (words_at _).mono ?_; go_loud (rintro e w2 ⟨rfl, hwk, hB2⟩; have hB12 := hB1.trans (hB2.mono hB1.size); have hI2 := hI _ _ hwk; clear hI hwk))
        | (go_at_call 92; refine hI2.mono ?_; clear hI2; rintro e w3 ⟨rfl, rfl⟩)
        | (go_at_call 15; refine (hT _).mono ?_; clear hT))
      rintro e w4 ⟨rfl, hB4⟩
      have hbx := World.alloc_heap_new w2 (.cells #[.int .i64 K, .int .i64 0] 39)
      have hbs := World.size_alloc w2 (.cells #[.int .i64 K, .int .i64 0] 39)
      have hBb : Below W0.heap.size W0 (w2.alloc (.cells #[.int .i64 K, .int .i64 0] 39)) := hB12.alloc hB12.size _
      have hBb4 := hBb.trans (hB4.mono hBb.size)
      have hbx4 := (hB4.block _ (by omega)).trans hbx
      obtain ⟨b, hb⟩ : ∃ b, w2.heap.size = b := ⟨_, rfl⟩
      rw [hb] at hbx4 ⊢
      clear hbx hbs hBb hB4 hb
      have hr8 := hres.out _ hBb4
      have d0 : w4.cell? ⟨w.heap.size, 0, none⟩ = some (.int .i64 0) := (by simp [World.cell?, hr8])
      have d1 : w4.cell? ⟨w.heap.size, 1, none⟩ = some (.int .i64 0) := (by simp [World.cell?, hr8])
      have f0 : w4.frozen? ⟨w.heap.size, 0, none⟩ = false := (by simp [World.frozen?, hr8])
      have f1 : w4.frozen? ⟨w.heap.size, 1, none⟩ = false := (by simp [World.frozen?, hr8])
      have b0 : w4.cell? ⟨b, 0, none⟩ = some (.int .i64 K) := (by simp [World.cell?, hbx4])
      have b1 : w4.cell? ⟨b, 1, none⟩ = some (.int .i64 0) := (by simp [World.cell?, hbx4])
      by_cases he : deedT K 0 = l
      · have hfin' := hfin.out
        rw [if_pos he] at hfin'
        rw [decide_eq_true he] at hcmp
        replace hfin' := hide hfin'
        clear hfin
        go_wp2
        have hset := deed_set hr8 K 0
        refine bodyPost_ret (results_deed rfl _ _ w.heap.size K 0 rfl hset) rfl ⟨by rw [hfin'.out]; rfl, ?_⟩
        exact (((hB0.trans (hBb4.mono hB0.size)).setCell (p := ⟨w.heap.size, 0, none⟩) (Nat.le_refl _) _).setCell (p := ⟨w.heap.size, 1, none⟩) (Nat.le_refl _) _)
      · have hfin' := hfin.out
        rw [if_neg he] at hfin'
        rw [decide_eq_false he] at hcmp
        replace hfin' := hide hfin'
        clear hfin
        go_wp2
        have hset := deed_set hr8 0 0
        refine bodyPost_ret (results_deed rfl _ _ w.heap.size 0 0 rfl hset) rfl ⟨by rw [hfin'.out]; rfl, ?_⟩
        exact (((hB0.trans (hBb4.mono hB0.size)).setCell (p := ⟨w.heap.size, 0, none⟩) (Nat.le_refl _) _).setCell (p := ⟨w.heap.size, 1, none⟩) (Nat.le_refl _) _)
    · go_wp2_with (first
        | (go_at_call 57; refine (words_at _).mono ?_)
        | (go_at_call 92; refine hI2.mono ?_; clear hI2; rintro e w3 ⟨rfl, rfl⟩)
        | (go_at_call 15; refine (hT _).mono ?_; clear hT))
      rintro e w2 ⟨rfl, hwk, hB2⟩
      have hB12 := hB1.trans (hB2.mono hB1.size)
      have hI2 := hI _ _ hwk
      have hg2 := World.block_lt_of_cell? w1 _ hcell
      have hcell2 := (hB2.cell (p := ⟨g, 0, none⟩) hg2).trans hcell
      have hsz2 := hB2.size
      have hbx := World.alloc_heap_new w2 (.cells #[.int .i64 K, .int .i64 0] 39)
      have hbs := World.size_alloc w2 (.cells #[.int .i64 K, .int .i64 0] 39)
      have hBb : Below W0.heap.size W0 (w2.alloc (.cells #[.int .i64 K, .int .i64 0] 39)) := hB12.alloc hB12.size _
      have hcell3 : (w2.alloc (.cells #[.int .i64 K, .int .i64 0] 39)).cell? ⟨g, 0, none⟩ = some (.int .i64 N) := (((Below.refl w2.heap.size w2).alloc (Nat.le_refl _) _).cell (p := ⟨g, 0, none⟩) (Nat.lt_of_lt_of_le hg2 hsz2)).trans hcell2
      have hbsz := hB12.size
      obtain ⟨b, hb⟩ : ∃ b, w2.heap.size = b := ⟨_, rfl⟩
      obtain ⟨W3, hW3⟩ : ∃ W3, w2.alloc (.cells #[.int .i64 K, .int .i64 0] 39) = W3 := ⟨_, rfl⟩
      rw [hW3] at hbx hbs hBb hcell3
      rw [hb] at hbx hbs hbsz hsz2
      have e0 : W3.cell? ⟨b, 0, none⟩ = some (.int .i64 K) := (by simp [World.cell?, hbx])
      have e1 : W3.cell? ⟨b, 1, none⟩ = some (.int .i64 0) := (by simp [World.cell?, hbx])
      have g0 : W3.frozen? ⟨b, 0, none⟩ = false := (by simp [World.frozen?, hbx])
      have g1 : W3.frozen? ⟨b, 1, none⟩ = false := (by simp [World.frozen?, hbx])
      have hbx6 : (W3.setCell ⟨b, 1, none⟩ (.int .i64 0)).heap[b]? = some (.cells #[.int .i64 K, .int .i64 0] 39 (0, 0)) := cr_blockD hbx 1 _
      have hBb6 : Below W0.heap.size W0 (W3.setCell ⟨b, 1, none⟩ (.int .i64 0)) := hBb.setCell (p := ⟨b, 1, none⟩) hbsz _
      obtain ⟨W6, hW6⟩ : ∃ W6, W3.setCell ⟨b, 1, none⟩ (.int .i64 0) = W6 := ⟨_, rfl⟩
      rw [hW6] at hbx6 hBb6
      have j0 : W6.cell? ⟨b, 0, none⟩ = some (.int .i64 K) := (by simp [World.cell?, hbx6])
      have j1 : W6.cell? ⟨b, 1, none⟩ = some (.int .i64 0) := (by simp [World.cell?, hbx6])
      have k0 : W6.frozen? ⟨b, 0, none⟩ = false := (by simp [World.frozen?, hbx6])
      have k1 : W6.frozen? ⟨b, 1, none⟩ = false := (by simp [World.frozen?, hbx6])
      have hgb : g ≠ b := by have : g < w1.heap.size := hg2; omega
      have hcell6 : W6.cell? ⟨g, 0, none⟩ = some (.int .i64 N) := by
        rw [← hW6]
        exact (World.cell?_of_block (Below.heap_setCell W3 ⟨b, 1, none⟩ _ g hgb)).trans hcell3
      have hbx5 : (W6.setCell ⟨b, 1, none⟩ (.int .i64 N)).heap[b]? = some (.cells #[.int .i64 K, .int .i64 N] 39 (0, 0)) := cr_blockD hbx6 1 _
      have hB5 : Below W0.heap.size W0 (W6.setCell ⟨b, 1, none⟩ (.int .i64 N)) := hBb6.setCell (p := ⟨b, 1, none⟩) hbsz _
      obtain ⟨W5, hW5⟩ : ∃ W5, W6.setCell ⟨b, 1, none⟩ (.int .i64 N) = W5 := ⟨_, rfl⟩
      rw [hW5] at hbx5 hB5
      have i0 : W5.cell? ⟨b, 0, none⟩ = some (.int .i64 K) := (by simp [World.cell?, hbx5])
      have i1 : W5.cell? ⟨b, 1, none⟩ = some (.int .i64 N) := (by simp [World.cell?, hbx5])
      clear hwk hI hcell hcell2 hg2 hsz2 hbs hBb hBb6
      go_wp2_with (first
        | (go_at_call 92; refine hI2.mono ?_; clear hI2; rintro e w3 ⟨rfl, rfl⟩)
        | (go_at_call 15; refine (hT _).mono ?_; clear hT))
      rintro e w4 ⟨rfl, hB4⟩
      have hb5 := (Array.getElem?_eq_some_iff.1 hbx5).1
      have hBb4 := hB5.trans (hB4.mono hB5.size)
      have hbx4 := (hB4.block _ hb5).trans hbx5
      clear hbx hB5 hB4 e0 e1 g0 g1 i0 i1 hcell3 hbx5 j0 j1 k0 k1 hcell6 hbx6
      have hr8 := hres.out _ hBb4
      have d0 : w4.cell? ⟨w.heap.size, 0, none⟩ = some (.int .i64 0) := (by simp [World.cell?, hr8])
      have d1 : w4.cell? ⟨w.heap.size, 1, none⟩ = some (.int .i64 0) := (by simp [World.cell?, hr8])
      have f0 : w4.frozen? ⟨w.heap.size, 0, none⟩ = false := (by simp [World.frozen?, hr8])
      have f1 : w4.frozen? ⟨w.heap.size, 1, none⟩ = false := (by simp [World.frozen?, hr8])
      have b0 : w4.cell? ⟨b, 0, none⟩ = some (.int .i64 K) := (by simp [World.cell?, hbx4])
      have b1 : w4.cell? ⟨b, 1, none⟩ = some (.int .i64 N) := (by simp [World.cell?, hbx4])
      by_cases he : deedT K N = l
      · have hfin' := hfin.out
        rw [if_pos he] at hfin'
        rw [decide_eq_true he] at hcmp
        replace hfin' := hide hfin'
        clear hfin
        go_wp2
        have hset := deed_set hr8 K N
        refine bodyPost_ret (results_deed rfl _ _ w.heap.size K N rfl hset) rfl ⟨by rw [hfin'.out]; rfl, ?_⟩
        exact (((hB0.trans (hBb4.mono hB0.size)).setCell (p := ⟨w.heap.size, 0, none⟩) (Nat.le_refl _) _).setCell (p := ⟨w.heap.size, 1, none⟩) (Nat.le_refl _) _)
      · have hfin' := hfin.out
        rw [if_neg he] at hfin'
        rw [decide_eq_false he] at hcmp
        replace hfin' := hide hfin'
        clear hfin
        go_wp2
        have hset := deed_set hr8 0 0
        refine bodyPost_ret (results_deed rfl _ _ w.heap.size 0 0 rfl hset) rfl ⟨by rw [hfin'.out]; rfl, ?_⟩
        exact (((hB0.trans (hBb4.mono hB0.size)).setCell (p := ⟨w.heap.size, 0, none⟩) (Nat.le_refl _) _).setCell (p := ⟨w.heap.size, 1, none⟩) (Nat.le_refl _) _)
end Go.Proofs.YtiaaefapbcjgmaaGreatDoor
namespace Go.Proofs.YtiaaefapbcjgmaaGreatDoor
open Go.RowKit

theorem rl_len (l : List Nat) : (rlV l).1.length ≤ l.length := by
  unfold rlV
  split
  · simp
  · have hpos := cutL_pos 32 l []
    have := cutL_mem 32 l [] ((cutT 32 l).getD 0 []) (word_mem _ 0 hpos)
    exact Nat.le_trans this.2 (by simp)

theorem nums_le : ∀ {p : List (List Nat)} {ns : List Int}, numsL p = some ns → ∀ n ∈ ns, 0 ≤ n ∧ n ≤ 999999999
  | [], ns, h, n, hn => by cases h; simp at hn
  | w :: r, ns, h, n, hn => by
    rw [numsL] at h
    split at h
    · cases h
    · rename_i m hm
      split at h
      · cases h
      · rename_i ms h2
        cases h
        rcases List.mem_cons.1 hn with rfl | hn
        · have := (dig_is hm).1; omega
        · exact nums_le h2 n hn

theorem rl_nums (l : List Nat) : ∀ n ∈ (rlV l).2, 0 ≤ n ∧ n ≤ 999999999 := by
  unfold rlV
  split
  · simp
  · rename_i ns h
    exact nums_le h

theorem said_all : ∀ i, i < 12 → SaidBy (qF i) (qC i) (fun row ns => qA row ns i)
  | 0, _ => said_row
  | 1, _ => said_ones
  | 2, _ => said_last
  | 3, _ => said_end
  | 4, _ => said_balanced
  | 5, _ => said_shared
  | 6, _ => said_ways
  | 7, _ => said_cell
  | 8, _ => said_kept
  | 9, _ => said_left
  | 10, _ => said_often
  | 11, _ => said_carries
  | _ + 12, h => by omega

set_option maxRecDepth 100000 in
set_option maxHeartbeats 4000000 in
theorem answered_in (x p : Value) (row : List Int) (l : List Nat) (w : World) (hx : Ints w x row) (hs : sideB row = true) (hl : ∀ c ∈ l, c < 256) (hn : l.length ≤ 1100000) (hE : Env w) :
    Calls Tryz.prog 53 #[.agg #[x, p], .string (str l)] w fun e w' => e = .returned (.string (str (ansV row l))) ∧ Below w.heap.size w w' := by
  have hB0 := (Below.refl _ w).alloc (Nat.le_refl _) (.cells #[x, p] 31)
  obtain ⟨c0, c1⟩ := desk_box (w := w) (x := x) (p := p) (t := 31)
  obtain ⟨W1, hW1⟩ : ∃ W1, w.alloc (.cells #[x, p] 31) = W1 := ⟨_, rfl⟩
  rw [hW1] at hB0 c0 c1
  have hb0 : w.heap.size < W1.heap.size := World.block_lt_of_cell? _ _ c0
  have hE1 := hE.below hB0
  have hx1 := hx.below hB0
  have hRl := readLine_in l hl hn W1 hE1
  have hwb := rl_byte l hl
  have hwl := rl_len l
  have hns := rl_nums l
  unfold ansV
  obtain ⟨⟨Wd, ns⟩, hr⟩ : ∃ r, rlV l = r := ⟨_, rfl⟩
  rw [hr] at hRl hwb hwl hns ⊢
  simp only at hRl hwb hwl hns ⊢
  obtain ⟨LS, hLS⟩ : ∃ LS, str l = LS := ⟨_, rfl⟩
  rw [hLS] at hRl ⊢
  obtain ⟨OUT, hO⟩ : ∃ O, (if qI Wd < 12 ∧ ns.length = qC (qI Wd) then qA row ns (qI Wd) else whatT) = O := ⟨_, rfl⟩
  rw [hO]
  replace hO := hide hO
  clear hx hr hLS hE
  go_enter Tryz.func53, Tryz.ntmps53
  go_wp2_with fail
  go_at_call 91
  refine hRl.mono ?_
  rintro e W2 ⟨v, rfl, hown, hB2⟩
  have hI2 := Ints.of_owns hown
  obtain ⟨va, vc, rfl⟩ := own_form hown
  clear hRl hown
  go_wp2_with fail
  go_at_call 97
  refine (questions_in _).mono ?_
  rintro e W3 ⟨rfl, hQ, hB3⟩
  obtain ⟨qv, hlook, hv1, hv2⟩ := qLook hQ Wd hwb (by omega)
  have hB13 := hB2.trans (hB3.mono hB2.size)
  have hI3 := hI2.below hB3
  clear hQ hwb hwl hI2
  obtain ⟨XW, hXW⟩ : ∃ XW, str Wd = XW := ⟨_, rfl⟩
  rw [hXW] at hlook ⊢
  by_cases hq : qI Wd < 12
  · obtain rfl := hv1 hq
    rw [decide_eq_true hq] at hlook
    obtain ⟨i, hi⟩ : ∃ i, qI Wd = i := ⟨_, rfl⟩
    rw [hi] at hq hlook
    have hO1 : ns.length = qC i → OUT = qA row ns i := fun h => by rw [← hO.out, hi, if_pos ⟨hq, h⟩]
    have hO2 : ¬ ns.length = qC i → OUT = whatT := fun h => by rw [← hO.out, hi, if_neg (fun e => h e.2)]
    replace hO1 := hide hO1
    replace hO2 := hide hO2
    clear hv1 hv2 hi hXW hO
    have hB14 := hB13.alloc hB13.size (.cells #[.int .i64 (qC i : Nat), .func (.func (qF i)) #[] #[]] 121)
    have kq := World.alloc_heap_new W3 (.cells #[.int .i64 (qC i : Nat), .func (.func (qF i)) #[] #[]] 121)
    have hB34 := (Below.refl _ W3).alloc (Nat.le_refl _) (.cells #[.int .i64 (qC i : Nat), .func (.func (qF i)) #[] #[]] 121)
    by_cases hc : ns.length = qC i
    · have hS := said_all i hq x p (.slice va ns.length vc) row ns (W3.alloc (.cells #[.int .i64 (qC i : Nat), .func (.func (qF i)) #[] #[]] 121)) (hx1.below hB14) hs (hI3.below hB34) hc hns (hE1.below hB14)
      have hOe := hide (hO1.out hc)
      rw [hc] at hS ⊢
      rcases (show i = 0 ∨ i = 1 ∨ i = 2 ∨ i = 3 ∨ i = 4 ∨ i = 5 ∨ i = 6 ∨ i = 7 ∨ i = 8 ∨ i = 9 ∨ i = 10 ∨ i = 11 by omega) with rfl | rfl | rfl | rfl | rfl | rfl | rfl | rfl | rfl | rfl | rfl | rfl
      · have e1 : qV 0 = .agg #[.int .i64 0, .func (.func 125) #[] #[]] := rfl
        have e2 : (((qC 0 : Nat) : Int)) = 0 := rfl
        have e3 : qF 0 = 125 := rfl
        have e4 : qC 0 = 0 := rfl
        rw [e1] at hlook
        simp only [e2, e3] at hS kq hB14 hB34
        rw [e4] at hS ⊢
        obtain ⟨W4, hW4⟩ : ∃ W4, W3.alloc (.cells #[.int .i64 0, .func (.func 125) #[] #[]] 121) = W4 := ⟨_, rfl⟩
        rw [hW4] at hS kq hB14 hB34
        have d0 := (hB14.cell (p := ⟨w.heap.size, 0, none⟩) hb0).trans c0
        have d1 := (hB14.cell (p := ⟨w.heap.size, 1, none⟩) hb0).trans c1
        obtain ⟨m0, m1, _, _⟩ := row_at kq
        have hBf := hB0.trans (hB14.mono hB0.size)
        obtain ⟨R, hR⟩ : ∃ R, str (qA row ns 0) = R := ⟨_, rfl⟩
        rw [hR] at hS
        have hRe := hide (show str OUT = R by rw [hOe.out, hR])
        clear hO1 hO2 hOe hB0 hx1 hE1 hB2 hB3 hB13 hB14 hB34 hI3 c0 c1 kq hR e1 e2 e3 e4 hs hns hc
        go_wp2_with (go_at_call 125; refine hS.mono ?_; clear hS; rintro e W5 ⟨rfl, hB5⟩)
        go_ret
        exact ⟨by rw [hRe.out]; rfl, hBf.trans (hB5.mono hBf.size)⟩
      · have e1 : qV 1 = .agg #[.int .i64 0, .func (.func 126) #[] #[]] := rfl
        have e2 : (((qC 1 : Nat) : Int)) = 0 := rfl
        have e3 : qF 1 = 126 := rfl
        have e4 : qC 1 = 0 := rfl
        rw [e1] at hlook
        simp only [e2, e3] at hS kq hB14 hB34
        rw [e4] at hS ⊢
        obtain ⟨W4, hW4⟩ : ∃ W4, W3.alloc (.cells #[.int .i64 0, .func (.func 126) #[] #[]] 121) = W4 := ⟨_, rfl⟩
        rw [hW4] at hS kq hB14 hB34
        have d0 := (hB14.cell (p := ⟨w.heap.size, 0, none⟩) hb0).trans c0
        have d1 := (hB14.cell (p := ⟨w.heap.size, 1, none⟩) hb0).trans c1
        obtain ⟨m0, m1, _, _⟩ := row_at kq
        have hBf := hB0.trans (hB14.mono hB0.size)
        obtain ⟨R, hR⟩ : ∃ R, str (qA row ns 1) = R := ⟨_, rfl⟩
        rw [hR] at hS
        have hRe := hide (show str OUT = R by rw [hOe.out, hR])
        clear hO1 hO2 hOe hB0 hx1 hE1 hB2 hB3 hB13 hB14 hB34 hI3 c0 c1 kq hR e1 e2 e3 e4 hs hns hc
        go_wp2_with (go_at_call 126; refine hS.mono ?_; clear hS; rintro e W5 ⟨rfl, hB5⟩)
        go_ret
        exact ⟨by rw [hRe.out]; rfl, hBf.trans (hB5.mono hBf.size)⟩
      · have e1 : qV 2 = .agg #[.int .i64 0, .func (.func 127) #[] #[]] := rfl
        have e2 : (((qC 2 : Nat) : Int)) = 0 := rfl
        have e3 : qF 2 = 127 := rfl
        have e4 : qC 2 = 0 := rfl
        rw [e1] at hlook
        simp only [e2, e3] at hS kq hB14 hB34
        rw [e4] at hS ⊢
        obtain ⟨W4, hW4⟩ : ∃ W4, W3.alloc (.cells #[.int .i64 0, .func (.func 127) #[] #[]] 121) = W4 := ⟨_, rfl⟩
        rw [hW4] at hS kq hB14 hB34
        have d0 := (hB14.cell (p := ⟨w.heap.size, 0, none⟩) hb0).trans c0
        have d1 := (hB14.cell (p := ⟨w.heap.size, 1, none⟩) hb0).trans c1
        obtain ⟨m0, m1, _, _⟩ := row_at kq
        have hBf := hB0.trans (hB14.mono hB0.size)
        obtain ⟨R, hR⟩ : ∃ R, str (qA row ns 2) = R := ⟨_, rfl⟩
        rw [hR] at hS
        have hRe := hide (show str OUT = R by rw [hOe.out, hR])
        clear hO1 hO2 hOe hB0 hx1 hE1 hB2 hB3 hB13 hB14 hB34 hI3 c0 c1 kq hR e1 e2 e3 e4 hs hns hc
        go_wp2_with (go_at_call 127; refine hS.mono ?_; clear hS; rintro e W5 ⟨rfl, hB5⟩)
        go_ret
        exact ⟨by rw [hRe.out]; rfl, hBf.trans (hB5.mono hBf.size)⟩
      · have e1 : qV 3 = .agg #[.int .i64 0, .func (.func 128) #[] #[]] := rfl
        have e2 : (((qC 3 : Nat) : Int)) = 0 := rfl
        have e3 : qF 3 = 128 := rfl
        have e4 : qC 3 = 0 := rfl
        rw [e1] at hlook
        simp only [e2, e3] at hS kq hB14 hB34
        rw [e4] at hS ⊢
        obtain ⟨W4, hW4⟩ : ∃ W4, W3.alloc (.cells #[.int .i64 0, .func (.func 128) #[] #[]] 121) = W4 := ⟨_, rfl⟩
        rw [hW4] at hS kq hB14 hB34
        have d0 := (hB14.cell (p := ⟨w.heap.size, 0, none⟩) hb0).trans c0
        have d1 := (hB14.cell (p := ⟨w.heap.size, 1, none⟩) hb0).trans c1
        obtain ⟨m0, m1, _, _⟩ := row_at kq
        have hBf := hB0.trans (hB14.mono hB0.size)
        obtain ⟨R, hR⟩ : ∃ R, str (qA row ns 3) = R := ⟨_, rfl⟩
        rw [hR] at hS
        have hRe := hide (show str OUT = R by rw [hOe.out, hR])
        clear hO1 hO2 hOe hB0 hx1 hE1 hB2 hB3 hB13 hB14 hB34 hI3 c0 c1 kq hR e1 e2 e3 e4 hs hns hc
        go_wp2_with (go_at_call 128; refine hS.mono ?_; clear hS; rintro e W5 ⟨rfl, hB5⟩)
        go_ret
        exact ⟨by rw [hRe.out]; rfl, hBf.trans (hB5.mono hBf.size)⟩
      · have e1 : qV 4 = .agg #[.int .i64 0, .func (.func 129) #[] #[]] := rfl
        have e2 : (((qC 4 : Nat) : Int)) = 0 := rfl
        have e3 : qF 4 = 129 := rfl
        have e4 : qC 4 = 0 := rfl
        rw [e1] at hlook
        simp only [e2, e3] at hS kq hB14 hB34
        rw [e4] at hS ⊢
        obtain ⟨W4, hW4⟩ : ∃ W4, W3.alloc (.cells #[.int .i64 0, .func (.func 129) #[] #[]] 121) = W4 := ⟨_, rfl⟩
        rw [hW4] at hS kq hB14 hB34
        have d0 := (hB14.cell (p := ⟨w.heap.size, 0, none⟩) hb0).trans c0
        have d1 := (hB14.cell (p := ⟨w.heap.size, 1, none⟩) hb0).trans c1
        obtain ⟨m0, m1, _, _⟩ := row_at kq
        have hBf := hB0.trans (hB14.mono hB0.size)
        obtain ⟨R, hR⟩ : ∃ R, str (qA row ns 4) = R := ⟨_, rfl⟩
        rw [hR] at hS
        have hRe := hide (show str OUT = R by rw [hOe.out, hR])
        clear hO1 hO2 hOe hB0 hx1 hE1 hB2 hB3 hB13 hB14 hB34 hI3 c0 c1 kq hR e1 e2 e3 e4 hs hns hc
        go_wp2_with (go_at_call 129; refine hS.mono ?_; clear hS; rintro e W5 ⟨rfl, hB5⟩)
        go_ret
        exact ⟨by rw [hRe.out]; rfl, hBf.trans (hB5.mono hBf.size)⟩
      · have e1 : qV 5 = .agg #[.int .i64 1, .func (.func 130) #[] #[]] := rfl
        have e2 : (((qC 5 : Nat) : Int)) = 1 := rfl
        have e3 : qF 5 = 130 := rfl
        have e4 : qC 5 = 1 := rfl
        rw [e1] at hlook
        simp only [e2, e3] at hS kq hB14 hB34
        rw [e4] at hS ⊢
        obtain ⟨W4, hW4⟩ : ∃ W4, W3.alloc (.cells #[.int .i64 1, .func (.func 130) #[] #[]] 121) = W4 := ⟨_, rfl⟩
        rw [hW4] at hS kq hB14 hB34
        have d0 := (hB14.cell (p := ⟨w.heap.size, 0, none⟩) hb0).trans c0
        have d1 := (hB14.cell (p := ⟨w.heap.size, 1, none⟩) hb0).trans c1
        obtain ⟨m0, m1, _, _⟩ := row_at kq
        have hBf := hB0.trans (hB14.mono hB0.size)
        obtain ⟨R, hR⟩ : ∃ R, str (qA row ns 5) = R := ⟨_, rfl⟩
        rw [hR] at hS
        have hRe := hide (show str OUT = R by rw [hOe.out, hR])
        clear hO1 hO2 hOe hB0 hx1 hE1 hB2 hB3 hB13 hB14 hB34 hI3 c0 c1 kq hR e1 e2 e3 e4 hs hns hc
        go_wp2_with (go_at_call 130; refine hS.mono ?_; clear hS; rintro e W5 ⟨rfl, hB5⟩)
        go_ret
        exact ⟨by rw [hRe.out]; rfl, hBf.trans (hB5.mono hBf.size)⟩
      · have e1 : qV 6 = .agg #[.int .i64 1, .func (.func 131) #[] #[]] := rfl
        have e2 : (((qC 6 : Nat) : Int)) = 1 := rfl
        have e3 : qF 6 = 131 := rfl
        have e4 : qC 6 = 1 := rfl
        rw [e1] at hlook
        simp only [e2, e3] at hS kq hB14 hB34
        rw [e4] at hS ⊢
        obtain ⟨W4, hW4⟩ : ∃ W4, W3.alloc (.cells #[.int .i64 1, .func (.func 131) #[] #[]] 121) = W4 := ⟨_, rfl⟩
        rw [hW4] at hS kq hB14 hB34
        have d0 := (hB14.cell (p := ⟨w.heap.size, 0, none⟩) hb0).trans c0
        have d1 := (hB14.cell (p := ⟨w.heap.size, 1, none⟩) hb0).trans c1
        obtain ⟨m0, m1, _, _⟩ := row_at kq
        have hBf := hB0.trans (hB14.mono hB0.size)
        obtain ⟨R, hR⟩ : ∃ R, str (qA row ns 6) = R := ⟨_, rfl⟩
        rw [hR] at hS
        have hRe := hide (show str OUT = R by rw [hOe.out, hR])
        clear hO1 hO2 hOe hB0 hx1 hE1 hB2 hB3 hB13 hB14 hB34 hI3 c0 c1 kq hR e1 e2 e3 e4 hs hns hc
        go_wp2_with (go_at_call 131; refine hS.mono ?_; clear hS; rintro e W5 ⟨rfl, hB5⟩)
        go_ret
        exact ⟨by rw [hRe.out]; rfl, hBf.trans (hB5.mono hBf.size)⟩
      · have e1 : qV 7 = .agg #[.int .i64 2, .func (.func 132) #[] #[]] := rfl
        have e2 : (((qC 7 : Nat) : Int)) = 2 := rfl
        have e3 : qF 7 = 132 := rfl
        have e4 : qC 7 = 2 := rfl
        rw [e1] at hlook
        simp only [e2, e3] at hS kq hB14 hB34
        rw [e4] at hS ⊢
        obtain ⟨W4, hW4⟩ : ∃ W4, W3.alloc (.cells #[.int .i64 2, .func (.func 132) #[] #[]] 121) = W4 := ⟨_, rfl⟩
        rw [hW4] at hS kq hB14 hB34
        have d0 := (hB14.cell (p := ⟨w.heap.size, 0, none⟩) hb0).trans c0
        have d1 := (hB14.cell (p := ⟨w.heap.size, 1, none⟩) hb0).trans c1
        obtain ⟨m0, m1, _, _⟩ := row_at kq
        have hBf := hB0.trans (hB14.mono hB0.size)
        obtain ⟨R, hR⟩ : ∃ R, str (qA row ns 7) = R := ⟨_, rfl⟩
        rw [hR] at hS
        have hRe := hide (show str OUT = R by rw [hOe.out, hR])
        clear hO1 hO2 hOe hB0 hx1 hE1 hB2 hB3 hB13 hB14 hB34 hI3 c0 c1 kq hR e1 e2 e3 e4 hs hns hc
        go_wp2_with (go_at_call 132; refine hS.mono ?_; clear hS; rintro e W5 ⟨rfl, hB5⟩)
        go_ret
        exact ⟨by rw [hRe.out]; rfl, hBf.trans (hB5.mono hBf.size)⟩
      · have e1 : qV 8 = .agg #[.int .i64 2, .func (.func 133) #[] #[]] := rfl
        have e2 : (((qC 8 : Nat) : Int)) = 2 := rfl
        have e3 : qF 8 = 133 := rfl
        have e4 : qC 8 = 2 := rfl
        rw [e1] at hlook
        simp only [e2, e3] at hS kq hB14 hB34
        rw [e4] at hS ⊢
        obtain ⟨W4, hW4⟩ : ∃ W4, W3.alloc (.cells #[.int .i64 2, .func (.func 133) #[] #[]] 121) = W4 := ⟨_, rfl⟩
        rw [hW4] at hS kq hB14 hB34
        have d0 := (hB14.cell (p := ⟨w.heap.size, 0, none⟩) hb0).trans c0
        have d1 := (hB14.cell (p := ⟨w.heap.size, 1, none⟩) hb0).trans c1
        obtain ⟨m0, m1, _, _⟩ := row_at kq
        have hBf := hB0.trans (hB14.mono hB0.size)
        obtain ⟨R, hR⟩ : ∃ R, str (qA row ns 8) = R := ⟨_, rfl⟩
        rw [hR] at hS
        have hRe := hide (show str OUT = R by rw [hOe.out, hR])
        clear hO1 hO2 hOe hB0 hx1 hE1 hB2 hB3 hB13 hB14 hB34 hI3 c0 c1 kq hR e1 e2 e3 e4 hs hns hc
        go_wp2_with (go_at_call 133; refine hS.mono ?_; clear hS; rintro e W5 ⟨rfl, hB5⟩)
        go_ret
        exact ⟨by rw [hRe.out]; rfl, hBf.trans (hB5.mono hBf.size)⟩
      · have e1 : qV 9 = .agg #[.int .i64 3, .func (.func 134) #[] #[]] := rfl
        have e2 : (((qC 9 : Nat) : Int)) = 3 := rfl
        have e3 : qF 9 = 134 := rfl
        have e4 : qC 9 = 3 := rfl
        rw [e1] at hlook
        simp only [e2, e3] at hS kq hB14 hB34
        rw [e4] at hS ⊢
        obtain ⟨W4, hW4⟩ : ∃ W4, W3.alloc (.cells #[.int .i64 3, .func (.func 134) #[] #[]] 121) = W4 := ⟨_, rfl⟩
        rw [hW4] at hS kq hB14 hB34
        have d0 := (hB14.cell (p := ⟨w.heap.size, 0, none⟩) hb0).trans c0
        have d1 := (hB14.cell (p := ⟨w.heap.size, 1, none⟩) hb0).trans c1
        obtain ⟨m0, m1, _, _⟩ := row_at kq
        have hBf := hB0.trans (hB14.mono hB0.size)
        obtain ⟨R, hR⟩ : ∃ R, str (qA row ns 9) = R := ⟨_, rfl⟩
        rw [hR] at hS
        have hRe := hide (show str OUT = R by rw [hOe.out, hR])
        clear hO1 hO2 hOe hB0 hx1 hE1 hB2 hB3 hB13 hB14 hB34 hI3 c0 c1 kq hR e1 e2 e3 e4 hs hns hc
        go_wp2_with (go_at_call 134; refine hS.mono ?_; clear hS; rintro e W5 ⟨rfl, hB5⟩)
        go_ret
        exact ⟨by rw [hRe.out]; rfl, hBf.trans (hB5.mono hBf.size)⟩
      · have e1 : qV 10 = .agg #[.int .i64 3, .func (.func 135) #[] #[]] := rfl
        have e2 : (((qC 10 : Nat) : Int)) = 3 := rfl
        have e3 : qF 10 = 135 := rfl
        have e4 : qC 10 = 3 := rfl
        rw [e1] at hlook
        simp only [e2, e3] at hS kq hB14 hB34
        rw [e4] at hS ⊢
        obtain ⟨W4, hW4⟩ : ∃ W4, W3.alloc (.cells #[.int .i64 3, .func (.func 135) #[] #[]] 121) = W4 := ⟨_, rfl⟩
        rw [hW4] at hS kq hB14 hB34
        have d0 := (hB14.cell (p := ⟨w.heap.size, 0, none⟩) hb0).trans c0
        have d1 := (hB14.cell (p := ⟨w.heap.size, 1, none⟩) hb0).trans c1
        obtain ⟨m0, m1, _, _⟩ := row_at kq
        have hBf := hB0.trans (hB14.mono hB0.size)
        obtain ⟨R, hR⟩ : ∃ R, str (qA row ns 10) = R := ⟨_, rfl⟩
        rw [hR] at hS
        have hRe := hide (show str OUT = R by rw [hOe.out, hR])
        clear hO1 hO2 hOe hB0 hx1 hE1 hB2 hB3 hB13 hB14 hB34 hI3 c0 c1 kq hR e1 e2 e3 e4 hs hns hc
        go_wp2_with (go_at_call 135; refine hS.mono ?_; clear hS; rintro e W5 ⟨rfl, hB5⟩)
        go_ret
        exact ⟨by rw [hRe.out]; rfl, hBf.trans (hB5.mono hBf.size)⟩
      · have e1 : qV 11 = .agg #[.int .i64 3, .func (.func 136) #[] #[]] := rfl
        have e2 : (((qC 11 : Nat) : Int)) = 3 := rfl
        have e3 : qF 11 = 136 := rfl
        have e4 : qC 11 = 3 := rfl
        rw [e1] at hlook
        simp only [e2, e3] at hS kq hB14 hB34
        rw [e4] at hS ⊢
        obtain ⟨W4, hW4⟩ : ∃ W4, W3.alloc (.cells #[.int .i64 3, .func (.func 136) #[] #[]] 121) = W4 := ⟨_, rfl⟩
        rw [hW4] at hS kq hB14 hB34
        have d0 := (hB14.cell (p := ⟨w.heap.size, 0, none⟩) hb0).trans c0
        have d1 := (hB14.cell (p := ⟨w.heap.size, 1, none⟩) hb0).trans c1
        obtain ⟨m0, m1, _, _⟩ := row_at kq
        have hBf := hB0.trans (hB14.mono hB0.size)
        obtain ⟨R, hR⟩ : ∃ R, str (qA row ns 11) = R := ⟨_, rfl⟩
        rw [hR] at hS
        have hRe := hide (show str OUT = R by rw [hOe.out, hR])
        clear hO1 hO2 hOe hB0 hx1 hE1 hB2 hB3 hB13 hB14 hB34 hI3 c0 c1 kq hR e1 e2 e3 e4 hs hns hc
        go_wp2_with (go_at_call 136; refine hS.mono ?_; clear hS; rintro e W5 ⟨rfl, hB5⟩)
        go_ret
        exact ⟨by rw [hRe.out]; rfl, hBf.trans (hB5.mono hBf.size)⟩
    · have hWe := hide (show str OUT = ⟨#[119, 104, 97, 116]⟩ by rw [hO2.out hc]; kernel_rfl)
      have hci : ¬ ((ns.length : Nat) : Int) = ((qC i : Nat) : Int) := by omega
      unfold qV at hlook
      obtain ⟨m0, m1, _, _⟩ := row_at kq
      have hBf := hB0.trans (hB14.mono hB0.size)
      obtain ⟨N, hN⟩ : ∃ N, ns.length = N := ⟨_, rfl⟩
      obtain ⟨K, hK⟩ : ∃ K, qC i = K := ⟨_, rfl⟩
      obtain ⟨F, hF⟩ : ∃ F, qF i = F := ⟨_, rfl⟩
      rw [hN, hK] at hci
      rw [hN]
      rw [hK, hF] at hlook m0 m1 hBf
      have hne : ((N : Int) == (K : Int)) = false := by rw [beq_eq_false_iff_ne]; exact hci
      clear hO1 hO2 hB0 hx1 hE1 hB2 hB3 hB13 hB14 hB34 hI3 c0 c1 kq hN hK hF hs hns hc
      go_wp2
      go_ret
      exact ⟨by rw [hWe.out]; rfl, hBf⟩
  · obtain rfl := hv2 hq
    rw [decide_eq_false hq] at hlook
    have hWe := hide (show str OUT = ⟨#[119, 104, 97, 116]⟩ by rw [← hO.out, if_neg (fun h => hq h.1)]; kernel_rfl)
    have hB14 := hB13.alloc hB13.size (.cells #[.int .i64 0, .nilFunc] 121)
    have hBf := hB0.trans (hB14.mono hB0.size)
    clear hO hB0 hx1 hE1 hB2 hB3 hB13 hB14 hI3 c0 c1 hs hns hv1 hv2 hXW
    go_wp2
    go_ret
    exact ⟨by rw [hWe.out]; rfl, hBf⟩
end Go.Proofs.YtiaaefapbcjgmaaGreatDoor
namespace Go.Proofs.YtiaaefapbcjgmaaGreatDoor
open Go.RowKit Go.Shelf

/-- A change in a block of another type leaves a desk as it is. -/
theorem OwnDk.keep {W W' : World} {base b : Nat} {v x p : Value} {d : Dk} {t : TypeId} (h : OwnDk W base v d) (hb : W.heap[b]? = some (.cells #[x, p] t (0, 0))) (h1 : 28 ≠ t) (h2 : 3 ≠ t) (hg : W.grownBy W' (some b)) : OwnDk W' base v d := by
  obtain ⟨mid, y, q, rfl, e1, e2, e3, e4⟩ := h
  refine ⟨mid, y, q, rfl, e1, Nat.le_trans e2 hg.size, ?_, e4.keep hb h1 h2 hg⟩
  rcases e3 with e3 | ⟨g, c, rfl, f1, f2, f3⟩
  · exact .inl e3
  · refine .inr ⟨g, c, rfl, f1, f2, f3.of_block (hg.block g f3.lt (fun e => ?_))⟩
    injection e with e
    subst e
    obtain ⟨cur, hc, _⟩ := f3
    rw [hb] at hc
    injection hc with hc
    injection hc with _ hc
    exact h2 hc.symm

/-- A round of DeskRun: the desk's box b, and how many were done. -/
structure Rn (w : World) (b : Nat) (d : Dk) (L : List (Int × Int)) (k : Nat) (x p : Value) (W : World) : Prop where
  below : Below w.heap.size w W
  res : W.heap[w.heap.size + 1]? = some (.cells #[.slice none 0 0, .slice none 0 0] 31 (0, 0))
  box : W.heap[b]? = some (.cells #[x, p] 31 (0, 0))
  lt : w.heap.size + 2 ≤ b
  own : OwnDk W (w.heap.size + 2) (.agg #[x, p]) (runL d 0 (L.take k)).1

set_option maxRecDepth 100000 in
set_option maxHeartbeats 2000000 in
theorem implRun_in (x p ls : Value) (d : Dk) (L : List (Int × Int)) (w : World) (hx : Ints w x d.1) (hp : PastI w p d.2) (hb : deskB d = true) (hl : L.length ≤ 40) (hls : DeedsI w ls L) (hf : ∀ a ∈ L, Fits a.1 ∧ Fits a.2) : Calls Tryz.prog 16 #[.agg #[x, p], ls] w fun e w' =>
    ∃ y, e = .returned (.tuple #[y, .int .i64 ((runL d 0 L).2 : Nat)]) ∧ OwnDk w' w.heap.size y (runL d 0 L).1 ∧ Below w.heap.size w w' := by
  obtain ⟨hd1, hd2, hd3⟩ := deskB_is.1 hb
  have hl1 := sideB_len hd2
  have hB : Below w.heap.size w ((w.alloc (.cells #[x, p] 31)).alloc (.cells #[.slice none 0 0, .slice none 0 0] 31)) := ((Below.refl _ w).alloc (Nat.le_refl _) _).alloc (by rw [World.size_alloc]; omega) _
  have k0 : ((w.alloc (.cells #[x, p] 31)).alloc (.cells #[.slice none 0 0, .slice none 0 0] 31)).heap[w.heap.size]? = some (.cells #[x, p] 31 (0, 0)) := (Below.heap_alloc _ _ _ (by rw [World.size_alloc]; omega)).trans (World.alloc_heap_new w _)
  have k1 := World.alloc_heap_new (w.alloc (.cells #[x, p] 31)) (.cells #[.slice none 0 0, .slice none 0 0] 31)
  rw [World.size_alloc] at k1
  have hsz : w.heap.size + 2 ≤ ((w.alloc (.cells #[x, p] 31)).alloc (.cells #[.slice none 0 0, .slice none 0 0] 31)).heap.size := by simp
  obtain ⟨W1, hW1⟩ : ∃ W1, (w.alloc (.cells #[x, p] 31)).alloc (.cells #[.slice none 0 0, .slice none 0 0] 31) = W1 := ⟨_, rfl⟩
  rw [hW1] at hB k0 k1 hsz
  have hOK := implDeskOk (.agg #[x, p]) d W1 ⟨x, p, rfl, hx.below hB, hp.below hB⟩ ⟨by omega, by omega, fun j => by
    by_cases hj : j < d.2.length
    · have := sideB_len (hd1 (d.2.getD j []) (by rw [List.getD, List.getElem?_eq_getElem hj]; exact List.getElem_mem hj)); omega
    · rw [List.getD, List.getElem?_eq_none (by omega)]; simp⟩
  rw [hb] at hOK
  have hKp := fun V (hV : Below w.heap.size w V) => deskOf_in x p d.1 d.2 V (hx.below hV) hl1.1 hl1.2 (hp.below hV) hd3 (fun j hj => sideB_len (hd1 _ (by rw [List.getD, List.getElem?_eq_getElem hj]; exact List.getElem_mem hj)))
  obtain ⟨xa, xc, rfl⟩ := hx.shape
  obtain ⟨pa, pc, rfl, _⟩ := id hp
  obtain ⟨la, lc, rfl, hlr⟩ := hls
  obtain ⟨N, hN⟩ : ∃ N, L.length = N := ⟨_, rfl⟩
  rw [hN] at hl hlr ⊢
  have hl' : ¬ (N : Int) > 40 := by omega
  obtain ⟨c0, c1, _, _⟩ := row_at k0
  have l0 := (Array.getElem?_eq_some_iff.1 k0).1
  have l1 := (Array.getElem?_eq_some_iff.1 k1).1
  clear hx hp hd1
  go_enter Tryz.func16, Tryz.ntmps16
  go_wp2_with (first
    | (go_at_call 23; go_loud (refine hOK.mono ?_; clear hOK; rintro e W2 ⟨rfl, hB2⟩; obtain ⟨c0, c1, _, _⟩ := row_at ((hB2.block _ l0).trans k0)))
    | (go_at_call 52; go_loud (refine (hKp _ (hB.trans (hB2.mono hB.size))).mono ?_; clear hKp; rintro e W3 ⟨y, rfl, hy, hB3⟩; obtain ⟨y1, y2, y3, y4, rfl⟩ := hy.form)))
  have hy0 := hy
  have z3 := hB3.size
  have hBw3 : Below w.heap.size w W3 := (hB.trans (hB2.mono hB.size)).trans (hB3.mono (Nat.le_trans hB.size hB2.size))
  have hy4 := (hy.down (Nat.le_trans hsz hB2.size)).below ((Below.refl _ W3).alloc (Nat.le_refl _) (.cells #[.slice y1 d.1.length y2, .slice y3 d.2.length y4] 31))
  have hb4 := World.alloc_heap_new W3 (.cells #[.slice y1 d.1.length y2, .slice y3 d.2.length y4] 31)
  have hB4 := hBw3.alloc hBw3.size (.cells #[.slice y1 d.1.length y2, .slice y3 d.2.length y4] 31)
  have k4 := (Below.heap_alloc W3 (.cells #[.slice y1 d.1.length y2, .slice y3 d.2.length y4] 31) (w.heap.size + 1) (by have := hB2.size; omega)).trans ((hB3.block _ (by have := hB2.size; omega)).trans ((hB2.block _ l1).trans k1))
  have hbl : w.heap.size + 2 ≤ W3.heap.size := by have := hB2.size; omega
  have hpc : deskB d = true := hb
  obtain ⟨b, hbe⟩ : ∃ b, W3.heap.size = b := ⟨_, rfl⟩
  rw [hbe] at hb4 hbl ⊢
  obtain ⟨V0, hV0⟩ : ∃ V0, W3.alloc (.cells #[.slice y1 d.1.length y2, .slice y3 d.2.length y4] 31) = V0 := ⟨_, rfl⟩
  rw [hV0] at hy4 hb4 hB4 k4 ⊢
  have hR0 : Rn w b d L 0 (.slice y1 d.1.length y2) (.slice y3 d.2.length y4) V0 := ⟨hB4, k4, hb4, hbl, by rw [List.take_zero]; exact hy4⟩
  have hr0 : (runL d 0 (L.take 0)).2 = 0 := by rw [List.take_zero]; rfl
  clear hy4 hb4 hB4 k4 hy hy0 hB2 hB3 hBw3 z3 hbe hV0 k0 k1 l0 l1 c0 c1 hB hsz hl1 hd2 hd3 hpc
  go_loopw [7, 28] (fun c i wr => ∃ (k : Nat) (x p : Value), k ≤ N ∧ i = .int .i64 k ∧ c = .int .i64 ((runL d 0 (L.take k)).2 : Nat) ∧ Rn w b d L k x p wr) (fun _ i _ => N - (intOf i).toNat)
  case atStart => exact ⟨0, _, _, Nat.zero_le _, rfl, by rw [hr0]; rfl, hR0⟩
  case round =>
    obtain ⟨k, u, q, hk, rfl, rfl, hR⟩ := hrel
    clear hR0 hr0
    obtain ⟨rB, rres, rbox, rlt, rown⟩ := hR
    have hcn := runL_le (L.take k) d
    rw [List.length_take] at hcn
    have hdb := runL_desk (L.take k) d 0 hb
    by_cases hlt : k < N
    · have hki : (k : Int) < (N : Int) := by omega
      obtain ⟨g, o, rfl, hg, hc⟩ := hlr (by omega)
      obtain ⟨e1, e2⟩ := hc k hlt
      have hx : L.getD k (0, 0) ∈ L := by rw [List.getD, List.getElem?_eq_getElem (by omega)]; exact List.getElem_mem _
      have hfx := hf _ hx
      have hnx := hide (runL_next (d := d) (L := L) (k := k) (by omega))
      obtain ⟨a, ha⟩ : ∃ a, L.getD k (0, 0) = a := ⟨_, rfl⟩
      rw [ha] at e1 e2 hfx hnx
      have d1 := (rB.cell (p := ⟨g, o + k * 2, none⟩) hg).trans e1
      have d2 := (rB.cell (p := ⟨g, o + k * 2 + 1, none⟩) hg).trans e2
      obtain ⟨dk, hdk⟩ : ∃ dk, (runL d 0 (L.take k)).1 = dk := ⟨_, rfl⟩
      obtain ⟨cn, hcn'⟩ : ∃ cn, (runL d 0 (L.take k)).2 = cn := ⟨_, rfl⟩
      rw [hdk] at rown hdb hnx
      rw [hcn'] at hcn hnx ⊢
      obtain ⟨ak, an⟩ := a
      simp only at d1 d2 hfx hnx
      have hcni : (cn : Int) ≤ 40 := by omega
      have hdi := rown.deskI.below ((Below.refl _ wr).alloc (Nat.le_refl _) (.cells #[.int .i64 ak, .int .i64 an] 39))
      have lb := (Array.getElem?_eq_some_iff.1 rbox).1
      have hDo := implDo (.agg #[u, q]) dk ak an _ hdi rown.cap (deskB_size hdb) hfx.1 hfx.2
      have bB := rB.alloc rB.size (.cells #[.int .i64 ak, .int .i64 an] 39)
      have bbox := (Below.heap_alloc wr (.cells #[.int .i64 ak, .int .i64 an] 39) b lb).trans rbox
      have bres := (Below.heap_alloc wr (.cells #[.int .i64 ak, .int .i64 an] 39) (w.heap.size + 1) (by omega)).trans rres
      have bown := rown.below ((Below.refl _ wr).alloc (Nat.le_refl _) (.cells #[.int .i64 ak, .int .i64 an] 39))
      obtain ⟨m0, m1, _, _⟩ := row_at bbox
      obtain ⟨D, hD⟩ : ∃ D, (doV dk ak an).1 = D := ⟨_, rfl⟩
      obtain ⟨bb, hbb⟩ : ∃ bb, (doV dk ak an).2 = bb := ⟨_, rfl⟩
      rw [hD, hbb] at hDo hnx
      unfold dV at hDo
      have hsw := rB.size
      have hdk2 := hide hdk
      have hcn2 := hide hcn'
      clear rB rbox rres rown hdi hD hbb hdb hdk hcn' ha e1 e2 hx hfx hb hf hlr hc hg
      cases bb
      · have hnx' := hnx.out
        rw [if_neg (by simp)] at hnx'
        have hnx2 := hide hnx'
        clear hnx hnx'
        go_wp2_with (go_at_call 54; go_loud (refine hDo.mono ?_; clear hDo; rintro e V2 ⟨y, rfl, hy, hB2⟩; obtain ⟨z1, z2, z3, z4, rfl⟩ := hy.form; have zB := (bB.trans (hB2.mono bB.size)).alloc (Nat.le_trans bB.size hB2.size) (.cells #[.slice z1 D.1.length z2, .slice z3 D.2.length z4] 31); have lb1 := (Array.getElem?_eq_some_iff.1 bbox).1; have lr1 := (Array.getElem?_eq_some_iff.1 bres).1; have zbox := (Below.heap_alloc V2 (.cells #[.slice z1 D.1.length z2, .slice z3 D.2.length z4] 31) b (Nat.lt_of_lt_of_le lb1 hB2.size)).trans ((hB2.block _ lb1).trans bbox); have zres := (Below.heap_alloc V2 (.cells #[.slice z1 D.1.length z2, .slice z3 D.2.length z4] 31) (w.heap.size + 1) (Nat.lt_of_lt_of_le lr1 hB2.size)).trans ((hB2.block _ lr1).trans bres); have zown := (hy.down (base' := w.heap.size + 2) (by rw [World.size_alloc]; omega)).below ((Below.refl _ V2).alloc (Nat.le_refl _) (.cells #[.slice z1 D.1.length z2, .slice z3 D.2.length z4] 31)); have zold := (bown.below hB2).below ((Below.refl _ V2).alloc (Nat.le_refl _) (.cells #[.slice z1 D.1.length z2, .slice z3 D.2.length z4] 31)); obtain ⟨m0, m1, f0, f1⟩ := row_at zbox; clear hy hB2 bB bbox bres bown lb1 lr1))
        go_roundw
        case rel => exact ⟨k + 1, _, _, by omega, by go_num, by rw [hnx2.out, hcn2.out], ⟨zB, zres, zbox, rlt, by rw [hnx2.out, hdk2.out]; exact zold⟩⟩
        case measure => simp [intOf]; omega
      · have hnx' := hnx.out
        rw [if_pos rfl] at hnx'
        have hnx2 := hide hnx'
        clear hnx hnx'
        go_wp2_with (go_at_call 54; go_loud (refine hDo.mono ?_; clear hDo; rintro e V2 ⟨y, rfl, hy, hB2⟩; obtain ⟨z1, z2, z3, z4, rfl⟩ := hy.form; have zB := (bB.trans (hB2.mono bB.size)).alloc (Nat.le_trans bB.size hB2.size) (.cells #[.slice z1 D.1.length z2, .slice z3 D.2.length z4] 31); have lb1 := (Array.getElem?_eq_some_iff.1 bbox).1; have lr1 := (Array.getElem?_eq_some_iff.1 bres).1; have zbox := (Below.heap_alloc V2 (.cells #[.slice z1 D.1.length z2, .slice z3 D.2.length z4] 31) b (Nat.lt_of_lt_of_le lb1 hB2.size)).trans ((hB2.block _ lb1).trans bbox); have zres := (Below.heap_alloc V2 (.cells #[.slice z1 D.1.length z2, .slice z3 D.2.length z4] 31) (w.heap.size + 1) (Nat.lt_of_lt_of_le lr1 hB2.size)).trans ((hB2.block _ lr1).trans bres); have zown := (hy.down (base' := w.heap.size + 2) (by rw [World.size_alloc]; omega)).below ((Below.refl _ V2).alloc (Nat.le_refl _) (.cells #[.slice z1 D.1.length z2, .slice z3 D.2.length z4] 31)); have zold := (bown.below hB2).below ((Below.refl _ V2).alloc (Nat.le_refl _) (.cells #[.slice z1 D.1.length z2, .slice z3 D.2.length z4] 31)); obtain ⟨m0, m1, f0, f1⟩ := row_at zbox; clear hy hB2 bB bbox bres bown lb1 lr1; have g0 := grownBy_setAt (V2.alloc (.cells #[.slice z1 D.1.length z2, .slice z3 D.2.length z4] 31)) b 0 (.slice z1 D.1.length z2); have zb1 := set_cells zbox 0 (.slice z1 D.1.length z2); have g1 := grownBy_setAt ((V2.alloc (.cells #[.slice z1 D.1.length z2, .slice z3 D.2.length z4] 31)).setCell ⟨b, 0, none⟩ (.slice z1 D.1.length z2)) b 1 (.slice z3 D.2.length z4); have own2 := (zown.keep zbox (by decide) (by decide) g0).keep zb1 (by decide) (by decide) g1; have zb2 := desk_set zbox (.slice z1 D.1.length z2) (.slice z3 D.2.length z4); have zr2 := (g1.block _ (Nat.lt_of_lt_of_le (Array.getElem?_eq_some_iff.1 zres).1 g0.size) (fun e => by injection e with e; omega)).trans ((g0.block _ (Array.getElem?_eq_some_iff.1 zres).1 (fun e => by injection e with e; omega)).trans zres); have zB2 := (zB.setCell (p := ⟨b, 0, none⟩) (Nat.le_trans (by omega) rlt) (.slice z1 D.1.length z2)).setCell (p := ⟨b, 1, none⟩) (Nat.le_trans (by omega) rlt) (.slice z3 D.2.length z4); have hbc := hide (And.intro zB2 (And.intro zr2 (And.intro zb2 own2))); clear zold g0 zb1 g1 own2 zb2 zr2 zB2 zown))
        go_roundw
        case rel => exact ⟨k + 1, _, _, by omega, by go_num, by rw [hnx2.out]; go_num, ⟨hbc.out.1, hbc.out.2.1, hbc.out.2.2.1, rlt, by rw [hnx2.out]; exact hbc.out.2.2.2⟩⟩
        case measure => simp [intOf]; omega
    · obtain rfl : k = N := by omega
      have hki : ¬ (k : Int) < (k : Int) := by omega
      have ht : L.take k = L := by rw [← hN, List.take_length]
      rw [ht] at rown ⊢
      obtain ⟨q1, q2, q3, q4, hq⟩ := rown.form
      injection hq with hq
      simp at hq
      obtain ⟨rfl, rfl⟩ := hq
      obtain ⟨n1, hn1⟩ : ∃ n1, (runL d 0 L).1.1.length = n1 := ⟨_, rfl⟩
      obtain ⟨n2, hn2⟩ : ∃ n2, (runL d 0 L).1.2.length = n2 := ⟨_, rfl⟩
      rw [hn1, hn2] at rown rbox
      obtain ⟨m0, m1, _, _⟩ := row_at rbox
      obtain ⟨r0, r1, f0, f1⟩ := row_at rres
      have hrs := hide (desk_set rres (.slice q1 n1 q2) (.slice q3 n2 q4))
      have hown := hide (rown.result (b := w.heap.size + 1) (base' := w.heap.size) (by omega) (by omega))
      have hBl := hide ((rB.setCell (p := ⟨w.heap.size + 1, 0, none⟩) (Nat.le_succ _) (.slice q1 n1 q2)).setCell (p := ⟨w.heap.size + 1, 1, none⟩) (Nat.le_succ _) (.slice q3 n2 q4))
      clear rB rown hcn hdb ht hf hlr hb
      go_wp2
      (try simp only [Exit.inBlock, Exit.then])
      exact bodyPost_ret (results_desk2 rfl _ _ (w.heap.size + 1) _ _ rfl hrs.out) rfl ⟨_, rfl, hown.out, hBl.out⟩

set_option maxRecDepth 100000 in
set_option maxHeartbeats 1000000 in
theorem implRun_no (x p ls : Value) (d : Dk) (L : List (Int × Int)) (w : World) (hx : Ints w x d.1) (hp : PastI w p d.2) (hs : DkS d) (hb : deskB d = false ∨ 40 < L.length) (hls : DeedsI w ls L) (hn : L.length ≤ 2000000) : Calls Tryz.prog 16 #[.agg #[x, p], ls] w fun e w' =>
    ∃ y, e = .returned (.tuple #[y, .int .i64 0]) ∧ OwnDk w' w.heap.size y ([], []) ∧ Below w.heap.size w w' := by
  have hB : Below w.heap.size w ((w.alloc (.cells #[x, p] 31)).alloc (.cells #[.slice none 0 0, .slice none 0 0] 31)) := ((Below.refl _ w).alloc (Nat.le_refl _) _).alloc (by rw [World.size_alloc]; omega) _
  have k0 : ((w.alloc (.cells #[x, p] 31)).alloc (.cells #[.slice none 0 0, .slice none 0 0] 31)).heap[w.heap.size]? = some (.cells #[x, p] 31 (0, 0)) := (Below.heap_alloc _ _ _ (by rw [World.size_alloc]; omega)).trans (World.alloc_heap_new w _)
  have k1 := World.alloc_heap_new (w.alloc (.cells #[x, p] 31)) (.cells #[.slice none 0 0, .slice none 0 0] 31)
  rw [World.size_alloc] at k1
  have hsz : w.heap.size + 2 ≤ ((w.alloc (.cells #[x, p] 31)).alloc (.cells #[.slice none 0 0, .slice none 0 0] 31)).heap.size := by simp
  obtain ⟨W1, hW1⟩ : ∃ W1, (w.alloc (.cells #[x, p] 31)).alloc (.cells #[.slice none 0 0, .slice none 0 0] 31) = W1 := ⟨_, rfl⟩
  rw [hW1] at hB k0 k1 hsz
  have hOK := implDeskOk (.agg #[x, p]) d W1 ⟨x, p, rfl, hx.below hB, hp.below hB⟩ hs
  obtain ⟨xa, xc, rfl⟩ := hx.shape
  obtain ⟨pa, pc, rfl, _⟩ := id hp
  obtain ⟨la, lc, rfl, hlr⟩ := hls
  obtain ⟨N, hN⟩ : ∃ N, L.length = N := ⟨_, rfl⟩
  rw [hN] at hn hb ⊢
  obtain ⟨c0, c1, _, _⟩ := row_at k0
  have l0 := (Array.getElem?_eq_some_iff.1 k0).1
  have l1 := (Array.getElem?_eq_some_iff.1 k1).1
  have h40 : deskB d = true → (40 : Int) < (N : Int) := fun e => by
    rcases hb with h | h
    · rw [e] at h; cases h
    · omega
  clear hx hp hs hlr hb
  cases hd : deskB d <;> rw [hd] at hOK h40
  all_goals
    have h40' := h40
    clear h40
    simp at h40'
    go_enter Tryz.func16, Tryz.ntmps16
    go_wp2_with (go_at_call 23; go_loud (refine hOK.mono ?_; clear hOK; rintro e W2 ⟨rfl, hB2⟩; have zres := (hB2.block _ l1).trans k1; obtain ⟨c0, c1, _, _⟩ := row_at ((hB2.block _ l0).trans k0); obtain ⟨r0, r1, f0, f1⟩ := row_at zres))
    (try simp only [Exit.inBlock, Exit.then])
    have hB3 := hB.trans (hB2.mono hB.size)
    have hz := hB2.size
    exact bodyPost_ret (results_desk2 rfl _ _ (w.heap.size + 1) _ _ rfl (desk_set zres (.slice none 0 0) (.slice none 0 0))) rfl ⟨_, rfl, (OwnDk.none W2 (w.heap.size + 2) (by omega)).result (b := w.heap.size + 1) (base' := w.heap.size) (by omega) (by omega), (hB3.setCell (p := ⟨w.heap.size + 1, 0, none⟩) (Nat.le_succ _) _).setCell (p := ⟨w.heap.size + 1, 1, none⟩) (Nat.le_succ _) _⟩

theorem implRun (v ls : Value) (d : Dk) (L : List (Int × Int)) (w : World) (hv : DeskI w v d) (hs : DkS d) (hls : DeedsI w ls L) (hn : L.length ≤ 2000000) (hf : ∀ a ∈ L, Fits a.1 ∧ Fits a.2) : Calls Tryz.prog 16 #[v, ls] w fun e w' =>
    ∃ y, e = .returned (.tuple #[y, .int .i64 ((runV d L).2 : Nat)]) ∧ OwnDk w' w.heap.size y (runV d L).1 ∧ Below w.heap.size w w' := by
  obtain ⟨x, p, rfl, hx, hp⟩ := hv
  by_cases h : deskB d = true ∧ L.length ≤ 40
  · unfold runV
    rw [if_pos h]
    exact implRun_in x p ls d L w hx hp h.1 h.2 hls hf
  · unfold runV
    rw [if_neg h]
    refine implRun_no x p ls d L w hx hp hs ?_ hls hn
    cases hb : deskB d with
    | false => exact .inl rfl
    | true => exact .inr (by rw [hb] at h; simp at h; omega)
end Go.Proofs.YtiaaefapbcjgmaaGreatDoor
namespace Go.Proofs.YtiaaefapbcjgmaaGreatDoor
open Go Go.RowKit Go.Shelf
attribute [local go_sem] Oper.semAt_some

theorem rdV_some {l : List Nat} {k n : Int} (h : rdV l = ((k, n), true)) : readD l = some (k, n) ∧ Fits k ∧ Fits n := by
  unfold rdV at h
  cases hr : readD l with
  | none => rw [hr] at h; cases h
  | some a =>
    rw [hr] at h
    obtain ⟨h1, h2⟩ := readD_text hr
    have h3 := deedT_is (k := a.1) (n := a.2) (by rw [h2]; exact h1)
    simp only [Prod.mk.injEq, and_true] at h
    subst h
    refine ⟨rfl, ?_⟩
    unfold isD at h3
    simp only at h3
    exact ⟨by constructor <;> omega, by constructor <;> omega⟩

theorem rdV_none' {l : List Nat} {k n : Int} (h : rdV l = ((k, n), false)) : readD l = none := by
  unfold rdV at h
  cases hr : readD l with
  | none => rfl
  | some a => rw [hr] at h; cases h

set_option maxRecDepth 100000 in
set_option maxHeartbeats 4000000 in
theorem implLine_deed (x p : Value) (d : Dk) (l : List Nat) (w : World) (hx : Ints w x d.1) (hp : PastI w p d.2) (hcap : CapP (.agg #[x, p])) (hb : deskB d = true) (hl : ∀ c ∈ l, c < 256) (hn : l.length ≤ 1100000) (hE : Env w) (k n : Int) (hr : rdV l = ((k, n), true)) :
    Calls Tryz.prog 14 #[.agg #[x, p], .string (str l)] w fun e w' => ∃ y, e = .returned (.tuple #[y, .string (str (lineV d l).2)]) ∧ OwnDk w' w.heap.size y (lineV d l).1 ∧ Below w.heap.size w w' := by
  obtain ⟨hrd, hk, hm⟩ := rdV_some hr
  rw [lineV_deed hb hrd]
  simp only
  obtain ⟨hd1, hd2, hd3⟩ := deskB_is.1 hb
  have hl1 := sideB_len hd2
  have hB : Below w.heap.size w ((w.alloc (.cells #[x, p] 31)).alloc (.cells #[.slice none 0 0, .slice none 0 0] 31)) := ((Below.refl _ w).alloc (Nat.le_refl _) _).alloc (by rw [World.size_alloc]; omega) _
  have k0 : ((w.alloc (.cells #[x, p] 31)).alloc (.cells #[.slice none 0 0, .slice none 0 0] 31)).heap[w.heap.size]? = some (.cells #[x, p] 31 (0, 0)) := (Below.heap_alloc _ _ _ (by rw [World.size_alloc]; omega)).trans (World.alloc_heap_new w _)
  have k1 := World.alloc_heap_new (w.alloc (.cells #[x, p] 31)) (.cells #[.slice none 0 0, .slice none 0 0] 31)
  rw [World.size_alloc] at k1
  have hsz : w.heap.size + 2 ≤ ((w.alloc (.cells #[x, p] 31)).alloc (.cells #[.slice none 0 0, .slice none 0 0] 31)).heap.size := by simp
  obtain ⟨W1, hW1⟩ : ∃ W1, (w.alloc (.cells #[x, p] 31)).alloc (.cells #[.slice none 0 0, .slice none 0 0] 31) = W1 := ⟨_, rfl⟩
  rw [hW1] at hB k0 k1 hsz
  have hOK := implDeskOk (.agg #[x, p]) d W1 ⟨x, p, rfl, hx.below hB, hp.below hB⟩ (deskB_size hb)
  rw [hb] at hOK
  have hKp := fun V (hV : Below w.heap.size w V) => deskOf_in x p d.1 d.2 V (hx.below hV) hl1.1 hl1.2 (hp.below hV) hd3 (fun j hj => sideB_len (hd1 _ (by rw [List.getD, List.getElem?_eq_getElem hj]; exact List.getElem_mem hj)))
  have hRd := fun V hV => implReadDeed l hl hn V hV
  have hAn := fun V (hV : Below w.heap.size w V) => answered_in x p d.1 l V (hx.below hV) hd2 hl hn (hE.below hV)
  rw [ans_qa hd2] at hAn
  have hDo := fun k n (hk : Fits k) (hn : Fits n) V (hV : Below w.heap.size w V) => implDo (.agg #[x, p]) d k n V ⟨x, p, rfl, hx.below hV, hp.below hV⟩ hcap (deskB_size hb) hk hn
  have hDo' := hDo k n hk hm
  clear hDo
  obtain ⟨D, hD⟩ : ∃ D, (doV d k n).1 = D := ⟨_, rfl⟩
  obtain ⟨bb, hbb⟩ : ∃ bb, (doV d k n).2 = bb := ⟨_, rfl⟩
  rw [hD, hbb] at hDo' ⊢
  have hEw := fun V (hV : Below w.heap.size w V) => hE.below hV
  rw [hr] at hRd
  simp only at hRd
  unfold dV at hRd
  obtain ⟨xa, xc, rfl⟩ := hx.shape
  obtain ⟨pa, pc, rfl, _⟩ := id hp
  obtain ⟨LS, hLS⟩ : ∃ LS, str l = LS := ⟨_, rfl⟩
  rw [hLS] at hRd hAn ⊢
  obtain ⟨c0, c1, _, _⟩ := row_at k0
  have l0 := (Array.getElem?_eq_some_iff.1 k0).1
  have l1 := (Array.getElem?_eq_some_iff.1 k1).1
  clear hx hp hd1 hcap hE hLS hD hbb
  refine (callsIn_wide (n := 9)).1 ?_
  refine callsIn_of_wp Tryz.func14 rfl trivial ?_ rfl
  simp only [Tryz.ntmps14, List.size_toArray, List.length_cons, List.length_nil, Nat.reduceAdd, Nat.reduceSub, Array.replicate_succ, Array.replicate_zero, List.push_toArray, List.append_toArray, List.nil_append, List.cons_append]
  gi_wp2_with fail
  refine ⟨trivial, ?_⟩
  gi_at_call 23
  refine (callsIn_wide.2 hOK).mono ?_
  rintro e W2 ⟨rfl, hB2⟩
  have hB02 := hB.trans (hB2.mono hB.size)
  have k02 := (hB2.block _ l0).trans k0
  have k12 := (hB2.block _ l1).trans k1
  have hsz2 := Nat.le_trans hsz hB2.size
  clear hOK hB2 k0 k1 l0 l1 hB hsz c0 c1
  gi_wp2_with fail
  refine ⟨trivial, ?_⟩
  gi_at_call 46
  refine (callsIn_wide.2 (hRd _ (hEw _ hB02))).mono ?_
  rintro e W3 ⟨rfl, hB3⟩
  have hB03 := hB02.trans (hB3.mono hB02.size)
  have k03 := (hB3.block _ (Array.getElem?_eq_some_iff.1 k02).1).trans k02
  have k13 := (hB3.block _ (Array.getElem?_eq_some_iff.1 k12).1).trans k12
  have hsz3 := Nat.le_trans hsz2 hB3.size
  clear hRd hEw hB3 hB02 k02 k12 hsz2
  have hB04 := hB03.alloc hB03.size (.cells #[.int .i64 k, .int .i64 n] 39)
  have hB34 := (Below.refl _ W3).alloc (Nat.le_refl _) (.cells #[.int .i64 k, .int .i64 n] 39)
  have kd := World.alloc_heap_new W3 (.cells #[.int .i64 k, .int .i64 n] 39)
  have hsz4 := Nat.le_trans hsz3 hB34.size
  have k04 := (hB34.block _ (Array.getElem?_eq_some_iff.1 k03).1).trans k03
  have k14 := (hB34.block _ (Array.getElem?_eq_some_iff.1 k13).1).trans k13
  obtain ⟨c0, c1, _, _⟩ := row_at k04
  obtain ⟨r0, r1, f0, f1⟩ := row_at k14
  obtain ⟨e0, e1, _, _⟩ := row_at kd
  have hDo4 := hDo' _ hB04
  unfold dV at hDo4
  obtain ⟨W4, hW4⟩ : ∃ W4, W3.alloc (.cells #[.int .i64 k, .int .i64 n] 39) = W4 := ⟨_, rfl⟩
  rw [hW4] at hB04 hB34 kd hsz4 k04 k14 c0 c1 r0 r1 f0 f1 e0 e1 hDo4
  clear hDo' hAn hKp hrd hk hm hr hB03 k03 k13 hsz3 hB34
  gi_wp2_with fail
  refine ⟨trivial, ?_⟩
  gi_at_call 54
  refine (callsIn_wide.2 hDo4).mono ?_
  rintro e W5 ⟨y, rfl, hy, hB5⟩
  obtain ⟨y1, y2, y3, y4, rfl⟩ := hy.form
  obtain ⟨m1, hm1⟩ : ∃ m1, D.1.length = m1 := ⟨_, rfl⟩
  obtain ⟨m2, hm2⟩ : ∃ m2, D.2.length = m2 := ⟨_, rfl⟩
  rw [hm1, hm2] at hy ⊢
  have hB05 := hB04.trans (hB5.mono hB04.size)
  have k15 := (hB5.block _ (Array.getElem?_eq_some_iff.1 k14).1).trans k14
  have hsz5 := Nat.le_trans hsz4 hB5.size
  have hB56 := (Below.refl _ W5).alloc (Nat.le_refl _) (.cells #[.slice y1 m1 y2, .slice y3 m2 y4] 31)
  have hB06 := hB05.alloc hB05.size (.cells #[.slice y1 m1 y2, .slice y3 m2 y4] 31)
  have ky := World.alloc_heap_new W5 (.cells #[.slice y1 m1 y2, .slice y3 m2 y4] 31)
  have k16 := (hB56.block _ (Array.getElem?_eq_some_iff.1 k15).1).trans k15
  have hy6 := (hy.down (base' := w.heap.size + 2) hsz4).below hB56
  obtain ⟨W6, hW6⟩ : ∃ W6, W5.alloc (.cells #[.slice y1 m1 y2, .slice y3 m2 y4] 31) = W6 := ⟨_, rfl⟩
  rw [hW6] at hB06 ky k16 hy6
  obtain ⟨g0, g1, _, _⟩ := row_at ky
  obtain ⟨r0, r1, f0, f1⟩ := row_at k16
  have hrs := hide (desk_set k16 (.slice y1 m1 y2) (.slice y3 m2 y4))
  have hown := hide (hy6.result (b := w.heap.size + 1) (base' := w.heap.size) (by omega) (by omega))
  have hBl := hide ((hB06.setCell (p := ⟨w.heap.size + 1, 0, none⟩) (Nat.le_succ _) (.slice y1 m1 y2)).setCell (p := ⟨w.heap.size + 1, 1, none⟩) (Nat.le_succ _) (.slice y3 m2 y4))
  clear hDo4 hB04 kd hsz4 k04 k14 c0 c1 e0 e1 hy hB5 hB05 k15 hsz5 hB56 hB06 ky k16 hy6 hm1 hm2
  cases bb
  all_goals
    gi_wp2
    (try simp only [Exit.inBlock, Exit.then])
    exact bodyPost_ret (results_desk2 rfl _ _ (w.heap.size + 1) _ _ rfl hrs.out) rfl ⟨_, rfl, hown.out, hBl.out⟩

set_option maxRecDepth 100000 in
set_option maxHeartbeats 4000000 in
theorem implLine_ask (x p : Value) (d : Dk) (l : List Nat) (w : World) (hx : Ints w x d.1) (hp : PastI w p d.2) (hcap : CapP (.agg #[x, p])) (hb : deskB d = true) (hl : ∀ c ∈ l, c < 256) (hn : l.length ≤ 1100000) (hE : Env w) (k n : Int) (hr : rdV l = ((k, n), false)) :
    Calls Tryz.prog 14 #[.agg #[x, p], .string (str l)] w fun e w' => ∃ y, e = .returned (.tuple #[y, .string (str (lineV d l).2)]) ∧ OwnDk w' w.heap.size y (lineV d l).1 ∧ Below w.heap.size w w' := by
  have hrd := rdV_none' hr
  rw [lineV_ask hb hrd]
  simp only
  obtain ⟨hd1, hd2, hd3⟩ := deskB_is.1 hb
  have hl1 := sideB_len hd2
  have hB : Below w.heap.size w ((w.alloc (.cells #[x, p] 31)).alloc (.cells #[.slice none 0 0, .slice none 0 0] 31)) := ((Below.refl _ w).alloc (Nat.le_refl _) _).alloc (by rw [World.size_alloc]; omega) _
  have k0 : ((w.alloc (.cells #[x, p] 31)).alloc (.cells #[.slice none 0 0, .slice none 0 0] 31)).heap[w.heap.size]? = some (.cells #[x, p] 31 (0, 0)) := (Below.heap_alloc _ _ _ (by rw [World.size_alloc]; omega)).trans (World.alloc_heap_new w _)
  have k1 := World.alloc_heap_new (w.alloc (.cells #[x, p] 31)) (.cells #[.slice none 0 0, .slice none 0 0] 31)
  rw [World.size_alloc] at k1
  have hsz : w.heap.size + 2 ≤ ((w.alloc (.cells #[x, p] 31)).alloc (.cells #[.slice none 0 0, .slice none 0 0] 31)).heap.size := by simp
  obtain ⟨W1, hW1⟩ : ∃ W1, (w.alloc (.cells #[x, p] 31)).alloc (.cells #[.slice none 0 0, .slice none 0 0] 31) = W1 := ⟨_, rfl⟩
  rw [hW1] at hB k0 k1 hsz
  have hOK := implDeskOk (.agg #[x, p]) d W1 ⟨x, p, rfl, hx.below hB, hp.below hB⟩ (deskB_size hb)
  rw [hb] at hOK
  have hKp := fun V (hV : Below w.heap.size w V) => deskOf_in x p d.1 d.2 V (hx.below hV) hl1.1 hl1.2 (hp.below hV) hd3 (fun j hj => sideB_len (hd1 _ (by rw [List.getD, List.getElem?_eq_getElem hj]; exact List.getElem_mem hj)))
  have hRd := fun V hV => implReadDeed l hl hn V hV
  have hAn := fun V (hV : Below w.heap.size w V) => answered_in x p d.1 l V (hx.below hV) hd2 hl hn (hE.below hV)
  rw [ans_qa hd2] at hAn
  have hDo := fun k n (hk : Fits k) (hn : Fits n) V (hV : Below w.heap.size w V) => implDo (.agg #[x, p]) d k n V ⟨x, p, rfl, hx.below hV, hp.below hV⟩ hcap (deskB_size hb) hk hn
  obtain ⟨RS, hRS⟩ : ∃ RS, str (qaV d.1 l) = RS := ⟨_, rfl⟩
  rw [hRS] at hAn ⊢
  have hEw := fun V (hV : Below w.heap.size w V) => hE.below hV
  rw [hr] at hRd
  simp only at hRd
  unfold dV at hRd
  obtain ⟨xa, xc, rfl⟩ := hx.shape
  obtain ⟨pa, pc, rfl, _⟩ := id hp
  obtain ⟨LS, hLS⟩ : ∃ LS, str l = LS := ⟨_, rfl⟩
  rw [hLS] at hRd hAn ⊢
  obtain ⟨c0, c1, _, _⟩ := row_at k0
  have l0 := (Array.getElem?_eq_some_iff.1 k0).1
  have l1 := (Array.getElem?_eq_some_iff.1 k1).1
  clear hx hp hd1 hcap hE hLS hRS
  refine (callsIn_wide (n := 9)).1 ?_
  refine callsIn_of_wp Tryz.func14 rfl trivial ?_ rfl
  simp only [Tryz.ntmps14, List.size_toArray, List.length_cons, List.length_nil, Nat.reduceAdd, Nat.reduceSub, Array.replicate_succ, Array.replicate_zero, List.push_toArray, List.append_toArray, List.nil_append, List.cons_append]
  gi_wp2_with fail
  refine ⟨trivial, ?_⟩
  gi_at_call 23
  refine (callsIn_wide.2 hOK).mono ?_
  rintro e W2 ⟨rfl, hB2⟩
  have hB02 := hB.trans (hB2.mono hB.size)
  have k02 := (hB2.block _ l0).trans k0
  have k12 := (hB2.block _ l1).trans k1
  have hsz2 := Nat.le_trans hsz hB2.size
  clear hOK hB2 k0 k1 l0 l1 hB hsz c0 c1
  gi_wp2_with fail
  refine ⟨trivial, ?_⟩
  gi_at_call 46
  refine (callsIn_wide.2 (hRd _ (hEw _ hB02))).mono ?_
  rintro e W3 ⟨rfl, hB3⟩
  have hB03 := hB02.trans (hB3.mono hB02.size)
  have k03 := (hB3.block _ (Array.getElem?_eq_some_iff.1 k02).1).trans k02
  have k13 := (hB3.block _ (Array.getElem?_eq_some_iff.1 k12).1).trans k12
  have hsz3 := Nat.le_trans hsz2 hB3.size
  clear hRd hEw hB3 hB02 k02 k12 hsz2
  have hB04 := hB03.alloc hB03.size (.cells #[.int .i64 k, .int .i64 n] 39)
  have hB34 := (Below.refl _ W3).alloc (Nat.le_refl _) (.cells #[.int .i64 k, .int .i64 n] 39)
  have kd := World.alloc_heap_new W3 (.cells #[.int .i64 k, .int .i64 n] 39)
  have hsz4 := Nat.le_trans hsz3 hB34.size
  have k04 := (hB34.block _ (Array.getElem?_eq_some_iff.1 k03).1).trans k03
  have k14 := (hB34.block _ (Array.getElem?_eq_some_iff.1 k13).1).trans k13
  obtain ⟨c0, c1, _, _⟩ := row_at k04
  obtain ⟨r0, r1, f0, f1⟩ := row_at k14
  obtain ⟨e0, e1, _, _⟩ := row_at kd
  obtain ⟨W4, hW4⟩ : ∃ W4, W3.alloc (.cells #[.int .i64 k, .int .i64 n] 39) = W4 := ⟨_, rfl⟩
  rw [hW4] at hB04 hB34 kd hsz4 k04 k14 c0 c1 r0 r1 f0 f1 e0 e1
  clear hDo hrd hr hB03 k03 k13 hsz3 hB34
  gi_wp2
  refine wpIn_region_put 8 [(some 21, 0), (some 22, 1), (some 23, 2), (some 24, 3), (some 25, 4), (some 26, 5), (some 27, 6), (some 28, 7)] (by kernel_rfl) (by kernel_rfl) (by kernel_rfl) (by decide) (by rfl) (by decide)
    (fun j v V => match j with | 0 => v = .pointer (some ⟨w.heap.size, 0, none⟩) | 1 => v = .slice xa d.1.length xc | 2 => v = .pointer (some ⟨w.heap.size, 1, none⟩) | 3 => v = .slice pa d.2.length pc | 4 => OwnDk V (w.heap.size + 2) v d | 5 => v = .agg #[.slice xa d.1.length xc, .slice pa d.2.length pc] | 6 => v = .string LS | 7 => v = .string RS | _ => True)
    (fun j v V V' h hB => match j, h with | 0, h => h | 1, h => h | 2, h => h | 3, h => h | 4, h => OwnDk.below h hB | 5, h => h | 6, h => h | 7, h => h | (_ + 8), _ => trivial)
    ?_ ?_
  · rintro j oo s V hj ho hBV hd Q' hQ
    have hB0V := hB04.trans (hBV.mono hB04.size)
    obtain ⟨c0, c1, _, _⟩ := row_at ((hBV.block _ (Array.getElem?_eq_some_iff.1 k04).1).trans k04)
    have zV := hBV.size
    rcases (show j = 0 ∨ j = 1 ∨ j = 2 ∨ j = 3 ∨ j = 4 ∨ j = 5 ∨ j = 6 ∨ j = 7 by omega) with rfl | rfl | rfl | rfl | rfl | rfl | rfl | rfl
    all_goals
      simp at ho
      subst ho
      simp only [putsOf, Act.put, List.setIfInBounds_toArray, List.set_cons_succ, List.set_cons_zero] at hQ ⊢
      have hQ' := hide hQ
      clear hQ
    · clear hd
      gi_wp2
      exact hQ'.out _ _ (Below.refl _ _) rfl
    · have q1 : s 0 = .pointer (some ⟨w.heap.size, 0, none⟩) := hd 0 (by kernel_rfl)
      clear hd
      gi_wp2
      have hr := hQ'.out
      simp only [q1] at hr ⊢
      exact hr _ _ (Below.refl _ _) rfl
    · clear hd
      gi_wp2
      exact hQ'.out _ _ (Below.refl _ _) rfl
    · have q1 : s 2 = .pointer (some ⟨w.heap.size, 1, none⟩) := hd 2 (by kernel_rfl)
      clear hd
      gi_wp2
      have hr := hQ'.out
      simp only [q1] at hr ⊢
      exact hr _ _ (Below.refl _ _) rfl
    · have q1 : s 1 = .slice xa d.1.length xc := hd 1 (by kernel_rfl)
      have q2 : s 3 = .slice pa d.2.length pc := hd 3 (by kernel_rfl)
      have hK := hKp V hB0V
      clear hd
      gi_wp2_with (refine ⟨trivial, ?_⟩; gi_at_call 52; go_loud (refine (callsIn_wide.2 hK).mono ?_; rintro e W9 ⟨u9, rfl, ho9, hB9⟩))
      have hr := hQ'.out
      simp only [q1, q2] at hr ⊢
      exact hr _ _ hB9 (ho9.down (by omega))
    · clear hd
      gi_wp2
      exact hQ'.out _ _ (Below.refl _ _) rfl
    · clear hd
      gi_wp2
      exact hQ'.out _ _ (Below.refl _ _) rfl
    · have q1 : s 5 = .agg #[.slice xa d.1.length xc, .slice pa d.2.length pc] := hd 5 (by kernel_rfl)
      have q2 : s 6 = .string LS := hd 6 (by kernel_rfl)
      have hA := hAn V hB0V
      clear hd
      gi_wp2_with (refine ⟨trivial, ?_⟩; gi_at_call 53; go_loud (refine (callsIn_wide.2 hA).mono ?_; rintro e W9 ⟨rfl, hB9⟩))
      have hr := hQ'.out
      simp only [q1, q2] at hr ⊢
      exact hr _ _ hB9 rfl
  · rintro s V hBV hd
    have q4 : OwnDk V (w.heap.size + 2) (s 4) d := hd 4 (by omega)
    have q7 : s 7 = .string RS := hd 7 (by omega)
    clear hd
    obtain ⟨y1, y2, y3, y4, hy4⟩ := q4.form
    rw [hy4] at q4
    have k1V := (hBV.block _ (Array.getElem?_eq_some_iff.1 k14).1).trans k14
    obtain ⟨r0, r1, f0, f1⟩ := row_at k1V
    have hB0V := hB04.trans (hBV.mono hB04.size)
    have hrs := hide (desk_set k1V (.slice y1 d.1.length y2) (.slice y3 d.2.length y4))
    have hown := hide (q4.result (b := w.heap.size + 1) (base' := w.heap.size) (by omega) (by omega))
    have hBl := hide ((hB0V.setCell (p := ⟨w.heap.size + 1, 0, none⟩) (Nat.le_succ _) (.slice y1 d.1.length y2)).setCell (p := ⟨w.heap.size + 1, 1, none⟩) (Nat.le_succ _) (.slice y3 d.2.length y4))
    clear q4 k1V hB0V hKp hAn
    simp only [putsOf, Act.put, List.setIfInBounds_toArray, List.set_cons_succ, List.set_cons_zero]
    simp only [List.drop_succ_cons, List.drop_zero]
    simp only [hy4, q7]
    gi_wp2
    (try simp only [Exit.inBlock, Exit.then])
    exact bodyPost_ret (results_desk2 rfl _ _ (w.heap.size + 1) _ _ rfl hrs.out) rfl ⟨_, rfl, hown.out, hBl.out⟩

theorem implLine_in (x p : Value) (d : Dk) (l : List Nat) (w : World) (hx : Ints w x d.1) (hp : PastI w p d.2) (hcap : CapP (.agg #[x, p])) (hb : deskB d = true) (hl : ∀ c ∈ l, c < 256) (hn : l.length ≤ 1100000) (hE : Env w) :
    Calls Tryz.prog 14 #[.agg #[x, p], .string (str l)] w fun e w' => ∃ y, e = .returned (.tuple #[y, .string (str (lineV d l).2)]) ∧ OwnDk w' w.heap.size y (lineV d l).1 ∧ Below w.heap.size w w' := by
  obtain ⟨⟨⟨k, n⟩, b⟩, hr⟩ : ∃ r, rdV l = r := ⟨_, rfl⟩
  cases b with
  | true => exact implLine_deed x p d l w hx hp hcap hb hl hn hE k n hr
  | false => exact implLine_ask x p d l w hx hp hcap hb hl hn hE k n hr

set_option maxRecDepth 100000 in
set_option maxHeartbeats 1000000 in
theorem implLine_no (x p : Value) (d : Dk) (l : List Nat) (w : World) (hx : Ints w x d.1) (hp : PastI w p d.2) (hs : DkS d) (hb : deskB d = false) :
    Calls Tryz.prog 14 #[.agg #[x, p], .string (str l)] w fun e w' => ∃ y, e = .returned (.tuple #[y, .string (str (lineV d l).2)]) ∧ OwnDk w' w.heap.size y (lineV d l).1 ∧ Below w.heap.size w w' := by
  rw [lineV_no hb]
  simp only
  rw [str_nil]
  have hB : Below w.heap.size w ((w.alloc (.cells #[x, p] 31)).alloc (.cells #[.slice none 0 0, .slice none 0 0] 31)) := ((Below.refl _ w).alloc (Nat.le_refl _) _).alloc (by rw [World.size_alloc]; omega) _
  have k0 : ((w.alloc (.cells #[x, p] 31)).alloc (.cells #[.slice none 0 0, .slice none 0 0] 31)).heap[w.heap.size]? = some (.cells #[x, p] 31 (0, 0)) := (Below.heap_alloc _ _ _ (by rw [World.size_alloc]; omega)).trans (World.alloc_heap_new w _)
  have k1 := World.alloc_heap_new (w.alloc (.cells #[x, p] 31)) (.cells #[.slice none 0 0, .slice none 0 0] 31)
  rw [World.size_alloc] at k1
  have hsz : w.heap.size + 2 ≤ ((w.alloc (.cells #[x, p] 31)).alloc (.cells #[.slice none 0 0, .slice none 0 0] 31)).heap.size := by simp
  obtain ⟨W1, hW1⟩ : ∃ W1, (w.alloc (.cells #[x, p] 31)).alloc (.cells #[.slice none 0 0, .slice none 0 0] 31) = W1 := ⟨_, rfl⟩
  rw [hW1] at hB k0 k1 hsz
  have hOK := implDeskOk (.agg #[x, p]) d W1 ⟨x, p, rfl, hx.below hB, hp.below hB⟩ hs
  rw [hb] at hOK
  obtain ⟨xa, xc, rfl⟩ := hx.shape
  obtain ⟨pa, pc, rfl, _⟩ := id hp
  obtain ⟨LS, hLS⟩ : ∃ LS, str l = LS := ⟨_, rfl⟩
  rw [hLS]
  obtain ⟨c0, c1, _, _⟩ := row_at k0
  have l0 := (Array.getElem?_eq_some_iff.1 k0).1
  have l1 := (Array.getElem?_eq_some_iff.1 k1).1
  clear hx hp hs hLS
  go_enter Tryz.func14, Tryz.ntmps14
  go_wp2_with (go_at_call 23; go_loud (refine hOK.mono ?_; clear hOK; rintro e W2 ⟨rfl, hB2⟩; have zres := (hB2.block _ l1).trans k1; obtain ⟨c0, c1, _, _⟩ := row_at ((hB2.block _ l0).trans k0); obtain ⟨r0, r1, f0, f1⟩ := row_at zres))
  (try simp only [Exit.inBlock, Exit.then])
  have hB3 := hB.trans (hB2.mono hB.size)
  have hz := hB2.size
  exact bodyPost_ret (results_desk2 rfl _ _ (w.heap.size + 1) _ _ rfl (desk_set zres (.slice none 0 0) (.slice none 0 0))) rfl ⟨_, rfl, (OwnDk.none W2 (w.heap.size + 2) (by omega)).result (b := w.heap.size + 1) (base' := w.heap.size) (by omega) (by omega), (hB3.setCell (p := ⟨w.heap.size + 1, 0, none⟩) (Nat.le_succ _) _).setCell (p := ⟨w.heap.size + 1, 1, none⟩) (Nat.le_succ _) _⟩

theorem implLine (v : Value) (d : Dk) (l : List Nat) (w : World) (hv : DeskI w v d) (hcap : CapP v) (hs : DkS d) (hl : ∀ c ∈ l, c < 256) (hn : l.length ≤ 1100000) (hE : Env w) :
    Calls Tryz.prog 14 #[v, .string (str l)] w fun e w' => ∃ y, e = .returned (.tuple #[y, .string (str (lineV d l).2)]) ∧ OwnDk w' w.heap.size y (lineV d l).1 ∧ Below w.heap.size w w' := by
  obtain ⟨x, p, rfl, hx, hp⟩ := hv
  cases hb : deskB d with
  | true => exact implLine_in x p d l w hx hp hcap hb hl hn hE
  | false => exact implLine_no x p d l w hx hp hs hb
end Go.Proofs.YtiaaefapbcjgmaaGreatDoor
namespace Go.Proofs.YtiaaefapbcjgmaaGreatDoor
open Go.RowKit Go.BigFrame

set_option maxRecDepth 100000 in
set_option maxHeartbeats 1000000 in
theorem sameRowsP_in (v u : Value) (rows : List (List Int)) (w : World) (hn : rows.length ≤ 1000000) (hlen : ∀ j, j < rows.length → (rows.getD j []).length ≤ 1000000) (hv : PastI w v rows) (hu : PastI w u rows) :
    Calls Tryz.prog 62 #[v, u] w fun e w' => e = .returned (.bool true) ∧ Below w.heap.size w w' := by
  obtain ⟨a, c, rfl, hv⟩ := hv
  obtain ⟨a', c', rfl, hu⟩ := hu
  obtain ⟨n, hn'⟩ : ∃ n, rows.length = n := ⟨_, rfl⟩
  rw [hn'] at hn hlen hv hu ⊢
  clear hn'
  go_enter Tryz.func62, Tryz.ntmps62
  go_wp2
  go_loopw [5] (fun i wr => ∃ k : Nat, k ≤ n ∧ i = .int .i64 k ∧ Below w.heap.size w wr) (fun i _ => n - (intOf i).toNat)
  case atStart => exact ⟨0, Nat.zero_le _, rfl, Below.refl _ _⟩
  case round =>
    obtain ⟨k, hk, rfl, hB⟩ := hrel
    by_cases hlt : k < n
    · obtain ⟨G, o, rfl, hG, hr⟩ := hv (by omega)
      obtain ⟨G', o', rfl, hG', hr'⟩ := hu (by omega)
      obtain ⟨x, hx1, hx2⟩ := hr k hlt
      obtain ⟨y, hy1, hy2⟩ := hr' k hlt
      have hlk := hlen k hlt
      have h3 : ∀ m : After w, Calls Tryz.prog 28 #[x, y] m.now fun e w' => e = .returned (.bool true) ∧ Below m.now.heap.size m.now w' := fun m => sameInts_in x y _ m.now (by omega) (hx2.below m.ok) (hy2.below m.ok)
      obtain ⟨ax, cx, rfl⟩ := hx2.shape
      obtain ⟨ay, cy, rfl⟩ := hy2.shape
      have h1 : ∀ m : After w, m.now.cell? ⟨G, o + k, none⟩ = some (.slice ax (rows.getD k []).length cx) := fun m => (m.ok.cell (p := ⟨G, o + k, none⟩) hG).trans hx1
      have h2 : ∀ m : After w, m.now.cell? ⟨G', o' + k, none⟩ = some (.slice ay (rows.getD k []).length cy) := fun m => (m.ok.cell (p := ⟨G', o' + k, none⟩) hG').trans hy1
      have hki : (k : Int) < (n : Int) := by omega
      generalize (rows.getD k []).length = l at *
      clear hr hr' hx1 hx2 hy1 hy2 hlen hv hu
      go_wp2
      refine wp_region_below w (by kernel_rfl) (by kernel_rfl) hB ?_
      repeat (go_big_quiet_step ((go_at_call 28; with_reducible exact after_of (h3 _))))
      refine wpQuiet_nil ?_
      rintro _ ⟨nq, rfl⟩
      clear h1 h2 h3
      go_wp2
      go_roundw
      case rel => exact ⟨k + 1, by omega, by go_num, nq.ok⟩
      case measure => simp [intOf]; omega
    · obtain rfl : k = n := by omega
      clear hv hu hlen
      go_wp2
      go_ret
      exact ⟨rfl, hB⟩

set_option maxRecDepth 100000 in
set_option maxHeartbeats 1000000 in
theorem sameDesk_in (v u : Value) (d : Dk) (w : World) (hs : d.1.length ≤ 1000000 ∧ d.2.length ≤ 1000000 ∧ ∀ j, j < d.2.length → (d.2.getD j []).length ≤ 1000000) (hv : DeskI w v d) (hu : DeskI w u d) : Calls Tryz.prog 18 #[v, u] w fun e w' => e = .returned (.bool true) ∧ Below w.heap.size w w' := by
  obtain ⟨x, p, rfl, hx, hp⟩ := hv
  obtain ⟨y, q, rfl, hy, hq⟩ := hu
  have hB : Below w.heap.size w ((w.alloc (.cells #[x, p] 31)).alloc (.cells #[y, q] 31)) := ((Below.refl _ w).alloc (Nat.le_refl _) _).alloc (by rw [World.size_alloc]; omega) _
  have k1 := World.alloc_heap_new (w.alloc (.cells #[x, p] 31)) (.cells #[y, q] 31)
  rw [World.size_alloc] at k1
  have k0 : ((w.alloc (.cells #[x, p] 31)).alloc (.cells #[y, q] 31)).heap[w.heap.size]? = some (.cells #[x, p] 31 (0, 0)) := (Below.heap_alloc _ _ _ (by rw [World.size_alloc]; omega)).trans (World.alloc_heap_new w _)
  obtain ⟨W0, hW0⟩ : ∃ W0, (w.alloc (.cells #[x, p] 31)).alloc (.cells #[y, q] 31) = W0 := ⟨_, rfl⟩
  rw [hW0] at hB k0 k1
  have l0 := (Array.getElem?_eq_some_iff.1 k0).1
  have l1 := (Array.getElem?_eq_some_iff.1 k1).1
  have hI := sameInts_in x y d.1 W0 (by omega) (hx.below hB) (hy.below hB)
  have hR := fun V (hV : Below W0.heap.size W0 V) => sameRowsP_in p q d.2 V hs.2.1 hs.2.2 ((hp.below hB).below hV) ((hq.below hB).below hV)
  obtain ⟨xa, xc, rfl⟩ := hx.shape
  obtain ⟨ya, yc, rfl⟩ := hy.shape
  obtain ⟨pa, pc, rfl, _⟩ := hp
  obtain ⟨qa, qc, rfl, _⟩ := hq
  obtain ⟨c0, c1, _, _⟩ := row_at k0
  obtain ⟨e0, e1, _, _⟩ := row_at k1
  clear hx hy hs
  go_enter Tryz.func18, Tryz.ntmps18
  go_wp2_with (first
    | (go_at_call 28; go_loud (refine hI.mono ?_; clear hI; rintro e w2 ⟨rfl, hB2⟩; obtain ⟨c0, c1, _, _⟩ := row_at ((hB2.block _ l0).trans k0); obtain ⟨e0, e1, _, _⟩ := row_at ((hB2.block _ l1).trans k1)))
    | (go_at_call 62; go_loud (refine (hR _ hB2).mono ?_; clear hR; rintro e w3 ⟨rfl, hB3⟩)))
  go_ret
  exact ⟨rfl, hB.trans ((hB2.trans (hB3.mono hB2.size)).mono hB.size)⟩
end Go.Proofs.YtiaaefapbcjgmaaGreatDoor
namespace Go.Proofs.YtiaaefapbcjgmaaGreatDoor
open Go.RowKit

theorem OwnG.of_own {W : World} {base : Nat} {v : Value} {rows : List (List Int)} (h : OwnRows W base v rows) (h1 : ∀ j, j < rows.length → 0 < (rows.getD j []).length) :
    OwnG W base W.heap.size v rows.length (fun j => (rows.getD j []).length) (fun j i => (rows.getD j []).getD i 0) := by
  obtain ⟨us, hl, hv, hr, hne⟩ := h
  by_cases h0 : 0 < rows.length
  · right
    rcases hv.2 with ⟨_, hn⟩ | ⟨G, cap, cur, rfl, hb, hg, hrest⟩
    · omega
    · have hex : ∀ j, ∃ b cb, j < rows.length → us.getD j undef = .slice (some ⟨b, 0, .none⟩) (rows.getD j []).length cb ∧ base ≤ b ∧ RowAt W b (rows.getD j []).length (fun i => (rows.getD j []).getD i 0) := fun j => by
        by_cases hj : j < rows.length
        · obtain ⟨b, cb, e1, e2, e3⟩ := RowAt.of_owns (hr j hj) (h1 j hj)
          exact ⟨b, cb, fun _ => ⟨e1, e2, e3⟩⟩
        · exact ⟨0, 0, fun h => absurd h hj⟩
      have hch : ∃ b cb : Nat → Nat, ∀ j, j < rows.length → us.getD j undef = .slice (some ⟨b j, 0, .none⟩) (rows.getD j []).length (cb j) ∧ base ≤ b j ∧ RowAt W (b j) (rows.getD j []).length (fun i => (rows.getD j []).getD i 0) :=
        ⟨fun j => Classical.choose (hex j), fun j => Classical.choose (Classical.choose_spec (hex j)), fun j hj => Classical.choose_spec (Classical.choose_spec (hex j)) hj⟩
      obtain ⟨b, cb, hbc⟩ := hch
      have hGs : G < W.heap.size := (Array.getElem?_eq_some_iff.1 hg).1
      refine ⟨G, cap, b, cb, by rw [hl], ⟨⟨hb, hGs, hGs⟩, fun j hj => ?_, fun j hj => ⟨(hbc j hj).2.1, (hbc j hj).2.2.lt, fun e => ?_⟩, fun j hj => (hbc j hj).2.2, fun i j hij hj e => ?_⟩⟩
      · rw [hv.cellAt j (by omega), ← (hbc j hj).1, List.getD, List.getElem?_eq_getElem (by omega)]; rfl
      · rcases own_apart (hr j hj) hv with h3 | h3
        · rw [(hbc j hj).1] at h3; simp [Value.ownBlock] at h3
        · rw [(hbc j hj).1] at h3; simp [Value.ownBlock, e] at h3
      · have h3 := hne i j hij hj
        rw [(hbc i (by omega)).1, (hbc j hj).1] at h3
        simp [Value.ownBlock, e] at h3
  · left
    refine ⟨by omega, ?_⟩
    rcases hv.2 with ⟨rfl, hn⟩ | ⟨g, cap, cur, rfl, _⟩
    · exact ⟨_, _, rfl⟩
    · exact ⟨_, _, by rw [show us.length = 0 by omega]⟩

/-- A desk of one's own between two marks, with a mark between its row and those of before. -/
def OwnD (W : World) (base mid lim : Nat) (v : Value) (n : Nat) (f : Nat → Int) (m : Nat) (L : Nat → Nat) (F : Nat → Nat → Int) : Prop :=
  ∃ x p, v = .agg #[x, p] ∧ base ≤ mid ∧ mid ≤ lim ∧ lim ≤ W.heap.size ∧ OwnI W base mid x n f ∧ OwnG W mid lim p m L F

theorem OwnD.of {W : World} {base : Nat} {v : Value} {d : Dk} (h : OwnDk W base v d) (h1 : ∀ j, j < d.2.length → 0 < (d.2.getD j []).length) :
    ∃ mid, OwnD W base mid W.heap.size v d.1.length (fun i => d.1.getD i 0) d.2.length (fun j => (d.2.getD j []).length) (fun j i => (d.2.getD j []).getD i 0) := by
  obtain ⟨mid, x, p, rfl, h2, h3, h4, h5⟩ := h
  exact ⟨mid, x, p, rfl, h2, h3, Nat.le_refl _, h4, OwnG.of_own h5 h1⟩

theorem OwnD.below {W W' : World} {base mid lim n m : Nat} {v : Value} {f : Nat → Int} {L : Nat → Nat} {F : Nat → Nat → Int} (h : OwnD W base mid lim v n f m L F) (hB : Below W.heap.size W W') : OwnD W' base mid lim v n f m L F := by
  obtain ⟨x, p, rfl, h2, h3, h4, h5, h6⟩ := h
  exact ⟨x, p, rfl, h2, h3, Nat.le_trans h4 hB.size, h5.below hB, h6.below hB⟩

theorem OwnD.between {W W' : World} {base mid lim n m base' lim' : Nat} {v : Value} {f : Nat → Int} {L : Nat → Nat} {F : Nat → Nat → Int} (h : OwnD W base mid lim v n f m L F) (hB : Between base' lim' W W') (hr : lim ≤ base' ∨ lim' ≤ base) : OwnD W' base mid lim v n f m L F := by
  obtain ⟨x, p, rfl, h2, h3, h4, h5, h6⟩ := h
  exact ⟨x, p, rfl, h2, h3, Nat.le_trans h4 hB.size, h5.between hB (by omega), h6.between hB (by omega)⟩

theorem OwnD.deskI {W : World} {base mid lim : Nat} {v : Value} {d : Dk} (h : OwnD W base mid lim v d.1.length (fun i => d.1.getD i 0) d.2.length (fun j => (d.2.getD j []).length) (fun j i => (d.2.getD j []).getD i 0)) : DeskI W v d := by
  obtain ⟨x, p, rfl, _, _, _, h5, h6⟩ := h
  exact ⟨x, p, rfl, h5.ints, (OwnG.rowsI h6).past⟩

theorem OwnD.form {W : World} {base mid lim n m : Nat} {v : Value} {f : Nat → Int} {L : Nat → Nat} {F : Nat → Nat → Int} (h : OwnD W base mid lim v n f m L F) : ∃ a b c e, v = .agg #[.slice a n b, .slice c m e] := by
  obtain ⟨x, p, rfl, _, _, _, h5, h6⟩ := h
  rcases h5 with ⟨rfl, a, b, rfl⟩ | ⟨g, cap, rfl, _⟩
  · rcases h6 with ⟨rfl, c, e, rfl⟩ | ⟨G, cap, b', cb, rfl, _⟩
    · exact ⟨a, b, c, e, rfl⟩
    · exact ⟨a, b, _, _, rfl⟩
  · rcases h6 with ⟨rfl, c, e, rfl⟩ | ⟨G, cap', b', cb, rfl, _⟩
    · exact ⟨_, _, c, e, rfl⟩
    · exact ⟨_, _, _, _, rfl⟩

/-- Rows of one's own between two marks. -/
def OwnQL (W : World) (base lim : Nat) (v : Value) (rows : List (List Int)) : Prop :=
  ∃ us : List Value, us.length = rows.length ∧ W.ownsRow base 28 1 v us.length us ∧ (∀ j, j < rows.length → W.ownsRow base 3 1 (us.getD j undef) (rows.getD j []).length ((rows.getD j []).map (Value.int .i64))) ∧
    (∀ i j, i < j → j < rows.length → (us.getD i undef).ownBlock = .none ∨ (us.getD i undef).ownBlock ≠ (us.getD j undef).ownBlock) ∧ ∀ j, j < rows.length → ∀ g, (us.getD j undef).ownBlock = some g → g < lim

theorem OwnQL.of {W : World} {base : Nat} {v : Value} {rows : List (List Int)} (h : OwnQ W base v rows) : OwnQL W base W.heap.size v rows := by
  obtain ⟨us, l, o, r, ne⟩ := h
  exact ⟨us, l, o, r, ne, fun j hj g e => ((r j hj).lt g e).2⟩

theorem OwnQL.ownQ {W : World} {base lim : Nat} {v : Value} {rows : List (List Int)} (h : OwnQL W base lim v rows) : OwnQ W base v rows := by
  obtain ⟨us, l, o, r, ne, _⟩ := h
  exact ⟨us, l, o, r, ne⟩

theorem OwnQL.old {W W' : World} {base lim b : Nat} {v : Value} {rows : List (List Int)} (h : OwnQL W base lim v rows) (hb : b < base) (hg : W.grownBy W' (some b)) : OwnQL W' base lim v rows := by
  obtain ⟨us, l, o, r, ne, hl⟩ := h
  exact ⟨us, l, own_kept o hg (own_old o hb), fun j hj => own_kept (r j hj) hg (own_old (r j hj) hb), ne, hl⟩

theorem OwnQL.below {W W' : World} {base lim : Nat} {v : Value} {rows : List (List Int)} (h : OwnQL W base lim v rows) (hB : Below W.heap.size W W') : OwnQL W' base lim v rows := by
  obtain ⟨us, l, o, r, ne, hl⟩ := h
  exact ⟨us, l, own_below o hB, fun j hj => own_below (r j hj) hB, ne, hl⟩

/-- A copy of a desk that came in: its row below the rows of before, all between two marks. -/
def OwnA (W : World) (base lim : Nat) (v : Value) (d : Dk) : Prop :=
  ∃ mid x p, v = .agg #[x, p] ∧ base ≤ mid ∧ mid ≤ lim ∧ lim ≤ W.heap.size ∧ W.ownsRow base 3 1 x d.1.length (d.1.map (Value.int .i64)) ∧ (∀ g, x.ownBlock = some g → g < mid) ∧ OwnQL W mid lim p d.2

theorem OwnA.deskI {W : World} {base lim : Nat} {v : Value} {d : Dk} (h : OwnA W base lim v d) : DeskI W v d := by
  obtain ⟨mid, x, p, rfl, hm, _, _, h1, _, h2⟩ := h
  exact desk_agg h1 (h2.ownQ.down hm)

theorem OwnA.below {W W' : World} {base lim : Nat} {v : Value} {d : Dk} (h : OwnA W base lim v d) (hB : Below W.heap.size W W') : OwnA W' base lim v d := by
  obtain ⟨mid, x, p, rfl, h0, h1, h2, h3, h4, h5⟩ := h
  exact ⟨mid, x, p, rfl, h0, h1, Nat.le_trans h2 hB.size, own_below h3 hB, h4, h5.below hB⟩

theorem OwnA.cap {W : World} {base lim : Nat} {v : Value} {d : Dk} (h : OwnA W base lim v d) : CapP v := by
  obtain ⟨mid, x, p, rfl, _, _, _, _, _, us, _, ho, _⟩ := h
  obtain ⟨a, c, rfl⟩ := own_form ho
  refine CapP.of ?_
  rcases ho.2 with ⟨e, h0⟩ | ⟨b, cap, cur, e, _, _, hc, _⟩
  · injection e with _ e2 e3; omega
  · injection e with _ e2 e3; omega

theorem OwnA.form {W : World} {base lim : Nat} {v : Value} {d : Dk} (h : OwnA W base lim v d) : ∃ a b c e, v = .agg #[.slice a d.1.length b, .slice c d.2.length e] := by
  obtain ⟨mid, x, p, rfl, _, _, _, h1, _, h2⟩ := h
  obtain ⟨a, b, rfl⟩ := own_form h1
  obtain ⟨c, e, rfl⟩ := h2.ownQ.ownSS.form
  exact ⟨_, _, _, _, rfl⟩

/-- A block of ints. -/
def IntB (W : World) (k : Nat) : Prop := ∃ cur, W.heap[k]? = some (.cells cur 3 (0, 0))

/-- What changes between two marks alone, and only blocks of ints. -/
structure BetI (base lim : Nat) (W W' : World) : Prop where
  os : W'.os = W.os
  tape : W'.tape = W.tape
  output : W'.output = W.output
  size : W.heap.size ≤ W'.heap.size
  block : ∀ k, k < W.heap.size → (k < base ∨ lim ≤ k ∨ ¬ IntB W k) → W'.heap[k]? = W.heap[k]?

theorem BetI.refl (base lim : Nat) (W : World) : BetI base lim W W := ⟨rfl, rfl, rfl, Nat.le_refl _, fun _ _ _ => rfl⟩

theorem BetI.row {base lim : Nat} {W W' W2 : World} {g : Nat} (h : BetI base lim W W') (hg : W'.grownBy W2 (some g)) (hb : base ≤ g ∧ g < lim) (hi : IntB W g) : BetI base lim W W2 :=
  ⟨hg.os.trans h.os, hg.tape.trans h.tape, hg.output.trans h.output, Nat.le_trans h.size hg.size, fun k hk ho => (hg.block k (Nat.lt_of_lt_of_le hk h.size) (fun e => by
    injection e with e
    subst e
    rcases ho with ho | ho | ho
    · omega
    · omega
    · exact ho hi)).trans (h.block k hk ho)⟩
end Go.Proofs.YtiaaefapbcjgmaaGreatDoor
namespace Go.Proofs.YtiaaefapbcjgmaaGreatDoor
open Go.RowKit
attribute [local go_sem] Oper.semAt_some

theorem ownDk_stored {V : World} {base b n1 c1 n2 c2 : Nat} {a1 a2 : Option Addr} {D : Dk} (h : OwnDk V base (.agg #[.slice a1 n1 c1, .slice a2 n2 c2]) D) (kb : V.heap[b]? = some (.cells #[.slice none 0 0, .slice none 0 0] 31 (0, 0))) :
    OwnDk ((V.setCell ⟨b, 0, none⟩ (.slice a1 n1 c1)).setCell ⟨b, 1, none⟩ (.slice a2 n2 c2)) base (.agg #[.slice a1 n1 c1, .slice a2 n2 c2]) D := by
  have g0 := grownBy_setAt V b 0 (.slice a1 n1 c1)
  have k1 := set_cells kb 0 (.slice a1 n1 c1)
  have g1 := grownBy_setAt (V.setCell ⟨b, 0, none⟩ (.slice a1 n1 c1)) b 1 (.slice a2 n2 c2)
  exact (h.keep kb (by decide) (by decide) g0).keep k1 (by decide) (by decide) g1

/-- What is known of the rows of a desk. -/
def RowsOk (D : Dk) : Prop := (∀ j, j < D.2.length → 1 ≤ (D.2.getD j []).length) ∧ (∀ j, j < D.2.length → (D.2.getD j []).length ≤ 12) ∧ D.1.length ≤ 12 ∧ D.2.length ≤ 8

theorem RowsOk.of {D : Dk} (h : deskB D = true) : RowsOk D := by
  obtain ⟨h1, h2, h3⟩ := deskB_is.1 h
  have hr := fun j (hj : j < D.2.length) => sideB_len (h1 (D.2.getD j []) (by rw [List.getD, List.getElem?_eq_getElem hj]; exact List.getElem_mem hj))
  exact ⟨fun j hj => (hr j hj).1, fun j hj => (hr j hj).2, (sideB_len h2).2, h3⟩

theorem rowsOk_none : RowsOk ([], []) := ⟨fun j hj => by simp at hj, fun j hj => by simp at hj, by simp, by simp⟩

theorem doV_rows (d : Dk) (k n : Int) : RowsOk (doV d k n).1 := by
  cases hb : deskB d with
  | false => rw [doV_no hb]; exact rowsOk_none
  | true => exact RowsOk.of (do_desk hb k n)

theorem runV_rows (d : Dk) (L : List (Int × Int)) : RowsOk (runV d L).1 := by
  unfold runV
  split
  · rename_i h
    exact RowsOk.of (runL_desk L d 0 h.1)
  · exact rowsOk_none
end Go.Proofs.YtiaaefapbcjgmaaGreatDoor
namespace Go.Proofs.YtiaaefapbcjgmaaGreatDoor
open Go Go.RowKit

theorem wpIn_region_madeP {F : Fence} {n : Nat} {id : Nat} {ops : Array Oper} {Q : Exit → Act → World → Prop} {a : Act} {W : World} (c n1 n2 : Nat) (L : List (Option Tmp × Nat)) (Z : Value) (R : World → Value → Prop)
    (hm : Tryz.prog.follows .mixedOrders = true) (hb : backB ops = true) (ht : tailB ops (c + 6) = true) (hsz : c + 6 < ops.size)
    (hdep : (depB ops (c + 1) c && depB ops (c + 2) (c + 1) && depB ops (c + 3) (c + 1) && depB ops (c + 5) (c + 2) && depB ops (c + 5) (c + 4)) = true)
    (hnd : ((List.range (c + 5)).all fun i => (i == c + 3) || needs ops (c + 5) ops.size i) = true)
    (hL : dstsOf ops (c + 6) = L) (hok : okPuts L = true) (pre : Nat → Value → World → Prop) (hpre : ∀ k v V V', pre k v V → Below V.heap.size V V' → pre k v V')
    (hRb : ∀ V V' y, R V y → Below V.heap.size V V' → R V' y)
    (hRs : ∀ V b a1 c1 a2 c2, R V (.agg #[.slice a1 n1 c1, .slice a2 n2 c2]) → W.heap.size ≤ b → V.heap[b]? = some (.cells #[.slice none 0 0, .slice none 0 0] 31 (0, 0)) → R ((V.setCell ⟨b, 0, none⟩ (.slice a1 n1 c1)).setCell ⟨b, 1, none⟩ (.slice a2 n2 c2)) (.agg #[.slice a1 n1 c1, .slice a2 n2 c2]))
    (hstep : ∀ i o s V, i < c → ops[i]? = some o → Below W.heap.size W V → (∀ k, k < c → depB ops i k = true → pre k (s k) V) → ∀ Q' : Exit → Act → World → Prop,
      (∀ v V', Below V.heap.size V V' → pre i v V' → Q' .normal ((putsOf L a s).put o.dst v) V') → wpListIn F n Tryz.prog ops Q' [o] (putsOf L a s) V)
    (hcall : ∀ o s V, ops[c]? = some o → Below W.heap.size W V → (∀ k, k < c → depB ops c k = true → pre k (s k) V) → ∀ Q' : Exit → Act → World → Prop,
      (∀ a1 c1 a2 c2 V', Below V.heap.size V V' → R V' (.agg #[.slice a1 n1 c1, .slice a2 n2 c2]) → Q' .normal ((putsOf L a s).put o.dst (.tuple #[.agg #[.slice a1 n1 c1, .slice a2 n2 c2], Z])) V') → wpListIn F n Tryz.prog ops Q' [o] (putsOf L a s) V)
    (hmove : ∀ o s V y (Q' : Exit → Act → World → Prop), ops[c + 1]? = some o → s c = y → Q' .normal ((putsOf L a s).put o.dst y) V → wpListIn F n Tryz.prog ops Q' [o] (putsOf L a s) V)
    (hext0 : ∀ o s V x z (Q' : Exit → Act → World → Prop), ops[c + 2]? = some o → s (c + 1) = .tuple #[x, z] → Q' .normal ((putsOf L a s).put o.dst x) V → wpListIn F n Tryz.prog ops Q' [o] (putsOf L a s) V)
    (hext1 : ∀ o s V x z (Q' : Exit → Act → World → Prop), ops[c + 3]? = some o → s (c + 1) = .tuple #[x, z] → Q' .normal ((putsOf L a s).put o.dst z) V → wpListIn F n Tryz.prog ops Q' [o] (putsOf L a s) V)
    (halloc : ∀ o s V (Q' : Exit → Act → World → Prop), ops[c + 4]? = some o → Q' .normal ((putsOf L a s).put o.dst (.pointer (some ⟨V.heap.size, 0, none⟩))) (V.alloc (.cells #[.slice none 0 0, .slice none 0 0] 31)) → wpListIn F n Tryz.prog ops Q' [o] (putsOf L a s) V)
    (hstore : ∀ o s V b a1 c1 a2 c2 (Q' : Exit → Act → World → Prop), ops[c + 5]? = some o → s (c + 4) = .pointer (some ⟨b, 0, none⟩) → s (c + 2) = .agg #[.slice a1 n1 c1, .slice a2 n2 c2] → V.heap[b]? = some (.cells #[.slice none 0 0, .slice none 0 0] 31 (0, 0)) →
      Q' .normal ((putsOf L a s).put o.dst undef) ((V.setCell ⟨b, 0, none⟩ (.slice a1 n1 c1)).setCell ⟨b, 1, none⟩ (.slice a2 n2 c2)) → wpListIn F n Tryz.prog ops Q' [o] (putsOf L a s) V)
    (htail : ∀ s V b a1 c1 a2 c2, Below W.heap.size W V → s (c + 4) = .pointer (some ⟨b, 0, none⟩) → W.heap.size ≤ b → V.heap[b]? = some (.cells #[.slice a1 n1 c1, .slice a2 n2 c2] 31 (0, 0)) → R V (.agg #[.slice a1 n1 c1, .slice a2 n2 c2]) → s (c + 3) = Z → wpListIn F n Tryz.prog ops Q (ops.toList.drop (c + 6)) (putsOf L a s) V) : (Code.region id ops true).wpIn F n Tryz.prog Q a W := by
  refine wpIn_region_made c n1 n2 Z R hm hb ht hsz hdep hnd (putsOf L a) pre hpre hRb hRs (puts_self a L hok) ?_ hstep hcall hmove hext0 hext1 halloc hstore htail
  intro i o s v hi ho
  refine puts_put s o.dst i v L a hok ?_
  rw [← hL]
  unfold dstsOf
  refine List.mem_map.2 ⟨i, List.mem_range.2 hi, ?_⟩
  rw [ho]
  rfl
end Go.Proofs.YtiaaefapbcjgmaaGreatDoor
namespace Go.Proofs.YtiaaefapbcjgmaaGreatDoor
open Go Go.RowKit

theorem below_grownAt {W W' : World} (h : Below W.heap.size W W') (row : Option Nat) : W.grownBy W' row := ⟨h.os, h.tape, h.output, h.size, fun k hk _ => h.block k hk⟩

/-- What is known of the operations' values: from the c-th on, ahead of the store and behind it. -/
def MadeR0 (c b0 : Nat) (Zp : Value → Prop) (R : World → Value → Prop) (pre : Nat → Value → World → Prop) (i : Nat) (v : Value) (V : World) : Prop :=
  (i < c → pre i v V) ∧ (i = c ∨ i = c + 1 → ∃ a1 n1 c1 a2 n2 c2 z, v = .tuple #[.agg #[.slice a1 n1 c1, .slice a2 n2 c2], z] ∧ Zp z ∧ R V (.agg #[.slice a1 n1 c1, .slice a2 n2 c2])) ∧
  (i = c + 2 → ∃ a1 n1 c1 a2 n2 c2, v = .agg #[.slice a1 n1 c1, .slice a2 n2 c2] ∧ R V (.agg #[.slice a1 n1 c1, .slice a2 n2 c2])) ∧ (i = c + 3 → Zp v) ∧
  (i = c + 4 → ∃ b, v = .pointer (some ⟨b, 0, none⟩) ∧ b0 ≤ b ∧ V.heap[b]? = some (.cells #[.slice none 0 0, .slice none 0 0] 31 (0, 0)))

def MadeR1 (c b0 : Nat) (Zp : Value → Prop) (R : World → Value → Prop) (i : Nat) (v : Value) (V : World) : Prop :=
  (i = c + 1 → ∃ x z, v = .tuple #[x, z] ∧ Zp z) ∧ (i = c + 3 → Zp v) ∧
  (i = c + 4 → ∃ b, v = .pointer (some ⟨b, 0, none⟩) ∧ b0 ≤ b ∧ ∃ a1 n1 c1 a2 n2 c2, V.heap[b]? = some (.cells #[.slice a1 n1 c1, .slice a2 n2 c2] 31 (0, 0)) ∧ R V (.agg #[.slice a1 n1 c1, .slice a2 n2 c2]))

theorem wpIn_region_madeR {F : Fence} {n : Nat} {id : Nat} {ops : Array Oper} {Q : Exit → Act → World → Prop} {a : Act} {W : World} (W0 : World) (Rr len cap p : Nat) (ad : Option Addr) (K jc : Nat) (c : Nat) (L : List (Option Tmp × Nat)) (Zp : Value → Prop) (R : World → Value → Prop)
    (hm : Tryz.prog.follows .mixedOrders = true) (hb : backB ops = true) (ht : tailB ops (c + 6) = true) (hsz : c + 6 < ops.size)
    (hdep : (depB ops (c + 1) c && depB ops (c + 2) (c + 1) && depB ops (c + 3) (c + 1) && depB ops (c + 5) (c + 2) && depB ops (c + 5) (c + 4)) = true)
    (hnd : ((List.range (c + 5)).all fun i => (i == c + 3) || needs ops (c + 5) ops.size i) = true)
    (hL : dstsOf ops (c + 6) = L) (hok : okPuts L = true) (hjc : jc < c) (hRd : Rd W0 Rr ad len cap W p) (pre : Nat → Value → World → Prop) (hpre : ∀ k v V V', pre k v V → V.grownBy V' (some Rr) → pre k v V')
    (hRb : ∀ V V' q y, R V y → Rd W0 Rr ad len cap V q → V.grownBy V' (some Rr) → R V' y)
    (hRs : ∀ V b a1 n1 c1 a2 n2 c2, R V (.agg #[.slice a1 n1 c1, .slice a2 n2 c2]) → W.heap.size ≤ b → V.heap[b]? = some (.cells #[.slice none 0 0, .slice none 0 0] 31 (0, 0)) → R ((V.setCell ⟨b, 0, none⟩ (.slice a1 n1 c1)).setCell ⟨b, 1, none⟩ (.slice a2 n2 c2)) (.agg #[.slice a1 n1 c1, .slice a2 n2 c2]))
    (hstep : ∀ i o s V q, i < c → ops[i]? = some o → Rd W0 Rr ad len cap V q → (i = jc → q = p) → W.grownBy V (some Rr) → (∀ k, k < c → depB ops i k = true → pre k (s k) V) → ∀ Q' : Exit → Act → World → Prop,
      (∀ v V' q', Rd W0 Rr ad len cap V' q' → (i ≠ jc → q' = q) → q' ≤ q + K → V.grownBy V' (some Rr) → pre i v V' → Q' .normal ((putsOf L a s).put o.dst v) V') → wpListIn F n Tryz.prog ops Q' [o] (putsOf L a s) V)
    (hcall : ∀ o s V q, ops[c]? = some o → Rd W0 Rr ad len cap V q → W.grownBy V (some Rr) → (∀ k, k < c → depB ops c k = true → pre k (s k) V) → ∀ Q' : Exit → Act → World → Prop,
      (∀ a1 n1 c1 a2 n2 c2 z V', Below V.heap.size V V' → Zp z → R V' (.agg #[.slice a1 n1 c1, .slice a2 n2 c2]) → Q' .normal ((putsOf L a s).put o.dst (.tuple #[.agg #[.slice a1 n1 c1, .slice a2 n2 c2], z])) V') → wpListIn F n Tryz.prog ops Q' [o] (putsOf L a s) V)
    (hmove : ∀ o s V y (Q' : Exit → Act → World → Prop), ops[c + 1]? = some o → s c = y → Q' .normal ((putsOf L a s).put o.dst y) V → wpListIn F n Tryz.prog ops Q' [o] (putsOf L a s) V)
    (hext0 : ∀ o s V x z (Q' : Exit → Act → World → Prop), ops[c + 2]? = some o → s (c + 1) = .tuple #[x, z] → Q' .normal ((putsOf L a s).put o.dst x) V → wpListIn F n Tryz.prog ops Q' [o] (putsOf L a s) V)
    (hext1 : ∀ o s V x z (Q' : Exit → Act → World → Prop), ops[c + 3]? = some o → s (c + 1) = .tuple #[x, z] → Q' .normal ((putsOf L a s).put o.dst z) V → wpListIn F n Tryz.prog ops Q' [o] (putsOf L a s) V)
    (halloc : ∀ o s V (Q' : Exit → Act → World → Prop), ops[c + 4]? = some o → Q' .normal ((putsOf L a s).put o.dst (.pointer (some ⟨V.heap.size, 0, none⟩))) (V.alloc (.cells #[.slice none 0 0, .slice none 0 0] 31)) → wpListIn F n Tryz.prog ops Q' [o] (putsOf L a s) V)
    (hstore : ∀ o s V b a1 n1 c1 a2 n2 c2 (Q' : Exit → Act → World → Prop), ops[c + 5]? = some o → s (c + 4) = .pointer (some ⟨b, 0, none⟩) → s (c + 2) = .agg #[.slice a1 n1 c1, .slice a2 n2 c2] → V.heap[b]? = some (.cells #[.slice none 0 0, .slice none 0 0] 31 (0, 0)) →
      Q' .normal ((putsOf L a s).put o.dst undef) ((V.setCell ⟨b, 0, none⟩ (.slice a1 n1 c1)).setCell ⟨b, 1, none⟩ (.slice a2 n2 c2)) → wpListIn F n Tryz.prog ops Q' [o] (putsOf L a s) V)
    (htail : ∀ s V b a1 n1 c1 a2 n2 c2 q z, q ≤ p + K → Rd W0 Rr ad len cap V q → W.grownBy V (some Rr) → s (c + 4) = .pointer (some ⟨b, 0, none⟩) → W.heap.size ≤ b → V.heap[b]? = some (.cells #[.slice a1 n1 c1, .slice a2 n2 c2] 31 (0, 0)) → R V (.agg #[.slice a1 n1 c1, .slice a2 n2 c2]) → s (c + 3) = z → Zp z → wpListIn F n Tryz.prog ops Q (ops.toList.drop (c + 6)) (putsOf L a s) V) : (Code.region id ops true).wpIn F n Tryz.prog Q a W := by
  simp only [Bool.and_eq_true] at hdep
  obtain ⟨⟨⟨⟨d1, d2⟩, d3⟩, d4⟩, d5⟩ := hdep
  have hRW := (Array.getElem?_eq_some_iff.1 hRd.2.2).1
  have hW0 := hRd.2.1
  refine wpIn_region_storeL (c + 5) (c + 6) hm hb ht (by omega) hsz (putsOf L a) (fun Ls V => W.grownBy V (some Rr) ∧ ∃ q, Rd W0 Rr ad len cap V q ∧ (Ls jc = false → q = p) ∧ q ≤ p + K) (fun V V' => V.grownBy V' (some Rr) ∧ ∃ q, Rd W0 Rr ad len cap V q)
    (fun ph k v V => (ph = false → MadeR0 c W.heap.size Zp R pre k v V) ∧ (ph = true → MadeR1 c W.heap.size Zp R k v V)) (puts_self a L hok) (puts_of hL hok) ⟨grownBy_drew (grownBy_refl _ _), p, hRd.drew, fun _ => rfl, by omega⟩ ?mono ?step ?mid ?tail
  case mono =>
    rintro ph k v V V' ⟨h1, h2⟩ ⟨hg, q, hq⟩
    have hbx : ∀ b, W.heap.size ≤ b → (some b : Option Nat) ≠ some Rr := fun b hb e => by injection e with e; omega
    refine ⟨fun e => ?_, fun e => ?_⟩
    · obtain ⟨f1, f2, f3, f4, f5⟩ := h1 e
      refine ⟨fun e => hpre _ _ _ _ (f1 e) hg, fun e => ?_, fun e => ?_, f4, fun e => ?_⟩
      · obtain ⟨a1, n1, c1, a2, n2, c2, z, g1, gz, g2⟩ := f2 e
        exact ⟨a1, n1, c1, a2, n2, c2, z, g1, gz, hRb _ _ _ _ g2 hq hg⟩
      · obtain ⟨a1, n1, c1, a2, n2, c2, g1, g2⟩ := f3 e
        exact ⟨a1, n1, c1, a2, n2, c2, g1, hRb _ _ _ _ g2 hq hg⟩
      · obtain ⟨b, g1, g2, g3⟩ := f5 e
        exact ⟨b, g1, g2, (hg.block _ (Array.getElem?_eq_some_iff.1 g3).1 (hbx b g2)).trans g3⟩
    · obtain ⟨f1, f2, f3⟩ := h2 e
      refine ⟨f1, f2, fun e => ?_⟩
      obtain ⟨b, g1, g2, a1, n1, c1, a2, n2, c2, g3, g4⟩ := f3 e
      exact ⟨b, g1, g2, a1, n1, c1, a2, n2, c2, (hg.block _ (Array.getElem?_eq_some_iff.1 g3).1 (hbx b g2)).trans g3, hRb _ _ _ _ g4 hq hg⟩
  case step =>
    intro Ls i o s V hi hip hLi hnp ho hV hd Q' hQ'
    obtain ⟨hgV, q, hRV, hq0, hqK⟩ := hV
    have hLj : i ≠ jc → (if jc = i then true else Ls jc) = false → q = p := fun e h => by
      rw [if_neg (fun h => e h.symm)] at h
      exact hq0 h
    by_cases e3 : i = c + 3
    · subst e3
      have hx : ∃ x z, s (c + 1) = .tuple #[x, z] ∧ Zp z := by
        cases hph : Ls (c + 5) with
        | false => rw [hph] at hd; obtain ⟨a1, n1, c1, a2, n2, c2, z, g1, gz, _⟩ := ((hd _ d3).1 rfl).2.1 (.inr rfl); exact ⟨_, z, g1, gz⟩
        | true => rw [hph] at hd; exact ((hd _ d3).2 rfl).1 rfl
      obtain ⟨x, z, hx, hz⟩ := hx
      refine hext1 o s V x z Q' ho hx (hQ' _ _ ⟨hgV, q, hRV, hLj (by omega), hqK⟩ ⟨grownBy_refl _ _, q, hRV⟩ ⟨fun _ => ⟨fun e => by omega, fun e => by omega, fun e => by omega, fun _ => hz, fun e => by omega⟩, fun _ => ⟨fun e => by omega, fun _ => hz, fun e => by omega⟩⟩)
    · have hph : Ls (c + 5) = false := by
        cases hph : Ls (c + 5) with
        | false => rfl
        | true =>
          have h1 := hnp hph
          have h2 := List.all_eq_true.1 hnd i (List.mem_range.2 (by omega))
          rw [h1] at h2
          simp at h2
          exact absurd h2 e3
      rw [hph] at hd hQ'
      have hd0 := fun k hk => (hd k hk).1 rfl
      have hq : ∀ v V', Below V.heap.size V V' → i ≠ jc → MadeR0 c W.heap.size Zp R pre i v V' → Q' .normal ((putsOf L a s).put o.dst v) V' := fun v V' h1 hj h2 =>
        hQ' v V' ⟨hgV.trans (below_grownAt h1 _), q, hRV.kept (below_grownAt h1 none) (by simp) (fun _ e => by cases e), hLj hj, hqK⟩ ⟨below_grownAt h1 _, q, hRV⟩ ⟨fun _ => h2, fun e => by cases e⟩
      by_cases ec : i < c
      · refine hstep i o s V q ec ho hRV (fun e => hq0 (by rw [← e]; exact hLi)) hgV (fun k hk hdk => (hd0 k hdk).1 hk) Q' (fun v V' q' h1 h2 h3 h4 h5 => hQ' v V' ⟨hgV.trans h4, q', h1, ?_, ?_⟩ ⟨h4, q, hRV⟩ ⟨fun _ => ⟨fun _ => h5, fun e => by omega, fun e => by omega, fun e => by omega, fun e => by omega⟩, fun e => by cases e⟩)
        · by_cases e : i = jc
          · intro h; exact absurd ((if_pos e.symm).symm.trans h : true = false) (by decide)
          · intro h; rw [h2 e]; exact hLj e h
        · by_cases e : i = jc
          · have := hq0 (by rw [← e]; exact hLi); omega
          · rw [h2 e]; exact hqK
      · by_cases e0 : i = c
        · subst e0
          exact hcall o s V q ho hRV hgV (fun k hk hdk => (hd0 k hdk).1 hk) Q' (fun a1 n1 c1 a2 n2 c2 z V' h1 hz h2 => hq _ V' h1 (by omega) ⟨fun e => by omega, fun _ => ⟨a1, n1, c1, a2, n2, c2, z, rfl, hz, h2⟩, fun e => by omega, fun e => by omega, fun e => by omega⟩)
        · by_cases e1 : i = c + 1
          · subst e1
            have h := (hd0 _ d1).2.1 (.inl rfl)
            exact hmove o s V _ Q' ho rfl (hq _ V (Below.refl _ _) (by omega) ⟨fun e => by omega, fun _ => h, fun e => by omega, fun e => by omega, fun e => by omega⟩)
          · by_cases e2 : i = c + 2
            · subst e2
              obtain ⟨a1, n1, c1, a2, n2, c2, z, g1, gz, g2⟩ := (hd0 _ d2).2.1 (.inr rfl)
              exact hext0 o s V _ _ Q' ho g1 (hq _ V (Below.refl _ _) (by omega) ⟨fun e => by omega, fun e => by omega, fun _ => ⟨a1, n1, c1, a2, n2, c2, rfl, g2⟩, fun e => by omega, fun e => by omega⟩)
            · have e4 : i = c + 4 := by omega
              subst e4
              exact halloc o s V Q' ho (hq _ _ ((Below.refl _ V).alloc (Nat.le_refl _) _) (by omega) ⟨fun e => by omega, fun e => by omega, fun e => by omega, fun e => by omega, fun _ => ⟨V.heap.size, rfl, hgV.size, World.alloc_heap_new V _⟩⟩)
  case mid =>
    intro Ls o s V hph ho hV hd Q' hQ'
    obtain ⟨hgV, q, hRV, hq0, hqK⟩ := hV
    obtain ⟨a1, n1, c1, a2, n2, c2, g1, g2⟩ := ((hd _ d4).1 rfl).2.2.1 rfl
    obtain ⟨b, g3, g4, g5⟩ := ((hd _ d5).1 rfl).2.2.2.2 rfl
    have k0 := grownBy_setAt V b 0 (.slice a1 n1 c1)
    have k1 := grownBy_setAt (V.setCell ⟨b, 0, none⟩ (.slice a1 n1 c1)) b 1 (.slice a2 n2 c2)
    have hne : (some Rr : Option Nat) ≠ some b := fun e => by injection e with e; omega
    have hlo : ∀ k, (some b : Option Nat) = some k → W0.heap.size ≤ k := fun k e => by injection e with e; omega
    refine hstore o s V b a1 n1 c1 a2 n2 c2 Q' ho g3 g1 g5 (hQ' undef _ ⟨(hgV.andThen k0 (fun k e => .inl (by injection e with e; omega))).andThen k1 (fun k e => .inl (by injection e with e; omega)), q, (hRV.kept k0 hne hlo).kept k1 hne hlo, fun h => hq0 ((if_neg (show ¬ jc = c + 5 by omega)).symm.trans h), hqK⟩ (fun k hk hΦ => ⟨fun e => (by cases e), fun _ => ?_⟩) ⟨fun e => (by cases e), fun _ => ⟨fun e => by omega, fun e => by omega, fun e => by omega⟩⟩)
    have h := hΦ.1 rfl
    refine ⟨fun e => ?_, h.2.2.2.1, fun e => ?_⟩
    · obtain ⟨_, _, _, _, _, _, z, e1, ez, _⟩ := h.2.1 (.inr e)
      exact ⟨_, z, e1, ez⟩
    · subst e
      exact ⟨b, g3, g4, a1, n1, c1, a2, n2, c2, desk_set g5 _ _, hRs V b a1 n1 c1 a2 n2 c2 g2 g4 g5⟩
  case tail =>
    intro Ls s V hV hLs hd
    obtain ⟨hgV, q, hRV, hq0, hqK⟩ := hV
    obtain ⟨b, g1, g2, a1, n1, c1, a2, n2, c2, g3, g4⟩ := ((hd (c + 4) (by omega)).2 rfl).2.2 rfl
    exact htail s V b a1 n1 c1 a2 n2 c2 q _ hqK hRV hgV g1 g2 g3 g4 rfl (((hd (c + 3) (by omega)).2 rfl).2.1 rfl)
end Go.Proofs.YtiaaefapbcjgmaaGreatDoor
namespace Go.Proofs.YtiaaefapbcjgmaaGreatDoor
open Go Go.RowKit
attribute [local go_sem] Oper.semAt_some

theorem ints_rd {W0 W W' : World} {R len cap q : Nat} {a : Option Addr} {v : Value} {xs : List Int} (h : Ints W v xs) (hR : Rd W0 R a len cap W q) (hg : W.grownBy W' (some R)) : Ints W' v xs := by
  rcases h with h | ⟨g, c, rfl, hg0, hc⟩
  · exact .inl h
  · by_cases h0 : 0 < xs.length
    · have hne : g ≠ R := fun e => by
        subst e
        have h1 := hc 0 h0
        unfold World.cell? at h1
        rw [hR.2.2] at h1
        simp at h1
      exact .inr ⟨g, c, rfl, Nat.lt_of_lt_of_le hg0 hg.size, fun i hi => (grown_cell12 hg hg0 hne i).trans (hc i hi)⟩
    · exact .inr ⟨g, c, rfl, Nat.lt_of_lt_of_le hg0 hg.size, fun i hi => absurd hi (by omega)⟩

/-- A desk whose rows of before are its own. -/
def YD (base : Nat) (D : Dk) (V : World) (y : Value) : Prop := ∃ x p, y = .agg #[x, p] ∧ Ints V x D.1 ∧ OwnSS V base p D.2

theorem YD.deskI {base : Nat} {D : Dk} {V : World} {y : Value} (h : YD base D V y) : DeskI V y D := by
  obtain ⟨x, p, rfl, h1, h2⟩ := h
  exact ⟨x, p, rfl, h1, h2.past⟩

theorem YD.below {base : Nat} {D : Dk} {V V' : World} {y : Value} (h : YD base D V y) (hB : Below V.heap.size V V') : YD base D V' y := by
  obtain ⟨x, p, rfl, h1, h2⟩ := h
  exact ⟨x, p, rfl, h1.below hB, h2.below hB⟩

theorem YD.down {base base' : Nat} {D : Dk} {V : World} {y : Value} (h : YD base D V y) (hb : base' ≤ base) : YD base' D V y := by
  obtain ⟨x, p, rfl, h1, h2⟩ := h
  exact ⟨x, p, rfl, h1, h2.down hb⟩

theorem YD.form {base : Nat} {D : Dk} {V : World} {y : Value} (h : YD base D V y) : ∃ a b c e, y = .agg #[.slice a D.1.length b, .slice c D.2.length e] := by
  obtain ⟨x, p, rfl, h1, h2⟩ := h
  obtain ⟨a, b, rfl⟩ := h1.shape
  obtain ⟨c, e, rfl⟩ := h2.form
  exact ⟨_, _, _, _, rfl⟩

theorem YD.rd {W0 : World} {R len cap q base : Nat} {a : Option Addr} {D : Dk} {V V' : World} {y : Value} (h : YD base D V y) (hR : Rd W0 R a len cap V q) (hb : R < base) (hg : V.grownBy V' (some R)) : YD base D V' y := by
  obtain ⟨x, p, rfl, h1, h2⟩ := h
  exact ⟨x, p, rfl, ints_rd h1 hR hg, h2.old hb hg⟩

theorem YD.set {base b n1 c1 n2 c2 i m e : Nat} {a1 a2 s : Option Addr} {D : Dk} {V : World} {y : Value} (h : YD base D V y) (kb : V.heap[b]? = some (.cells #[.slice a1 n1 c1, .slice a2 n2 c2] 31 (0, 0))) : YD base D (V.setCell ⟨b, i, none⟩ (.slice s m e)) y := by
  obtain ⟨x, p, rfl, h1, h2⟩ := h
  have g := grownBy_setAt V b i (.slice s m e)
  exact ⟨x, p, rfl, ints_grown h1 kb g, h2.kept kb (by decide) (by decide) g⟩

/-- The row lies above a mark, and apart from the rows of before. -/
def Apart (base : Nat) (y : Value) : Prop := ∀ x p, y = .agg #[x, p] → ∀ g, x.ownBlock = some g → base ≤ g ∧ p.ownBlock ≠ some g

theorem Apart.down {base base' : Nat} {y : Value} (h : Apart base y) (hb : base' ≤ base) : Apart base' y := fun x p e g e1 => ⟨Nat.le_trans hb (h x p e g e1).1, (h x p e g e1).2⟩

theorem YD.of {base : Nat} {D : Dk} {V : World} {y : Value} (h : DeskI V y D) (h2 : PastO V base y D.2) : YD base D V y ∧ Apart base y := by
  obtain ⟨x, p, rfl, h1, _⟩ := h
  obtain ⟨x', p', e, h3, h4⟩ := h2
  injection e with e
  simp at e
  obtain ⟨rfl, rfl⟩ := e
  refine ⟨⟨x, p, rfl, h1, h3⟩, fun x' p' e => ?_⟩
  injection e with e
  simp at e
  obtain ⟨rfl, rfl⟩ := e
  exact h4

theorem apart_none {base : Nat} {x : Value} (h : ∀ g, x.ownBlock = some g → base ≤ g) : Apart base (.agg #[x, .slice none 0 0]) := fun x' p' e g e1 => by
  injection e with e
  simp at e
  obtain ⟨rfl, rfl⟩ := e
  exact ⟨h g e1, by simp [Value.ownBlock]⟩

/-- The row lies above a mark. -/
def LoN (base : Nat) (y : Value) : Prop := ∀ x p, y = .agg #[x, p] → ∀ g, x.ownBlock = some g → base ≤ g

theorem LoN.of {base : Nat} {x p : Value} (h : ∀ g, x.ownBlock = some g → base ≤ g) : LoN base (.agg #[x, p]) := fun x' p' e g e1 => by
  injection e with e
  simp at e
  obtain ⟨rfl, rfl⟩ := e
  exact h g e1

/-- What changes below the mark leaves the desk. -/
theorem YD.old {base b : Nat} {D : Dk} {V V' : World} {y : Value} (h : YD base D V y) (hl : LoN base y) (hb : b < base) (hg : V.grownBy V' (some b)) : YD base D V' y := by
  obtain ⟨x, p, rfl, h1, h2⟩ := h
  exact ⟨x, p, rfl, ints_apart h1 hg (fun g e1 e2 => by have := hl x p rfl g e1; injection e2 with e2; omega), h2.old hb hg⟩

theorem YD.capN {base : Nat} {D : Dk} {V : World} {y : Value} (h : YD base D V y) : CapN base y := by
  obtain ⟨x, p, rfl, _, us, hl, ho, _⟩ := h
  obtain ⟨a, c, rfl⟩ := own_form ho
  refine CapN.of (own_cap ho) fun g o t e => ?_
  subst e
  exact (ho.lt g rfl).1

/-- Sizes of a desk that was drawn. -/
def DkZ (d : Dk) : Prop := d.1.length ≤ 12 ∧ d.2.length ≤ 9 ∧ ∀ j, (d.2.getD j []).length ≤ 12

theorem DkZ.dkS {d : Dk} (h : DkZ d) : DkS d := ⟨by have := h.1; omega, by have := h.2.1; omega, fun j => by have := h.2.2 j; omega⟩

theorem RowsOk.at_ {D : Dk} (h : RowsOk D) (j : Nat) : (D.2.getD j []).length ≤ 12 := by
  by_cases hj : j < D.2.length
  · exact h.2.1 j hj
  · rw [List.getD, List.getElem?_eq_none (by omega)]; simp

theorem RowsOk.dkZ {D : Dk} (h : RowsOk D) : DkZ D := ⟨h.2.2.1, by have := h.2.2.2; omega, h.at_⟩

theorem newV_rows (xs : List Int) : RowsOk (newV xs) := by
  unfold newV
  split
  · rename_i h
    have := sideB_len h
    exact ⟨fun j hj => by simp at hj, fun j hj => by simp at hj, this.2, by simp⟩
  · exact rowsOk_none

theorem doV_past (d : Dk) (k n : Int) : (doV d k n).1.2.length ≤ d.2.length + 1 := by
  unfold doV pastV
  repeat' split
  all_goals simp
  all_goals omega

/-- A desk that is drawn: its variable is block b, the result's block that of w's size. -/
structure Dq (W0 : World) (R len cap : Nat) (a : Option Addr) (w : World) (b : Nat) (d : Dk) (x p : Value) (V : World) (q : Nat) : Prop where
  rd : Rd W0 R a len cap V q
  gr : w.grownBy V (some R)
  box : V.heap[b]? = some (.cells #[x, p] 31 (0, 0))
  res : V.heap[w.heap.size]? = some (.cells #[.slice none 0 0, .slice none 0 0] 31 (0, 0))
  lo : w.heap.size + 1 ≤ b
  rw_ : R < w.heap.size
  yd : YD (w.heap.size + 1) d V (.agg #[x, p])
  rows : DkZ d

theorem Dq.move {W0 : World} {R len cap : Nat} {a : Option Addr} {w : World} {b : Nat} {d : Dk} {x p : Value} {V V' : World} {q q' : Nat} (h : Dq W0 R len cap a w b d x p V q) (h1 : Rd W0 R a len cap V' q') (h2 : V.grownBy V' (some R)) : Dq W0 R len cap a w b d x p V' q' := by
  have h3 := h.lo
  have h4 := h.rw_
  exact ⟨h1, h.gr.trans h2, (h2.block b (Array.getElem?_eq_some_iff.1 h.box).1 (fun e => by injection e with e; omega)).trans h.box, (h2.block _ (Array.getElem?_eq_some_iff.1 h.res).1 (fun e => by injection e with e; omega)).trans h.res, h3, h4, h.yd.rd h.rd (by omega) h2, h.rows⟩

theorem Dq.set0 {W0 : World} {R len cap : Nat} {a : Option Addr} {w : World} {b : Nat} {d : Dk} {V : World} {q n1 c1 n2 c2 m e : Nat} {a1 a2 s : Option Addr} {xs : List Int} (h : Dq W0 R len cap a w b d (.slice a1 n1 c1) (.slice a2 n2 c2) V q) (hx : Ints V (.slice s m e) xs) (hl : xs.length ≤ 12) :
    Dq W0 R len cap a w b (xs, d.2) (.slice s m e) (.slice a2 n2 c2) (V.setCell ⟨b, 0, .none⟩ (.slice s m e)) q := by
  have h3 := h.lo
  have h4 := h.rw_
  have h5 := h.rd.2.1
  have g := grownBy_setAt V b 0 (.slice s m e)
  obtain ⟨x', p', e1, _, h7⟩ := h.yd
  injection e1 with e1
  simp at e1
  obtain ⟨rfl, rfl⟩ := e1
  exact ⟨h.rd.kept g (fun e => by injection e with e; omega) (fun k e => by injection e with e; omega), h.gr.andThen g (fun k e => .inl (by injection e with e; omega)), set_cells h.box 0 _,
    (g.block _ (Array.getElem?_eq_some_iff.1 h.res).1 (fun e => by injection e with e; omega)).trans h.res, h3, h4, ⟨_, _, rfl, ints_grown hx h.box g, h7.kept h.box (by decide) (by decide) g⟩, hl, h.rows.2.1, h.rows.2.2⟩

/-- The desk is handed back. -/
theorem Dq.done {W0 : World} {R len cap : Nat} {a : Option Addr} {w : World} {b : Nat} {d : Dk} {V : World} {q n1 c1 n2 c2 : Nat} {a1 a2 : Option Addr} (h : Dq W0 R len cap a w b d (.slice a1 n1 c1) (.slice a2 n2 c2) V q) :
    ((V.setCell ⟨w.heap.size, 0, .none⟩ (.slice a1 n1 c1)).setCell ⟨w.heap.size, 1, .none⟩ (.slice a2 n2 c2)).heap[w.heap.size]? = some (.cells #[.slice a1 n1 c1, .slice a2 n2 c2] 31 (0, 0)) ∧
    YD w.heap.size d ((V.setCell ⟨w.heap.size, 0, .none⟩ (.slice a1 n1 c1)).setCell ⟨w.heap.size, 1, .none⟩ (.slice a2 n2 c2)) (.agg #[.slice a1 n1 c1, .slice a2 n2 c2]) ∧
    Rd W0 R a len cap ((V.setCell ⟨w.heap.size, 0, .none⟩ (.slice a1 n1 c1)).setCell ⟨w.heap.size, 1, .none⟩ (.slice a2 n2 c2)) q ∧ w.grownBy ((V.setCell ⟨w.heap.size, 0, .none⟩ (.slice a1 n1 c1)).setCell ⟨w.heap.size, 1, .none⟩ (.slice a2 n2 c2)) (some R) := by
  have h4 := h.rw_
  have h5 := h.rd.2.1
  have g := grownBy_setAt V w.heap.size 0 (.slice a1 n1 c1)
  have k := set_cells h.res 0 (.slice a1 n1 c1)
  have g2 := grownBy_setAt (V.setCell ⟨w.heap.size, 0, .none⟩ (.slice a1 n1 c1)) w.heap.size 1 (.slice a2 n2 c2)
  exact ⟨desk_set h.res _ _, ((h.yd.set h.res).set k).down (by omega), (h.rd.kept g (fun e => by injection e with e; omega) (fun k e => by injection e with e; omega)).kept g2 (fun e => by injection e with e; omega) (fun k e => by injection e with e; omega),
    (h.gr.andThen g (fun k e => .inl (by injection e with e; omega))).andThen g2 (fun k e => .inl (by injection e with e; omega))⟩

/-- A row more of before: what is handed back. -/
theorem Dq.grow {W0 : World} {R len cap : Nat} {a : Option Addr} {w : World} {b : Nat} {d : Dk} {V W : World} {q n1 c1 n2 c2 n3 c3 : Nat} {a1 a2 a3 : Option Addr} {u : Value} {us : List Value} (h : Dq W0 R len cap a w b d (.slice a1 n1 c1) (.slice a2 n2 c2) V q) (hap : Apart (w.heap.size + 1) (.agg #[.slice a1 n1 c1, .slice a2 n2 c2])) (hl : us.length = d.2.length)
    (huo : V.ownsRow (w.heap.size + 1) 28 1 (.slice a2 n2 c2) us.length us) (hur : ∀ j, j < d.2.length → V.ownsRow (w.heap.size + 1) 3 1 (us.getD j undef) (d.2.getD j []).length ((d.2.getD j []).map (Value.int .i64)))
    (hu : V.ownsRow (w.heap.size + 1) 3 1 u 0 []) (how : W.ownsRow (w.heap.size + 1) 28 1 (.slice a3 n3 c3) (us.length + 1) (us ++ [u])) (hg : V.grownBy W (Value.ownBlock (.slice a2 n2 c2))) (hd : d.2.length ≤ 8) :
    Dq W0 R len cap a w b (d.1, d.2 ++ [[]]) (.slice a1 n1 c1) (.slice a3 n3 c3) (W.setCell ⟨b, 1, .none⟩ (.slice a3 n3 c3)) q := by
  have h3 := h.lo
  have h4 := h.rw_
  have h5 := h.rd.2.1
  have hlo : ∀ k, Value.ownBlock (.slice a2 n2 c2) = some k → w.heap.size + 1 ≤ k := fun k e => (huo.lt k e).1
  have nR : (some R : Option Nat) ≠ Value.ownBlock (.slice a2 n2 c2) := fun e => by have := hlo R e.symm; omega
  have nb : (some b : Option Nat) ≠ Value.ownBlock (.slice a2 n2 c2) := fun e => own_not huo h.box (by decide) e.symm
  have nr : (some w.heap.size : Option Nat) ≠ Value.ownBlock (.slice a2 n2 c2) := fun e => by have := hlo _ e.symm; omega
  have hbox : W.heap[b]? = _ := (hg.block b (Array.getElem?_eq_some_iff.1 h.box).1 (fun e => nb e)).trans h.box
  have hres : W.heap[w.heap.size]? = _ := (hg.block _ (Array.getElem?_eq_some_iff.1 h.res).1 (fun e => nr e)).trans h.res
  have hrd := h.rd.kept hg nR (fun k e => by have := hlo k e; omega)
  have hgr := h.gr.andThen hg (fun k e => .inl (by have := hlo k e; omega))
  have hO : OwnSS W (w.heap.size + 1) (.slice a3 n3 c3) (d.2 ++ [[]]) := OwnSS.push hl huo hur (row := []) hu how hg
  obtain ⟨x', p', e1, h6, _⟩ := h.yd
  injection e1 with e1
  simp at e1
  obtain ⟨rfl, rfl⟩ := e1
  have hI := ints_apart h6 hg (fun g e1 e2 => (hap _ _ rfl g e1).2 e2)
  have g := grownBy_setAt W b 1 (.slice a3 n3 c3)
  refine ⟨hrd.kept g (fun e => by injection e with e; omega) (fun k e => by injection e with e; omega), hgr.andThen g (fun k e => .inl (by injection e with e; omega)), set_cells hbox 1 _,
    (g.block _ (Array.getElem?_eq_some_iff.1 hres).1 (fun e => by injection e with e; omega)).trans hres, h3, h4, ⟨_, _, rfl, ints_grown hI hbox g, hO.kept hbox (by decide) (by decide) g⟩, h.rows.1, by simp; omega, fun j => ?_⟩
  show ((d.2 ++ [[]]).getD j []).length ≤ 12
  have h7 := h.rows.2.2 j
  by_cases hj : j < d.2.length
  · rw [List.getD, List.getElem?_append_left hj]; exact h7
  · rw [List.getD, List.getElem?_append_right (by omega)]
    rcases Nat.eq_zero_or_pos (j - d.2.length) with e | e
    · rw [e]; simp
    · rw [List.getElem?_eq_none (by simp; omega)]; simp

theorem Dq.put {W0 : World} {R len cap : Nat} {a : Option Addr} {w : World} {b : Nat} {d D : Dk} {V : World} {q n1 c1 n2 c2 m1 e1 m2 e2 : Nat} {a1 a2 s1 s2 : Option Addr} (h : Dq W0 R len cap a w b d (.slice a1 n1 c1) (.slice a2 n2 c2) V q) (hY : YD (w.heap.size + 1) D V (.agg #[.slice s1 m1 e1, .slice s2 m2 e2])) (hr : DkZ D) :
    Dq W0 R len cap a w b D (.slice s1 m1 e1) (.slice s2 m2 e2) ((V.setCell ⟨b, 0, .none⟩ (.slice s1 m1 e1)).setCell ⟨b, 1, .none⟩ (.slice s2 m2 e2)) q := by
  have h3 := h.lo
  have h4 := h.rw_
  have h5 := h.rd.2.1
  have g := grownBy_setAt V b 0 (.slice s1 m1 e1)
  have k := set_cells h.box 0 (.slice s1 m1 e1)
  have g2 := grownBy_setAt (V.setCell ⟨b, 0, .none⟩ (.slice s1 m1 e1)) b 1 (.slice s2 m2 e2)
  exact ⟨(h.rd.kept g (fun e => by injection e with e; omega) (fun k e => by injection e with e; omega)).kept g2 (fun e => by injection e with e; omega) (fun k e => by injection e with e; omega),
    (h.gr.andThen g (fun k e => .inl (by injection e with e; omega))).andThen g2 (fun k e => .inl (by injection e with e; omega)), desk_set h.box _ _,
    (g2.block _ (Nat.lt_of_lt_of_le (Array.getElem?_eq_some_iff.1 h.res).1 g.size) (fun e => by injection e with e; omega)).trans ((g.block _ (Array.getElem?_eq_some_iff.1 h.res).1 (fun e => by injection e with e; omega)).trans h.res), h3, h4, (hY.set h.box).set k, hr⟩

set_option maxRecDepth 100000 in
set_option maxHeartbeats 4000000 in
theorem l20Desk_in (W0 : World) (R len cap p : Nat) (a : Option Addr) (n : Int) (hn : 0 < n) (hn2 : n ≤ 1000) (w : World) (hb : Bytes W0 a len) (h : Rd W0 R a len cap w p) (hp : p ≤ 600000) :
    Calls Tryz.prog 48 #[.pointer (some ⟨R, 0, none⟩), .int .i64 n] w fun e w' => ∃ y d, e = .returned y ∧ YD w.heap.size d w' y ∧ LoN w.heap.size y ∧ DkZ d ∧ ∃ p', p' ≤ p + 300 ∧ Rd W0 R a len cap w' p' ∧ w.grownBy w' (some R) := by
  have hRw := h.lt
  have hW0R := h.2.1
  refine (callsIn_wide (n := 9)).1 ?_
  refine callsIn_of_wp Tryz.func48 rfl trivial ?_ rfl
  simp only [Tryz.ntmps48, List.size_toArray, List.length_cons, List.length_nil, Nat.reduceAdd, Nat.reduceSub, Array.replicate_succ, Array.replicate_zero, List.push_toArray, List.append_toArray, List.nil_append, List.cons_append]
  have hg1 : w.grownBy (w.alloc (.cells #[.slice none 0 0, .slice none 0 0] 31)) (some R) := World.grownBy_alloc w _ _
  have k1 := World.alloc_heap_new w (.cells #[.slice none 0 0, .slice none 0 0] 31)
  have hR1 := h.alloc (.cells #[.slice none 0 0, .slice none 0 0] 31)
  have z1 := World.size_alloc w (.cells #[.slice none 0 0, .slice none 0 0] 31)
  obtain ⟨w1, hw1⟩ : ∃ w1, w.alloc (.cells #[.slice none 0 0, .slice none 0 0] 31) = w1 := ⟨_, rfl⟩
  rw [hw1] at hg1 k1 hR1 z1
  have z1' : w.heap.size + 1 ≤ w1.heap.size := by omega
  clear z1
  gi_wp2_with fail
  refine ⟨trivial, ?_⟩
  gi_at_call 87
  refine (callsIn_wide.2 (l20Side0_in W0 R len cap p a w1 hb hR1 (by omega))).mono ?_
  rintro e w2 ⟨v, xs, rfl, hv, hx1, hx2, q2, hq2, hR2, hg2⟩
  have hvi := Ints.of_owns hv
  have hnr := newV_rows xs
  gi_wp2_with fail
  refine ⟨trivial, ?_⟩
  gi_at_call 93
  refine (callsIn_wide.2 (specNew v xs w2 hvi (by omega))).mono ?_
  rintro e w3 ⟨x, rfl, hx, hB3⟩
  have hxi := Ints.of_owns hx
  have hxlo' := hide (show ∀ g, x.ownBlock = some g → w.heap.size + 1 ≤ g from fun g e => by have h9 := (hx.lt g e).1; have h8 := hg2.size; omega)
  have hn2' : (newV xs).2 = [] := by unfold newV; split <;> rfl
  obtain ⟨xa, xc, rfl⟩ := own_form hx
  have hR3 := hR2.kept (below_grownAt hB3 none) (by simp) (fun _ e => by cases e)
  have hg3 := (hg1.trans hg2).trans (below_grownAt hB3 (some R))
  have hres3 := (hB3.block _ (by have := (Array.getElem?_eq_some_iff.1 k1).1; have := hg2.size; omega)).trans ((hg2.block _ (Array.getElem?_eq_some_iff.1 k1).1 (fun e => by injection e with e; omega)).trans k1)
  have z3 : w1.heap.size ≤ w3.heap.size := Nat.le_trans hg2.size hB3.size
  obtain ⟨D, hD⟩ : ∃ D, newV xs = D := ⟨_, rfl⟩
  rw [hD] at hxi hnr hn2' ⊢
  have hxl0 := hxlo'.out
  rw [hD] at hxl0
  have hxloh := hide hxl0
  clear hxl0 hxlo'
  have hb0 := World.alloc_heap_new w3 (.cells #[.slice xa D.1.length xc, .slice none 0 0] 31)
  have hba := (Below.refl _ w3).alloc (Nat.le_refl _) (.cells #[.slice xa D.1.length xc, .slice none 0 0] 31)
  have hQ0 : Dq W0 R len cap a w w3.heap.size D (.slice xa D.1.length xc) (.slice none 0 0) (w3.alloc (.cells #[.slice xa D.1.length xc, .slice none 0 0] 31)) q2 :=
    ⟨hR3.alloc _, hg3.trans (World.grownBy_alloc _ _ _), hb0, (Below.heap_alloc _ _ _ (Array.getElem?_eq_some_iff.1 hres3).1).trans hres3, by omega, hRw, ⟨_, _, rfl, hxi.below hba, by rw [hn2']; exact ⟨[], rfl, World.ownsRow_nil _ _ _ _, fun j hj => by simp at hj⟩⟩, hnr.dkZ⟩
  gi_wp2_with fail
  obtain ⟨V0, hV0⟩ : ∃ V0, w3.alloc (.cells #[.slice xa D.1.length xc, .slice none 0 0] 31) = V0 := ⟨_, rfl⟩
  rw [hV0] at hQ0 ⊢
  obtain ⟨b, hbe⟩ : ∃ b, w3.heap.size = b := ⟨_, rfl⟩
  rw [hbe] at hQ0 ⊢
  clear hV0 hbe hb0 hba hres3 hR3 hg3 hxi hx hB3 hvi hv hR2 hg2 hR1 hg1 hw1 k1 z3 z1'
  refine ⟨trivial, ?_⟩
  gi_at_call 42
  refine (callsIn_wide.2 (pick_in W0 R len cap q2 a 6 V0 hb hQ0.rd (by omega))).mono ?_
  rintro e w4 ⟨x0, rfl, hx0, _, hx1', hR4, hg4, _⟩
  replace hx1' := hx1' (by omega)
  obtain ⟨N, rfl⟩ : ∃ N : Nat, x0 = N := ⟨x0.toNat, by omega⟩
  have hQ4 := hQ0.move hR4 hg4
  have hD0 : D.2.length ≤ 0 := by rw [hn2']; simp
  have hxlo := hxloh.out
  clear hQ0 hR4 hg4 hn2' hnr hD
  gi_wp2
  gi_loopw [7] (fun k wr => ∃ (j : Nat) (d : Dk) (x p1 : Value) (q : Nat), j ≤ N ∧ k = .int .i64 ((N : Int) - (j : Nat)) ∧ q ≤ p + 14 + 40 * j ∧ d.2.length ≤ j ∧ Dq W0 R len cap a w b d x p1 wr q ∧ Apart (w.heap.size + 1) (.agg #[x, p1])) (fun k _ => (intOf k).toNat)
  case atStart => exact ⟨0, D, _, _, _, by omega, by go_num, by omega, hD0, hQ4, apart_none (fun g e => hxlo g e)⟩
  case round =>
    clear hQ4 hD0
    obtain ⟨j, d, x, p1, q, hj, rfl, hq, hd2, hQ, hap⟩ := hrel
    obtain ⟨x1, x2, x3, x4, hform⟩ := hQ.yd.form
    injection hform with hform
    simp at hform
    obtain ⟨rfl, rfl⟩ := hform
    by_cases hjn : j < N
    · have hc : (0 : Int) < (N : Int) - (j : Int) := by omega
      have hw1 : IntKind.i64.wrap ((N : Int) - (j : Int) - 1) = (N : Int) - (j : Int) - 1 := IntWalk.i64_in _ (by omega)
      have hd12 := hQ.rows.1
      have lb := (Array.getElem?_eq_some_iff.1 hQ.box).1
      have hlo := hQ.lo
      have hszr := hQ.gr.size
      gi_wp2
      refine wpIn_region_madeR W0 R len cap q a 30 4 5 [(some 23, 0), (some 24, 1), (some 25, 2), (some 26, 3), (some 27, 4), (some 28, 5), (some 22, 6), (some 29, 7), (some 30, 8), (some 8, 9), (none, 10)] (fun z => ∃ bo, z = .bool bo) (fun V y => ∃ D', RowsOk D' ∧ D'.2.length ≤ d.2.length + 1 ∧ YD (w.heap.size + 1) D' V y ∧ Apart (w.heap.size + 1) y) (by kernel_rfl) (by kernel_rfl) (by kernel_rfl) (by decide) (by kernel_rfl) (by kernel_rfl) (by rfl) (by decide) (by decide) hQ.rd
        (fun i v V => match i with | 0 => v = .agg #[.slice x1 d.1.length x2, .slice x3 d.2.length x4] | 1 => v = .pointer (some ⟨R, 0, none⟩) | 2 => v = .pointer (some ⟨b, 0, none⟩) | 3 => v = .slice x1 d.1.length x2 | 4 => ∃ k n, Fits k ∧ Fits n ∧ v = dV k n | _ => True)
        (fun i v V V' h hg => match i, h with | 0, h => h | 1, h => h | 2, h => h | 3, h => h | 4, h => h | (_ + 5), _ => trivial)
        (fun V V' qv y ⟨D', h1, h2, h3, h4⟩ hq' hg => ⟨D', h1, h2, h3.rd hq' (by omega) hg, h4⟩)
        (fun V b' a1 n1 c1 a2 n2 c2 ⟨D', h1, h2, h3, h4⟩ _ hz => ⟨D', h1, h2, (h3.set hz).set (set_cells hz 0 _), h4⟩)
        ?step ?call ?move ?ext0 ?ext1 ?allo ?stor ?tail
      case step =>
        rintro i oo s V qv hi ho hRV hqj hgV hd Q' hQ'
        have hQV := hQ.move hRV hgV
        obtain ⟨m0, m1, _, _⟩ := row_at hQV.box
        rcases (show i = 0 ∨ i = 1 ∨ i = 2 ∨ i = 3 ∨ i = 4 by omega) with rfl | rfl | rfl | rfl | rfl
        all_goals
          simp at ho
          subst ho
          simp only [putsOf, Act.put, List.setIfInBounds_toArray, List.set_cons_succ, List.set_cons_zero] at hQ' ⊢
          have hQh := hide hQ'
          clear hQ'
        · clear hd
          gi_wp2
          have hr := hQh.out
          exact hr _ _ qv hRV (fun _ => rfl) (by omega) (grownBy_refl _ _) rfl
        · clear hd
          gi_wp2
          have hr := hQh.out
          exact hr _ _ qv hRV (fun _ => rfl) (by omega) (grownBy_refl _ _) rfl
        · clear hd
          gi_wp2
          have hr := hQh.out
          exact hr _ _ qv hRV (fun _ => rfl) (by omega) (grownBy_refl _ _) rfl
        · have e1 : s 2 = .pointer (some ⟨b, 0, none⟩) := hd 2 (by decide) (by kernel_rfl)
          clear hd
          gi_wp2
          have hr := hQh.out
          simp only [e1] at hr ⊢
          exact hr _ _ qv hRV (fun _ => rfl) (by omega) (grownBy_refl _ _) rfl
        · have e1 : s 1 = .pointer (some ⟨R, 0, none⟩) := hd 1 (by decide) (by kernel_rfl)
          have e2 : s 3 = .slice x1 d.1.length x2 := hd 3 (by decide) (by kernel_rfl)
          have hqv := hqj rfl
          have hC := l20Deed_in W0 R len cap qv a V hb hRV (by omega) x1 d.1.length x2 (by omega)
          clear hd
          gi_wp2_with (refine ⟨trivial, ?_⟩; gi_at_call 94; go_loud (refine (callsIn_wide.2 hC).mono ?_; rintro e W9 ⟨⟨dk, dn, hk, hn9, rfl⟩, q9, hq9, hR9, hg9⟩))
          have hr := hQh.out
          simp only [e1, e2] at hr ⊢
          exact hr _ _ q9 hR9 (fun h => absurd rfl h) hq9 hg9 ⟨dk, dn, hk, hn9, rfl⟩
      case call =>
        rintro oo s V qv ho hRV hgV hd Q' hQ'
        have hQV := hQ.move hRV hgV
        obtain ⟨m0, m1, _, _⟩ := row_at hQV.box
        simp at ho
        subst ho
        simp only [putsOf, Act.put, List.setIfInBounds_toArray, List.set_cons_succ, List.set_cons_zero] at hQ' ⊢
        have hQh := hide hQ'
        clear hQ'
        have e1 : s 0 = .agg #[.slice x1 d.1.length x2, .slice x3 d.2.length x4] := hd 0 (by decide) (by kernel_rfl)
        obtain ⟨dk, dn, hk, hn9, e2⟩ : ∃ k n, Fits k ∧ Fits n ∧ s 4 = dV k n := hd 4 (by decide) (by kernel_rfl)
        have hC := specDo _ d dk dn V hQV.yd.deskI hQV.rows.dkS hk hn9
        have hsv := hgV.size
        unfold dV at e2 hC
        clear hd
        gi_wp2_with (refine ⟨trivial, ?_⟩; gi_at_call 66; go_loud (refine (callsIn_wide.2 hC).mono ?_; rintro e W9 ⟨y9, rfl, hy9, hN9, hB9⟩))
        obtain ⟨hY9, hA9⟩ := YD.of hy9 (hN9.2 (by omega))
        replace hY9 := hY9.down (base' := w.heap.size + 1) (by omega)
        replace hA9 := hA9.down (base' := w.heap.size + 1) (by omega)
        obtain ⟨z1, z2, z3, z4, rfl⟩ := hY9.form
        have hr := hQh.out
        simp only [e1, e2] at hr ⊢
        exact hr _ _ _ _ _ _ _ _ hB9 ⟨_, rfl⟩ ⟨_, doV_rows _ _ _, doV_past _ _ _, hY9, hA9⟩
      case move =>
        rintro oo s V y Q' ho hs hQ'
        simp at ho
        subst ho
        simp only [putsOf, Act.put, List.setIfInBounds_toArray, List.set_cons_succ, List.set_cons_zero] at hQ' ⊢
        have hQh := hide hQ'
        clear hQ'
        gi_wp2
        have hr := hQh.out
        simp only [hs] at hr ⊢
        exact hr
      case ext0 =>
        rintro oo s V y z Q' ho hs hQ'
        simp at ho
        subst ho
        simp only [putsOf, Act.put, List.setIfInBounds_toArray, List.set_cons_succ, List.set_cons_zero] at hQ' ⊢
        have hQh := hide hQ'
        clear hQ'
        replace hs : s 6 = .tuple #[y, z] := hs
        gi_wp2
        have hr := hQh.out
        simp only [hs] at hr ⊢
        exact hr
      case ext1 =>
        rintro oo s V y z Q' ho hs hQ'
        simp at ho
        subst ho
        simp only [putsOf, Act.put, List.setIfInBounds_toArray, List.set_cons_succ, List.set_cons_zero] at hQ' ⊢
        have hQh := hide hQ'
        clear hQ'
        replace hs : s 6 = .tuple #[y, z] := hs
        gi_wp2
        have hr := hQh.out
        simp only [hs] at hr ⊢
        exact hr
      case allo =>
        rintro oo s V Q' ho hQ'
        simp at ho
        subst ho
        simp only [putsOf, Act.put, List.setIfInBounds_toArray, List.set_cons_succ, List.set_cons_zero] at hQ' ⊢
        have hQh := hide hQ'
        clear hQ'
        gi_wp2
        exact hQh.out
      case stor =>
        rintro oo s V b' a1 n1 c1 a2 n2 c2 Q' ho hs1 hs2 hz hQ'
        obtain ⟨z0, z1, z2, z3⟩ := row_at hz
        simp at ho
        subst ho
        simp only [putsOf, Act.put, List.setIfInBounds_toArray, List.set_cons_succ, List.set_cons_zero] at hQ' ⊢
        have hQh := hide hQ'
        clear hQ'
        replace hs1 : s 9 = .pointer (some ⟨b', 0, none⟩) := hs1
        replace hs2 : s 7 = .agg #[.slice a1 n1 c1, .slice a2 n2 c2] := hs2
        gi_wp2
        have hr := hQh.out
        simp only [hs1, hs2] at hr ⊢
        exact hr
      case tail =>
        rintro s V bx a1 n1 c1 a2 n2 c2 q9 z hq9 hRV hgV f9 hbx kx hY f8 hz
        replace f9 : s 9 = .pointer (some ⟨bx, 0, none⟩) := f9
        replace f8 : s 8 = z := f8
        obtain ⟨bo, rfl⟩ := hz
        obtain ⟨D', hDr, hDp, hDY, hDA⟩ := hY
        have hQV := hQ.move hRV hgV
        obtain ⟨y1, y2, y3, y4, hf⟩ := hDY.form
        injection hf with hf
        simp at hf
        obtain ⟨⟨rfl, rfl, rfl⟩, rfl, rfl, rfl⟩ := hf
        obtain ⟨k0, k1, _, _⟩ := row_at kx
        obtain ⟨m0, m1, f0, f1⟩ := row_at hQV.box
        have hP := hide (hQV.put hDY hDr.dkZ)
        have hQV' := hide hQV
        clear hQV hQ hDY kx hgV hRV
        simp only [putsOf, Act.put, List.setIfInBounds_toArray, List.set_cons_succ, List.set_cons_zero]
        simp only [List.drop_succ_cons, List.drop_zero]
        cases bo
        · simp only [f8, f9]
          gi_wp2
          go_roundw
          case rel => exact ⟨j + 1, d, _, _, q9, by omega, by go_num, by omega, by omega, hQV'.out, hap⟩
          case measure => simp [intOf]; omega
        · simp only [f8, f9]
          gi_wp2
          go_roundw
          case rel => exact ⟨j + 1, D', _, _, q9, by omega, by go_num, by omega, by omega, hP.out, hDA⟩
          case measure => simp [intOf]; omega
    · obtain rfl : j = N := by omega
      have hc : ¬ (0 : Int) < (j : Int) - (j : Int) := by omega
      obtain ⟨m0, m1, f0, f1⟩ := row_at hQ.box
      obtain ⟨r0, r1, t0, t1⟩ := row_at hQ.res
      gi_wp2_with fail
      refine ⟨trivial, ?_⟩
      gi_at_call 49
      refine (callsIn_wide.2 (odd_any W0 R len cap _ a n _ hb hQ.rd (by omega) hn hn2)).mono ?_
      rintro e V1 ⟨bo, rfl, hR1, hg1⟩
      have hQ1 := hQ.move hR1 hg1
      clear hQ hR1 hg1
      cases bo with
      | false =>
        obtain ⟨m0, m1, f0, f1⟩ := row_at hQ1.box
        obtain ⟨r0, r1, t0, t1⟩ := row_at hQ1.res
        have hd9 := hide hQ1.done
        have hcn := hide (show LoN w.heap.size _ from fun x p e g e1 => by have := (hap x p e g e1).1; omega)
        have hdz := hide hQ1.rows
        gi_wp2
        (try simp only [Exit.inBlock, Exit.then])
        exact bodyPost_ret (results_desk rfl _ _ w.heap.size _ _ rfl hd9.out.1) rfl ⟨_, d, rfl, hd9.out.2.1, hcn.out, hdz.out, _, by omega, hd9.out.2.2⟩
      | true =>
        obtain ⟨m0, m1, f0, f1⟩ := row_at hQ1.box
        obtain ⟨r0, r1, t0, t1⟩ := row_at hQ1.res
        gi_wp2_with fail
        refine ⟨trivial, ?_⟩
        gi_at_call 42
        refine (callsIn_wide.2 (pick_in W0 R len cap _ a 3 _ hb hQ1.rd (by omega))).mono ?_
        rintro e V2 ⟨y, rfl, hy0, _, hy1, hR2, hg2, _⟩
        replace hy1 := hy1 (by omega)
        have hQ2 := hQ1.move hR2 hg2
        clear hQ1 hR2 hg2
        rcases (show y = 0 ∨ y = 1 ∨ y = 2 by omega) with rfl | rfl | rfl
        · have hA := World.grownBy_alloc V2 (.cells #[.int .i64 2] 3) (some R)
          have hQ3 := hQ2.move (hQ2.rd.alloc _) hA
          have hI : Ints (V2.alloc (.cells #[.int .i64 2] 3)) (.slice (some ⟨V2.heap.size, 0, none⟩) 1 1) [2] := .inr ⟨V2.heap.size, 1, rfl, by rw [World.size_alloc]; omega, fun i hi => by
            obtain rfl : i = 0 := by simpa using hi
            rw [World.cell?_alloc_at _ _ _ _ rfl]
            rfl⟩
          have hQ4 := hQ3.set0 hI (by simp)
          have hszg := hQ2.gr.size
          clear hQ2 hA hI
          obtain ⟨m0, m1, f0, f1⟩ := row_at hQ3.box
          obtain ⟨r0, r1, t0, t1⟩ := row_at hQ3.res
          obtain ⟨m0, m1, f0, f1⟩ := row_at hQ4.box
          obtain ⟨r0, r1, t0, t1⟩ := row_at hQ4.res
          have hd9 := hide hQ4.done
          have hcn := hide (show LoN w.heap.size _ from LoN.of (x := .slice (some ⟨V2.heap.size, 0, none⟩) 1 1) (p := .slice x3 d.2.length x4) (fun g e => by have e2 : some V2.heap.size = some g := e; injection e2 with e2; omega))
          have hdz := hide hQ4.rows
          clear hQ3 hQ4
          gi_wp2
          (try simp only [Exit.inBlock, Exit.then])
          exact bodyPost_ret (results_desk rfl _ _ w.heap.size _ _ rfl hd9.out.1) rfl ⟨_, ([2], d.2), rfl, hd9.out.2.1, hcn.out, hdz.out, _, by omega, hd9.out.2.2⟩
        · have hA := World.grownBy_alloc V2 (.cells #[] 3) (some R)
          have hQ3 := hQ2.move (hQ2.rd.alloc _) hA
          have hmade : (V2.alloc (.cells #[] 3)).ownsRow V2.heap.size 3 1 (.slice (some ⟨V2.heap.size, 0, none⟩) 0 0) 0 [] := World.ownsRow_made _ _ _ (Nat.le_refl _) (by decide) rfl
          have zA := World.size_alloc V2 (.cells #[] 3)
          obtain ⟨V3, hV3⟩ : ∃ V3, V2.alloc (.cells #[] 3) = V3 := ⟨_, rfl⟩
          have hsz2 := (Array.getElem?_eq_some_iff.1 hQ2.res).1
          rw [hV3] at hQ3 hmade zA
          have hA4 := World.grownBy_alloc V3 (.cells #[.slice (some ⟨V2.heap.size, 0, none⟩) 0 0] 28) (some R)
          have hQ4 := hQ3.move (hQ3.rd.alloc _) hA4
          have hm4 := own_below hmade ((Below.refl _ V3).alloc (Nat.le_refl _) (.cells #[.slice (some ⟨V2.heap.size, 0, none⟩) 0 0] 28))
          have hq4 : (V3.alloc (.cells #[.slice (some ⟨V2.heap.size, 0, none⟩) 0 0] 28)).cell? ⟨V3.heap.size, 0, none⟩ = some (.slice (some ⟨V2.heap.size, 0, none⟩) 0 0) := by rw [World.cell?_alloc_at _ _ _ _ rfl]; rfl
          obtain ⟨xx, pp, ee, hxx, us, hul, huo, hur⟩ := id hQ4.yd
          injection ee with ee
          simp at ee
          obtain ⟨rfl, rfl⟩ := ee
          have hsl := hQ4.lo
          have hbw := hQ4.gr.size
          have hulh := hide hul
          have zA2 := Nat.le_of_eq zA.symm
          clear zA hul
          obtain ⟨m0x, m1x, f0x, f1x⟩ := row_at hQ2.box
          obtain ⟨r0x, r1x, t0x, t1x⟩ := row_at hQ2.res
          obtain ⟨m0, m1, f0, f1⟩ := row_at hQ4.box
          obtain ⟨r0, r1, t0, t1⟩ := row_at hQ4.res
          clear hQ2 hA hA4 hQ3 hxx
          have hmx := hide (own_from hm4 (show w.heap.size + 1 ≤ V2.heap.size by omega))
          have hurh := hide hur
          clear hm4 hmade hur
          gi_wp2_with (gi_at_builtin; refine append_slice_in rfl _ _ rfl rfl (w.heap.size + 1) _ us.length us rfl huo V3.heap.size rfl hq4 (by have := hulh.out; omega) (by have := World.size_alloc V3 (.cells #[.slice (some ⟨V2.heap.size, 0, none⟩) 0 0] 28); omega) ?_; intro v5 w5 ho5 hg5; go_loud (obtain ⟨g5, c5, rfl⟩ := own_some ho5 (Nat.succ_pos _); rw [hulh.out] at ho5 ⊢; have hQ5 := hQ4.grow hap hulh.out huo hurh.out hmx.out (by rw [hulh.out]; exact ho5) hg5 (by omega); have hb5 := (hg5.block b (Array.getElem?_eq_some_iff.1 hQ4.box).1 (fun e => own_not huo hQ4.box (by decide) e.symm)).trans hQ4.box; obtain ⟨m0y, m1y, f0y, f1y⟩ := row_at hb5; obtain ⟨m0, m1, f0, f1⟩ := row_at hQ5.box; obtain ⟨r0, r1, t0, t1⟩ := row_at hQ5.res; have hd9 := hide hQ5.done; have hcn := hide (show LoN w.heap.size _ from (LoN.of (p := .slice (some ⟨g5, 0, none⟩) (d.2.length + 1) c5) (fun g e => (by have := (hap _ _ rfl g e).1; omega)))); have hdz := hide hQ5.rows; clear hQ4 hQ5 hb5 ho5))
          (try simp only [Exit.inBlock, Exit.then])
          exact bodyPost_ret (results_desk rfl _ _ w.heap.size _ _ rfl hd9.out.1) rfl ⟨_, (d.1, d.2 ++ [[]]), rfl, hd9.out.2.1, hcn.out, hdz.out, _, by omega, hd9.out.2.2⟩
        · obtain ⟨m0, m1, f0, f1⟩ := row_at hQ2.box
          obtain ⟨r0, r1, t0, t1⟩ := row_at hQ2.res
          have hcn := hide (show LoN w.heap.size (.agg #[.slice none 0 0, .slice none 0 0]) from LoN.of (fun g e => by simp [Value.ownBlock] at e))
          have hdz := hide rowsOk_none.dkZ
          have hd9 := hide (desk_set hQ2.res (.slice none 0 0) (.slice none 0 0))
          have hg9 := grownBy_setAt V2 w.heap.size 0 (.slice none 0 0)
          have hg8 := grownBy_setAt (V2.setCell ⟨w.heap.size, 0, none⟩ (.slice none 0 0)) w.heap.size 1 (.slice none 0 0)
          have hfin := hide (show YD w.heap.size ([], []) ((V2.setCell ⟨w.heap.size, 0, none⟩ (.slice none 0 0)).setCell ⟨w.heap.size, 1, none⟩ (.slice none 0 0)) (.agg #[.slice none 0 0, .slice none 0 0]) ∧ Rd W0 R a len cap ((V2.setCell ⟨w.heap.size, 0, none⟩ (.slice none 0 0)).setCell ⟨w.heap.size, 1, none⟩ (.slice none 0 0)) _ ∧ w.grownBy ((V2.setCell ⟨w.heap.size, 0, none⟩ (.slice none 0 0)).setCell ⟨w.heap.size, 1, none⟩ (.slice none 0 0)) (some R) from ⟨⟨_, _, rfl, Ints.none _ _ _, [], rfl, World.ownsRow_nil _ _ _ _, fun j hj => by simp at hj⟩, (hQ2.rd.kept hg9 (fun e => by injection e with e; omega) (fun k e => by injection e with e; omega)).kept hg8 (fun e => by injection e with e; omega) (fun k e => by injection e with e; omega), (hQ2.gr.andThen hg9 (fun k e => .inl (by injection e with e; omega))).andThen hg8 (fun k e => .inl (by injection e with e; omega))⟩)
          clear hg9 hg8 hQ2
          gi_wp2
          (try simp only [Exit.inBlock, Exit.then])
          exact bodyPost_ret (results_desk rfl _ _ w.heap.size _ _ rfl hd9.out) rfl ⟨_, ([], []), rfl, hfin.out.1, hcn.out, hdz.out, _, by omega, hfin.out.2⟩
end Go.Proofs.YtiaaefapbcjgmaaGreatDoor
namespace Go.Proofs.YtiaaefapbcjgmaaGreatDoor
open Go Go.RowKit
attribute [local go_sem] Oper.semAt_some

theorem isRow_below {k : IntKind} {w w' : World} {a : Option Addr} {len cap : Nat} {zs : List Int} (h : IsRow k w a len cap zs) (hB : Below w.heap.size w w') : IsRow k w' a len cap zs := by
  rcases h with h | ⟨x, h1, h2, h3, h4, h5, h6⟩
  · exact .inl h
  · exact .inr ⟨x, h1, h2, h3, h4, fun i hi => (hB.cell (p := x.add i) (World.block_lt_of_cell? w _ (h5 i hi))).trans (h5 i hi), h6⟩
end Go.Proofs.YtiaaefapbcjgmaaGreatDoor
namespace Go.Proofs.YtiaaefapbcjgmaaGreatDoor
open Go Go.RowKit
attribute [local go_sem] Oper.semAt_some

/-- 'make([]Deed, n)' inside a fence. -/
theorem make_deeds_in {F : Fence} {k : Nat} (w : World) {ops : Array Oper} {rest : List Oper} {o : Oper} {a : Act} {Q : Exit → Act → World → Prop}
    (hg : o.guard = none) (l c : Operand) (hop : o.op = Op.makeSlice 24 l c) (L C : Int) (N : Nat) (hl : a.eval l = .int .i64 L) (hc : a.eval c = .int .i64 C) (hL : L = (N : Int)) (hC : C = (N : Int)) (hN : N ≤ 10000000)
    (hK : ∀ w', BlkAt w' w.heap.size 39 (N * 2) (intsV (N * 2) fun _ => 0) → w.grownBy w' none → wpListIn F k Tryz.prog ops Q rest (a.put o.dst (.slice (some ⟨w.heap.size, 0, none⟩) N N)) w') :
    wpListIn F k Tryz.prog ops Q (o :: rest) a w := by
  obtain ⟨i0, hi, hz0, hz1, hz2⟩ := info_any Tryz.infoDeed
  refine wpListIn_plain hg fun K hK' => ?_
  obtain ⟨w', hrun, r1, r2⟩ := run_make_full (P := Tryz.prog) w w.heap.size 24 39 i0 (.agg #[.int .i64 0, .int .i64 0]) 2 Tryz.underlying24 hi hz0 hz1 .i64 .i64 N (by rw [hz2]; omega) (by unfold maxLen; omega) (Nat.le_refl _)
  subst hL
  subst hC
  have hblk : BlkAt w' w.heap.size 39 (N * 2) (intsV (N * 2) fun _ => 0) := by
    obtain ⟨hlen, hv⟩ := r1
    rcases hv with ⟨h, _⟩ | ⟨g, cap, cur, h, _, hgb, _, _, hs, ht⟩
    · cases h
    · cases h
      refine ⟨cur, hgb, by omega, fun i v hi' => ?_⟩
      have h1 : cur.toList.take (N * 2) = cur.toList := List.take_of_length_le (by simp; omega)
      unfold intsV at hi'
      split at hi'
      · rename_i hlt
        rw [h1] at ht
        rw [← Array.getElem?_toList, ht, Array.getElem?_toList]
        have : i % 2 = 0 ∨ i % 2 = 1 := by omega
        rcases this with e | e <;> simpa [madeCells, Value.cells, hlt, e] using hi'
      · cases hi'
  unfold Oper.wpIn
  refine ⟨?_, ?_⟩
  · simp [Oper.about, hop]
  · rw [Oper.semAt_plain F _ _ (by rw [hop]; intro c hc'; cases hc')]
    simp [execOp, hop, hl, hc, hrun, Result.andThen]
    exact hK' _ _ (hK w' hblk r2)

def noughts : List (Int × Int) := List.replicate 41 (0, 0)

theorem noughts_at : ∀ i, i < 82 → numD noughts i = 0 := by decide +kernel

theorem noughts_fits : ∀ x ∈ noughts, Fits x.1 ∧ Fits x.2 := by
  intro x hx
  obtain ⟨_, rfl⟩ := List.mem_replicate.1 hx
  constructor <;> (unfold Fits; omega)

/-- Deeds of one's own above a mark. -/
def DsO (base : Nat) (V : World) (v : Value) : Prop := ∃ L : List (Int × Int), L.length ≤ 41 ∧ (∀ x ∈ L, Fits x.1 ∧ Fits x.2) ∧ V.ownsRow base 39 2 v L.length (cellsD L)

theorem DsO.kept {base b : Nat} {V V' : World} {v : Value} (h : DsO base V v) (hg : V.grownBy V' (some b)) (hb : b < base) : DsO base V' v := by
  obtain ⟨L, h1, h2, h3⟩ := h
  exact ⟨L, h1, h2, h3.kept hg (.inr (fun e => by have := (h3.lt b e).1; omega))⟩

theorem DsO.below {base : Nat} {V V' : World} {v : Value} (h : DsO base V v) (hB : Below V.heap.size V V') : DsO base V' v := by
  obtain ⟨L, h1, h2, h3⟩ := h
  exact ⟨L, h1, h2, h3.kept (below_grownAt hB none) (by cases v.ownBlock <;> simp)⟩

/-- The desk lies in the result's block. -/
def FinD (w : World) (d : Dk) (y x p : Value) (V : World) : Prop := V.heap[w.heap.size]? = some (.cells #[x, p] 31 (0, 0)) ∧ DeskI V y d ∧ Below w.heap.size w V

theorem FinD.below {w : World} {d : Dk} {y x p : Value} {V V' : World} (h : FinD w d y x p V) (hB : Below V.heap.size V V') : FinD w d y x p V' :=
  ⟨(hB.block _ (Array.getElem?_eq_some_iff.1 h.1).1).trans h.1, h.2.1.below hB, h.2.2.trans (hB.mono h.2.2.size)⟩

theorem finD_of {w w1 V : World} {base n1 c1 n2 c2 : Nat} {a1 a2 : Option Addr} {d : Dk} (hB : Below w.heap.size w w1) (hBV : Below w1.heap.size w1 V) (hYV : YD base d V (.agg #[.slice a1 n1 c1, .slice a2 n2 c2])) (kr : V.heap[w.heap.size]? = some (.cells #[.slice none 0 0, .slice none 0 0] 31 (0, 0))) :
    FinD w d (.agg #[.slice a1 n1 c1, .slice a2 n2 c2]) (.slice a1 n1 c1) (.slice a2 n2 c2) ((V.setCell ⟨w.heap.size, 0, .none⟩ (.slice a1 n1 c1)).setCell ⟨w.heap.size, 1, .none⟩ (.slice a2 n2 c2)) :=
  ⟨desk_set kr _ _, ((hYV.set (i := 0) (s := a1) (m := n1) (e := c1) kr).set (i := 1) (s := a2) (m := n2) (e := c2) (set_cells kr 0 _)).deskI,
    ((hB.trans (hBV.mono hB.size)).setCell (p := ⟨w.heap.size, 0, .none⟩) (Nat.le_refl _) _).setCell (p := ⟨w.heap.size, 1, .none⟩) (Nat.le_refl _) _⟩

theorem own_fromN {w : World} {base base' n size : Nat} {e : TypeId} {v : Value} {xs : List Value} (h : w.ownsRow base e size v n xs) (hb : base' ≤ base) : w.ownsRow base' e size v n xs := by
  obtain ⟨h1, h2⟩ := h
  refine ⟨h1, ?_⟩
  rcases h2 with h2 | ⟨g, cap, cur, e1, hb2, h3⟩
  · exact .inl h2
  · exact .inr ⟨g, cap, cur, e1, Nat.le_trans hb hb2, h3⟩

theorem dsO_low {base base' : Nat} {V : World} {v : Value} (h : DsO (base + 1) V v) (hb : base' ≤ base) : DsO base' V v := by
  obtain ⟨L, h1, h2, h3⟩ := h
  exact ⟨L, h1, h2, own_fromN h3 (by omega)⟩

/-- What the draw of a desk and deeds leaves. -/
def FinR (w : World) (d : Dk) (y v : Value) (W : World) (x p : Value) : Prop :=
  W.heap[w.heap.size]? = some (.cells #[x, p] 31 (0, 0)) ∧ DeskI W y d ∧ ∃ L : List (Int × Int), L.length ≤ 41 ∧ (∀ a ∈ L, Fits a.1 ∧ Fits a.2) ∧ W.ownsRow w.heap.size 39 2 v L.length (cellsD L) ∧ Below w.heap.size w W
end Go.Proofs.YtiaaefapbcjgmaaGreatDoor
