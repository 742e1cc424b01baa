/-
  Parts of the proofs, laid together: Cut12, Draw12e, Impl12j, Impl12k, Impl12l, Laws12v, Lines12, LinesIt12, QuietIn12, RangeD, RangeM, SameDeeds, Shaped12.
-/
import Derived.WalkKit
import Derived.Laws.Concat
import Derived.Laws.Strings2
import Derived.OrdersIn
import Derived.TacticsIn
import Derived.Test.YtiaaefapbcjgmaaGreatDoorProg
import Derived.OwnWalkIn
import Derived.Deep.RegionLaw
import Derived.RangeFuncBox
import Derived.Laws.DeepStrings4
import Derived.Laws.Cover1
import Derived.Maps.AppendAt
import Derived.WalkSpells
import Derived.RangeFuncNested
import Derived.RangeFuncBound
import Derived.RangeFuncCalls
import Derived.RangeFuncLeaves
import Derived.BigRegion
import Derived.Shelf.Abstract
import Derived.Shelf.RegionOpen
import Derived.TacticsInMore
import Derived.LoopNIn
import Derived.LoopIn
import Derived.Deep.QuietTactic
import Derived.BigQuiet
import Derived.Below
import Derived.Laws.BytesString
import Derived.Deep.RegionWith
import Derived.DeepKeys5
import Derived.Maps.Keyed
import Derived.Deep.DeepCutAuto
import Derived.Laws.AppendOwnNone
import Derived.ControlIn
import Derived.Laws.CopyOwn
import Derived.StillTailTactics
import Derived.Maps.OwnSet
import Derived.Laws.Bits64
import Derived.Laws.Bits64b
import Derived.Lib.AppendZeros
import Derived.Lib.AppendZerosOnto
import Derived.Lib.AtoiAll
import Derived.Lib.AtoiAllCases
import Derived.Lib.ItoaNum
import Derived.Lib.ItoaMem
import Derived.Lib.SplitLaws
import Derived.Lib.AppendIntMem
import Derived.WideLaws
import Derived.Lib.SlicesS
import Derived.BigCall
import Derived.Maps.Own
import Derived.Maps.OwnOps
import Derived.StringKeys
import Derived.Shelf.Strings.BuilderK
import Derived.Lib.FrozenHead
import Derived.Tactics
import Derived.Tactics2
import Derived.Defers
import Derived.Laws.Pointers
import Derived.Laws.LoneSync
import Derived.RegionTactic
import Derived.RegionCalls
import Derived.ChangeAlike
import Derived.Laws.EntriesVeiled
import Derived.Lib.IndexLaws
import Derived.Sort.BigQuietIn
import Derived.Sort.QuietTacIn
import Derived.Test.YtiaaefapbcjgmaaGreatDoorRows
import Derived.HandedShaped
import Derived.Stop.LaidErr
import Derived.Lib.LaidTab
import Derived.LaidLaws
import Derived.Test.YtiaaefapbcjgmaaGreatDoorLay12
import Derived.Test.YtiaaefapbcjgmaaGreatDoorLay6
import Derived.Test.YtiaaefapbcjgmaaGreatDoorLay12j
import Derived.Test.YtiaaefapbcjgmaaGreatDoorPb0
import Derived.Test.YtiaaefapbcjgmaaGreatDoorPb1
import Derived.Test.YtiaaefapbcjgmaaGreatDoorPb2
import Derived.Test.YtiaaefapbcjgmaaGreatDoorPb3
import Derived.Test.YtiaaefapbcjgmaaGreatDoorPb4
namespace Go.Proofs.YtiaaefapbcjgmaaGreatDoor
open Go Go.RowKit
attribute [local go_sem] Oper.semAt_some

set_option maxRecDepth 100000 in
set_option maxHeartbeats 2000000 in
theorem drawDeskRun (w : World) (a0 : Option Addr) (len0 cap0 : Nat) (zs : List Int) (h : IsRow .u8 w a0 len0 cap0 zs) : Calls Tryz.prog 12 #[.slice a0 len0 cap0] w fun e w' =>
    ∃ y d v L, e = .returned (.tuple #[y, v]) ∧ DeskI w' y d ∧ CapP y ∧ DkZ d ∧ w'.ownsRow w.heap.size 39 2 v L.length (cellsD L) ∧ L.length ≤ 41 ∧ (∀ x ∈ L, Fits x.1 ∧ Fits x.2) ∧ Below w.heap.size w w' := by
  have hB := (Below.refl _ w).alloc (Nat.le_refl _) (.cells #[.slice none 0 0, .slice none 0 0] 31)
  have k0 := World.alloc_heap_new w (.cells #[.slice none 0 0, .slice none 0 0] 31)
  have hsz0 := World.size_alloc w (.cells #[.slice none 0 0, .slice none 0 0] 31)
  obtain ⟨w1, hw1⟩ : ∃ w1, w.alloc (.cells #[.slice none 0 0, .slice none 0 0] 31) = w1 := ⟨_, rfl⟩
  rw [hw1] at hB k0 hsz0
  have hsz : w.heap.size + 1 ≤ w1.heap.size := by omega
  clear hsz0
  have ho := open_in w1 a0 len0 cap0 zs (isRow_below h hB)
  refine (callsIn_wide (n := 9)).1 ?_
  refine callsIn_of_wp Tryz.func12 rfl trivial ?_ rfl
  simp only [Tryz.ntmps12, List.size_toArray, List.length_cons, List.length_nil, Nat.reduceAdd, Nat.reduceSub, Array.replicate_succ, Array.replicate_zero, List.push_toArray, List.append_toArray, List.nil_append, List.cons_append]
  gi_wp2_with fail
  refine ⟨trivial, ?_⟩
  gi_at_call 39
  refine (callsIn_wide.2 ho).mono ?_
  rintro e w2 ⟨R, len, cap, rfl, hb, hR⟩
  gi_wp2_with fail
  refine ⟨trivial, ?_⟩
  gi_at_call 48
  refine (callsIn_wide.2 (l20Desk_in w1 R len cap 0 a0 12 (by omega) (by omega) w2 hb hR (by omega))).mono ?_
  rintro e w3 ⟨y, d, rfl, hY, hlo, hdz, p, hp, hR3, hg3⟩
  obtain ⟨x1, x2, x3, x4, rfl⟩ := hY.form
  have z23 := hg3.size
  have z12 := hR.1.size
  have hR4 := hR3.alloc (.cells #[.slice x1 d.1.length x2, .slice x3 d.2.length x4] 31)
  have hY4 := hY.below ((Below.refl _ w3).alloc (Nat.le_refl _) (.cells #[.slice x1 d.1.length x2, .slice x3 d.2.length x4] 31))
  have kb := World.alloc_heap_new w3 (.cells #[.slice x1 d.1.length x2, .slice x3 d.2.length x4] 31)
  obtain ⟨b, hbe⟩ : ∃ b, w3.heap.size = b := ⟨_, rfl⟩
  have hRb := hR3.lt
  obtain ⟨w4, hw4⟩ : ∃ w4, w3.alloc (.cells #[.slice x1 d.1.length x2, .slice x3 d.2.length x4] 31) = w4 := ⟨_, rfl⟩
  rw [hw4] at hR4 hY4 kb
  rw [hbe] at kb hRb
  gi_wp2_with fail
  (try rw [hw4])
  (try rw [hbe])
  have hd12 := hdz.1
  have hRw2 := hR.lt
  clear hR3 hY hw4 hg3 hbe ho hR hw1
  refine ⟨trivial, ?_⟩
  gi_at_call 49
  refine (callsIn_wide.2 (odd_any w1 R len cap p a0 30 w4 hb hR4 (by omega) (by omega) (by omega))).mono ?_
  rintro e w5 ⟨bo, rfl, hR5, hg5⟩
  have hY5 := hY4.rd hR4 (by omega) hg5
  have kb5 := (hg5.block b (Array.getElem?_eq_some_iff.1 kb).1 (fun e => by injection e with e; omega)).trans kb
  have hR1 := hR5.2.1
  have z15 := hR5.1.size
  have hfin := hide (fun (V : World) (v : Value) (hBV : Below w1.heap.size w1 V) (hYV : YD w2.heap.size d V (.agg #[.slice x1 d.1.length x2, .slice x3 d.2.length x4])) (hDs : DsO w1.heap.size V v) => by
    have kr := (hBV.block _ (Array.getElem?_eq_some_iff.1 k0).1).trans k0
    have g := grownBy_setAt V w.heap.size 0 (.slice x1 d.1.length x2)
    have g2 := grownBy_setAt (V.setCell ⟨w.heap.size, 0, none⟩ (.slice x1 d.1.length x2)) w.heap.size 1 (.slice x3 d.2.length x4)
    obtain ⟨L, hl1, hl2, hl3⟩ := (hDs.kept g (by omega)).kept g2 (by omega)
    exact (⟨desk_set kr (.slice x1 d.1.length x2) (.slice x3 d.2.length x4), ((hYV.set (i := 0) (s := x1) (m := d.1.length) (e := x2) kr).set (i := 1) (s := x3) (m := d.2.length) (e := x4) (set_cells kr 0 _)).deskI, L, hl1, hl2, own_fromN hl3 (by omega),
      ((hB.trans (hBV.mono hB.size)).setCell (p := ⟨w.heap.size, 0, none⟩) (Nat.le_refl _) (.slice x1 d.1.length x2)).setCell (p := ⟨w.heap.size, 1, none⟩) (Nat.le_refl _) (.slice x3 d.2.length x4)⟩ : FinR w d (.agg #[.slice x1 d.1.length x2, .slice x3 d.2.length x4]) v ((V.setCell ⟨w.heap.size, 0, none⟩ (.slice x1 d.1.length x2)).setCell ⟨w.heap.size, 1, none⟩ (.slice x3 d.2.length x4)) (.slice x1 d.1.length x2) (.slice x3 d.2.length x4)))
  have hcp := hide hY5.capN.1
  cases bo with
  | true =>
    obtain ⟨m0, m1, _, _⟩ := row_at kb5
    gi_wp2
    refine wpIn_region_storeL 2 3 (by kernel_rfl) (by kernel_rfl) (by kernel_rfl) (by decide) (by decide) (putsOf [(some 12, 0), (some 13, 1), (none, 2)] _)
      (fun Ls V => (Ls 2 = false → Below w5.heap.size w5 V) ∧ (Ls 2 = true → FinD w d (.agg #[.slice x1 d.1.length x2, .slice x3 d.2.length x4]) (.slice x1 d.1.length x2) (.slice x3 d.2.length x4) V ∧ w1.heap.size ≤ V.heap.size))
      (fun V V' => Below V.heap.size V V')
      (fun _ i v V => match i with | 0 => v = .agg #[.slice x1 d.1.length x2, .slice x3 d.2.length x4] | 1 => DsO w1.heap.size V v | _ => True)
      (puts_self _ _ (by decide)) (puts_of (by rfl) (by decide)) ⟨fun _ => (Below.refl _ _).drew, fun h => by cases h⟩
      (fun c i v V V' h hb => match i, h with | 0, h => h | 1, h => h.below hb | (_ + 2), _ => trivial) ?step4 ?mid4 ?tail4
    case step4 =>
      rintro Ls i o s V hi hip hLi hnp ho ⟨hp1, hp2⟩ hd Q' hQ'
      have hL2 : (fun j => if j = i then true else Ls j) 2 = Ls 2 := if_neg (fun e => hip e.symm)
      have hq : ∀ v V', Below V.heap.size V V' → (match i with | 0 => v = .agg #[.slice x1 d.1.length x2, .slice x3 d.2.length x4] | 1 => DsO w1.heap.size V' v | _ => True) → Q' .normal ((putsOf [(some 12, 0), (some 13, 1), (none, 2)] _ s).put o.dst v) V' := fun v V' hb hv => hQ' v V' ⟨fun h => (hp1 (hL2.symm.trans h)).trans (hb.mono (hp1 (hL2.symm.trans h)).size), fun h => ⟨(hp2 (hL2.symm.trans h)).1.below hb, Nat.le_trans (hp2 (hL2.symm.trans h)).2 hb.size⟩⟩ hb hv
      have hQh := hide hq
      clear hQ' hq
      rcases (show i = 0 ∨ i = 1 by omega) with rfl | rfl
      · have hV := hp1 (by
          cases h : Ls 2 with
          | false => rfl
          | true => exact absurd ((hnp h).symm.trans (by kernel_rfl) : false = true) (by decide))
        obtain ⟨m0, m1, _, _⟩ := row_at ((hV.block _ (Array.getElem?_eq_some_iff.1 kb5).1).trans kb5)
        simp at ho
        subst ho
        simp only [putsOf, Act.put, List.setIfInBounds_toArray, List.set_cons_succ, List.set_cons_zero]
        clear hd hp1 hp2
        gi_wp2
        have hr := hQh.out
        simp only [putsOf, Act.put, List.setIfInBounds_toArray, List.set_cons_succ, List.set_cons_zero] at hr
        exact hr _ _ (Below.refl _ _) rfl
      · have zV : w1.heap.size ≤ V.heap.size := by
          cases h : Ls 2 with
          | false => exact Nat.le_trans z15 (hp1 h).size
          | true => exact (hp2 h).2
        simp at ho
        subst ho
        simp only [putsOf, Act.put, List.setIfInBounds_toArray, List.set_cons_succ, List.set_cons_zero]
        clear hd hp1 hp2
        refine make_deeds_in V rfl _ _ rfl 41 41 41 rfl rfl rfl rfl (by omega) ?_
        intro V2 hb2 hg2
        gi_wp2
        have hr := hQh.out
        simp only [putsOf, Act.put, List.setIfInBounds_toArray, List.set_cons_succ, List.set_cons_zero] at hr
        exact hr _ _ ⟨hg2.os, hg2.tape, hg2.output, hg2.size, fun k hk => hg2.block k hk (by simp)⟩ ⟨noughts, by simp [noughts], noughts_fits, BlkAt.deeds (L := noughts) (hb2.congrK (fun i hi => noughts_at i hi)) (by omega) (by simp [noughts])⟩
    case mid4 =>
      rintro Ls o s V hL2 ho ⟨hp1, _⟩ hd Q' hQ'
      have hV := hp1 hL2
      have e1 : s 0 = .agg #[.slice x1 d.1.length x2, .slice x3 d.2.length x4] := hd 0 (by kernel_rfl)
      have hBV := hR5.1.trans (hV.mono hR5.1.size)
      have kr := (hBV.block _ (Array.getElem?_eq_some_iff.1 k0).1).trans k0
      obtain ⟨r0, r1, t0, t1⟩ := row_at kr
      have hYV := hY5.below hV
      have hF := hide (finD_of hB hBV hYV kr)
      have g := grownBy_setAt V w.heap.size 0 (.slice x1 d.1.length x2)
      have g2 := grownBy_setAt (V.setCell ⟨w.heap.size, 0, none⟩ (.slice x1 d.1.length x2)) w.heap.size 1 (.slice x3 d.2.length x4)
      have hz := hide (Nat.le_trans hBV.size (Nat.le_trans g.size g2.size))
      have hk := hide (fun v (h : DsO w1.heap.size V v) => (h.kept g (by omega)).kept g2 (by omega))
      have hQh := hide hQ'
      clear hQ' hp1 hd hYV hBV g g2 hV
      simp at ho
      subst ho
      simp only [putsOf, Act.put, List.setIfInBounds_toArray, List.set_cons_succ, List.set_cons_zero]
      simp only [e1]
      gi_wp2
      have hr := hQh.out
      simp only [putsOf, Act.put, List.setIfInBounds_toArray, List.set_cons_succ, List.set_cons_zero] at hr
      simp only [e1] at hr
      exact hr undef _ ⟨fun h => (by simp at h), fun _ => ⟨hF.out, hz.out⟩⟩ (fun k hk2 h => match k, h with | 0, h => h | 1, h => hk.out _ h | (_ + 2), _ => trivial) trivial
    case tail4 =>
      rintro Ls s V ⟨_, hp2⟩ hLs hd
      obtain ⟨hF', _⟩ := hp2 (hLs 2 (by omega))
      obtain ⟨L, hL1, hL2, hL3'⟩ : DsO w1.heap.size V (s 1) := hd 1 (by omega)
      have hL3 := hide (own_fromN hL3' (show w.heap.size ≤ w1.heap.size by omega))
      have hF := hide hF'
      clear hd hL3' hF' hp2
      simp only [putsOf, Act.put, List.setIfInBounds_toArray, List.set_cons_succ, List.set_cons_zero]
      simp only [List.drop_succ_cons, List.drop_zero]
      gi_wp2
      (try simp only [Exit.inBlock, Exit.then])
      exact bodyPost_ret (results_desk2 (p := 2) (u := 3) rfl _ _ w.heap.size _ _ rfl hF.out.1) rfl ⟨_, d, _, L, rfl, hF.out.2.1, hcp.out, hdz, hL3.out, hL1, hL2, hF.out.2.2⟩
  | false =>
    gi_wp2
    refine wpIn_region_rd w1 R len cap (p + 1) a0 200 5 [(some 14, 0), (some 15, 1), (some 16, 2), (some 17, 3), (some 18, 4)] (by omega) (by kernel_rfl) (by kernel_rfl) (by kernel_rfl) (by decide) (by decide) (by rfl) (by decide) hR5
      (fun i v V => match i with | 0 => v = .agg #[.slice x1 d.1.length x2, .slice x3 d.2.length x4] | 1 => v = .pointer (some ⟨R, 0, none⟩) | 2 => v = .pointer (some ⟨b, 0, none⟩) | 3 => v = .slice x1 d.1.length x2 | 4 => DsO (R + 1) V v ∧ DsO w1.heap.size V v | _ => True)
      (fun i v V V' h hg => match i, h with | 0, h => h | 1, h => h | 2, h => h | 3, h => h | 4, h => ⟨h.1.kept hg (by omega), dsO_low (h.1.kept hg (by omega)) hR1⟩ | (_ + 5), _ => trivial)
      ?step ?tail
    case step =>
      rintro i oo s V q hi ho hqb hRV hgV hd Q' hQ
      obtain ⟨m0, m1, _, _⟩ := row_at ((hgV.block b (Array.getElem?_eq_some_iff.1 kb5).1 (fun e => by injection e with e; omega)).trans kb5)
      have zV := hgV.size
      have zR := hRV.2.1
      rcases (show i = 0 ∨ i = 1 ∨ i = 2 ∨ i = 3 ∨ i = 4 by omega) with rfl | rfl | rfl | rfl | rfl
      all_goals
        simp at ho
        subst ho
        simp only [putsOf, Act.put, List.setIfInBounds_toArray, List.set_cons_succ, List.set_cons_zero] at hQ ⊢
        have hQ' := hide hQ
        clear hQ
      · clear hd
        gi_wp2
        have hr := hQ'.out
        exact hr _ _ q (by omega) hRV (grownBy_refl _ _) rfl
      · clear hd
        gi_wp2
        have hr := hQ'.out
        exact hr _ _ q (by omega) hRV (grownBy_refl _ _) rfl
      · clear hd
        gi_wp2
        have hr := hQ'.out
        exact hr _ _ q (by omega) hRV (grownBy_refl _ _) rfl
      · have e1 : s 2 = .pointer (some ⟨b, 0, none⟩) := hd 2 (by kernel_rfl)
        clear hd
        gi_wp2
        have hr := hQ'.out
        simp only [e1] at hr ⊢
        exact hr _ _ q (by omega) hRV (grownBy_refl _ _) rfl
      · have e1 : s 1 = .pointer (some ⟨R, 0, none⟩) := hd 1 (by kernel_rfl)
        have e2 : s 3 = .slice x1 d.1.length x2 := hd 3 (by kernel_rfl)
        have hC := l20Deeds_in w1 R len cap q a0 V hb hRV (by omega) x1 d.1.length x2 (by omega)
        clear hd
        gi_wp2_with (refine ⟨trivial, ?_⟩; gi_at_call 50; go_loud (refine (callsIn_wide.2 hC).mono ?_; rintro e W9 ⟨u9, rfl, L9, ho9, hl9, hf9, q9, hq9, hR9, hg9⟩))
        have hr := hQ'.out
        simp only [e1, e2] at hr ⊢
        exact hr _ _ q9 hq9 hR9 hg9 ⟨⟨L9, by omega, hf9, own_fromN ho9 (by have := hRV.lt; omega)⟩, ⟨L9, by omega, hf9, own_fromN ho9 (by omega)⟩⟩
    case tail =>
      rintro s V q hqb hRV hgV hd
      have e1 : s 0 = .agg #[.slice x1 d.1.length x2, .slice x3 d.2.length x4] := hd 0 (by omega)
      have e2 : DsO (R + 1) V (s 4) ∧ DsO w1.heap.size V (s 4) := hd 4 (by omega)
      clear hd
      have hBV := hRV.1
      have hF := hide (hfin.out V _ hBV (hY5.rd hR5 (by omega) hgV) e2.2)
      obtain ⟨L, hL1, hL2, hL3'⟩ := hF.out.2.2
      have hL3 := hide hL3'
      clear hL3'
      have kr := (hBV.block _ (Array.getElem?_eq_some_iff.1 k0).1).trans k0
      obtain ⟨r0, r1, t0, t1⟩ := row_at kr
      simp only [putsOf, Act.put, List.setIfInBounds_toArray, List.set_cons_succ, List.set_cons_zero]
      simp only [List.drop_succ_cons, List.drop_zero]
      simp only [e1]
      clear hfin hY5
      gi_wp2
      (try simp only [Exit.inBlock, Exit.then])
      exact bodyPost_ret (results_desk2 (p := 2) (u := 3) rfl _ _ w.heap.size _ _ rfl hF.out.1) rfl ⟨_, d, _, _, rfl, hF.out.2.1, hcp.out, hdz, hL3.out.1, hL1, hL2, hL3.out.2⟩
end Go.Proofs.YtiaaefapbcjgmaaGreatDoor
namespace Go.Proofs.YtiaaefapbcjgmaaGreatDoor
open Go Go.RowKit

/-- J abides the turn of a block of T or of U; what is new may come to U. -/
def AbidesDyn {β : Type} (T : Nat → Prop) (J : (Nat → Prop) → β → World → Prop) : Prop :=
  ∀ U U' s A B (row : Option Nat), J U s A → A.grownBy B row → (∀ r, row = some r → T r ∨ U r) → (∀ k, U' k → U k ∨ (A.heap.size ≤ k ∧ k < B.heap.size)) → J U' s B

theorem AbidesDyn.put {β : Type} {T : Nat → Prop} {J : (Nat → Prop) → β → World → Prop} (h : AbidesDyn T J) {U : Nat → Prop} {s : β} {A B : World} {row : Option Nat} (h1 : J U s A) (hg : A.grownBy B row) (hr : ∀ r, row = some r → T r ∨ U r) : J U s B := h U U s A B row h1 hg hr (fun _ hk => .inl hk)
end Go.Proofs.YtiaaefapbcjgmaaGreatDoor
namespace Go.Proofs.YtiaaefapbcjgmaaGreatDoor
open Go Go.RowKit
variable {n : Nat} {P : Program}

theorem grownBy_new {A B : World} {r : Nat} (hg : A.grownBy B (some r)) (h : A.heap.size ≤ r) : A.grownBy B none := ⟨hg.os, hg.tape, hg.output, hg.size, fun k hk _ => hg.block k hk (by intro e; cases e; omega)⟩

/-- Within an iterator that ranges over another: what is known between the inner rounds. J is the outer word, 'opre' has come before; O: the iterator's own blocks, all below D, where the inner loop begins; V1: the world then. -/
structure InnerI {α : Type} (J : (Nat → Prop) → List α → World → Prop) (opre : List α) (O : Nat → Prop) (D : Nat) (V1 : World) (U : Nat → Prop) (pre : List α) (V : World) : Prop where
  word : ∃ Uo : Nat → Prop, J Uo (opre ++ pre) V ∧ ∀ k, k < V.heap.size → (O k ∨ k = D ∨ k = D + 1 ∨ U k) → Uo k
  same : ∀ k, O k → V.heap[k]? = V1.heap[k]?
  size : D ≤ V.heap.size
  mine : ∀ k, U k → D ≤ k ∧ k < V.heap.size

theorem InnerI.abides {α : Type} {J : (Nat → Prop) → List α → World → Prop} (hJ : AbidesDyn (fun _ => False) J) {opre : List α} {O : Nat → Prop} {D : Nat} {V1 : World} (hO : ∀ k, O k → k < D) :
    AbidesDyn (fun r => r = D ∨ r = D + 1) (InnerI J opre O D V1) := by
  rintro U U' s A B row ⟨⟨Uo, h1, h2⟩, h3, h4, h5⟩ hg hr hu
  have hsz := hg.size
  have hmine : ∀ k, U' k → D ≤ k ∧ k < B.heap.size := fun k hk => by
    rcases hu k hk with h | h
    · have := h5 k h; omega
    · omega
  have hrow : ∀ r, row = some r → D ≤ r := fun r e => by
    rcases hr r e with (h | h) | h
    · omega
    · omega
    · exact (h5 r h).1
  have hcov : ∀ k, k < B.heap.size → (O k ∨ k = D ∨ k = D + 1 ∨ U' k) → (Uo k ∨ (A.heap.size ≤ k ∧ k < B.heap.size)) := fun k hk h => by
    by_cases hkA : k < A.heap.size
    · refine .inl (h2 k hkA ?_)
      rcases h with h | h | h | h
      · exact .inl h
      · exact .inr (.inl h)
      · exact .inr (.inr (.inl h))
      · rcases hu k h with h | h
        · exact .inr (.inr (.inr h))
        · omega
    · exact .inr ⟨by omega, hk⟩
  have hJB : J (fun k => Uo k ∨ (A.heap.size ≤ k ∧ k < B.heap.size)) (opre ++ s) B := by
    cases row with
    | none => exact hJ _ _ _ _ _ none h1 hg (fun _ e => by cases e) (fun k hk => hk)
    | some r =>
      by_cases hrA : r < A.heap.size
      · have hor : O r ∨ r = D ∨ r = D + 1 ∨ U r := by
          rcases hr r rfl with (h | h) | h
          · exact .inr (.inl h)
          · exact .inr (.inr (.inl h))
          · exact .inr (.inr (.inr h))
        exact hJ _ _ _ _ _ (some r) h1 hg (fun r' e => by cases e; exact .inr (h2 r hrA hor)) (fun k hk => hk)
      · exact hJ _ _ _ _ _ none h1 (grownBy_new hg (by omega)) (fun _ e => by cases e) (fun k hk => hk)
  refine ⟨⟨_, hJB, hcov⟩, fun k hk => ?_, Nat.le_trans h4 hg.size, hmine⟩
  have hkD := hO k hk
  exact (hg.block k (by omega) (fun e => by have := hrow k e.symm; omega)).trans (h3 k hk)
end Go.Proofs.YtiaaefapbcjgmaaGreatDoor
namespace Go.Proofs.YtiaaefapbcjgmaaGreatDoor
open Go Go.RowKit
variable {n : Nat} {P : Program}

/-- The contract of an iterator value: it hands out xs; it writes blocks K of its own that were there before (a captured variable). -/
def SeqMut {α : Type} (n : Nat) (P : Program) (g : Nat) (lb : Array Value) (encs : α → Array Value) (K : Nat → Prop) (xs : List α) (w : World) : Prop :=
  ∀ (l : Nat) (J Jx : (Nat → Prop) → List α → World → Prop) (W : World), Below w.heap.size w W →
    AbidesDyn K J → AbidesDyn K Jx →
    (∀ U pre x post W1, xs = pre ++ x :: post → J U pre W1 → YieldAt Fence.wide (n - 1) P l (encs x) W1 fun e W' =>
      (e = .returned (.bool true) ∧ J U (pre ++ [x]) W' ∧ KeepsSet (fun k => K k ∨ U k) W1 W') ∨ (e = .returned (.bool false) ∧ Jx U (pre ++ [x]) W' ∧ KeepsSet (fun k => K k ∨ U k) W1 W')) →
    J (fun _ => False) [] W →
    CallsIn Fence.wide n P g (#[.func (.yield l) #[] #[]] ++ lb) W fun e W' => (∃ v, e = .returned v) ∧ ((∃ U, J U xs W') ∨ (∃ U pre, pre <+: xs ∧ Jx U pre W'))

/-- THE LAW. -/
theorem wpIn_rangeFunc_mut {α : Type} {g : Operand} {ps : Array Tmp} {assign body : Code} {Q : Exit → Act → World → Prop} {a : Act} {w : World}
    {gf : Nat} {lb : Array Value} (hg : a.eval g = .func (.func gf) #[] lb) (eg : ∀ args w, (callFunc gf args).run P w = .ok (.enter gf args) w)
    {encs : α → Array Value} {K : Nat → Prop} {xs : List α}
    (hseq : SeqMut (n - 1) P gf lb encs K xs w) (hps : ∀ x, (encs x).size = ps.size)
    (hKl : ∀ k, K k → k < w.heap.size)
    (I : (Nat → Prop) → List α → World → Prop) (Ix : Code → (Nat → Prop) → List α → World → Prop)
    (hI : AbidesDyn (fun r => K r ∨ r = w.heap.size ∨ r = w.heap.size + 1) I) (hIx : ∀ c, AbidesDyn (fun r => K r ∨ r = w.heap.size ∨ r = w.heap.size + 1) (Ix c)) (h0 : I (fun _ => False) [] w) (a₁ : α → Act)
    (hassign : ∀ (l : Nat) (x : α) (W : World) (K : Act → World → Prop), K (a₁ x) W →
      assign.wpIn (Fence.wide.inRound l) (n - 1 - 1) P (Exit.then K (fun _ _ _ => False)) { tmps := (ps.zip (encs x)).foldl (fun t (p, v) => t.setIfInBounds p v) a.tmps, defers := [] } W)
    (hbody : ∀ (l : Nat) (U : Nat → Prop) (pre : List α) (x : α) (post : List α) (W : World), xs = pre ++ x :: post → w.heap.size + 1 < W.heap.size → (∀ k, U k → w.heap.size + 2 ≤ k) → I U pre W →
      body.wpIn (Fence.wide.inRound l) (n - 1 - 1) P (postMem (fun k => k = w.heap.size ∨ k = w.heap.size + 1 ∨ K k ∨ U k) (I U) (fun c => Ix c U) (pre ++ [x]) W) (a₁ x) W)
    (hdone : ∀ (U : Nat → Prop) (W : World), I U xs W → W.heap[w.heap.size]? = some (.deferred (some [])) → Q .normal { a with defers := { target := .collected w.heap.size, args := #[] } :: a.defers } W)
    (hstop : ∀ (c : Code) (U : Nat → Prop) (pre : List α) (W : World), pre <+: xs → Ix c U pre W → W.heap[w.heap.size]? = some (.deferred (some [])) → c.wpIn Fence.wide n P Q { a with defers := { target := .collected w.heap.size, args := #[] } :: a.defers } W) :
    (Code.rangeFunc g ps assign body).wpIn Fence.wide n P Q a w := by
  have hKn : ¬ K (w.heap.size + 1) := fun h => by have := hKl _ h; omega
  refine wpIn_rangeFunc ?_
  intro fn hfn
  obtain ⟨rec, hrec⟩ : ∃ rec : LoopState → Option Code → Loop, rec = fun st pe => { state := st, pending := pe, fn, tmps := a.tmps, params := ps, assign, body, defers := w.heap.size } := ⟨_, rfl⟩
  obtain ⟨W1, hW1⟩ : ∃ W1, (w.alloc (.deferred (some []))).alloc (.loop (rec .ready none)) = W1 := ⟨_, rfl⟩
  have hL1 : W1.heap[w.heap.size + 1]? = some (.loop (rec .ready none)) := by
    rw [← hW1]; have := World.alloc_heap_new (w.alloc (.deferred (some []))) (.loop (rec .ready none)); rwa [World.size_alloc] at this
  have hK1 : W1.heap[w.heap.size]? = some (.deferred (some [])) := by
    rw [← hW1]; exact (Below.heap_alloc _ _ _ (by simp)).trans (World.alloc_heap_new w _)
  have hI1 : I (fun _ => False) [] W1 := by
    rw [← hW1]
    exact hI.put (hI.put h0 (World.grownBy_alloc w _ none) (fun _ h => by cases h)) (World.grownBy_alloc _ _ none) (fun _ h => by cases h)
  have hb1 : Below w.heap.size w W1 := by
    rw [← hW1]; exact ((Below.refl _ w).alloc (Nat.le_refl _) _).alloc (by simp) _
  have hsz : W1.heap.size = w.heap.size + 2 := by rw [← hW1]; simp
  have putI : ∀ (J : (Nat → Prop) → List α → World → Prop) (U : Nat → Prop) (s : List α) (W : World) (o : Obj), AbidesDyn (fun r => K r ∨ r = w.heap.size ∨ r = w.heap.size + 1) J → J U s W → J U s (W.putObj (w.heap.size + 1) o) := fun J U s W o hJ hs =>
    hJ.put hs (grownBy_putObj' W _ o) (fun r e => by cases e; exact .inl (.inr (.inr rfl)))
  refine ⟨w.heap.size + 1, [{ target := .collected w.heap.size, args := #[] }], W1, { target := .fn (.func gf) lb, args := #[.func (.yield (w.heap.size + 1)) #[] #[]] }, W1, gf,
    #[.func (.yield (w.heap.size + 1)) #[] #[]] ++ lb, W1, ?_, ?_, ?_, ?_, fun h => by simp [Fence.wide] at h, ?_⟩
  · rw [← hW1, hrec]; exact run_enterLoop_outer _ _ _ _ _
  · simp only [resolve, hg]
    simp [go_sem]
  · intro f' _; trivial
  · simp [invoke, go_sem, eg]
  · have hkeep : ∀ {U : Nat → Prop} {A B : World} {row : Option Nat} {k : Nat} {o : Obj}, (∀ k, U k → w.heap.size + 2 ≤ k) → A.grownBy B row → (∀ r, row = some r → K r ∨ U r) → w.heap.size ≤ k → k < w.heap.size + 2 → A.heap[k]? = some o → B.heap[k]? = some o := fun hU hg hr hk0 hk ho =>
      (hg.block _ (Array.getElem?_eq_some_iff.1 ho).1 (fun e => by rcases hr _ e.symm with h | h; · have := hKl _ h; omega
                                                                   · have := hU _ h; omega)).trans ho
    have hnew : ∀ {U U' : Nat → Prop} {A B : World} {o : Obj}, (∀ k, U k → w.heap.size + 2 ≤ k) → A.heap[w.heap.size + 1]? = some o → (∀ k, U' k → U k ∨ (A.heap.size ≤ k ∧ k < B.heap.size)) → ∀ k, U' k → w.heap.size + 2 ≤ k := fun hU ho hu k hk => by
      have := (Array.getElem?_eq_some_iff.1 ho).1
      rcases hu k hk with h | h
      · exact hU k h
      · omega
    have H := hseq (w.heap.size + 1)
      (fun U pre W => I U pre W ∧ W.heap[w.heap.size + 1]? = some (.loop (rec .ready none)) ∧ W.heap[w.heap.size]? = some (.deferred (some [])) ∧ ∀ k, U k → w.heap.size + 2 ≤ k)
      (fun U pre W => ∃ c, Ix c U pre W ∧ W.heap[w.heap.size + 1]? = some (.loop (rec .done (some c))) ∧ W.heap[w.heap.size]? = some (.deferred (some [])) ∧ ∀ k, U k → w.heap.size + 2 ≤ k)
      W1 hb1
      (fun U U' s A B row hs hg' hr hu => ⟨hI U U' s A B row hs.1 hg' (fun r e => (hr r e).imp .inl id) hu, hkeep hs.2.2.2 hg' hr (by omega) (by omega) hs.2.1, hkeep hs.2.2.2 hg' hr (by omega) (by omega) hs.2.2.1, hnew hs.2.2.2 hs.2.1 hu⟩)
      (fun U U' s A B row hs hg' hr hu => by
        obtain ⟨c, hc, hl, hk, hU⟩ := hs
        exact ⟨c, hIx c U U' s A B row hc hg' (fun r e => (hr r e).imp .inl id) hu, hkeep hU hg' hr (by omega) (by omega) hl, hkeep hU hg' hr (by omega) (by omega) hk, hnew hU hl hu⟩)
    refine (H ?_ ⟨hI1, hL1, hK1, fun _ h => h.elim⟩).mono ?_
    · -- one round
      rintro U pre x post W hxs ⟨hi, hl, hk, hU⟩
      have hlt : w.heap.size + 1 < W.heap.size := (Array.getElem?_eq_some_iff.1 hl).1
      have hy := run_yield (P := P) (args := encs x) hl (by rw [hrec]; exact hps x)
      rw [hrec] at hy
      refine ⟨fn, _, assign, body, hy, roundIn_of_wpIn hfn (hassign _ x W _ ⟨_, run_beginRound hl (by rw [hrec]), ?_⟩)⟩
      have hl2 : (W.putObj (w.heap.size + 1) (.loop { rec .ready none with state := .busy })).heap[w.heap.size + 1]? = some (.loop { rec .ready none with state := .busy }) := World.putObj_heap_same hlt
      have hk2 : (W.putObj (w.heap.size + 1) (.loop { rec .ready none with state := .busy })).heap[w.heap.size]? = some (.deferred (some [])) := (World.putObj_heap_other (by omega)).trans hk
      have hnU : ¬ (K (w.heap.size + 1) ∨ U (w.heap.size + 1)) := fun h => h.elim hKn (fun h => by have := hU _ h; omega)
      have hput : ∀ (W : World) (o : Obj), KeepsSet (fun k => K k ∨ U k) W (W.putObj (w.heap.size + 1) o) := fun W o => KeepsSet.of_grownBy (grownBy_putObj' W _ o) (fun r e => by cases e; exact hnU)
      refine wpIn_mono (hbody _ U pre x post _ hxs (by simpa using hlt) hU (putI I U _ _ _ hI hi)) ?_
      have fin : ∀ (jump : Option Code) (W3 : World), KeepsSet (fun k => k = w.heap.size ∨ k = w.heap.size + 1 ∨ K k ∨ U k) (W.putObj (w.heap.size + 1) (.loop { rec .ready none with state := .busy })) W3 →
          (Instr.endRound (w.heap.size + 1) jump).run P W3 = .ok (.bool jump.isNone) (W3.putObj (w.heap.size + 1) (.loop (rec (if jump.isNone then .ready else .done) jump))) ∧
          (W3.putObj (w.heap.size + 1) (.loop (rec (if jump.isNone then .ready else .done) jump))).heap[w.heap.size + 1]? = some (.loop (rec (if jump.isNone then .ready else .done) jump)) ∧
          (W3.putObj (w.heap.size + 1) (.loop (rec (if jump.isNone then .ready else .done) jump))).heap[w.heap.size]? = some (.deferred (some [])) ∧
          KeepsSet (fun k => K k ∨ U k) W (W3.putObj (w.heap.size + 1) (.loop (rec (if jump.isNone then .ready else .done) jump))) := fun jump W3 hk3 => by
        have hl3 := (hk3.same (w.heap.size + 1) (by simpa using hlt) (.inr (.inl rfl))).trans hl2
        have hk4 := (hk3.same w.heap.size (by simp; omega) (.inl rfl)).trans hk2
        have := run_endRound (P := P) jump hl3
        rw [hrec] at this ⊢
        exact ⟨this, World.putObj_heap_same (Array.getElem?_eq_some_iff.1 hl3).1, (World.putObj_heap_other (by omega)).trans hk4, (hput _ _).trans ((hk3.mono (fun k h => .inr (.inr h))).trans (hput _ _))⟩
      rintro e a3 W3 hp
      cases e with
      | normal =>
        obtain ⟨hk3, hi3⟩ := hp
        obtain ⟨hr, hl4, hk4, hkk⟩ := fin none W3 hk3
        exact ⟨_, _, hr, .inl ⟨rfl, ⟨putI I _ _ _ _ hI hi3, hl4, hk4, hU⟩, hkk⟩⟩
      | ret =>
        obtain ⟨hk3, hi3⟩ := hp
        obtain ⟨hr, hl4, hk4, hkk⟩ := fin (some .ret) W3 hk3
        exact ⟨_, _, hr, .inr ⟨rfl, ⟨.ret, putI (Ix .ret) _ _ _ _ (hIx _) hi3, hl4, hk4, hU⟩, hkk⟩⟩
      | exit id =>
        obtain ⟨hk3, hi3⟩ := hp
        obtain ⟨hr, hl4, hk4, hkk⟩ := fin (some (.exit id)) W3 hk3
        exact ⟨_, _, hr, .inr ⟨rfl, ⟨.exit id, putI (Ix (.exit id)) _ _ _ _ (hIx _) hi3, hl4, hk4, hU⟩, hkk⟩⟩
      | goto t =>
        obtain ⟨hk3, hi3⟩ := hp
        obtain ⟨hr, hl4, hk4, hkk⟩ := fin (some (.goto t)) W3 hk3
        exact ⟨_, _, hr, .inr ⟨rfl, ⟨.goto t, putI (Ix (.goto t)) _ _ _ _ (hIx _) hi3, hl4, hk4, hU⟩, hkk⟩⟩
      | panic ch => exact hp.elim
      | outgrown => exact hp.elim
    · -- behind the iterator
      rintro e W2 ⟨⟨v, rfl⟩, (⟨U, hi, hl, hk, hU⟩ | ⟨U, pre, hpx, c, hi, hl, hk, hU⟩)⟩
      · exact ⟨none, _, by have := run_endLoop (P := P) hl (by rw [hrec]; simp); rw [hrec] at this; exact this, hdone U _ (putI I _ _ _ _ hI hi) ((World.putObj_heap_other (by omega)).trans hk)⟩
      · exact ⟨some c, _, by have := run_endLoop (P := P) hl (by rw [hrec]; simp); rw [hrec] at this; exact this, hstop c U pre _ hpx (putI (Ix c) _ _ _ _ (hIx c) hi) ((World.putObj_heap_other (by omega)).trans hk)⟩
end Go.Proofs.YtiaaefapbcjgmaaGreatDoor
namespace Go.Proofs.YtiaaefapbcjgmaaGreatDoor

/-- The lines, each with its newline; what is behind the last newline, if anything. The beginning of the first line is known. -/
def linL : List Nat → List Nat → List (List Nat)
  | line, [] => if line = [] then [] else [line]
  | line, c :: r => if c = 10 then (line ++ [10]) :: linL [] r else linL (line ++ [c]) r

/-- The deeds of lines, up to the first that is no line of a journal; and how many bytes they have. -/
def takeJ : List (List Nat) → List (Int × Int) × Nat
  | [] => ([], 0)
  | t :: r => if t.getLast? = some 10 then (match readD t.dropLast with
      | some a => (a :: (takeJ r).1, t.length + (takeJ r).2)
      | none => ([], 0)) else ([], 0)

theorem jr_lines : ∀ (s line : List Nat), (∀ c ∈ line, c ≠ 10) → jrL line s = takeJ (linL line s)
  | [], line, h => by
    rw [jrL, linL]
    by_cases e : line = []
    · rw [if_pos e]; rfl
    · rw [if_neg e, takeJ, if_neg]
      intro h2
      exact h 10 (List.mem_of_getLast? h2) rfl
  | c :: r, line, h => by
    rw [jrL, linL]
    by_cases e : c = 10
    · rw [if_pos e, if_pos e, takeJ, if_pos (by simp), List.dropLast_concat, ← jr_lines r [] (by simp)]
      cases readD line with
      | none => rfl
      | some a => simp
    · rw [if_neg e, if_neg e]
      exact jr_lines r _ (fun x hx => by
        rcases List.mem_append.1 hx with h2 | h2
        · exact h x h2
        · simp at h2; subst h2; exact e)

theorem lin_none : ∀ (s line : List Nat), (∀ c ∈ s, c ≠ 10) → linL line s = if line ++ s = [] then [] else [line ++ s]
  | [], line, _ => by rw [linL, List.append_nil]
  | c :: r, line, h => by
    rw [linL, if_neg (h c (by simp)), lin_none r _ (fun x hx => h x (by simp [hx])), List.append_assoc]
    rfl

theorem lin_hit : ∀ (s line : List Nat) (i : Nat), s[i]? = some 10 → (∀ k, k < i → s[k]? ≠ some 10) → linL line s = (line ++ s.take (i + 1)) :: linL [] (s.drop (i + 1))
  | [], line, i, h, _ => by simp at h
  | c :: r, line, 0, h, _ => by
    have hc : c = 10 := by simpa using h
    rw [linL, if_pos hc, hc]
    rfl
  | c :: r, line, i + 1, h, hk => by
    have hc : c ≠ 10 := fun e => hk 0 (by omega) (by simp [e])
    rw [linL, if_neg hc, lin_hit r (line ++ [c]) i (by simpa using h) (fun k hk2 => by simpa using hk (k + 1) (by omega)), List.append_assoc]
    rfl

theorem lin_mem : ∀ (s line : List Nat), ∀ t ∈ linL line s, t ≠ [] ∧ (∀ c ∈ t, c ∈ line ∨ c ∈ s) ∧ t.length ≤ line.length + s.length
  | [], line, t, h => by
    rw [linL] at h
    split at h
    · cases h
    · obtain rfl : t = line := by simpa using h
      exact ⟨by assumption, fun c hc => .inl hc, by simp⟩
  | c :: r, line, t, h => by
    rw [linL] at h
    split at h
    · rename_i e
      rcases List.mem_cons.1 h with rfl | h
      · refine ⟨by simp, fun x hx => ?_, by simp⟩
        rcases List.mem_append.1 hx with h2 | h2
        · exact .inl h2
        · exact .inr (by simp at h2; simp [h2, e])
      · obtain ⟨h1, h2, h3⟩ := lin_mem r [] t h
        exact ⟨h1, fun x hx => .inr (List.mem_cons_of_mem _ ((h2 x hx).resolve_left (by simp))), by simp at h3 ⊢; omega⟩
    · obtain ⟨h1, h2, h3⟩ := lin_mem r (line ++ [c]) t h
      refine ⟨h1, fun x hx => ?_, by simp at h3 ⊢; omega⟩
      rcases h2 x hx with h4 | h4
      · rcases List.mem_append.1 h4 with h5 | h5
        · exact .inl h5
        · exact .inr (by simp at h5; simp [h5])
      · exact .inr (List.mem_cons_of_mem _ h4)
end Go.Proofs.YtiaaefapbcjgmaaGreatDoor
namespace Go.Proofs.YtiaaefapbcjgmaaGreatDoor
open Go.RowKit

theorem last_cases (t : List Nat) : t = [] ∨ ∃ q c, t = q ++ [c] := by
  rcases List.eq_nil_or_concat t with h | ⟨q, c, h⟩
  · exact .inl h
  · exact .inr ⟨q, c, by simpa using h⟩

theorem has_no (t : List Nat) (ht : t = []) (w : World) : Calls Tryz.prog 122 #[.string (str t), .string ⟨#[10]⟩] w fun e w' => e = .returned (.bool false) ∧ w = w' := by
  subst ht
  have hz : (str []).size = 0 := by kernel_rfl
  generalize str [] = S at *
  go_enter Tryz.func122, Tryz.ntmps122
  go_wp2
  go_ret
  exact ⟨rfl, rfl⟩

theorem has_last (q : List Nat) (c : Nat) (hc : c < 256) (hq : q.length ≤ 2000000) (w : World) : Calls Tryz.prog 122 #[.string (str (q ++ [c])), .string ⟨#[10]⟩] w fun e w' => e = .returned (.bool (decide (c = 10))) ∧ w = w' := by
  have hz : (str (q ++ [c])).size = q.length + 1 := by rw [str_size]; simp
  have hcut : (str (q ++ [c])).extract q.length (q.length + 1) = str [c] := by
    rw [str_cut, List.drop_left' rfl, show q.length + 1 - q.length = 1 by omega]; rfl
  have hcmp : ((str [c]).toList == ([10] : List UInt8)) = decide (c = 10) := by
    rw [Bool.eq_iff_iff, beq_iff_eq, decide_eq_true_eq, str_toList]
    constructor
    · intro e
      have := str_inj (a := [c]) (b := [10]) (by simpa using hc) (by simp) e
      simpa using this
    · rintro rfl; rfl
  generalize q.length = n at *
  generalize str (q ++ [c]) = S at *
  generalize str [c] = X at *
  generalize decide (c = 10) = b at *
  have h1 : (1 : Int) ≤ (n : Int) + 1 := by omega
  have hw : wrap64 (n : Int) = n := IntWalk.wrap64_in (n : Int) (by omega)
  go_enter Tryz.func122, Tryz.ntmps122
  go_wp2
  go_ret
  exact ⟨rfl, rfl⟩

/-- The line without its newline, and whether there was one. -/
def cutN (t : List Nat) : List Nat × Bool := if t.getLast? = some 10 then (t.dropLast, true) else (t, false)

theorem cutLite_in (t : List Nat) (ht : ∀ x ∈ t, x < 256) (htn : t.length ≤ 2000000) (w : World) : Calls Tryz.prog 90 #[.string (str t), .string ⟨#[10]⟩] w fun e w' => e = .returned (.tuple #[.string (str (cutN t).1), .bool (cutN t).2]) ∧ w = w' := by
  rcases last_cases t with e | ⟨q, c, e⟩
  · have hH := fun V => has_no t e V
    have hn : cutN t = (t, false) := by subst e; rfl
    rw [hn]
    generalize str t = S at *
    clear ht hn e
    go_enter Tryz.func90, Tryz.ntmps90
    go_wp2_with (go_at_call 122; refine (hH _).mono ?_; clear hH; rintro e w' ⟨rfl, rfl⟩)
    go_ret2
    exact ⟨rfl, rfl⟩
  · subst e
    have hc : c < 256 := ht c (by simp)
    have hqn : q.length ≤ 2000000 := by rw [List.length_append] at htn; omega
    have hH := fun V => has_last q c hc hqn V
    have hz : (str (q ++ [c])).size = q.length + 1 := by rw [str_size]; simp
    by_cases h10 : c = 10
    · have hn : cutN (q ++ [c]) = (q, true) := by unfold cutN; rw [if_pos (by simp [h10]), List.dropLast_concat]
      have hcut : (str (q ++ [c])).extract 0 q.length = str q := by rw [str_cut]; simp
      rw [decide_eq_true h10] at hH
      rw [hn]
      obtain ⟨n, hq⟩ : ∃ n, q.length = n := ⟨_, rfl⟩
      rw [hq] at hz hcut
      obtain ⟨X, hX⟩ : ∃ X, str q = X := ⟨_, rfl⟩
      obtain ⟨S, hS⟩ : ∃ S, str (q ++ [c]) = S := ⟨_, rfl⟩
      rw [hS] at hH hz hcut ⊢
      simp only
      rw [hX] at hcut ⊢
      have hw : wrap64 (n : Int) = n := IntWalk.wrap64_in (n : Int) (by omega)
      clear hn hS hX hq h10 hc ht
      go_enter Tryz.func90, Tryz.ntmps90
      go_wp2_with (go_at_call 122; refine (hH _).mono ?_; clear hH; rintro e w' ⟨rfl, rfl⟩)
      go_ret2
      exact ⟨rfl, rfl⟩
    · have hn : cutN (q ++ [c]) = (q ++ [c], false) := by unfold cutN; rw [if_neg (by simpa using h10)]
      rw [decide_eq_false h10] at hH
      rw [hn]
      generalize str (q ++ [c]) = S at *
      clear hn h10 hc ht hz
      go_enter Tryz.func90, Tryz.ntmps90
      go_wp2_with (go_at_call 122; refine (hH _).mono ?_; clear hH; rintro e w' ⟨rfl, rfl⟩)
      go_ret2
      exact ⟨rfl, rfl⟩

theorem cutSuffix_in (t : List Nat) (ht : ∀ x ∈ t, x < 256) (htn : t.length ≤ 2000000) (w : World) : Calls Tryz.prog 45 #[.string (str t), .string ⟨#[10]⟩] w fun e w' => e = .returned (.tuple #[.string (str (cutN t).1), .bool (cutN t).2]) ∧ w = w' := by
  have hL := fun V => cutLite_in t ht htn V
  generalize str t = S at *
  generalize str (cutN t).1 = X at *
  generalize (cutN t).2 = b at *
  clear ht
  go_enter Tryz.func45, Tryz.ntmps45
  go_wp2_with (go_at_call 90; refine (hL _).mono ?_; clear hL; rintro e w' ⟨rfl, rfl⟩)
  go_ret2
  exact ⟨rfl, rfl⟩

/-- Where the first newline is: there is none, or it is at i. -/
theorem newline_in (s : List Nat) (hs : ∀ x ∈ s, x < 256) (w : World) : Calls Tryz.prog 89 #[.string (str s), .int .u8 10] w fun e w' => ((e = .returned (.int .i64 (-1)) ∧ ∀ c ∈ s, c ≠ 10) ∨ ∃ i : Nat, e = .returned (.int .i64 i) ∧ s[i]? = some 10 ∧ ∀ k, k < i → s[k]? ≠ some 10) ∧ w = w' := by
  refine (Any.strings_IndexByte { Tryz.indexByteA with } (str s) 10 w).mono ?_
  rintro e w' ⟨rfl, rfl⟩
  refine ⟨?_, rfl⟩
  have hat : ∀ k : Nat, ((str s).data.toList)[k]? = some (10 : UInt8) ↔ s[k]? = some 10 := fun k => by
    rw [show (str s).data.toList = s.map UInt8.ofNat from rfl, List.getElem?_map]
    cases h : s[k]? with
    | none => simp
    | some c =>
      have hc := hs c (List.mem_of_getElem? h)
      simp only [Option.map_some, Option.some.injEq]
      constructor
      · intro e
        have := congrArg UInt8.toNat e
        simp at this
        omega
      · rintro rfl; rfl
  have hge := Lib.indexByte_ge (str s).data.toList 10
  show (Ending.returned (.int .i64 (Lib.indexByte (str s).data.toList 10)) = _ ∧ _) ∨ ∃ i : Nat, Ending.returned (.int .i64 (Lib.indexByte (str s).data.toList 10)) = _ ∧ _
  by_cases h : Lib.indexByte (str s).data.toList 10 = -1
  · refine .inl ⟨by rw [h], fun c hc e => ?_⟩
    obtain ⟨k, hk⟩ := List.mem_iff_getElem?.1 hc
    exact Lib.indexByte_none h k ((hat k).2 (by rw [hk, e]))
  · obtain ⟨i, hi⟩ : ∃ i : Nat, Lib.indexByte (str s).data.toList 10 = i := ⟨(Lib.indexByte (str s).data.toList 10).toNat, by omega⟩
    obtain ⟨h1, h2⟩ := Lib.indexByte_some hi
    exact .inr ⟨i, by rw [hi], (hat i).1 h1, fun k hk e => h2 k hk ((hat k).2 e)⟩
end Go.Proofs.YtiaaefapbcjgmaaGreatDoor
namespace Go.Proofs.YtiaaefapbcjgmaaGreatDoor
open Go Go.RowKit
attribute [local go_sem] Oper.semAt_some

theorem grownBy_setAtL (W : World) (b i : Nat) (v : Value) : W.grownBy (W.setCell ⟨b, i, none⟩ v) (some b) :=
  ⟨rfl, rfl, rfl, (KeepsWalks.setCell W _ v).size, fun k _ hk => Below.heap_setCell _ _ _ k (fun e => hk (by rw [e]))⟩

theorem boxed_setL {W : World} {B : Nat} {t : TypeId} {v : Value} (h : Boxed W B t v) (u : Value) : Boxed (W.setCell ⟨B, 0, none⟩ u) B t u := by
  have h' : W.heap[B]? = some (.cells #[v] t (0, 0)) := h
  obtain ⟨hlt, hk⟩ := Array.getElem?_eq_some_iff.1 h'
  show (W.heap.modify B _)[B]? = _
  rw [Array.getElem?_eq_getElem (by rw [Array.size_modify]; exact hlt), Array.getElem_modify_self, hk]; rfl

theorem below_grownL {W V : World} (h : Below W.heap.size W V) : W.grownBy V none := ⟨h.os, h.tape, h.output, h.size, fun k hk _ => h.block k hk⟩

/-- How long the text in a cell is. -/
def leftL (W : World) (B : Nat) : Nat := match W.cell? ⟨B, 0, none⟩ with | some (.string S) => S.size | _ => 0

set_option maxRecDepth 100000 in
set_option maxHeartbeats 2000000 in
theorem lines_stops (s0 : List Nat) (hs0 : ∀ x ∈ s0, x < 256) (hn0 : s0.length ≤ 1100000) (n : Nat) (Bs : Nat) (w : World) (hBs : Boxed w Bs 9 (txt s0)) :
    SeqMut n Tryz.prog 88 #[.pointer (some ⟨Bs, 0, none⟩)] (fun x => #[txt x]) (fun k => k = Bs) (linL [] s0) w := by
  intro l J Jx W hW hJ hJx hY h0
  have hb0 := boxed_below hBs hW
  clear hBs hW
  obtain ⟨XS, hXS⟩ : ∃ XS, linL [] s0 = XS := ⟨_, rfl⟩
  rw [hXS] at hY ⊢
  refine callsIn_of_wp_marks Tryz.func88 rfl trivial ?_ rfl
  simp only [Tryz.ntmps88, List.size_toArray, List.length_cons, List.length_nil, Nat.reduceAdd, Nat.reduceSub, Array.replicate_succ, Array.replicate_zero, List.push_toArray, List.append_toArray, List.nil_append, List.cons_append]
  gi_wp2
  gi_loopw [3] (fun _ wr => ∃ (r : List Nat) (pre : List (List Nat)), (∀ x ∈ r, x < 256) ∧ r.length ≤ 1100000 ∧ XS = pre ++ linL [] r ∧ J (fun _ => False) pre wr ∧ Boxed wr Bs 9 (txt r)) (fun _ wr => leftL wr Bs)
  case atStart => exact ⟨s0, [], hs0, hn0, by rw [hXS]; rfl, h0, hb0⟩
  case round =>
    clear h0 hb0 hs0 hn0 hXS
    obtain ⟨r, pre, hr, hrn, hXS, hJr, hb⟩ := hrel
    have hcell := hb.cell
    have hsz := str_size r
    have hnl := fun V => newline_in r hr V
    by_cases hr0 : r.length = 0
    · obtain rfl := List.length_eq_zero_iff.1 hr0
      have hx := hide (show XS = pre by rw [hXS]; simp [linL])
      have hz : (str []).size = 0 := by kernel_rfl
      unfold txt at hcell
      generalize str [] = S at *
      clear hXS hnl hrn hr0
      gi_wp2
      exact ⟨_, results_none rfl _ _ _, ⟨_, rfl⟩, .inl ⟨_, by rw [hx.out]; exact hJr⟩⟩
    · have hcell0 := hcell
      have hpos : (0 : Int) < (r.length : Int) := by omega
      obtain ⟨S, hS⟩ : ∃ S, str r = S := ⟨_, rfl⟩
      have hbS : Boxed wr Bs 9 (.string S) := by rw [← hS]; exact hb
      unfold txt at hcell hcell0
      rw [hS] at hcell hsz hnl hcell0
      gi_wp2_with fail
      refine ⟨trivial, ?_⟩
      refine ⟨fun h => by simp [Fence.wide] at h, ?_⟩
      gi_at_call 89
      refine (callsIn_wide.2 (hnl _)).mono ?_
      clear hnl
      rintro e w3 ⟨hcase, rfl⟩
      rcases hcase with ⟨rfl, hno⟩ | ⟨i, rfl, hi1, hi2⟩
      · have hne : r ≠ [] := fun e => hr0 (by rw [e]; rfl)
        have hXS1 : XS = pre ++ r :: linL [] [] := by
          rw [hXS, lin_none r [] hno, if_neg (by simpa using hne)]
          simp [linL]
        have g1 := grownBy_setAtL wr Bs 0 (.string ⟨#[]⟩)
        have hb1 : Boxed (wr.setCell ⟨Bs, 0, none⟩ (.string ⟨#[]⟩)) Bs 9 (txt []) := boxed_setL hbS _
        have hJ1 : J (fun _ => False) pre (wr.setCell ⟨Bs, 0, none⟩ (.string ⟨#[]⟩)) := hJ.put hJr g1 (fun r e => by cases e; exact .inl rfl)
        have hfz := hbS.frozen
        obtain ⟨W1, hW1⟩ : ∃ W1, wr.setCell ⟨Bs, 0, none⟩ (.string ⟨#[]⟩) = W1 := ⟨_, rfl⟩
        rw [hW1] at hb1 hJ1
        clear g1 hXS
        obtain ⟨fn, tmps, assign, body, hy, hR⟩ := hY _ pre r (linL [] []) _ hXS1 hJ1
        simp only [txt, hS] at hy
        gi_wp2
        refine ⟨fun h => by simp [Fence.wide] at h, ?_⟩
        refine hR.mono ?_
        rintro e W3 (⟨rfl, hJ3, hk3⟩ | ⟨rfl, hJx3, hk3⟩)
        · have hb4 : Boxed W3 Bs 9 (txt []) := (hk3.same Bs hb1.lt (.inl rfl)).trans hb1
          have hm4 := hb4.cell
          gi_wp2
          go_roundw
          case rel => exact ⟨[], pre ++ [r], (by simp), (by simp), by rw [hXS1]; simp, hJ3, hb4⟩
          case measure => unfold leftL; rw [hm4, hcell0]; simp only [txt]; show (str []).size < _; rw [str_size, List.length_nil]; omega
        · gi_wp2
          exact ⟨_, results_none rfl _ _ _, ⟨_, rfl⟩, .inr ⟨_, _, ⟨linL [] [], by rw [hXS1]; simp⟩, hJx3⟩⟩
      · have hil : i < r.length := by
          rcases Nat.lt_or_ge i r.length with h | h
          · exact h
          · rw [List.getElem?_eq_none h] at hi1; cases hi1
        have hXe : S.extract 0 (i + 1) = str (r.take (i + 1)) := by rw [← hS, str_cut]; simp
        have hYe : S.extract (i + 1) S.size = str (r.drop (i + 1)) := by
          rw [← hS, str_cut, str_size, List.take_of_length_le (by simp)]
        have hXS1 : XS = pre ++ r.take (i + 1) :: linL [] (r.drop (i + 1)) := by
          rw [hXS, lin_hit r [] i hi1 hi2]
          rfl
        obtain ⟨x1, hx1⟩ : ∃ x1, r.take (i + 1) = x1 := ⟨_, rfl⟩
        obtain ⟨r2, hr2e⟩ : ∃ r2, r.drop (i + 1) = r2 := ⟨_, rfl⟩
        have hr2 : ∀ x ∈ r2, x < 256 := fun x hx => hr x (List.mem_of_mem_drop (hr2e ▸ hx))
        have hr2n : r2.length < r.length := by rw [← hr2e, List.length_drop]; omega
        rw [hx1] at hXe hXS1
        rw [hr2e] at hYe hXS1
        obtain ⟨X, hX⟩ : ∃ X, str x1 = X := ⟨_, rfl⟩
        obtain ⟨Y, hYY⟩ : ∃ Y, str r2 = Y := ⟨_, rfl⟩
        rw [hX] at hXe
        rw [hYY] at hYe
        have hb3 := hbS
        have hii : (i : Int) + 1 ≤ (r.length : Int) := by omega
        rw [hsz] at hYe
        clear hi1 hi2 hx1 hr2e hXS hcell hS hb hr
        gi_wp2_with fail
        refine wpIn_region_put 9 [(some 12, 0), (some 13, 1), (some 14, 2), (some 15, 3), (some 16, 4), (some 17, 5), (some 18, 6), (some 19, 7), (some 3, 8)] (by kernel_rfl) (by kernel_rfl) (by kernel_rfl) (by decide) (by rfl) (by decide)
          (fun j v _ => match j with | 0 => v = .string S | 1 => v = .int .i64 i | 2 => v = .int .i64 ((i : Int) + 1) | 3 => v = .string X | 4 => v = .string S | 5 => v = .int .i64 i | 6 => v = .int .i64 ((i : Int) + 1) | 7 => v = .string Y | 8 => v = .string X | _ => True)
          (fun j v V V' h _ => match j, h with | 0, h => h | 1, h => h | 2, h => h | 3, h => h | 4, h => h | 5, h => h | 6, h => h | 7, h => h | 8, h => h | (_ + 9), _ => trivial)
          ?step ?tail
        case step =>
          rintro j oo s V hj ho hBV hd Q' hQ
          rcases (show j = 0 ∨ j = 1 ∨ j = 2 ∨ j = 3 ∨ j = 4 ∨ j = 5 ∨ j = 6 ∨ j = 7 ∨ j = 8 by omega) with rfl | rfl | rfl | rfl | rfl | rfl | rfl | rfl | rfl
          all_goals
            simp at ho
            subst ho
            simp only [putsOf, Act.put, List.setIfInBounds_toArray, List.set_cons_succ, List.set_cons_zero] at hQ ⊢
            have hQ' := hide hQ
            clear hQ
          · clear hd
            have hcV := (boxed_below hb3 hBV).cell
            gi_wp2
            exact hQ'.out _ _ (Below.refl _ _) rfl
          · clear hd
            gi_wp2
            exact hQ'.out _ _ (Below.refl _ _) rfl
          · have e1 : s 1 = .int .i64 i := hd 1 (by kernel_rfl)
            clear hd
            have hw : IntKind.i64.wrap ((i : Int) + 1) = (i : Int) + 1 := IntWalk.i64_in _ (by omega)
            gi_wp2
            have hr := hQ'.out
            simp only [e1] at hr ⊢
            exact hr _ _ (Below.refl _ _) rfl
          · have e1 : s 0 = .string S := hd 0 (by kernel_rfl)
            have e2 : s 2 = .int .i64 ((i : Int) + 1) := hd 2 (by kernel_rfl)
            clear hd
            gi_wp2
            have hr := hQ'.out
            simp only [e1, e2] at hr ⊢
            exact hr _ _ (Below.refl _ _) rfl
          · clear hd
            have hcV := (boxed_below hb3 hBV).cell
            gi_wp2
            exact hQ'.out _ _ (Below.refl _ _) rfl
          · clear hd
            gi_wp2
            exact hQ'.out _ _ (Below.refl _ _) rfl
          · have e1 : s 5 = .int .i64 i := hd 5 (by kernel_rfl)
            clear hd
            have hw : IntKind.i64.wrap ((i : Int) + 1) = (i : Int) + 1 := IntWalk.i64_in _ (by omega)
            gi_wp2
            have hr := hQ'.out
            simp only [e1] at hr ⊢
            exact hr _ _ (Below.refl _ _) rfl
          · have e1 : s 4 = .string S := hd 4 (by kernel_rfl)
            have e2 : s 6 = .int .i64 ((i : Int) + 1) := hd 6 (by kernel_rfl)
            clear hd
            gi_wp2
            have hr := hQ'.out
            simp only [e1, e2] at hr ⊢
            exact hr _ _ (Below.refl _ _) rfl
          · have e1 : s 3 = .string X := hd 3 (by kernel_rfl)
            clear hd
            gi_wp2
            have hr := hQ'.out
            simp only [e1] at hr ⊢
            exact hr _ _ (Below.refl _ _) rfl

        case tail =>
          rintro s V hBV hd
          have f7 : s 7 = .string Y := hd 7 (by omega)
          have f8 : s 8 = .string X := hd 8 (by omega)
          clear hd
          have hbV := boxed_below hb3 hBV
          have hfz := hbV.frozen
          have hcV := hbV.cell
          have g1 := grownBy_setAtL V Bs 0 (.string Y)
          have hb1 : Boxed (V.setCell ⟨Bs, 0, none⟩ (.string Y)) Bs 9 (txt r2) := by unfold txt; rw [hYY]; exact boxed_setL hbV _
          have hJV : J (fun _ => False) pre V := hJ.put hJr (below_grownL hBV) (fun r e => by cases e)
          have hJ1 : J (fun _ => False) pre (V.setCell ⟨Bs, 0, none⟩ (.string Y)) := hJ.put hJV g1 (fun r e => by cases e; exact .inl rfl)
          obtain ⟨W1, hW1⟩ : ∃ W1, V.setCell ⟨Bs, 0, none⟩ (.string Y) = W1 := ⟨_, rfl⟩
          rw [hW1] at hb1 hJ1
          clear g1 hJV
          simp only [putsOf, Act.put, List.setIfInBounds_toArray, List.set_cons_succ, List.set_cons_zero]
          simp only [List.drop_succ_cons, List.drop_zero]
          simp only [f7, f8]
          obtain ⟨fn, tmps, assign, body, hy, hR⟩ := hY _ pre x1 (linL [] r2) _ hXS1 hJ1
          simp only [txt, hX] at hy
          gi_wp2
          refine ⟨fun h => by simp [Fence.wide] at h, ?_⟩
          refine hR.mono ?_
          rintro e W3 (⟨rfl, hJ3, hk3⟩ | ⟨rfl, hJx3, hk3⟩)
          · have hb4 : Boxed W3 Bs 9 (txt r2) := (hk3.same Bs hb1.lt (.inl rfl)).trans hb1
            have hm4 := hb4.cell
            gi_wp2
            go_roundw
            case rel => exact ⟨r2, pre ++ [x1], hr2, (by omega), by rw [hXS1]; simp, hJ3, hb4⟩
            case measure => unfold leftL; rw [hm4, hcell0]; simp only [txt]; show (str r2).size < S.size; rw [str_size]; omega
          · gi_wp2
            exact ⟨_, results_none rfl _ _ _, ⟨_, rfl⟩, .inr ⟨_, _, ⟨linL [] r2, by rw [hXS1]; simp⟩, hJx3⟩⟩
end Go.Proofs.YtiaaefapbcjgmaaGreatDoor
namespace Go.Proofs.YtiaaefapbcjgmaaGreatDoor
open Go Go.RowKit
attribute [local go_sem] Oper.semAt_some

theorem linesOf_in (S : ByteArray) (w : World) : Calls Tryz.prog 44 #[.string S] w fun e w' => e = .returned (.func (.func 88) #[] #[.pointer (some ⟨w.heap.size, 0, none⟩)]) ∧ w' = w.alloc (.cells #[.string S] 9) := by
  go_enter Tryz.func44, Tryz.ntmps44
  go_wp2
  go_ret
  exact ⟨rfl, rfl⟩

/-- What is known between the lines: the list and its length so far lie in their blocks; U: the iterator's own blocks. -/
structure RJ (w : World) (U : Nat → Prop) (u : Value) (L : List (Int × Int)) (m : Nat) (V : World) : Prop where
  bl : Boxed V w.heap.size 24 u
  bn : Boxed V (w.heap.size + 1) 3 (.int .i64 m)
  own : V.ownsRow w.heap.size 39 2 u L.length (cellsD L)
  far : ∀ k, u.ownBlock = some k → w.heap.size + 5 ≤ k ∧ ¬ U k
  low : ∀ k, U k → w.heap.size + 3 ≤ k ∧ k < V.heap.size
  size : w.heap.size + 3 ≤ V.heap.size
  below : Below w.heap.size w V

theorem RJ.abides {w : World} {U U' : Nat → Prop} {u : Value} {L : List (Int × Int)} {m : Nat} {A B : World} {row : Option Nat} (h : RJ w U u L m A) (hg : A.grownBy B row)
    (hr : ∀ r, row = some r → (r = w.heap.size + 2 ∨ r = w.heap.size + 3 ∨ r = w.heap.size + 4) ∨ U r) (hu : ∀ k, U' k → U k ∨ (A.heap.size ≤ k ∧ k < B.heap.size)) : RJ w U' u L m B := by
  have hsz := hg.size
  have h6 := h.size
  have hrow : ∀ r, row = some r → w.heap.size + 2 ≤ r := fun r e => by
    rcases hr r e with h1 | h1
    · omega
    · have := (h.low r h1).1; omega
  refine ⟨h.bl.kept hg (fun e => by have := hrow _ e.symm; omega), h.bn.kept hg (fun e => by have := hrow _ e.symm; omega), h.own.kept hg ?_, fun k hk => ?_, fun k hk => ?_, by omega, h.below.grown hg h.below.size (fun k e => by have := hrow _ e; omega)⟩
  · cases hk : u.ownBlock with
    | none => exact .inl rfl
    | some k =>
      refine .inr fun e => ?_
      obtain ⟨h1, h2⟩ := h.far k hk
      rcases hr k e.symm with h3 | h3
      · omega
      · exact h2 h3
  · obtain ⟨h1, h2⟩ := h.far k hk
    have h3 := (h.own.lt k hk).2
    refine ⟨h1, fun h4 => ?_⟩
    rcases hu k h4 with h5 | h5
    · exact h2 h5
    · omega
  · rcases hu k hk with h5 | h5
    · have := h.low k h5; omega
    · omega
end Go.Proofs.YtiaaefapbcjgmaaGreatDoor
namespace Go.Proofs.YtiaaefapbcjgmaaGreatDoor
open Go Go.RowKit
attribute [local go_sem] Oper.semAt_some

theorem append_deed_in {F : Fence} {n : Nat} {ops : Array Oper} {rest : List Oper} {o : Oper} {a : Act} {Q : Exit → Act → World → Prop} {w : World} {x : Int × Int} (hgd : o.guard = none) (s y : Operand)
    (ho : o.op = .call { callee := .builtin .append, args := #[s, y], argTypes := #[24, 24] })
    (base : Nat) (v : Value) (L : List (Int × Int)) (hs : a.eval s = v) (hown : w.ownsRow base 39 2 v L.length (cellsD L)) (B : Nat) (hBw : w.heap.size = B) (hx : a.eval y = .slice (some ⟨B, 0, none⟩) 1 1)
    (hn : L.length ≤ 4000000) (hbase : base ≤ w.heap.size)
    (h : ∀ v' w', w'.ownsRow base 39 2 v' (L ++ [x]).length (cellsD (L ++ [x])) → (w.alloc (.cells #[.int .i64 x.1, .int .i64 x.2] 39)).grownBy w' v.ownBlock → (v'.ownBlock = v.ownBlock ∨ v'.ownBlock = some (w.heap.size + 1)) → wpListIn F n Tryz.prog ops Q rest (a.put o.dst v') w') :
    wpListIn F n Tryz.prog ops Q (o :: rest) a (w.alloc (.cells #[.int .i64 x.1, .int .i64 x.2] 39)) := by
  subst hBw
  obtain ⟨i0, hi, hz0, hz1, hz2⟩ := info_any Tryz.infoDeed
  refine wpListIn_plain hgd fun K hK => ?_
  have hnew := World.alloc_heap_new w (.cells #[.int .i64 x.1, .int .i64 x.2] 39)
  obtain ⟨v', w', hr, h2, h3, _, h5⟩ := run_append_own_at (P := Tryz.prog) (w.alloc (.cells #[.int .i64 x.1, .int .i64 x.2] 39)) base 24 o.type 39 i0 (.agg #[.int .i64 0, .int .i64 0]) 2 16 Tryz.underlying24 hi hz0 hz1 hz2 rfl (by decide) v L.length (cellsD L) (hown.alloc _) ⟨w.heap.size, 0, none⟩ 1 1 (cellsD [x]) rfl (fun j u hj => by
    have hadd : (⟨w.heap.size, 0, none⟩ : Addr).add j = ⟨w.heap.size, j, none⟩ := by unfold Addr.add; split <;> simp_all
    rw [hadd, cell_of_row _ _ j _ _ _ hnew]
    simpa [cellsD] using hj) (cellsD_one [x]) (by unfold maxLen; omega) (by omega) (by rw [World.size_alloc]; omega)
  unfold Oper.wpIn
  refine ⟨by simp [Oper.about, ho, resolve, Target.leads, Sem.run_pure], ?_⟩
  rw [Oper.semAt_plain F _ _ (by rw [ho]; intro c hc'; cases hc')]
  simp only [execOp, ho, resolve, invoke, builtin, Sem.run_bind, Sem.run_pure, Result.andThen_ok, List.map_toArray, List.map_cons, List.map_nil, hs, hx, hr]
  refine hK _ _ (h v' w' ?_ h3 (by rwa [World.size_alloc] at h5))
  rw [cellsD_app, List.length_append]
  exact h2

theorem jr_countJ : ∀ (s line : List Nat), (jrL line s).1.length ≤ s.length
  | [], _ => by simp [jrL]
  | c :: s, line => by
    by_cases e : c = 10
    · subst e
      cases hr : readD line with
      | none => rw [jrL_none hr]; simp
      | some a =>
        rw [jrL_deed hr]
        have := jr_countJ s []
        simpa using this
    · rw [jrL_other e]
      have := jr_countJ s (line ++ [c])
      simp; omega

set_option maxRecDepth 100000 in
set_option maxHeartbeats 2000000 in
theorem implReadJournal (l : List Nat) (hl : ∀ x ∈ l, x < 256) (hn : l.length ≤ 1100000) (w : World) (hE : Env w) : Calls Tryz.prog 9 #[.string (str l)] w fun e w' =>
    ∃ u, e = .returned (.tuple #[u, .int .i64 ((jrT l).2 : Nat)]) ∧ w'.ownsRow w.heap.size 39 2 u (jrT l).1.length (cellsD (jrT l).1) ∧ Below w.heap.size w w' := by
  have hjr : jrT l = takeJ (linL [] l) := jr_lines l [] (by simp)
  refine (callsIn_wide (n := 9)).1 ?_
  refine callsIn_of_wp_marks Tryz.func9 rfl trivial ?_ rfl
  simp only [Tryz.ntmps9, List.size_toArray, List.length_cons, List.length_nil, Nat.reduceAdd, Nat.reduceSub, Array.replicate_succ, Array.replicate_zero, List.push_toArray, List.append_toArray, List.nil_append, List.cons_append]
  have hLn := fun V => linesOf_in (str l) V
  have hIt := fun V B (h : Boxed V B 9 (txt l)) => lines_stops l hl hn (9 - 1) B V h
  obtain ⟨w2, hw2⟩ : ∃ w2, ((w.alloc (.cells #[.slice none 0 0] 24)).alloc (.cells #[.int .i64 0] 3)).alloc (.cells #[.string (str l)] 9) = w2 := ⟨_, rfl⟩
  have z2 : w2.heap.size = w.heap.size + 3 := by rw [← hw2]; simp
  have b0 : Boxed w2 w.heap.size 24 (.slice none 0 0) := by rw [← hw2]; exact ((Boxed.new w _ _).alloc _).alloc _
  have b1 : Boxed w2 (w.heap.size + 1) 3 (.int .i64 0) := by rw [← hw2]; exact (by have := Boxed.new (w.alloc (.cells #[.slice none 0 0] 24)) 3 (.int .i64 0); rw [World.size_alloc] at this; exact this.alloc _)
  have b2 : Boxed w2 (w.heap.size + 2) 9 (txt l) := by rw [← hw2]; exact (by have := Boxed.new ((w.alloc (.cells #[.slice none 0 0] 24)).alloc (.cells #[.int .i64 0] 3)) 9 (.string (str l)); simp only [World.size_alloc] at this; exact this)
  have hB2 : Below w.heap.size w w2 := by rw [← hw2]; exact (((Below.refl _ w).alloc (Nat.le_refl _) _).alloc (by simp) _).alloc (by simp; omega) _
  have hE2 := hE.below hB2
  have hrj : RJ w (fun _ => False) (.slice none 0 0) [] 0 w2 := ⟨b0, b1, World.ownsRow_nil _ _ _ _, fun k e => (by cases e), fun _ h => h.elim, by omega, hB2⟩
  have hIt2 := hIt w2 (w.heap.size + 2) b2
  obtain ⟨S, hS⟩ : ∃ S, str l = S := ⟨_, rfl⟩
  obtain ⟨XS, hXS⟩ : ∃ XS, linL [] l = XS := ⟨_, rfl⟩
  rw [hS] at hLn hw2 ⊢
  rw [hXS] at hIt2 hjr
  rw [hjr]
  clear hIt b0 b1 b2 hB2
  gi_wp2_with fail
  refine ⟨trivial, ?_⟩
  gi_at_call 44
  refine (callsIn_wide.2 (hLn _)).mono ?_
  rintro e w3 ⟨rfl, hw3⟩
  rw [hw2] at hw3
  subst hw3
  gi_wp2_with fail
  refine wpIn_rangeFunc_mut (gf := 88) (lb := #[.pointer (some ⟨w.heap.size + 2, 0, none⟩)]) rfl (enters_of Tryz.func88 (by kernel_rfl) rfl) hIt2 (fun _ => rfl) (fun k hk => by omega)
    (fun U pre V => ∃ u L m, RJ w U u L m V ∧ ∀ rest, XS = pre ++ rest → takeJ XS = (L ++ (takeJ rest).1, m + (takeJ rest).2))
    (fun c U pre V => c = .exit 0 ∧ ∃ u L m, RJ w U u L m V ∧ takeJ XS = (L, m))
    (fun U U' s A B row hs hg hr hu => by
      obtain ⟨u, L, m, h1, h2⟩ := hs
      exact ⟨u, L, m, h1.abides hg (fun r e => by rcases hr r e with (h | h | h) | h <;> first | exact .inr h | (left; omega)) hu, h2⟩)
    (fun c U U' s A B row hs hg hr hu => by
      obtain ⟨h0, u, L, m, h1, h2⟩ := hs
      exact ⟨h0, u, L, m, h1.abides hg (fun r e => by rcases hr r e with (h | h | h) | h <;> first | exact .inr h | (left; omega)) hu, h2⟩)
    ⟨_, [], 0, hrj, fun rest h => by rw [show XS = rest from h]; simp⟩
    (fun x => { tmps := #[.string S, undef, .slice none 0 0, .int .i64 0, .pointer (some ⟨w.heap.size, 0, none⟩), .pointer (some ⟨w.heap.size + 1, 0, none⟩), txt x, undef, undef, undef, undef, .string S,
      .func (.func 88) #[] #[.pointer (some ⟨w.heap.size + 2, 0, none⟩)], txt x, undef, undef, undef, undef, undef, undef, undef, undef, undef, undef, undef, undef, undef, undef, undef, undef, undef, undef, undef, undef, undef, undef, undef, undef, undef, undef], defers := [] }) ?assign ?body ?done ?stop
  case assign =>
    intro l' x V Q hQ
    gi_wp2
    exact hQ
  case body =>
    rintro l' U pre x post V hxs hlt hU ⟨u, L, m, hRJ, hT⟩
    have hTx := hT (x :: post) hxs
    obtain ⟨hx0, hx1, hx2⟩ := lin_mem l [] x (by rw [hXS, hxs]; simp)
    have hxb : ∀ c ∈ x, c < 256 := fun c hc => hl c ((hx1 c hc).resolve_left (by simp))
    have hxn : x.length ≤ 1100000 := by simp at hx2; omega
    have hE3 := hE.below hRJ.below
    have hCut := fun W => cutSuffix_in x hxb (by omega) W
    have htb : ∀ c ∈ (cutN x).1, c < 256 := fun c hc => by
      unfold cutN at hc
      split at hc
      · exact hxb c ((List.dropLast_sublist x).subset hc)
      · exact hxb c hc
    have htn : (cutN x).1.length ≤ 1100000 := by
      unfold cutN
      split
      · simp; omega
      · exact hxn
    have hRd := fun W hW => implReadDeed (cutN x).1 htb htn W hW
    have hstep : takeJ (x :: post) = if (cutN x).2 = true ∧ (rdV (cutN x).1).2 = true then ((rdV (cutN x).1).1 :: (takeJ post).1, x.length + (takeJ post).2) else ([], 0) := by
      rw [takeJ]
      unfold cutN
      by_cases e : x.getLast? = some 10
      · rw [if_pos e, if_pos e]
        unfold rdV
        cases readD x.dropLast <;> simp
      · rw [if_neg e, if_neg e]; simp
    have hxs' : ∀ rest, XS = (pre ++ [x]) ++ rest → rest = post := fun rest h => by
      rw [hxs] at h
      simpa using h.symm
    obtain ⟨T, hT1⟩ : ∃ T, str (cutN x).1 = T := ⟨_, rfl⟩
    obtain ⟨en, hen⟩ : ∃ en, (cutN x).2 = en := ⟨_, rfl⟩
    obtain ⟨⟨⟨k, n⟩, ok⟩, hrd⟩ : ∃ r, rdV (cutN x).1 = r := ⟨_, rfl⟩
    have hXs := str_size x
    obtain ⟨X, hX⟩ : ∃ X, str x = X := ⟨_, rfl⟩
    rw [hT1, hen, hX] at hCut
    rw [hT1, hrd] at hRd
    rw [hen, hrd] at hstep
    rw [hX] at hXs
    have hRd3 := hRd V hE3
    unfold dV at hRd3
    simp only [txt, hX]
    simp only at hRd3 hstep
    clear hT1 hen hrd hRd hE3 htb htn hxb hx1 hx2 hIt2 hLn hrj hE2
    gi_wp2_with (refine ⟨trivial, ?_⟩; gi_at_call 45; refine (callsIn_wide.2 (hCut _)).mono ?_; clear hCut; rintro e w4 ⟨rfl, rfl⟩)
    refine ⟨trivial, ?_⟩
    gi_at_call 46
    refine (callsIn_wide.2 hRd3).mono ?_
    rintro e w5 ⟨rfl, hB5⟩
    have hR5 : RJ w U u L m w5 := hRJ.abides (below_grownL hB5) (fun r e => by cases e) (fun _ h => .inl h)
    have hK5 : ∀ (T : Nat → Prop), KeepsSet T V w5 := fun T => KeepsSet.of_grownBy (below_grownL hB5) (fun r e => by cases e)
    have hR6 : RJ w U u L m (w5.alloc (.cells #[.int .i64 k, .int .i64 n] 39)) := hR5.abides (World.grownBy_alloc _ _ none) (fun r e => by cases e) (fun _ h => .inl h)
    have hK6 : ∀ (T : Nat → Prop), KeepsSet T V (w5.alloc (.cells #[.int .i64 k, .int .i64 n] 39)) := fun T => (hK5 T).trans (KeepsSet.of_grownBy (World.grownBy_alloc _ _ none) (fun r e => by cases e))
    clear hRd3
    by_cases hgood : en = true ∧ ok = true
    · obtain ⟨rfl, rfl⟩ := hgood
      rw [if_pos ⟨rfl, rfl⟩] at hstep
      rw [hstep] at hTx
      simp only at hTx
      have hc1 := jr_countJ l []
      have hc2 := (jt_of_jr l []).2.2.2.1
      have hjr' : jrL [] l = takeJ XS := hjr
      rw [hjr', hTx] at hc1 hc2
      simp at hc1 hc2
      obtain ⟨ua, uc, rfl⟩ := own_shape hRJ.own
      have hV5 : w.heap.size + 5 ≤ V.heap.size := by omega
      have h56 := hB5.size
      have hfar := hR6.far
      have hlow := hRJ.low
      obtain ⟨W6, hW6⟩ : ∃ W6, w5.alloc (.cells #[.int .i64 k, .int .i64 n] 39) = W6 := ⟨_, rfl⟩
      have kb := World.alloc_heap_new w5 (.cells #[.int .i64 k, .int .i64 n] 39)
      have z6 : w5.heap.size + 1 = W6.heap.size := by rw [← hW6]; simp
      rw [hW6] at hR6 hK6 kb
      have cb0 : W6.cell? ⟨w5.heap.size, 0, none⟩ = some (.int .i64 k) := (by simp [World.cell?, kb])
      have cb1 : W6.cell? ⟨w5.heap.size, 1, none⟩ = some (.int .i64 n) := (by simp [World.cell?, kb])
      have cBl := hR6.bl.cell
      have hown6 := hR6.own
      have hnew : ∀ rest, XS = (pre ++ [x]) ++ rest → takeJ XS = ((L ++ [(k, n)]) ++ (takeJ rest).1, (m + x.length) + (takeJ rest).2) := fun rest h => by
        rw [hxs' rest h, hTx]
        simp [Nat.add_assoc]
      replace hnew := hide hnew
      clear hTx hstep hT hxs' hjr'
      gi_wp2_with (gi_at_builtin; go_loud (refine append_deed_in (x := (k, n)) rfl _ _ rfl w.heap.size _ L rfl hown6 _ rfl rfl (by omega) (Nat.le_trans hR6.below.size (Nat.le_refl _)) ?_))
      intro v' w7 hown7 hgr hwh
      obtain ⟨va, vc, hva⟩ := own_shape hown7
      have hu7 : ∀ r, (Value.slice ua L.length uc).ownBlock = some r → w.heap.size + 5 ≤ r := fun r e => (hfar r e).1
      have bl7 : Boxed w7 w.heap.size 24 (.slice ua L.length uc) := (hR6.bl.alloc _).kept hgr (fun e => by have := hu7 _ e.symm; omega)
      have bn7 : Boxed w7 (w.heap.size + 1) 3 (.int .i64 m) := (hR6.bn.alloc _).kept hgr (fun e => by have := hu7 _ e.symm; omega)
      have cl7 := bl7.cell
      have fl7 := bl7.frozen
      have g8 := grownBy_setAtL w7 w.heap.size 0 v'
      have bl8 := boxed_setL bl7 v'
      have bn8 := bn7.kept g8 (fun e => by injection e with e; omega)
      have hv' : ∀ r, v'.ownBlock = some r → w.heap.size + 5 ≤ r ∧ ¬ U r := fun r e => by
        rcases hwh with h | h
        · exact hfar r (h ▸ e)
        · rw [h] at e
          injection e with e
          refine ⟨by omega, fun hu => ?_⟩
          have := (hlow r hu).2
          omega
      have hown8 := hown7.kept g8 (.inr (fun e => by have := (hv' _ e).1; omega))
      subst hva
      obtain ⟨W8, hW8⟩ : ∃ W8, w7.setCell ⟨w.heap.size, 0, none⟩ (.slice va (L.length + 1) vc) = W8 := ⟨_, rfl⟩
      rw [hW8] at g8 bl8 bn8 hown8
      have cn8 := bn8.cell
      have fn8 := bn8.frozen
      have hw : IntKind.i64.wrap ((m : Int) + (x.length : Int)) = (m : Int) + (x.length : Int) := IntWalk.i64_in _ (by omega)
      have g9 := grownBy_setAtL W8 (w.heap.size + 1) 0 (.int .i64 ((m + x.length : Nat) : Int))
      have bn9 := boxed_setL bn8 (.int .i64 ((m + x.length : Nat) : Int))
      have bl9 := bl8.kept g9 (fun e => by injection e with e; omega)
      have hown9 := hown8.kept g9 (.inr (fun e => by have := (hv' _ e).1; omega))
      have hs7 := hgr.size
      have hs8 := g8.size
      have hs9 := g9.size
      rw [World.size_alloc] at hs7
      have hB6 := hR6.below
      have hB9 := (((hB6.alloc hB6.size (.cells #[.int .i64 k, .int .i64 n] 39)).grown hgr (by rw [World.size_alloc]; have := hB6.size; omega) (fun r e => by have := hu7 _ e; omega)).grown g8 (by have := hB6.size; omega) (fun r e => by cases e; omega)).grown g9 (by have := hB6.size; omega) (fun r e => by cases e; omega)
      have hKS := (((hK6 (fun k => k = w3.heap.size ∨ k = w3.heap.size + 1 ∨ k = w.heap.size + 2 ∨ U k)).trans (KeepsSet.alloc _ W6 (.cells #[.int .i64 k, .int .i64 n] 39))).trans (KeepsSet.of_grownBy hgr (fun r e h => by
          obtain ⟨q1, q2⟩ := hfar r e
          rcases h with h | h | h | h
          · omega
          · omega
          · omega
          · exact q2 h))).trans ((KeepsSet.of_grownBy g8 (fun r e h => by
          cases e
          rcases h with h | h | h | h
          · omega
          · omega
          · omega
          · have := (hlow _ h).1; omega)).trans (KeepsSet.of_grownBy g9 (fun r e h => by
          cases e
          rcases h with h | h | h | h
          · omega
          · omega
          · omega
          · have := (hlow _ h).1; omega)))
      have hcast : ((m + x.length : Nat) : Int) = (m : Int) + (x.length : Int) := by omega
      rw [hcast] at g9 bn9 bl9 hown9 hB9 hKS hs9
      obtain ⟨W9, hW9⟩ : ∃ W9, W8.setCell ⟨w.heap.size + 1, 0, none⟩ (.int .i64 ((m : Int) + (x.length : Int))) = W9 := ⟨_, rfl⟩
      rw [hW9] at g9 bn9 bl9 hown9 hB9 hKS hs9
      rw [← hcast] at bn9
      have hRJ9 : RJ w U (.slice va (L.length + 1) vc) (L ++ [(k, n)]) (m + x.length) W9 := ⟨bl9, bn9, (by simpa using hown9), hv', fun r hr => ⟨(hlow r hr).1, by have := (hlow r hr).2; omega⟩, by omega, hB9⟩
      clear g8 g9 hgr hown7 hown8 hown9 bl7 bn7 bl8 bn8 bl9 bn9 hwh hR6 hK6 hcast
      gi_wp2
      exact ⟨hKS, _, _, _, hRJ9, hnew.out⟩
    · rw [if_neg hgood] at hstep
      have hfin : takeJ XS = (L, m) := by rw [hTx, hstep]; simp
      have hfin' := hide hfin
      clear hstep hfin hTx hT
      cases en with
      | false =>
        gi_wp2
        exact ⟨hK6 _, rfl, u, L, m, hR6, hfin'.out⟩
      | true =>
        cases ok with
        | true => exact absurd ⟨rfl, rfl⟩ hgood
        | false =>
          gi_wp2
          exact ⟨hK6 _, rfl, u, L, m, hR6, hfin'.out⟩
  case done =>
    rintro U V ⟨u, L, m, hRJ, hT⟩ hdef
    have hT2 : takeJ XS = (L, m) := by have := hT [] (by simp); simpa [takeJ] using this
    obtain ⟨ua, uc, rfl⟩ := own_shape hRJ.own
    have q2 := hide hT2
    have d0 := hRJ.bl
    have d1 := hRJ.bn
    clear hT2 hT
    gi_wp2
    refine wpIn_region_put 3 [(some 38, 0), (some 39, 1), (some 2, 2)] (by kernel_rfl) (by kernel_rfl) (by kernel_rfl) (by decide) (by rfl) (by decide)
      (fun j v _ => match j with | 0 => v = .slice ua L.length uc | 1 => v = .int .i64 m | 2 => v = .slice ua L.length uc | _ => True)
      (fun j v V V' h _ => match j, h with | 0, h => h | 1, h => h | 2, h => h | (_ + 3), _ => trivial)
      ?_ ?_
    · rintro j oo s V' hj ho hBV hd Q' hQ
      rcases (show j = 0 ∨ j = 1 ∨ j = 2 by omega) with rfl | rfl | rfl
      all_goals
        simp at ho
        subst ho
        simp only [putsOf, Act.put, List.setIfInBounds_toArray, List.set_cons_succ, List.set_cons_zero] at hQ ⊢
        have hQ' := hide hQ
        clear hQ
      · clear hd
        have hcV := (boxed_below d0 hBV).cell
        gi_wp2
        exact hQ'.out _ _ (Below.refl _ _) rfl
      · clear hd
        have hcV := (boxed_below d1 hBV).cell
        gi_wp2
        exact hQ'.out _ _ (Below.refl _ _) rfl
      · have e1 : s 0 = .slice ua L.length uc := hd 0 (by kernel_rfl)
        clear hd
        gi_wp2
        have hr := hQ'.out
        simp only [e1] at hr ⊢
        exact hr _ _ (Below.refl _ _) rfl
    · rintro s V' hBV hd
      have f1 : s 1 = .int .i64 m := hd 1 (by omega)
      have f2 : s 2 = .slice ua L.length uc := hd 2 (by omega)
      clear hd
      have hD' := (hBV.block _ (Array.getElem?_eq_some_iff.1 hdef).1).trans hdef
      simp only [putsOf, Act.put, List.setIfInBounds_toArray, List.set_cons_succ, List.set_cons_zero]
      simp only [List.drop_succ_cons, List.drop_zero]
      simp only [f1, f2]
      gi_wp2
      refine ⟨by simp, .inl ⟨_, _, rfl, run_takeDeferred hD', ?_⟩⟩
      refine ⟨_, results_tmp2 rfl _ _ _, _, (by rw [q2.out]; rfl), ?_, ?_⟩
      · rw [q2.out]
        exact (own_more hRJ.own hBV).kept (grownBy_putObj' _ _ _) (.inr (fun e => by have := hRJ.far _ e; omega))
      · exact (hRJ.below.trans (hBV.mono hRJ.below.size)).grown (grownBy_putObj' _ _ _) (Nat.le_trans hRJ.below.size hBV.size) (fun k e => by cases e; omega)
  case stop =>
    rintro c U pre V _ ⟨rfl, u, L, m, hRJ, hT2⟩ hdef
    obtain ⟨ua, uc, rfl⟩ := own_shape hRJ.own
    have q2 := hide hT2
    have d0 := hRJ.bl
    have d1 := hRJ.bn
    clear hT2
    gi_wp2
    refine wpIn_region_put 3 [(some 38, 0), (some 39, 1), (some 2, 2)] (by kernel_rfl) (by kernel_rfl) (by kernel_rfl) (by decide) (by rfl) (by decide)
      (fun j v _ => match j with | 0 => v = .slice ua L.length uc | 1 => v = .int .i64 m | 2 => v = .slice ua L.length uc | _ => True)
      (fun j v V V' h _ => match j, h with | 0, h => h | 1, h => h | 2, h => h | (_ + 3), _ => trivial)
      ?_ ?_
    · rintro j oo s V' hj ho hBV hd Q' hQ
      rcases (show j = 0 ∨ j = 1 ∨ j = 2 by omega) with rfl | rfl | rfl
      all_goals
        simp at ho
        subst ho
        simp only [putsOf, Act.put, List.setIfInBounds_toArray, List.set_cons_succ, List.set_cons_zero] at hQ ⊢
        have hQ' := hide hQ
        clear hQ
      · clear hd
        have hcV := (boxed_below d0 hBV).cell
        gi_wp2
        exact hQ'.out _ _ (Below.refl _ _) rfl
      · clear hd
        have hcV := (boxed_below d1 hBV).cell
        gi_wp2
        exact hQ'.out _ _ (Below.refl _ _) rfl
      · have e1 : s 0 = .slice ua L.length uc := hd 0 (by kernel_rfl)
        clear hd
        gi_wp2
        have hr := hQ'.out
        simp only [e1] at hr ⊢
        exact hr _ _ (Below.refl _ _) rfl
    · rintro s V' hBV hd
      have f1 : s 1 = .int .i64 m := hd 1 (by omega)
      have f2 : s 2 = .slice ua L.length uc := hd 2 (by omega)
      clear hd
      have hD' := (hBV.block _ (Array.getElem?_eq_some_iff.1 hdef).1).trans hdef
      simp only [putsOf, Act.put, List.setIfInBounds_toArray, List.set_cons_succ, List.set_cons_zero]
      simp only [List.drop_succ_cons, List.drop_zero]
      simp only [f1, f2]
      gi_wp2
      refine ⟨by simp, .inl ⟨_, _, rfl, run_takeDeferred hD', ?_⟩⟩
      refine ⟨_, results_tmp2 rfl _ _ _, _, (by rw [q2.out]; rfl), ?_, ?_⟩
      · rw [q2.out]
        exact (own_more hRJ.own hBV).kept (grownBy_putObj' _ _ _) (.inr (fun e => by have := hRJ.far _ e; omega))
      · exact (hRJ.below.trans (hBV.mono hRJ.below.size)).grown (grownBy_putObj' _ _ _) (Nat.le_trans hRJ.below.size hBV.size) (fun k e => by cases e; omega)
end Go.Proofs.YtiaaefapbcjgmaaGreatDoor
namespace Go.Proofs.YtiaaefapbcjgmaaGreatDoor
open Go.RowKit

set_option maxRecDepth 100000 in
set_option maxHeartbeats 2000000 in
theorem implJournal (v : Value) (L : List (Int × Int)) (w : World) (hv : DeedsI w v L) (hf : ∀ a ∈ L, Fits a.1 ∧ Fits a.2) (hn : L.length ≤ 2000000) : Calls Tryz.prog 17 #[v] w fun e w' => e = .returned (.string (str (jtT L))) ∧ Below w.heap.size w w' := by
  obtain ⟨a, c, rfl, hcell⟩ := hv
  obtain ⟨N, hN⟩ : ∃ N, L.length = N := ⟨_, rfl⟩
  rw [hN] at hcell hn ⊢
  have hB0 : Below w.heap.size w (w.alloc (.cells #[.pointer none, .slice none 0 0] 87)) := (Below.refl _ _).alloc (Nat.le_refl _) _
  have hbl0 : BldJ (w.alloc (.cells #[.pointer none, .slice none 0 0] 87)) w.heap.size [] := Lib.IsBuilderF.of (Lib.fresh_isBuilder _ _ w)
  obtain ⟨W0, hW0⟩ : ∃ W0, w.alloc (.cells #[.pointer none, .slice none 0 0] 87) = W0 := ⟨_, rfl⟩
  rw [hW0] at hB0 hbl0
  obtain ⟨J, hJ⟩ : ∃ J, jtT L = J := ⟨_, rfl⟩
  rw [hJ]
  go_enter Tryz.func17, Tryz.ntmps17
  go_wp2
  go_loopw [9] (fun p wr => ∃ k : Nat, k ≤ N ∧ p = .int .i64 k ∧ BldJ wr w.heap.size (jtL (L.take k)) ∧ Hid (∀ x ∈ L.take k, deedT x.1 x.2 ≠ []) ∧ Below w.heap.size w wr) (fun p _ => N - (intOf p).toNat)
  case atStart => exact ⟨0, by omega, rfl, hbl0, hide (by simp), hB0⟩
  case round =>
    clear hB0 hbl0 hW0
    obtain ⟨k, hk, rfl, hbl, hne, hB⟩ := hrel
    by_cases hlt : k < N
    · obtain ⟨g, o, rfl, hg, hc⟩ := hcell (by omega)
      have hki : (k : Int) < (N : Int) := by omega
      obtain ⟨c1, c2⟩ := hc k hlt
      have hx : L.getD k (0, 0) ∈ L := by rw [List.getD, List.getElem?_eq_getElem (by omega)]; exact List.getElem_mem _
      have hfx := hf _ hx
      have htk := hide (take_deed (L := L) (k := k) (by omega))
      obtain ⟨x, hxx⟩ : ∃ x, L.getD k (0, 0) = x := ⟨_, rfl⟩
      rw [hxx] at c1 c2 hfx hx htk
      have d1 := (hB.cell (p := ⟨g, o + k * 2, none⟩) hg).trans c1
      have d2 := (hB.cell (p := ⟨g, o + k * 2 + 1, none⟩) hg).trans c2
      have hT := fun V => implDeedText x.1 x.2 hfx.1 hfx.2 V
      unfold dV at hT
      have hsn := jtL_snoc (L.take k) x
      rw [← htk.out] at hsn
      have hl1 := jtL_len (L.take k)
      rw [List.length_take] at hl1
      have hl2 := deed_len x.1 x.2
      have hE : (str (deedT x.1 x.2)).toList.isEmpty = decide (deedT x.1 x.2 = []) := by
        rw [str_toList]
        cases deedT x.1 x.2 with
        | nil => rfl
        | cons c r => rfl
      have hne' := hne.out
      clear c1 c2 hcell hc hxx hne
      go_wp2_with (go_at_call 15; refine (hT _).mono ?_)
      rintro e w2 ⟨rfl, hB2⟩
      have hal := (Below.refl wr.heap.size wr).alloc (Nat.le_refl _) (.cells #[.int .i64 x.1, .int .i64 x.2] 39)
      have hB2' := hal.trans (hB2.mono hal.size)
      have hbl2 := hbl.below hB2'
      have hBw := hB.trans (hB2'.mono hB.size)
      clear hB2 hal hB2' hbl hT
      by_cases he : deedT x.1 x.2 = []
      · rw [decide_eq_true he] at hE
        have hJ' : J = [] := by
          rw [← hJ]
          unfold jtT
          rw [if_neg (fun h => h x hx he)]
        subst hJ'
        have hz : str [] = ⟨#[]⟩ := str_nil
        generalize str (deedT x.1 x.2) = S at *
        go_wp2
        go_ret
        rw [hz]
        exact ⟨rfl, hBw⟩
      · rw [decide_eq_false he] at hE
        have hW := hbl2.str (deedT x.1 x.2) (by omega) (by omega) hBw.size
        have hfin : Hid (∀ y ∈ L.take (k + 1), deedT y.1 y.2 ≠ []) := hide (by
          rw [htk.out]
          intro y hy
          rcases List.mem_append.1 hy with h | h
          · exact hne' y h
          · simp at h; subst h; exact he)
        obtain ⟨tl, htl⟩ : ∃ tl, (deedT x.1 x.2).length = tl := ⟨_, rfl⟩
        rw [htl] at hW hl2
        have hjl : (jtL (L.take k) ++ deedT x.1 x.2).length ≤ 100000000 := by rw [List.length_append]; omega
        have hsn' : jtL (L.take k) ++ deedT x.1 x.2 ++ [10] = jtL (L.take (k + 1)) := by rw [hsn, List.append_assoc]
        replace hsn' := hide hsn'
        obtain ⟨S, hS⟩ : ∃ S, str (deedT x.1 x.2) = S := ⟨_, rfl⟩
        rw [hS] at hW hE ⊢
        obtain ⟨X, hX⟩ : ∃ X, jtL (L.take k) ++ deedT x.1 x.2 = X := ⟨_, rfl⟩
        rw [hX] at hW hjl hsn'
        clear hX hS hsn hl1 htl hne' hbl2
        go_wp2_with (go_at_call 59; refine hW.mono ?_; clear hW)
        rintro e w3 ⟨rfl, hbl3, hB3⟩
        have hB3' := hBw.trans hB3
        have hW2 := hbl3.byte (c := 10) (by omega) hjl hB3'.size
        rw [hsn'.out] at hW2
        clear hsn' hbl3 hB3 hBw
        go_wp2_with (go_at_call 60; refine hW2.mono ?_; clear hW2)
        rintro e w4 ⟨rfl, hbl4, hB4⟩
        go_wp2
        go_roundw
        case rel => exact ⟨k + 1, by omega, by go_num, hbl4, hfin, hB3'.trans hB4⟩
        case measure => simp [intOf]; omega
    · obtain rfl : k = N := by omega
      have hki : ¬ ((k : Nat) : Int) < (k : Int) := by omega
      have hne' := hne.out
      rw [List.take_of_length_le (by omega)] at hne' hbl
      have hJ' : J = jtL L := by
        rw [← hJ]
        unfold jtT
        rw [if_pos hne']
      have hW := hbl.text hB.size
      rw [← hJ'] at hW
      clear hne hne' hbl hJ'
      go_wp2_with (go_at_call 61; refine hW.mono ?_; clear hW; rintro e w3 ⟨rfl, hB3⟩)
      go_ret
      exact ⟨rfl, hB.trans hB3⟩
end Go.Proofs.YtiaaefapbcjgmaaGreatDoor
namespace Go.Proofs.YtiaaefapbcjgmaaGreatDoor
open Go.RowKit Go.BigFrame

set_option maxHeartbeats 1000000 in
theorem sameDeeds_in (v u : Value) (L : List (Int × Int)) (w : World) (hn : L.length ≤ 4000000) (hf : ∀ x ∈ L, Fits x.1 ∧ Fits x.2) (hv : DeedsI w v L) (hu : DeedsI w u L) : Calls Tryz.prog 11 #[v, u] w fun e w' => e = .returned (.bool true) ∧ Below w.heap.size w w' := by
  obtain ⟨a, ca, rfl, hc⟩ := hv
  obtain ⟨b, cb, rfl, hd⟩ := hu
  obtain ⟨N, hN⟩ : ∃ N, L.length = N := ⟨_, rfl⟩
  rw [hN] at hc hd hn ⊢
  have hB0 := Below.refl w.heap.size w
  go_enter Tryz.func11, Tryz.ntmps11
  go_wp2
  go_loopw [5] (fun p wr => ∃ k : Nat, k ≤ N ∧ p = .int .i64 k ∧ Below w.heap.size w wr) (fun p _ => N - (intOf p).toNat)
  case atStart => exact ⟨0, by omega, rfl, hB0⟩
  case round =>
    obtain ⟨k, hk, rfl, hB⟩ := hrel
    by_cases hlt : k < N
    · obtain ⟨g, o, rfl, hg, hcc⟩ := hc (by omega)
      obtain ⟨g', o', rfl, hg', hdd⟩ := hd (by omega)
      have hki : (k : Int) < (N : Int) := by omega
      have hx : L.getD k (0, 0) ∈ L := by rw [List.getD, List.getElem?_eq_getElem (by omega)]; exact List.getElem_mem _
      have hfx := hf _ hx
      have q1 : ∀ m : After w, m.now.cell? ⟨g, o + k * 2, none⟩ = some (.int .i64 (L.getD k (0, 0)).1) := fun m => (m.ok.cell (p := ⟨g, o + k * 2, none⟩) hg).trans (hcc k hlt).1
      have q2 : ∀ m : After w, m.now.cell? ⟨g, o + k * 2 + 1, none⟩ = some (.int .i64 (L.getD k (0, 0)).2) := fun m => (m.ok.cell (p := ⟨g, o + k * 2 + 1, none⟩) hg).trans (hcc k hlt).2
      have q3 : ∀ m : After w, m.now.cell? ⟨g', o' + k * 2, none⟩ = some (.int .i64 (L.getD k (0, 0)).1) := fun m => (m.ok.cell (p := ⟨g', o' + k * 2, none⟩) hg').trans (hdd k hlt).1
      have q4 : ∀ m : After w, m.now.cell? ⟨g', o' + k * 2 + 1, none⟩ = some (.int .i64 (L.getD k (0, 0)).2) := fun m => (m.ok.cell (p := ⟨g', o' + k * 2 + 1, none⟩) hg').trans (hdd k hlt).2
      have q5 := fun m : After w => equal_deed hfx.1 hfx.2 hfx.1 hfx.2 m.now
      generalize (L.getD k (0, 0)).1 = x at *
      generalize (L.getD k (0, 0)).2 = y at *
      simp only [and_self, decide_true] at q5
      clear hc hd hcc hdd hf hx hfx
      go_wp2
      refine wp_region_below w (by kernel_rfl) (by kernel_rfl) hB ?_
      repeat (go_big_quiet_step (fail))
      refine wpQuiet_nil ?_
      rintro _ ⟨nq, rfl⟩
      go_wp2
      go_roundw
      case rel => exact ⟨k + 1, by omega, by go_num, nq.ok⟩
      case measure => simp [intOf]; omega
    · obtain rfl : k = N := by omega
      have hki : ¬ ((k : Nat) : Int) < (k : Int) := by omega
      clear hc hd hf
      go_wp2
      go_ret
      exact ⟨rfl, hB⟩
end Go.Proofs.YtiaaefapbcjgmaaGreatDoor
namespace Go.Proofs.YtiaaefapbcjgmaaGreatDoor
open Go Go.RowKit

theorem wide_fn (f : FuncId) : Fence.wide.fn f = True := rfl

theorem wpIn_region_after {F : Fence} {n : Nat} {P : Program} {id : Nat} {Q : Exit → Act → World → Prop} {a : Act} {W : World} {l : List Oper} (w : World) (hro : F.round = none) (hm : P.follows .mixedOrders = true) (hB : Region.lexB .any l.toArray = true) (hW : Below w.heap.size w W)
    (h : wpQuietIn F n P l.toArray (fun w' => ∃ m : After w, w' = m.now) (fun a' => ∀ w', (∃ m : After w, w' = m.now) → Q .normal a' w') l a) : (Code.region id l.toArray true).wpIn F n P Q a W :=
  wpIn_region_quiet (C := fun w' => ∃ m : After w, w' = m.now) hro hm hB ⟨⟨_, hW.drew⟩, rfl⟩ (by simpa using h)
end Go.Proofs.YtiaaefapbcjgmaaGreatDoor
namespace Go.Proofs.YtiaaefapbcjgmaaGreatDoor
open Go Go.RowKit
attribute [local go_sem] Oper.semAt_some wide_fn
attribute [local simp] wide_fn

theorem deedsJ_take {W : World} {a : Option Addr} {n c : Nat} {L : List (Int × Int)} (h : DeedsI W (.slice a n c) L) (k : Nat) (hk : k ≤ L.length) : DeedsI W (.slice a k c) (L.take k) := by
  obtain ⟨a', c', e, hr⟩ := h
  injection e with e1 e2 e3
  subst e1
  subst e3
  have hl : (L.take k).length = k := by rw [List.length_take]; omega
  refine ⟨a, c, by rw [hl], fun h0 => ?_⟩
  obtain ⟨g, o, e4, hg, hc⟩ := hr (by omega)
  refine ⟨g, o, e4, hg, fun j hj => ?_⟩
  have e5 : (L.take k).getD j (0, 0) = L.getD j (0, 0) := by rw [List.getD, List.getD, List.getElem?_take, if_pos (by omega)]
  rw [e5]
  exact hc j (by omega)

/-- Between two lines: the desk's box, and the desk that lies in it. -/
structure Jr (W2 : World) (d : Dk) (L : List (Int × Int)) (k : Nat) (x p : Value) (W : World) : Prop where
  below : Below W2.heap.size W2 W
  box : W.heap[W2.heap.size]? = some (.cells #[x, p] 31 (0, 0))
  desk : DeskI W (.agg #[x, p]) (runL d 0 (L.take k)).1
  cap : CapP (.agg #[x, p])

theorem rowsOk_sameJ {D : Dk} (h : RowsOk D) : D.1.length ≤ 1000000 ∧ D.2.length ≤ 1000000 ∧ ∀ j, j < D.2.length → (D.2.getD j []).length ≤ 1000000 :=
  ⟨by have := h.2.2.1; omega, by have := h.2.2.2; omega, fun j hj => by have := h.2.1 j hj; omega⟩

theorem str_beg (l : List Nat) (k : Nat) : (str l).extract 0 k = str (l.take k) := by
  rw [str_cut]; simp

set_option maxRecDepth 100000 in
set_option maxHeartbeats 8000000 in
theorem lawReadJournal (a0 : Option Addr) (len0 cap0 : Nat) (z0 : List Int) (a1 : Option Addr) (len1 cap1 : Nat) (z1 : List Int) (w : World) (w0 : IsRow .u8 w a0 len0 cap0 z0) (w1 : IsRow .u8 w a1 len1 cap1 z1) (hEnv : Env w) :
    Calls Tryz.prog 3 #[.slice a0 len0 cap0, .slice a1 len1 cap1] w fun e w' => e = .returned (.bool true) ∧ Below w.heap.size w w' := by
  by_cases hbig : 1048576 < len0
  · go_enter Tryz.func3, Tryz.ntmps3
    go_wp2
    go_ret
    exact ⟨rfl, Below.refl _ _⟩
  have hbi : ¬ (1048576 : Int) < (len0 : Int) := by omega
  by_cases hbig1 : 1048576 < len1
  · go_enter Tryz.func3, Tryz.ntmps3
    go_wp2
    go_ret
    exact ⟨rfl, Below.refl _ _⟩
  have hbi1 : ¬ (1048576 : Int) < (len1 : Int) := by omega
  refine (callsIn_wide (n := 9)).1 ?_
  refine callsIn_of_wp Tryz.func3 rfl trivial ?_ rfl
  simp only [Tryz.ntmps3, List.size_toArray, List.length_cons, List.length_nil, Nat.reduceAdd, Nat.reduceSub, Array.replicate_succ, Array.replicate_zero, List.push_toArray, List.append_toArray, List.nil_append, List.cons_append]
  gi_wp2_with fail
  gi_at_call 8
  refine (callsIn_wide.2 (drawReadJournal w a0 len0 cap0 z0 w0)).mono ?_
  rintro e wa ⟨⟨v, rfl, l, rfl, hl, hln⟩, hBa⟩
  have hEa := hEnv.below hBa
  have wa1 := isRow_below w1 hBa
  obtain ⟨L, n, hjr, hjt, hnl, hne, hL5, hf, htk⟩ := jr_all l
  have hLn : L.length ≤ 40 := by omega
  have hI := implReadJournal l hl (by omega) wa hEa
  have hS := fun V => specReadJournal l hl (by omega) V
  rw [hjr] at hI hS
  have hIk := fun k V (hE : Env V) => implReadJournal (l.take k) (fun x hx => hl x (List.mem_of_mem_take hx)) (by rw [List.length_take]; omega) V hE
  have hJT := fun v V (hV : DeedsI V v L) => implJournal v L V hV hf (by omega)
  rw [hjt] at hJT
  have hSame := fun v u M V (hM : ∀ x ∈ M, x ∈ L) (hMl : M.length ≤ 40) (hv : DeedsI V v M) (hu : DeedsI V u M) => sameDeeds_in v u M V (by omega) (fun x hx => hf x (hM x hx)) hv hu
  have hbeg := hide (fun k => str_beg l k)
  have hsz := str_size l
  have hcutn := hbeg.out n
  obtain ⟨N, hN⟩ : ∃ N, l.length = N := ⟨_, rfl⟩
  rw [hN] at hsz hnl hln hL5
  obtain ⟨S, hSS⟩ : ∃ S, str l = S := ⟨_, rfl⟩
  rw [hSS] at hI hS hsz hbeg hcutn ⊢
  simp only at hI hS
  obtain ⟨SN, hSN⟩ : ∃ SN, str (l.take n) = SN := ⟨_, rfl⟩
  rw [hSN] at hJT hcutn
  obtain ⟨M, hM⟩ : ∃ M, L.length = M := ⟨_, rfl⟩
  rw [hM] at hI hS hLn hL5
  have hfh := hide hf
  have hneh := hide hne
  have htkh := hide htk
  have hIkh := hide hIk
  have hSameh := hide hSame
  have hJTh := hide hJT
  have hwS : IntKind.i64.wrap (S.size : Int) = (S.size : Int) := IntWalk.i64_in _ (by omega)
  have hszi : (S.size : Int) = (N : Int) := by omega
  have hNn : (n : Int) ≤ (N : Int) := by omega
  clear hjt hjr hf hne htk hIk hSame hJT hSS hSN w0 w1 hEnv hl
  gi_wp2_with fail
  gi_at_call 9
  refine (callsIn_wide.2 hI).mono ?_
  clear hI
  rintro e wb ⟨u, rfl, hu, bb⟩
  have hu0 := hu
  have huc : ∃ la lc, u = .slice la M lc ∧ M ≤ lc := by
    rcases hu.2 with ⟨e, h0⟩ | ⟨g, cap, cur, e, _, _, hc, _⟩
    · exact ⟨none, 0, by rw [e, h0], by omega⟩
    · exact ⟨_, cap, e, hc⟩
  obtain ⟨la, lc, rfl, hlc⟩ := huc
  have hDb := DeedsI.of_owns (show wb.ownsRow wa.heap.size 39 2 (.slice la M lc) L.length (cellsD L) by rw [hM]; exact hu)
  have hEb := hEa.below bb
  have hBb := hBa.trans (bb.mono hBa.size)
  have wb1 := isRow_below wa1 bb
  clear hu hu0 hEa hBa wa1 bb
  gi_wp2_with fail
  gi_at_call 10
  refine (callsIn_wide.2 (hS _)).mono ?_
  clear hS
  rintro e wc ⟨u, rfl, hu, bc⟩
  have hUc := DeedsI.of_owns (show wc.ownsRow wb.heap.size 39 2 u L.length (cellsD L) by rw [hM]; exact hu)
  have hDc := hDb.below bc
  have hEc := hEb.below bc
  have hBc := hBb.trans (bc.mono hBb.size)
  have wc1 := isRow_below wb1 bc
  obtain ⟨ua, uc, rfl⟩ := own_shape hu
  clear hu hDb hEb hBb wb1 bc
  have hSm := hSameh.out _ _ L wc (fun x hx => hx) (by omega) hDc hUc
  gi_wp2_with fail
  gi_at_call 11
  refine (callsIn_wide.2 hSm).mono ?_
  clear hSm
  rintro e wd ⟨rfl, bd⟩
  have hDd := hDc.below bd
  have hEd := hEc.below bd
  have hBd := hBc.trans (bd.mono hBc.size)
  have wd1 := isRow_below wc1 bd
  clear hDc hUc hEc hBc wc1 bd
  gi_wp2
  gi_loopw [10] (fun i wr => ∃ k : Nat, k ≤ N + 1 ∧ i = .int .i64 k ∧ Below wd.heap.size wd wr) (fun i _ => N + 1 - (intOf i).toNat)
  case atStart => exact ⟨0, Nat.zero_le _, rfl, Below.refl _ _⟩
  case round =>
    obtain ⟨k, hk, rfl, hBr⟩ := hrel
    by_cases hlt : k ≤ N
    · have hki : (k : Int) ≤ (N : Int) := by omega
      have hkS : (k : Int) ≤ (S.size : Int) := by omega
      obtain ⟨m, c, hjk, hmM, hck⟩ := htkh.out k
      rw [hM] at hmM
      have hIk := hIkh.out k wr (hEd.below hBr)
      rw [hjk] at hIk
      have hml : (L.take m).length = m := by rw [List.length_take]; omega
      simp only [hml] at hIk
      have hX := hbeg.out k
      obtain ⟨X, hXX⟩ : ∃ X, str (l.take k) = X := ⟨_, rfl⟩
      rw [hXX] at hIk hX
      have hm1 : ¬ (M : Int) < (m : Int) := by omega
      have hm2 : min (m : Int) (M : Int) = (m : Int) := by omega
      have hm3 : (m : Int) ≤ (lc : Int) := by omega
      have hc1 : ¬ (k : Int) < (c : Int) := by omega
      clear hXX hjk
      gi_wp2_with fail
      gi_at_call 9
      refine (callsIn_wide.2 hIk).mono ?_
      clear hIk
      rintro e we ⟨x, rfl, hx, be⟩
      have hXe := DeedsI.of_owns (show we.ownsRow wr.heap.size 39 2 x (L.take m).length (cellsD (L.take m)) by rw [hml]; exact hx)
      obtain ⟨xa, xc, rfl⟩ := own_shape hx
      have hBe := hBr.trans (be.mono hBr.size)
      have hTe := deedsJ_take (hDd.below hBe) m (by omega)
      have hSm := hSameh.out _ _ (L.take m) we (fun x hx => List.mem_of_mem_take hx) (by rw [hml]; omega) hXe hTe
      clear hXe hTe hx hBr be
      gi_wp2_with fail
      gi_at_call 11
      refine (callsIn_wide.2 hSm).mono ?_
      clear hSm
      rintro e wf ⟨rfl, bf⟩
      gi_wp2
      go_roundw
      case rel => exact ⟨k + 1, by omega, by go_num, hBe.trans (bf.mono hBe.size)⟩
      case measure => simp [intOf]; omega
    · obtain rfl : k = N + 1 := by omega
      have hki : ¬ (((N + 1 : Nat) : Int)) ≤ (N : Int) := by omega
      have hkS : ¬ (((N + 1 : Nat) : Int)) ≤ (S.size : Int) := by omega
      have hDr := hDd.below hBr
      have hEr := hEd.below hBr
      have hBr0 := hBd.trans (hBr.mono hBd.size)
      have wr1 := isRow_below wd1 hBr
      clear htkh hIkh hSameh hbeg hBr hBd hEd hDd wd1
      gi_wp2_with fail
      gi_at_call 12
      refine (callsIn_wide.2 (drawDeskRun wr a1 len1 cap1 z1 wr1)).mono ?_
      rintro e ws ⟨y, d, v, L2, rfl, hd, hcp, hz, _, _, _, hBs⟩
      obtain ⟨x, p, rfl, hx, hp⟩ := id hd
      obtain ⟨xa, xc, rfl⟩ := hx.shape
      obtain ⟨pa, pc, rfl, _⟩ := id hp
      have ba := (Below.refl _ ws).alloc (Nat.le_refl _) (.cells #[.slice xa d.1.length xc, .slice pa d.2.length pc] 31)
      have kd := World.alloc_heap_new ws (.cells #[.slice xa d.1.length xc, .slice pa d.2.length pc] 31)
      have bsa := hBs.trans (ba.mono hBs.size)
      obtain ⟨w2, hw2⟩ : ∃ w2, ws.alloc (.cells #[.slice xa d.1.length xc, .slice pa d.2.length pc] 31) = w2 := ⟨_, rfl⟩
      rw [hw2] at ba kd bsa
      have hd2 := hd.below ba
      have hD2 := hDr.below bsa
      have hE2 := hEr.below bsa
      have hB2 := hBr0.trans (bsa.mono hBr0.size)
      obtain ⟨bd, hbd⟩ : ∃ bd, ws.heap.size = bd := ⟨_, rfl⟩
      rw [hbd] at kd
      obtain ⟨c0, c1, _, _⟩ := row_at kd
      have bb := (Below.refl _ w2).alloc (Nat.le_refl _) (.cells #[.slice xa d.1.length xc, .slice pa d.2.length pc] 31)
      have kx := World.alloc_heap_new w2 (.cells #[.slice xa d.1.length xc, .slice pa d.2.length pc] 31)
      obtain ⟨w3, hw3⟩ : ∃ w3, w2.alloc (.cells #[.slice xa d.1.length xc, .slice pa d.2.length pc] 31) = w3 := ⟨_, rfl⟩
      rw [hw3] at bb kx
      have hd3 := hd2.below bb
      obtain ⟨bx, hbx⟩ : ∃ bx, w2.heap.size = bx := ⟨_, rfl⟩
      have hOK := fun V (hV : Below w2.heap.size w2 V) => specDeskOk _ d V (hd2.below hV) hz.dkS
      have hkd := hide kd
      have hcph := hide hcp
      clear hd hx hp ba bsa hBs hDr hEr hBr0 wr1 kd
      cases hb : deskB d with
      | false =>
        simp only [hb] at hOK
        have hOK := hide hOK
        gi_wp2
        gi_loopw [16] (fun i wr => i = .int .i64 0 ∧ Below w3.heap.size w3 wr) (fun _ _ => 0)
        case atStart => exact ⟨rfl, Below.refl _ _⟩
        case round =>
          obtain ⟨rfl, hBq⟩ := hrel
          have hB2q := bb.trans (hBq.mono bb.size)
          have kdq := (hB2q.block _ (Array.getElem?_eq_some_iff.1 hkd.out).1).trans hkd.out
          obtain ⟨c0, c1, _, _⟩ := row_at kdq
          by_cases h0 : 0 < M
          · have h0i : (0 : Int) < (M : Int) := by omega
            have hO := hOK.out wr hB2q
            gi_wp2_with fail
            gi_at_call 13
            refine (callsIn_wide.2 hO).mono ?_
            rintro e W5 ⟨rfl, b5⟩
            have hB25 := hB2q.trans (b5.mono hB2q.size)
            clear hO b5 hB2q hBq kdq c0 c1 bb kx
            have kdz := (hB25.block _ (Array.getElem?_eq_some_iff.1 hkd.out).1).trans hkd.out
            obtain ⟨c0, c1, _, _⟩ := row_at kdz
            have hR := implRun _ _ d L W5 (hd2.below hB25) hz.dkS (hD2.below hB25) (by omega) hfh.out
            obtain ⟨D, hD⟩ : ∃ D, (runV d L).1 = D := ⟨_, rfl⟩
            obtain ⟨cn, hcn⟩ : ∃ cn, (runV d L).2 = cn := ⟨_, rfl⟩
            rw [hD] at hR
            rw [hcn] at hR
            clear hcn
            gi_wp2_with fail
            gi_at_call 16
            refine (callsIn_wide.2 hR).mono ?_
            rintro e w6 ⟨y, rfl, hy, b6⟩
            have hyd := hy.deskI
            obtain ⟨y1, y2, y3, y4, rfl⟩ := hy.form
            have b6a := (Below.refl _ w6).alloc (Nat.le_refl _) (.cells #[.slice y1 D.1.length y2, .slice y3 D.2.length y4] 31)
            have ky := World.alloc_heap_new w6 (.cells #[.slice y1 D.1.length y2, .slice y3 D.2.length y4] 31)
            have b57 := b6.trans (b6a.mono b6.size)
            have hyd7 := hyd.below b6a
            obtain ⟨w7, hw7⟩ : ∃ w7, w6.alloc (.cells #[.slice y1 D.1.length y2, .slice y3 D.2.length y4] 31) = w7 := ⟨_, rfl⟩
            rw [hw7] at b57 ky hyd7
            obtain ⟨bz, hbz⟩ : ∃ bz, w6.heap.size = bz := ⟨_, rfl⟩
            rw [hbz] at ky
            have hB27 := hB25.trans (b57.mono hB25.size)
            have hB7 := hB2.trans (hB27.mono hB2.size)
            have kd7 := (hB27.block _ (Array.getElem?_eq_some_iff.1 hkd.out).1).trans hkd.out
            have hd7 := hd2.below hB27
            have hD7 := hD2.below hB27
            have q0 := fun n : After w7 => (row_at ((n.ok.block _ (Array.getElem?_eq_some_iff.1 kd7).1).trans kd7)).1
            have q1 := fun n : After w7 => (row_at ((n.ok.block _ (Array.getElem?_eq_some_iff.1 kd7).1).trans kd7)).2.1
            have hOc := hide (fun n : After w7 => after_of (hOK.out n.now (hB27.trans (n.ok.mono hB27.size))))
            have hJc := hide (fun n : After w7 => after_of (hJTh.out _ n.now (hD7.below n.ok)))
            clear hR hyd hyd7 b6 b6a b57 hy hB25 kdz c0 c1 kd7 hd7 hD7 ky
            gi_wp2_with fail
            refine wpIn_region_after w7 rfl (by kernel_rfl) (by kernel_rfl) (Below.refl _ _) ?_
            repeat (gi_big_quiet_step (first
              | (gi_at_call 17; exact callsIn_wide.2 (hJc.out _))
              | (gi_at_call 13; exact callsIn_wide.2 (hOc.out _))
              | (gi_at_call 19; exact callsIn_wide.2 (after_of (alive_in _)))))
            refine wpQuietIn_nil ?_
            rintro _ ⟨nq, rfl⟩
            gi_wp2
            go_ret
            exact ⟨rfl, hB7.trans (nq.ok.mono hB7.size)⟩
          · have h0i : ¬ (0 : Int) < (M : Int) := by omega
            have hB25 := hB2q
            clear hB2q hBq kdq c0 c1 bb kx
            have kdz := (hB25.block _ (Array.getElem?_eq_some_iff.1 hkd.out).1).trans hkd.out
            obtain ⟨c0, c1, _, _⟩ := row_at kdz
            have hR := implRun _ _ d L wr (hd2.below hB25) hz.dkS (hD2.below hB25) (by omega) hfh.out
            obtain ⟨D, hD⟩ : ∃ D, (runV d L).1 = D := ⟨_, rfl⟩
            obtain ⟨cn, hcn⟩ : ∃ cn, (runV d L).2 = cn := ⟨_, rfl⟩
            rw [hD] at hR
            rw [hcn] at hR
            clear hcn
            gi_wp2_with fail
            gi_at_call 16
            refine (callsIn_wide.2 hR).mono ?_
            rintro e w6 ⟨y, rfl, hy, b6⟩
            have hyd := hy.deskI
            obtain ⟨y1, y2, y3, y4, rfl⟩ := hy.form
            have b6a := (Below.refl _ w6).alloc (Nat.le_refl _) (.cells #[.slice y1 D.1.length y2, .slice y3 D.2.length y4] 31)
            have ky := World.alloc_heap_new w6 (.cells #[.slice y1 D.1.length y2, .slice y3 D.2.length y4] 31)
            have b57 := b6.trans (b6a.mono b6.size)
            have hyd7 := hyd.below b6a
            obtain ⟨w7, hw7⟩ : ∃ w7, w6.alloc (.cells #[.slice y1 D.1.length y2, .slice y3 D.2.length y4] 31) = w7 := ⟨_, rfl⟩
            rw [hw7] at b57 ky hyd7
            obtain ⟨bz, hbz⟩ : ∃ bz, w6.heap.size = bz := ⟨_, rfl⟩
            rw [hbz] at ky
            have hB27 := hB25.trans (b57.mono hB25.size)
            have hB7 := hB2.trans (hB27.mono hB2.size)
            have kd7 := (hB27.block _ (Array.getElem?_eq_some_iff.1 hkd.out).1).trans hkd.out
            have hd7 := hd2.below hB27
            have hD7 := hD2.below hB27
            have q0 := fun n : After w7 => (row_at ((n.ok.block _ (Array.getElem?_eq_some_iff.1 kd7).1).trans kd7)).1
            have q1 := fun n : After w7 => (row_at ((n.ok.block _ (Array.getElem?_eq_some_iff.1 kd7).1).trans kd7)).2.1
            have hOc := hide (fun n : After w7 => after_of (hOK.out n.now (hB27.trans (n.ok.mono hB27.size))))
            have hJc := hide (fun n : After w7 => after_of (hJTh.out _ n.now (hD7.below n.ok)))
            clear hR hyd hyd7 b6 b6a b57 hy hB25 kdz c0 c1 kd7 hd7 hD7 ky
            gi_wp2_with fail
            refine wpIn_region_after w7 rfl (by kernel_rfl) (by kernel_rfl) (Below.refl _ _) ?_
            repeat (gi_big_quiet_step (first
              | (gi_at_call 17; exact callsIn_wide.2 (hJc.out _))
              | (gi_at_call 13; exact callsIn_wide.2 (hOc.out _))
              | (gi_at_call 19; exact callsIn_wide.2 (after_of (alive_in _)))))
            refine wpQuietIn_nil ?_
            rintro _ ⟨nq, rfl⟩
            gi_wp2
            go_ret
            exact ⟨rfl, hB7.trans (nq.ok.mono hB7.size)⟩
      | true =>
        simp only [hb] at hOK
        have hOK := hide hOK
        have hlr : 0 < M → ∃ g o, la = some ⟨g, o, none⟩ ∧ g < w2.heap.size ∧ ∀ k, k < M → w2.cell? ⟨g, o + k * 2, none⟩ = some (.int .i64 (L.getD k (0, 0)).1) ∧ w2.cell? ⟨g, o + k * 2 + 1, none⟩ = some (.int .i64 (L.getD k (0, 0)).2) := fun h => by
          obtain ⟨a', c', e, hr⟩ := hD2
          injection e with e1 e2 e3
          subst e1
          obtain ⟨g, o, e4, hg, hc⟩ := hr (by omega)
          exact ⟨g, o, e4, hg, fun k hk => hc k (by omega)⟩
        have hrun : runV d L = runL d 0 L := by unfold runV; rw [if_pos ⟨hb, by omega⟩]
        have hline := hide (fun k (h : k < L.length) => line_next h hb hneh.out)
        have hJ0 : Jr w2 d L 0 (.slice xa d.1.length xc) (.slice pa d.2.length pc) w3 := ⟨bb, kx, by rw [List.take_zero]; exact hd3, hcph.out⟩
        clear kx hd3 hcph
        gi_wp2
        gi_loopw [16] (fun i wr => ∃ (k : Nat) (x p : Value), k ≤ M ∧ i = .int .i64 k ∧ Jr w2 d L k x p wr) (fun i _ => M - (intOf i).toNat)
        case atStart => exact ⟨0, _, _, Nat.zero_le _, rfl, hJ0⟩
        case round =>
          obtain ⟨k, u, q, hk, rfl, hJ⟩ := hrel
          clear hJ0
          have hB2q := hJ.below
          have kdq := (hB2q.block _ (Array.getElem?_eq_some_iff.1 hkd.out).1).trans hkd.out
          obtain ⟨c0, c1, _, _⟩ := row_at kdq
          by_cases hlt : k < M
          · have hki : (k : Int) < (M : Int) := by omega
            have hO := hOK.out wr hB2q
            gi_wp2_with fail
            gi_at_call 13
            refine (callsIn_wide.2 hO).mono ?_
            rintro e wq ⟨rfl, b5⟩
            have hB25 := hB2q.trans (b5.mono hB2q.size)
            obtain ⟨g, o, rfl, hg, hc⟩ := hlr (by omega)
            obtain ⟨e1, e2⟩ := hc k hlt
            obtain ⟨hdb, hdb', hane, tx, hlv, htx⟩ := hline.out k (by omega)
            have hfx := hfh.out (L.getD k (0, 0)) (by rw [List.getD, List.getElem?_eq_getElem (by omega)]; exact List.getElem_mem _)
            have hdj := hJ.desk.below b5
            have hcj := hJ.cap
            have kxq : wq.heap[w2.heap.size]? = some (.cells #[u, q] 31 (0, 0)) := (b5.block _ (Array.getElem?_eq_some_iff.1 hJ.box).1).trans hJ.box
            obtain ⟨⟨ak, an⟩, ha⟩ : ∃ a, L.getD k (0, 0) = a := ⟨_, rfl⟩
            rw [ha] at e1 e2 hfx hlv hane
            obtain ⟨dk, hdk⟩ : ∃ dk, (runL d 0 (L.take k)).1 = dk := ⟨_, rfl⟩
            rw [hdk] at hdj hdb hlv
            obtain ⟨D, hD⟩ : ∃ D, (runL d 0 (L.take (k + 1))).1 = D := ⟨_, rfl⟩
            rw [hD] at hlv hdb'
            simp only at e1 e2 hfx hlv hane
            obtain ⟨ux, uq, eu, hu1, hu2⟩ := id hdj
            injection eu with eu
            simp at eu
            obtain ⟨rfl, rfl⟩ := eu
            obtain ⟨q1, q2, rfl⟩ := hu1.shape
            obtain ⟨q3, q4, rfl, _⟩ := id hu2
            have hby := fun x hx => (deed_byte ak an x hx).1
            have hdl := deed_len ak an
            have hLn' := fun V (hV : Below wq.heap.size wq V) => implLine _ dk (deedT ak an) V (hdj.below hV) hcj (deskB_size hdb) hby (by omega) (hE2.below (hB25.trans (hV.mono hB25.size)))
            have hDT := fun V => implDeedText ak an hfx.1 hfx.2 V
            rw [hlv] at hLn'
            obtain ⟨X, hX⟩ : ∃ X, str (deedT ak an) = X := ⟨_, rfl⟩
            obtain ⟨T, hT⟩ : ∃ T, str tx = T := ⟨_, rfl⟩
            simp only [hX, hT] at hLn' hDT
            unfold dV at hDT
            have hTx : T.toList = [111, 107] ∨ T.toList = [110, 111, 116] := by
              rw [← hT, str_toList]
              rcases htx with rfl | rfl
              · exact .inl rfl
              · exact .inr rfl
            have hLnh := hide hLn'
            have hDTh := hide hDT
            have hDh := hide hD
            have lq := (Array.getElem?_eq_some_iff.1 kxq).1
            have hAt := hide (fun V (hV : Below wq.heap.size wq V) => And.intro (row_at ((hV.block _ lq).trans kxq)) (And.intro ((hV.cell (p := ⟨g, o + k * 2, none⟩) (Nat.lt_of_lt_of_le hg hB25.size)).trans ((hB25.cell (p := ⟨g, o + k * 2, none⟩) hg).trans e1)) ((hV.cell (p := ⟨g, o + k * 2 + 1, none⟩) (Nat.lt_of_lt_of_le hg hB25.size)).trans ((hB25.cell (p := ⟨g, o + k * 2 + 1, none⟩) hg).trans e2))))
            rw [hbx] at hAt kxq
            have hkxq := hide kxq
            clear hLn' hDT hD hX hT htx hby hdl hu1 hu2 hlv hane hdk ha e1 e2 hc hlr hJ hO b5 hB2q kdq hdj hcj hfx hdb hdb' kxq c0 c1 hrun
            gi_wp2
            refine wpIn_region_madeP 6 D.1.length D.2.length [(some 102, 0), (some 103, 1), (some 104, 2), (some 105, 3), (some 106, 4), (some 107, 5), (some 108, 6), (some 101, 7), (some 109, 8), (some 110, 9), (some 17, 10), (none, 11)] (.string T) (fun V y => OwnDk V wq.heap.size y D) (by kernel_rfl) (by kernel_rfl) (by kernel_rfl) (by decide) (by kernel_rfl) (by kernel_rfl) (by rfl) (by decide)
              (fun i v V => match i with | 0 => v = .agg #[.slice q1 dk.1.length q2, .slice q3 dk.2.length q4] | 1 => v = .slice (some ⟨g, o, none⟩) M lc | 2 => v = .int .i64 k | 3 => v = .pointer (some ⟨g, o + k * 2, none⟩) | 4 => v = .agg #[.int .i64 ak, .int .i64 an] | 5 => v = .string X | _ => True)
              (fun i v V V' h hb => match i, h with | 0, h => h | 1, h => h | 2, h => h | 3, h => h | 4, h => h | 5, h => h | (_ + 6), _ => trivial)
              (fun V V' y h hB => h.below hB)
              (fun V b' a1 c1 a2 c2 h _ hz => ownDk_stored h hz)
              ?step ?call ?move ?ext0 ?ext1 ?allo ?stor ?tail
            case step =>
              rintro i oo s V hi ho hV hd Q' hQ
              obtain ⟨⟨m0, m1, _, _⟩, n0, n1⟩ := hAt.out V hV
              rcases (show i = 0 ∨ i = 1 ∨ i = 2 ∨ i = 3 ∨ i = 4 ∨ i = 5 by omega) with rfl | rfl | rfl | rfl | rfl | rfl
              all_goals
                simp at ho
                subst ho
                simp only [putsOf, Act.put, List.setIfInBounds_toArray, List.set_cons_succ, List.set_cons_zero] at hQ ⊢
                have hQ' := hide hQ
                clear hQ
              · clear hd
                gi_wp2
                exact hQ'.out _ _ (Below.refl _ _) rfl
              · clear hd
                gi_wp2
                exact hQ'.out _ _ (Below.refl _ _) rfl
              · clear hd
                gi_wp2
                exact hQ'.out _ _ (Below.refl _ _) rfl
              · have e1 : s 1 = .slice (some ⟨g, o, none⟩) M lc := hd 1 (by decide) (by kernel_rfl)
                have e2 : s 2 = .int .i64 k := hd 2 (by decide) (by kernel_rfl)
                clear hd
                gi_wp2
                have hr := hQ'.out
                simp only [e1, e2] at hr ⊢
                exact hr _ _ (Below.refl _ _) rfl
              · have e1 : s 3 = .pointer (some ⟨g, o + k * 2, none⟩) := hd 3 (by decide) (by kernel_rfl)
                clear hd
                gi_wp2
                have hr := hQ'.out
                simp only [e1] at hr ⊢
                exact hr _ _ (Below.refl _ _) rfl
              · have e1 : s 4 = .agg #[.int .i64 ak, .int .i64 an] := hd 4 (by decide) (by kernel_rfl)
                clear hd
                gi_wp2_with (gi_at_call 15; go_loud (refine (callsIn_wide.2 (hDTh.out _)).mono ?_; rintro e W9 ⟨rfl, hB9⟩))
                have hr := hQ'.out
                simp only [e1] at hr ⊢
                exact hr _ _ hB9 rfl
            case call =>
              rintro oo s V ho hV hd Q' hQ
              simp at ho
              subst ho
              simp only [putsOf, Act.put, List.setIfInBounds_toArray, List.set_cons_succ, List.set_cons_zero] at hQ ⊢
              have hQ' := hide hQ
              clear hQ
              have e1 : s 0 = .agg #[.slice q1 dk.1.length q2, .slice q3 dk.2.length q4] := hd 0 (by decide) (by kernel_rfl)
              have e2 : s 5 = .string X := hd 5 (by decide) (by kernel_rfl)
              have hS := hLnh.out V hV
              clear hd
              gi_wp2_with (gi_at_call 14; go_loud (refine (callsIn_wide.2 hS).mono ?_; rintro e W9 ⟨y9, rfl, hy9, hB9⟩))
              obtain ⟨y1, y2, y3, y4, rfl⟩ := hy9.form
              have hr := hQ'.out
              simp only [e1, e2] at hr ⊢
              exact hr _ _ _ _ _ hB9 (hy9.down hV.size)
            case move =>
              rintro oo s V y Q' ho hs hQ
              simp at ho
              subst ho
              simp only [putsOf, Act.put, List.setIfInBounds_toArray, List.set_cons_succ, List.set_cons_zero] at hQ ⊢
              have hQ' := hide hQ
              clear hQ
              gi_wp2
              have hr := hQ'.out
              simp only [hs] at hr ⊢
              exact hr
            case ext0 =>
              rintro oo s V y z Q' ho hs hQ
              simp at ho
              subst ho
              simp only [putsOf, Act.put, List.setIfInBounds_toArray, List.set_cons_succ, List.set_cons_zero] at hQ ⊢
              have hQ' := hide hQ
              clear hQ
              replace hs : s 7 = .tuple #[y, z] := hs
              gi_wp2
              have hr := hQ'.out
              simp only [hs] at hr ⊢
              exact hr
            case ext1 =>
              rintro oo s V y z Q' ho hs hQ
              simp at ho
              subst ho
              simp only [putsOf, Act.put, List.setIfInBounds_toArray, List.set_cons_succ, List.set_cons_zero] at hQ ⊢
              have hQ' := hide hQ
              clear hQ
              replace hs : s 7 = .tuple #[y, z] := hs
              gi_wp2
              have hr := hQ'.out
              simp only [hs] at hr ⊢
              exact hr
            case allo =>
              rintro oo s V Q' ho hQ
              simp at ho
              subst ho
              simp only [putsOf, Act.put, List.setIfInBounds_toArray, List.set_cons_succ, List.set_cons_zero] at hQ ⊢
              have hQ' := hide hQ
              clear hQ
              gi_wp2
              exact hQ'.out
            case stor =>
              rintro oo s V b' a1 c1 a2 c2 Q' ho hs1 hs2 hz hQ
              obtain ⟨z0, z1, z2, z3⟩ := row_at hz
              simp at ho
              subst ho
              simp only [putsOf, Act.put, List.setIfInBounds_toArray, List.set_cons_succ, List.set_cons_zero] at hQ ⊢
              have hQ' := hide hQ
              clear hQ
              replace hs1 : s 10 = .pointer (some ⟨b', 0, none⟩) := hs1
              replace hs2 : s 8 = .agg #[.slice a1 D.1.length c1, .slice a2 D.2.length c2] := hs2
              gi_wp2
              have hr := hQ'.out
              simp only [hs1, hs2] at hr ⊢
              exact hr
            case tail =>
              rintro s w9 b t1 t2 t3 t4 hV f10 hb9 ka hA9 f9
              replace f10 : s 10 = .pointer (some ⟨b, 0, none⟩) := f10
              replace f9 : s 9 = .string T := f9
              have kx9 := (hV.block _ (Array.getElem?_eq_some_iff.1 hkxq.out).1).trans hkxq.out
              have hlq : bx < wq.heap.size := (Array.getElem?_eq_some_iff.1 hkxq.out).1
              have hB9 := hB25.trans (hV.mono hB25.size)
              obtain ⟨m0, m1, m2, m3⟩ := row_at kx9
              obtain ⟨n0, n1, _, _⟩ := row_at ka
              have zd := desk_set kx9 (.slice t1 D.1.length t2) (.slice t3 D.2.length t4)
              have zB := (hB9.setCell (p := ⟨bx, 0, none⟩) (by rw [hbx]; exact Nat.le_refl _) (.slice t1 D.1.length t2)).setCell (p := ⟨bx, 1, none⟩) (by rw [hbx]; exact Nat.le_refl _) (.slice t3 D.2.length t4)
              have zo := (hA9.old hlq (grownBy_setAt w9 bx 0 (.slice t1 D.1.length t2))).old hlq (grownBy_setAt _ bx 1 (.slice t3 D.2.length t4))
              have hJn : ∀ V, V = (w9.setCell ⟨bx, 0, none⟩ (.slice t1 D.1.length t2)).setCell ⟨bx, 1, none⟩ (.slice t3 D.2.length t4) → Jr w2 d L (k + 1) (.slice t1 D.1.length t2) (.slice t3 D.2.length t4) V := by
                rintro V rfl
                exact ⟨zB, by rw [hbx]; exact zd, by rw [hDh.out]; exact zo.deskI, zo.cap⟩
              have hJnh := hide hJn
              clear hJn zd zB zo hA9 hV hB9 kx9 ka
              simp only [putsOf, Act.put, List.setIfInBounds_toArray, List.set_cons_succ, List.set_cons_zero]
              simp only [List.drop_succ_cons, List.drop_zero]
              simp only [f9, f10]
              rcases hTx with hTx | hTx
              · gi_wp2
                go_roundw
                case rel => exact ⟨k + 1, _, _, by omega, by go_num, hJnh.out _ rfl⟩
                case measure => simp [intOf]; omega
              · gi_wp2
                go_roundw
                case rel => exact ⟨k + 1, _, _, by omega, by go_num, hJnh.out _ rfl⟩
                case measure => simp [intOf]; omega
          · obtain rfl : k = M := by omega
            have hki : ¬ (k : Int) < (k : Int) := by omega
            have htl : L.take k = L := by rw [← hM, List.take_length]
            have hB25 := hB2q
            have hrun' : (runL d 0 (L.take k)).1 = (runV d L).1 := by rw [htl, hrun]
            obtain ⟨q1, q2, q3, q4, hq⟩ : ∃ q1 q2 q3 q4, Value.agg #[u, q] = .agg #[.slice q1 (runV d L).1.1.length q2, .slice q3 (runV d L).1.2.length q4] := by
              obtain ⟨ux, uq, eu, hu1, hu2⟩ := id hJ.desk
              obtain ⟨q1, q2, rfl⟩ := hu1.shape
              obtain ⟨q3, q4, rfl, _⟩ := id hu2
              rw [hrun'] at eu
              exact ⟨_, _, _, _, eu⟩
            injection hq with hq
            simp at hq
            obtain ⟨rfl, rfl⟩ := hq
            have hjd := hJ.desk
            have bxz := hJ.box
            rw [hrun'] at hjd
            rw [hbx] at bxz
            clear hB2q kdq c0 c1 hrun htl hrun' hlr hline hJ
            have kdz := (hB25.block _ (Array.getElem?_eq_some_iff.1 hkd.out).1).trans hkd.out
            obtain ⟨c0, c1, _, _⟩ := row_at kdz
            have hR := implRun _ _ d L wr (hd2.below hB25) hz.dkS (hD2.below hB25) (by omega) hfh.out
            obtain ⟨D, hD⟩ : ∃ D, (runV d L).1 = D := ⟨_, rfl⟩
            obtain ⟨cn, hcn⟩ : ∃ cn, (runV d L).2 = cn := ⟨_, rfl⟩
            rw [hD] at hR hjd bxz
            rw [hcn] at hR
            clear hcn
            gi_wp2_with fail
            gi_at_call 16
            refine (callsIn_wide.2 hR).mono ?_
            rintro e w6 ⟨y, rfl, hy, b6⟩
            have hyd := hy.deskI
            obtain ⟨y1, y2, y3, y4, rfl⟩ := hy.form
            have b6a := (Below.refl _ w6).alloc (Nat.le_refl _) (.cells #[.slice y1 D.1.length y2, .slice y3 D.2.length y4] 31)
            have ky := World.alloc_heap_new w6 (.cells #[.slice y1 D.1.length y2, .slice y3 D.2.length y4] 31)
            have b57 := b6.trans (b6a.mono b6.size)
            have hyd7 := hyd.below b6a
            obtain ⟨w7, hw7⟩ : ∃ w7, w6.alloc (.cells #[.slice y1 D.1.length y2, .slice y3 D.2.length y4] 31) = w7 := ⟨_, rfl⟩
            rw [hw7] at b57 ky hyd7
            obtain ⟨bz, hbz⟩ : ∃ bz, w6.heap.size = bz := ⟨_, rfl⟩
            rw [hbz] at ky
            have hB27 := hB25.trans (b57.mono hB25.size)
            have hB7 := hB2.trans (hB27.mono hB2.size)
            have kd7 := (hB27.block _ (Array.getElem?_eq_some_iff.1 hkd.out).1).trans hkd.out
            have hd7 := hd2.below hB27
            have hD7 := hD2.below hB27
            have q0 := fun n : After w7 => (row_at ((n.ok.block _ (Array.getElem?_eq_some_iff.1 kd7).1).trans kd7)).1
            have q1 := fun n : After w7 => (row_at ((n.ok.block _ (Array.getElem?_eq_some_iff.1 kd7).1).trans kd7)).2.1
            have kx7 := (b57.block _ (Array.getElem?_eq_some_iff.1 bxz).1).trans bxz
            have hj7 := hjd.below b57
            have x0 := fun n : After w7 => (row_at ((n.ok.block _ (Array.getElem?_eq_some_iff.1 kx7).1).trans kx7)).1
            have x1 := fun n : After w7 => (row_at ((n.ok.block _ (Array.getElem?_eq_some_iff.1 kx7).1).trans kx7)).2.1
            have z0 := fun n : After w7 => (row_at ((n.ok.block _ (Array.getElem?_eq_some_iff.1 ky).1).trans ky)).1
            have z1 := fun n : After w7 => (row_at ((n.ok.block _ (Array.getElem?_eq_some_iff.1 ky).1).trans ky)).2.1
            have hSd := hide (fun n : After w7 => after_of (sameDesk_in _ _ D n.now (rowsOk_sameJ (hD ▸ runV_rows d L)) (hj7.below n.ok) (hyd7.below n.ok)))
            have hM40 : ¬ (40 : Int) < (k : Int) := by omega
            have hMd : decide ((40 : Int) < (k : Int)) = false := decide_eq_false hM40
            have hOc := hide (fun n : After w7 => after_of (hOK.out n.now (hB27.trans (n.ok.mono hB27.size))))
            have hJc := hide (fun n : After w7 => after_of (hJTh.out _ n.now (hD7.below n.ok)))
            clear hR hyd hyd7 b6 b6a b57 hy hB25 kdz c0 c1 kd7 hd7 hD7 ky
            gi_wp2_with fail
            refine wpIn_region_after w7 rfl (by kernel_rfl) (by kernel_rfl) (Below.refl _ _) ?_
            repeat (gi_big_quiet_step (first
              | (gi_at_call 17; exact callsIn_wide.2 (hJc.out _))
              | (gi_at_call 13; exact callsIn_wide.2 (hOc.out _))
              | (gi_at_call 18; exact callsIn_wide.2 (hSd.out _))
              | (gi_at_call 19; exact callsIn_wide.2 (after_of (alive_in _)))))
            refine wpQuietIn_nil ?_
            rintro _ ⟨nq, rfl⟩
            gi_wp2
            go_ret
            exact ⟨rfl, hB7.trans (nq.ok.mono hB7.size)⟩
end Go.Proofs.YtiaaefapbcjgmaaGreatDoor
namespace Go.Proofs.YtiaaefapbcjgmaaGreatDoor
open Go Go.RowKit
variable {H : Type} {enc : TypeId × Value → H}

theorem returnsInHanded_of_change_and_shaped {a : Assume} {C : Checked} {os : Os} {f : FuncId} {fn : Func} {s : ChangeSpec} {conds : List PathCond} {apart fresh handsOn again : Bool} {X : World → Array Value → Prop}
    (hX : ∀ (w w' : World) (args : Array Value), w.heap = w'.heap → X w args → X w' args)
    (own : ownKnob C.prog.godebug = none) (started : os.Started) (noInit : C.prog.inits.idxOf? f = none) (hfn : C.prog.funcs[f]? = some fn)
    (witness : ∃ (w : World) (tape : Tape) (i : Input), w.os = os ∧ (w.forCall tape i).Shaped C.prog ∧ i.vars = [] ∧ Input.okWide C.prog (w.forCall tape i) .any w.heap.size f i ∧
      ((s.pre enc C.prog fn conds apart (w.forCall tape i).memory i.args ∧ X (w.forCall tape i).memory i.args) ∧ sizedMet enc C.prog fn (OpenSpec.ofChange s) apart (w.forCall tape i).memory i.args) ∧ a.holds C.prog (lone (Frame.enter C.prog f i.args .normal) [] (w.forCall tape i)))
    (contract : ∀ (W : World) (base : Nat) (args : Array Value) (ds gs : List (DataW H)) (before : List MemPlace),
      (∀ (j : Nat) t v, fn.params[j]? = some t → args[j]? = some v → Value.okWide C.prog W .any base t v) →
      DataW.Whole enc C.prog fn.params.toList s.vars apart W args.toList ds gs before →
      conds.all (PathCond.test C.prog ⟨fn.params.toList, ds, s.plain.varTypes C.prog, gs⟩) = true →
      W.ShapedOpen C.prog → X W args →
      a.holds C.prog (lone (Frame.enter C.prog f args .normal) [] W) →
      Calls C.prog f args W fun e W' => ∃ v, e = .returned v ∧ s.post enc C.prog fn apart fresh handsOn again W args v W') :
    ReturnsInHanded a C os f .any (fun w args => (s.pre enc C.prog fn conds apart w args ∧ X w args) ∧ sizedMet enc C.prog fn (OpenSpec.ofChange s) apart w args) (s.post enc C.prog fn apart fresh handsOn again) := by
  refine returnsInHanded_of_calls own started noInit witness ?_
  intro w tape i _ hsh _ hok hpre hholds
  obtain ⟨_, _, _, fn', hfn', _, _, _, _, hval⟩ := hok
  have e : fn' = fn := Option.some.inj (hfn'.symm.trans hfn)
  subst e
  obtain ⟨⟨⟨ds, gs, before, hw, hc⟩, hx⟩, hz⟩ := hpre
  have hw' := DataW.Whole.of_heap (w' := w.forCall tape i) (by rfl) hw
  refine (contract (w.forCall tape i) w.heap.size i.args ds gs before hval hw' hc hsh (hX _ _ _ (by rfl) hx) hholds).mono fun e W' ⟨v, he, hp⟩ => ?_
  subst he
  exact ChangeSpec.post_blind hp
end Go.Proofs.YtiaaefapbcjgmaaGreatDoor
namespace Go.Proofs.YtiaaefapbcjgmaaGreatDoor
open Go Go.RowKit

def laid7 : List (String × DataW Unit) := [("math/bits.deBruijn32tab", Rows.laid_math_bits_deBruijn32tab), ("math/bits.deBruijn64tab", Rows.laid_math_bits_deBruijn64tab), ("internal/strconv.uint64pow10", Rows.laid_internal_strconv_uint64pow10), ("unicode/utf8.acceptRanges", Rows.laid_unicode_utf8_acceptRanges), ("strconv.ErrRange", Rows.laid_strconv_ErrRange), ("strconv.ErrSyntax", Rows.laid_strconv_ErrSyntax), ("unicode/utf8.first", Rows.laid_unicode_utf8_first)]

theorem errStar : "*" ++ "errors.errorString" = "*errors.errorString" := by decide

theorem errRow (u : TypeId) (h : Tryz.prog.typeName? 3 u = some "*errors.errorString") : u = 226 :=
  typeName_ptr_named (nm := "errors.errorString") (by rw [errStar]; kernel_rfl) (by kernel_rfl) (by decide) u (by rw [errStar]; exact h)

theorem env_of_laid {W : World} (hsh : W.ShapedOpen Tryz.prog) (hL : laidMet Tryz.prog laid7 W) : Env W := by
  have h3 : laidMet Tryz.prog (("internal/strconv.uint64pow10", Lib.tabData .u64 Lib.pow10Tab) :: _) W := hL.tail.tail
  have h5 := h3.tail.tail
  have h6 := h5.tail
  obtain ⟨a0, s0, hv0, _, _, _⟩ := laid_sentinel (te := 228) h5 (g := Tryz.atoiA_ren.g 16) (by kernel_rfl) (ti := 89) (by kernel_rfl) Tryz.underlying89 errRow Tryz.underlying226 Tryz.underlying228 rfl rfl Tryz.underlying9 (by kernel_rfl) (by kernel_rfl)
  obtain ⟨a1, s1, hv1, _, _, _⟩ := laid_sentinel (te := 228) h6 (g := Tryz.atoiA_ren.g 15) (by kernel_rfl) (ti := 89) (by kernel_rfl) Tryz.underlying89 errRow Tryz.underlying226 Tryz.underlying228 rfl rfl Tryz.underlying9 (by kernel_rfl) (by kernel_rfl)
  have k1 := World.var?_cell (g := Tryz.atoiA_ren.g 15) (by kernel_rfl) hv1 0
  have k0 := World.var?_cell (g := Tryz.atoiA_ren.g 16) (by kernel_rfl) hv0 0
  simp only [List.getElem?_toArray, List.getElem?_cons_zero] at k0 k1
  have hp := Lib.tabIs_of_head (g := Tryz.itoaA_ren.g 17) (t := 201) (e := 162) (n := 20) (by kernel_rfl) (by kernel_rfl) Tryz.underlying201 Tryz.underlying162 (by kernel_rfl) (by kernel_rfl) h3
  exact ⟨Tryz.splitA.s1_3 W hsh, hp, ⟨_, k1, .inr ⟨_, _, rfl⟩⟩, ⟨_, k0, .inr ⟨_, _, rfl⟩⟩⟩
end Go.Proofs.YtiaaefapbcjgmaaGreatDoor
