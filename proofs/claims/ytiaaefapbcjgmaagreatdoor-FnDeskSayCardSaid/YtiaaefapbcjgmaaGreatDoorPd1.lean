/-
 Parts of the proofs, laid together: Draw9, LawKit4, Math12n, NumF12, R12Z, RegRd, S12Z, SideZ, Spec10, Spec9c, SpecZ.
-/
import Derived.WalkKit
import Derived.Laws.Concat
import Derived.Laws.Strings2
import Derived.OrdersIn
import Derived.TacticsIn
import Derived.Test.YtiaaefapbcjgmaaGreatDoorProg
import Derived.OwnWalkIn
import Derived.Deep.RegionLaw
import Derived.RangeFuncBox
import Derived.Laws.DeepStrings4
import Derived.Laws.Cover1
import Derived.Maps.AppendAt
import Derived.WalkSpells
import Derived.RangeFuncNested
import Derived.RangeFuncBound
import Derived.RangeFuncCalls
import Derived.RangeFuncLeaves
import Derived.BigRegion
import Derived.Shelf.Abstract
import Derived.Shelf.RegionOpen
import Derived.TacticsInMore
import Derived.LoopNIn
import Derived.LoopIn
import Derived.Deep.QuietTactic
import Derived.BigQuiet
import Derived.Below
import Derived.Laws.BytesString
import Derived.Deep.RegionWith
import Derived.DeepKeys5
import Derived.Maps.Keyed
import Derived.Deep.DeepCutAuto
import Derived.Laws.AppendOwnNone
import Derived.Lib.AtoiAll
import Derived.Lib.AtoiAllCases
import Derived.Lib.ItoaNum
import Derived.Lib.ItoaMem
import Derived.Lib.SplitLaws
import Derived.ControlIn
import Derived.Laws.CopyOwn
import Derived.StillTailTactics
import Derived.Maps.OwnSet
import Derived.Laws.Bits64
import Derived.Laws.Bits64b
import Derived.Test.YtiaaefapbcjgmaaGreatDoorPd0
namespace Go.Proofs.YtiaaefapbcjgmaaGreatDoor
section
open Go.RowKit Go.Shelf
attribute [local go_sem] Oper.semAt_some
set_option maxRecDepth 100000 in
set_option maxHeartbeats 2000000 in
theorem specReadDeed (l : List Nat) (hl : ∀ x ∈ l, x < 256) (hn : l.length ≤ 2000000) (w : World) : Calls Tryz.prog 47 #[.string (str l)] w fun e w' => e = .returned (.tuple #[dV (rdV l).1.1 (rdV l).1.2, .bool (rdV l).2]) ∧ Below w.heap.size w w' := by
  have hcut := fun V => specCut 32 (by omega) l hl hn V
  have hsec := secI_fits l
  obtain ⟨ws, hws⟩ : ∃ ws, cutT 32 l = ws := ⟨_, rfl⟩
  have hcand : candD l = [(2, 0), (3, 0), (4, 0), (5, 0)] ++ (if ws.length = 2 then [(0, secI l), (1, secI l)] else []) := by rw [← hws]; rfl
  rw [hws] at hcut
  refine (cW9 (n := 9)).1 ?_
  refine callsIn_of_wp Tryz.func47 rfl trivial ?_ rfl
  simp only [Tryz.ntmps47, List.size_toArray, List.length_cons, List.length_nil, Nat.reduceAdd, Nat.reduceSub, Array.replicate_succ, Array.replicate_zero, List.push_toArray, List.append_toArray, List.nil_append, List.cons_append]
  have hB0 : Below w.heap.size w (w.alloc (.cells #[.int .i64 0, .int .i64 0] 39)) := (Below.refl _ w).alloc (Nat.le_refl _) _
  have hpos : 0 < ws.length := by rw [← hws]; exact cutL_pos 32 l []
  have hmem : ∀ x ∈ ws, (∀ c ∈ x, c < 256) ∧ x.length ≤ 2000000 := fun x hx => by
    rw [← hws] at hx
    obtain ⟨h1, h2⟩ := cutL_mem 32 l [] x hx
    exact ⟨fun c hc => hl c ((h1 c hc).resolve_left (by simp)), by simp at h2; omega⟩
  have hsi : secI l = digI (ws.getD 1 []) := by rw [← hws]; rfl
  by_cases h2 : ws.length = 2
  · have hw1 := hmem (ws.getD 1 []) (word_mem ws 1 (by omega))
    have hDg := fun V => specDigits (ws.getD 1 []) hw1.1 hw1.2 V
    rw [← hsi] at hDg
    rw [if_pos h2] at hcand
    generalize secI l = D at *
    obtain ⟨X, hX⟩ : ∃ X, str (ws.getD 1 []) = X := ⟨_, rfl⟩
    rw [hX] at hDg
    gi_wp2_with (refine ⟨trivial, ?_⟩; gi_at_call 71; refine (cW9.2 (hcut _)).mono ?_; clear hcut; go_loud (rintro e w1 ⟨v, rfl, hown, hB1⟩; obtain ⟨gw, cw, rfl, hgw1, hgw2, hgw3⟩ := texts_open hown hpos; have hcx := word_cells hgw3 1 (by omega); unfold txt at hcx; rw [hX] at hcx; rw [h2]))
    have hB2 : Below w.heap.size w w1 := hB0.trans (hB1.mono hB0.size)
    have hres : ∀ W, Below w1.heap.size w1 W → W.heap[w.heap.size]? = some (.cells #[.int .i64 0, .int .i64 0] 39 (0, 0)) := fun W hW => by
      have h0 : (w.alloc (.cells #[.int .i64 0, .int .i64 0] 39)).heap[w.heap.size]? = some (.cells #[.int .i64 0, .int .i64 0] 39 (0, 0)) := aN9 w _
      have h1 := (hB1.block w.heap.size (by simp)).trans h0
      exact (hW.block _ (gE9.1 h1).1).trans h1
    have hlit : (w1.alloc (.cells #[.int .i64 2, .int .i64 0, .int .i64 3, .int .i64 0, .int .i64 4, .int .i64 0, .int .i64 5, .int .i64 0] 39)).ownsRow w.heap.size 39 2 (.slice (some ⟨w1.heap.size, 0, none⟩) 4 4) 4 (cellsD [(2, 0), (3, 0), (4, 0), (5, 0)]) :=
      World.ownsRow_lit w1 #[.int .i64 2, .int .i64 0, .int .i64 3, .int .i64 0, .int .i64 4, .int .i64 0, .int .i64 5, .int .i64 0] 4 hB2.size (by decide) rfl
    have hcx0 : (w1.alloc (.cells #[.int .i64 2, .int .i64 0, .int .i64 3, .int .i64 0, .int .i64 4, .int .i64 0, .int .i64 5, .int .i64 0] 39)).cell? ⟨gw, 1, none⟩ = some (.string X) := (World.cell?_alloc_past _ _ _ hgw2).trans hcx
    obtain ⟨i0, hi, hz0, hz1, hz2⟩ := info_any Tryz.infoDeed
    clear hsi hX
    refine wpIn_region_kinds 12 (by kernel_rfl) (by kernel_rfl) (by kernel_rfl) (by decide)
      (fun s => { tmps := #[.string (str l), undef, .pointer (some ⟨w.heap.size, 0, none⟩), .bool false, .slice (some ⟨gw, 0, none⟩) 2 cw, .slice (some ⟨w1.heap.size, 0, none⟩) 4 4, undef, .string (str l), .slice (some ⟨gw, 0, none⟩) 2 cw, .agg #[.int .i64 2, .int .i64 0], .agg #[.int .i64 3, .int .i64 0], .agg #[.int .i64 4, .int .i64 0], .agg #[.int .i64 5, .int .i64 0], .slice (some ⟨w1.heap.size, 0, none⟩) 4 4, .slice (some ⟨gw, 0, none⟩) 2 cw, .int .i64 2, .bool true, s 0, s 1, s 2, s 3, s 4, s 5, s 6, s 7, s 8, s 9, s 10, s 11, undef, undef, undef, undef, undef, undef, undef, undef, undef, undef, undef, undef, undef, undef, undef, undef, undef, undef, undef, undef, undef, undef, undef], defers := [] })
      [.val (.slice (some ⟨w1.heap.size, 0, none⟩) 4 4), .val (.slice (some ⟨gw, 0, none⟩) 2 cw), .val (.pointer (some ⟨gw, 1, none⟩)), .val (.string X), .val (.int .i64 D), .val (.agg #[.int .i64 0, .int .i64 D]), .val (.slice (some ⟨gw, 0, none⟩) 2 cw), .val (.pointer (some ⟨gw, 1, none⟩)), .val (.string X), .val (.int .i64 D), .val (.agg #[.int .i64 1, .int .i64 D]), .cells 2 [.int .i64 0, .int .i64 D, .int .i64 1, .int .i64 D]]
      ⟨fun _ => undef, rfl⟩ ?put ?step ?tail
    case put =>
      intro i o s v hi ho
      rcases (show i = 0 ∨ i = 1 ∨ i = 2 ∨ i = 3 ∨ i = 4 ∨ i = 5 ∨ i = 6 ∨ i = 7 ∨ i = 8 ∨ i = 9 ∨ i = 10 ∨ i = 11 by omega) with rfl | rfl | rfl | rfl | rfl | rfl | rfl | rfl | rfl | rfl | rfl | rfl
      all_goals
        simp at ho
        subst ho
        simp [Act.put]
    case step =>
      rintro i o s V hi ho hV hd Q' hQ
      rcases (show i = 0 ∨ i = 1 ∨ i = 2 ∨ i = 3 ∨ i = 4 ∨ i = 5 ∨ i = 6 ∨ i = 7 ∨ i = 8 ∨ i = 9 ∨ i = 10 ∨ i = 11 by omega) with rfl | rfl | rfl | rfl | rfl | rfl | rfl | rfl | rfl | rfl | rfl | rfl
      all_goals
        simp at ho
        subst ho
        simp [Act.put] at hQ
        have hQ' := hide hQ
        clear hQ
      case inl =>
        clear hd
        gi_wp2
        exact hQ'.out _ _ (Below.refl _ _) rfl
      case inr.inl =>
        clear hd
        gi_wp2
        exact hQ'.out _ _ (Below.refl _ _) rfl
      case inr.inr.inl =>
        have e1 : s 1 = .slice (some ⟨gw, 0, none⟩) 2 cw := hd 1 (by kernel_rfl)
        clear hd
        gi_wp2
        have hr := hQ'.out
        rw [e1] at hr
        exact hr _ _ (Below.refl _ _) rfl
      case inr.inr.inr.inl =>
        have e1 : s 2 = .pointer (some ⟨gw, 1, none⟩) := hd 2 (by kernel_rfl)
        have hcc := (hV.cell (p := ⟨gw, 1, none⟩) (by show gw < _; rw [World.size_alloc]; omega)).trans hcx0
        clear hd
        gi_wp2
        have hr := hQ'.out
        rw [e1] at hr
        exact hr _ _ (Below.refl _ _) rfl
      case inr.inr.inr.inr.inl =>
        have e1 : s 3 = .string X := hd 3 (by kernel_rfl)
        clear hd
        gi_wp2_with (refine ⟨trivial, ?_⟩; gi_at_call 72; refine (cW9.2 (hDg _)).mono ?_; rintro e w' ⟨rfl, rfl⟩)
        have hr := hQ'.out
        rw [e1] at hr
        exact hr _ _ (Below.refl _ _) rfl
      case inr.inr.inr.inr.inr.inl =>
        have e1 : s 4 = .int .i64 D := hd 4 (by kernel_rfl)
        clear hd
        gi_wp2
        have hr := hQ'.out
        rw [e1] at hr
        exact hr _ _ (Below.refl _ _) rfl
      case inr.inr.inr.inr.inr.inr.inl =>
        clear hd
        gi_wp2
        exact hQ'.out _ _ (Below.refl _ _) rfl
      case inr.inr.inr.inr.inr.inr.inr.inl =>
        have e1 : s 6 = .slice (some ⟨gw, 0, none⟩) 2 cw := hd 6 (by kernel_rfl)
        clear hd
        gi_wp2
        have hr := hQ'.out
        rw [e1] at hr
        exact hr _ _ (Below.refl _ _) rfl
      case inr.inr.inr.inr.inr.inr.inr.inr.inl =>
        have e1 : s 7 = .pointer (some ⟨gw, 1, none⟩) := hd 7 (by kernel_rfl)
        have hcc := (hV.cell (p := ⟨gw, 1, none⟩) (by show gw < _; rw [World.size_alloc]; omega)).trans hcx0
        clear hd
        gi_wp2
        have hr := hQ'.out
        rw [e1] at hr
        exact hr _ _ (Below.refl _ _) rfl
      case inr.inr.inr.inr.inr.inr.inr.inr.inr.inl =>
        have e1 : s 8 = .string X := hd 8 (by kernel_rfl)
        clear hd
        gi_wp2_with (refine ⟨trivial, ?_⟩; gi_at_call 72; refine (cW9.2 (hDg _)).mono ?_; rintro e w' ⟨rfl, rfl⟩)
        have hr := hQ'.out
        rw [e1] at hr
        exact hr _ _ (Below.refl _ _) rfl
      case inr.inr.inr.inr.inr.inr.inr.inr.inr.inr.inl =>
        have e1 : s 9 = .int .i64 D := hd 9 (by kernel_rfl)
        clear hd
        gi_wp2
        have hr := hQ'.out
        rw [e1] at hr
        exact hr _ _ (Below.refl _ _) rfl
      case inr.inr.inr.inr.inr.inr.inr.inr.inr.inr.inr =>
        have e1 : s 5 = .agg #[.int .i64 0, .int .i64 D] := hd 5 (by kernel_rfl)
        have e2 : s 10 = .agg #[.int .i64 1, .int .i64 D] := hd 10 (by kernel_rfl)
        clear hd
        gi_wp2
        have hr := hQ'.out
        rw [e1, e2] at hr
        exact hr _ _ ((Below.refl _ V).alloc (Nat.le_refl _) _) ⟨V.heap.size, rfl, by simp, fun j u hj => by
          have hnew := aN9 V (.cells #[.int .i64 0, .int .i64 D, .int .i64 1, .int .i64 D] 39)
          rw [cell_of_row _ _ j _ _ _ hnew]
          simpa using hj⟩
    case tail =>
      rintro s V hV hd
      have e0 : s 0 = .slice (some ⟨w1.heap.size, 0, none⟩) 4 4 := hd 0 (by omega)
      obtain ⟨q, e11, hq, hcq⟩ : ∃ q, s 11 = .slice (some ⟨q, 0, none⟩) 2 2 ∧ q < V.heap.size ∧ ∀ j u, [Value.int .i64 0, .int .i64 D, .int .i64 1, .int .i64 D][j]? = some u → V.cell? ⟨q, j, none⟩ = some u := hd 11 (by omega)
      clear hd
      have hownV := own_more hlit hV
      simp only [List.drop_succ_cons, List.drop_zero]
      refine wpListIn_append_own _ rfl _ _ 24 rfl w.heap.size 39 i0 (.agg #[.int .i64 0, .int .i64 0]) 2 16 Tryz.underlying24 hi hz0 hz1 hz2 rfl (by decide) _ _ _ e0 hownV ⟨q, 0, none⟩ 2 2 [.int .i64 0, .int .i64 D, .int .i64 1, .int .i64 D] e11 rfl (fun j u hj => ?_) (fun u hu => ?_) (by decide) (by decide) (lT9 hB2.size (lT9 (by simp) hV.size)) ?_
      · have := hcq j u hj
        have hadd : (⟨q, 0, none⟩ : Addr).add j = ⟨q, j, none⟩ := by unfold Addr.add; split <;> simp_all
        rw [hadd]; exact this
      · simp at hu
        rcases hu with rfl | rfl | rfl | rfl <;> rfl
      · intro v5 w5 hown5 hg5 _
        have hres5 : w5.heap[w.heap.size]? = some (.cells #[.int .i64 0, .int .i64 0] 39 (0, 0)) := ((hg5.block _ (lL9 (gE9.1 (hres _ ((Below.refl _ w1).alloc (Nat.le_refl _) _))).1 hV.size) (by simp [Value.ownBlock]; have := hB1.size; simp at this; omega)).trans (hV.block _ (gE9.1 (hres _ ((Below.refl _ w1).alloc (Nat.le_refl _) _))).1)).trans (hres _ ((Below.refl _ w1).alloc (Nat.le_refl _) _))
        have hB5 : Below w.heap.size w w5 := (((hB2.alloc hB2.size _).trans (hV.mono (by simp; have := hB2.size; omega)))).grown hg5 (lT9 (by simp; have := hB2.size; omega) hV.size) (fun q e => by simp [Value.ownBlock] at e; have := hB2.size; omega)
        obtain ⟨L, hL⟩ : ∃ L, candD l = L := ⟨_, rfl⟩
        have hown6 : w5.ownsRow w.heap.size 39 2 v5 L.length (cellsD L) := by rw [← hL, hcand]; exact hown5
        clear hown5
        have hfits := fits_cand (l := l)
        have hlen6 := cand_len l
        have hfind : Hid ((L.drop 0).find? (fun a => decide (l ≠ []) && decide (deedT a.1 a.2 = l)) = readD l) := hide (by rw [← hL]; rfl)
        rw [hL] at hfits hlen6
        have hp4 : 0 < L.length := by rw [← hL]; unfold candD; simp
        obtain ⟨g5, c5, rfl, _, hg5l, hcell5⟩ := deeds_open hown6 hp4 rfl
        obtain ⟨S, hS⟩ : ∃ S, str l = S := ⟨_, rfl⟩
        have hSz := str_size l
        rw [hS] at hSz ⊢
        clear hown6 hL
        gi_wp2
        gi_loopw [6] (fun p wr => ∃ k : Nat, k ≤ L.length ∧ p = .int .i64 k ∧ Below w5.heap.size w5 wr ∧ Hid ((L.drop k).find? (fun a => decide (l ≠ []) && decide (deedT a.1 a.2 = l)) = readD l)) (fun p _ => L.length - (intOf p).toNat)
        case atStart => exact ⟨0, by omega, rfl, Below.refl _ _, hfind⟩
        case round =>
          obtain ⟨k, hk, rfl, hB6, hf⟩ := hrel
          by_cases hlt : k < L.length
          · have hki : (k : Int) < (L.length : Int) := by omega
            obtain ⟨c1, c2⟩ := hcell5 k hlt
            rw [Nat.mul_comm 2 k] at c1 c2
            have c1 := (hB6.cell (p := ⟨g5, k * 2, none⟩) hg5l).trans c1
            have c2 := (hB6.cell (p := ⟨g5, k * 2 + 1, none⟩) hg5l).trans c2
            have hfa := hfits (L.getD k (0, 0)) (by rw [List.getD, eG9 hlt]; exact List.getElem_mem hlt)
            have hdr : L.drop k = L.getD k (0, 0) :: L.drop (k + 1) := by rw [List.drop_eq_getElem_cons hlt, List.getD, eG9 hlt]; rfl
            have hf1 := hf.out
            rw [hdr, List.find?_cons] at hf1
            obtain ⟨a, ha⟩ : ∃ a, L.getD k (0, 0) = a := ⟨_, rfl⟩
            rw [ha] at hf1 hfa c1 c2
            have hT := fun V => specDeedText a.1 a.2 hfa.1 hfa.2 V
            unfold dV at hT
            have hcmp : ((str (deedT a.1 a.2)).toList == S.toList) = decide (deedT a.1 a.2 = l) := by
              rw [Bool.eq_iff_iff, beq_iff_eq, decide_eq_true_eq, ← hS, str_toList, str_toList]
              exact ⟨fun e => str_inj (fun x hx => (deed_byte _ _ x hx).1) hl e, fun e => by rw [e]⟩
            have hreal : ∀ W, Below w5.heap.size w5 W → W.heap[w.heap.size]? = some (.cells #[.int .i64 0, .int .i64 0] 39 (0, 0)) := fun W hW => (hW.block _ (gE9.1 hres5).1).trans hres5
            clear hf hdr ha hcell5
            by_cases hl0 : l = []
            · have hE : S.toList.isEmpty = true := by rw [← hS, hl0, str_toList]; rfl
              have hf2 : (decide (l ≠ []) && decide (deedT a.1 a.2 = l)) = false := by rw [hl0]; simp
              rw [hf2] at hf1
              have hf3 := hide hf1
              clear hf1 hf2 hT hcmp hreal
              gi_wp2_with (refine ⟨trivial, ?_⟩)
              go_roundw
              case rel => exact ⟨k + 1, by omega, by go_num, hB6, hf3⟩
              case measure => simp [intOf]; omega
            · have hE : S.toList.isEmpty = false := by
                rw [← hS, str_toList]
                cases l with
                | nil => exact absurd rfl hl0
                | cons c r => rfl
              by_cases he : deedT a.1 a.2 = l
              · rw [decide_eq_true he] at hcmp
                have hf2 : (decide (l ≠ []) && decide (deedT a.1 a.2 = l)) = true := by rw [decide_eq_true he, decide_eq_true hl0]; rfl
                rw [hf2] at hf1
                have hrd : rdV l = (a, true) := rd_some hf1.symm
                have hrd' := hide hrd
                clear hf1 hf2 hrd he
                gi_wp2_with (refine ⟨trivial, ?_⟩; gi_at_call 86; refine (cW9.2 (hT _)).mono ?_; clear hT; go_loud (rintro e w7 ⟨rfl, hB7⟩; have hB8 := hB6.trans (hB7.mono hB6.size); have c1' := (hB7.cell (p := ⟨g5, k * 2, none⟩) (lL9 hg5l hB6.size)).trans c1; have c2' := (hB7.cell (p := ⟨g5, k * 2 + 1, none⟩) (lL9 hg5l hB6.size)).trans c2; have hr8 := hreal _ hB8; have d0 : w7.cell? ⟨w.heap.size, 0, none⟩ = some (.int .i64 0) := (by simp [World.cell?, hr8]); have d1 : w7.cell? ⟨w.heap.size, 1, none⟩ = some (.int .i64 0) := (by simp [World.cell?, hr8]); have f0 : w7.frozen? ⟨w.heap.size, 0, none⟩ = false := (by simp [World.frozen?, hr8]); have f1 : w7.frozen? ⟨w.heap.size, 1, none⟩ = false := (by simp [World.frozen?, hr8])))
                have hset := deed_set hr8 a.1 a.2
                refine bodyPost_ret (results_deed rfl _ _ w.heap.size a.1 a.2 rfl hset) rfl ⟨by rw [hrd'.out]; rfl, ?_⟩
                exact (((hB5.trans (hB8.mono hB5.size)).setCell (p := ⟨w.heap.size, 0, none⟩) (Nat.le_refl _) _).setCell (p := ⟨w.heap.size, 1, none⟩) (Nat.le_refl _) _)
              · rw [decide_eq_false he] at hcmp
                have hf2 : (decide (l ≠ []) && decide (deedT a.1 a.2 = l)) = false := by rw [decide_eq_false he, Bool.and_false]
                rw [hf2] at hf1
                have hf3 := hide hf1
                clear hf1 hf2 hreal
                gi_wp2_with (refine ⟨trivial, ?_⟩; gi_at_call 86; refine (cW9.2 (hT _)).mono ?_; clear hT; rintro e w7 ⟨rfl, hB7⟩)
                go_roundw
                case rel => exact ⟨k + 1, by omega, by go_num, hB6.trans (hB7.mono hB6.size), hf3⟩
                case measure => simp [intOf]; omega
          · obtain rfl : k = L.length := by omega
            have hki : ¬ ((L.length : Nat) : Int) < (L.length : Int) := by omega
            have hf1 := hf.out
            rw [List.drop_length, List.find?_nil] at hf1
            have hrd' := hide (rd_none hf1.symm)
            have hr8 := (hB6.block _ (gE9.1 hres5).1).trans hres5
            have d0 : wr.cell? ⟨w.heap.size, 0, none⟩ = some (.int .i64 0) := by simp [World.cell?, hr8]
            have d1 : wr.cell? ⟨w.heap.size, 1, none⟩ = some (.int .i64 0) := by simp [World.cell?, hr8]
            have f0 : wr.frozen? ⟨w.heap.size, 0, none⟩ = false := by simp [World.frozen?, hr8]
            have f1 : wr.frozen? ⟨w.heap.size, 1, none⟩ = false := by simp [World.frozen?, hr8]
            clear hf hf1 hcell5
            gi_wp2
            have hset := deed_set hr8 0 0
            refine bodyPost_ret (results_deed rfl _ _ w.heap.size 0 0 rfl hset) rfl ⟨by rw [hrd'.out]; rfl, ?_⟩
            exact (((hB5.trans (hB6.mono hB5.size)).setCell (p := ⟨w.heap.size, 0, none⟩) (Nat.le_refl _) _).setCell (p := ⟨w.heap.size, 1, none⟩) (Nat.le_refl _) _)
  · gi_wp2_with (refine ⟨trivial, ?_⟩; gi_at_call 71; refine (cW9.2 (hcut _)).mono ?_; clear hcut; go_loud (rintro e w1 ⟨v, rfl, hown, hB1⟩; obtain ⟨gw, cw, rfl, hgw1, hgw2, hgw3⟩ := texts_open hown hpos; have hbw : ((ws.length : Int) == 2) = false := (by rw [beq_eq_false_iff_ne]; omega)))
    have hB2 : Below w.heap.size w w1 := hB0.trans (hB1.mono hB0.size)
    obtain ⟨w5, hw5⟩ : ∃ w5, w1.alloc (.cells #[.int .i64 2, .int .i64 0, .int .i64 3, .int .i64 0, .int .i64 4, .int .i64 0, .int .i64 5, .int .i64 0] 39) = w5 := ⟨_, rfl⟩
    have hres5 : w5.heap[w.heap.size]? = some (.cells #[.int .i64 0, .int .i64 0] 39 (0, 0)) := by
      have h0 : (w.alloc (.cells #[.int .i64 0, .int .i64 0] 39)).heap[w.heap.size]? = some (.cells #[.int .i64 0, .int .i64 0] 39 (0, 0)) := aN9 w _
      have h1 := (hB1.block w.heap.size (by simp)).trans h0
      rw [← hw5]
      exact (Below.heap_alloc _ _ _ (gE9.1 h1).1).trans h1
    have hB5 : Below w.heap.size w w5 := by rw [← hw5]; exact hB2.alloc hB2.size _
    have hlit : w5.ownsRow w.heap.size 39 2 (.slice (some ⟨w1.heap.size, 0, none⟩) 4 4) 4 (cellsD [(2, 0), (3, 0), (4, 0), (5, 0)]) := by
      rw [← hw5]
      exact World.ownsRow_lit w1 #[.int .i64 2, .int .i64 0, .int .i64 3, .int .i64 0, .int .i64 4, .int .i64 0, .int .i64 5, .int .i64 0] 4 hB2.size (by decide) rfl
    rw [hw5]
    obtain ⟨L, hL⟩ : ∃ L, candD l = L := ⟨_, rfl⟩
    have hown6 : w5.ownsRow w.heap.size 39 2 (.slice (some ⟨w1.heap.size, 0, none⟩) 4 4) L.length (cellsD L) := by rw [← hL, hcand, if_neg h2]; exact hlit
    have hfits := fits_cand (l := l)
    have hlen6 := cand_len l
    have hfind : Hid ((L.drop 0).find? (fun a => decide (l ≠ []) && decide (deedT a.1 a.2 = l)) = readD l) := hide (by rw [← hL]; rfl)
    rw [hL] at hfits hlen6
    have hp4 : 0 < L.length := by rw [← hL]; unfold candD; simp
    obtain ⟨g5, c5, e5, _, hg5l, hcell5⟩ := deeds_open hown6 hp4 rfl
    obtain ⟨S, hS⟩ : ∃ S, str l = S := ⟨_, rfl⟩
    have hSz := str_size l
    rw [hS] at hSz ⊢
    rw [e5]
    clear hown6 hL e5
    gi_wp2
    gi_loopw [6] (fun p wr => ∃ k : Nat, k ≤ L.length ∧ p = .int .i64 k ∧ Below w5.heap.size w5 wr ∧ Hid ((L.drop k).find? (fun a => decide (l ≠ []) && decide (deedT a.1 a.2 = l)) = readD l)) (fun p _ => L.length - (intOf p).toNat)
    case atStart => exact ⟨0, by omega, rfl, Below.refl _ _, hfind⟩
    case round =>
      obtain ⟨k, hk, rfl, hB6, hf⟩ := hrel
      by_cases hlt : k < L.length
      · have hki : (k : Int) < (L.length : Int) := by omega
        obtain ⟨c1, c2⟩ := hcell5 k hlt
        rw [Nat.mul_comm 2 k] at c1 c2
        have c1 := (hB6.cell (p := ⟨g5, k * 2, none⟩) hg5l).trans c1
        have c2 := (hB6.cell (p := ⟨g5, k * 2 + 1, none⟩) hg5l).trans c2
        have hfa := hfits (L.getD k (0, 0)) (by rw [List.getD, eG9 hlt]; exact List.getElem_mem hlt)
        have hdr : L.drop k = L.getD k (0, 0) :: L.drop (k + 1) := by rw [List.drop_eq_getElem_cons hlt, List.getD, eG9 hlt]; rfl
        have hf1 := hf.out
        rw [hdr, List.find?_cons] at hf1
        obtain ⟨a, ha⟩ : ∃ a, L.getD k (0, 0) = a := ⟨_, rfl⟩
        rw [ha] at hf1 hfa c1 c2
        have hT := fun V => specDeedText a.1 a.2 hfa.1 hfa.2 V
        unfold dV at hT
        have hcmp : ((str (deedT a.1 a.2)).toList == S.toList) = decide (deedT a.1 a.2 = l) := by
          rw [Bool.eq_iff_iff, beq_iff_eq, decide_eq_true_eq, ← hS, str_toList, str_toList]
          exact ⟨fun e => str_inj (fun x hx => (deed_byte _ _ x hx).1) hl e, fun e => by rw [e]⟩
        have hreal : ∀ W, Below w5.heap.size w5 W → W.heap[w.heap.size]? = some (.cells #[.int .i64 0, .int .i64 0] 39 (0, 0)) := fun W hW => (hW.block _ (gE9.1 hres5).1).trans hres5
        clear hf hdr ha hcell5
        by_cases hl0 : l = []
        · have hE : S.toList.isEmpty = true := by rw [← hS, hl0, str_toList]; rfl
          have hf2 : (decide (l ≠ []) && decide (deedT a.1 a.2 = l)) = false := by rw [hl0]; simp
          rw [hf2] at hf1
          have hf3 := hide hf1
          clear hf1 hf2 hT hcmp hreal
          gi_wp2_with (refine ⟨trivial, ?_⟩)
          go_roundw
          case rel => exact ⟨k + 1, by omega, by go_num, hB6, hf3⟩
          case measure => simp [intOf]; omega
        · have hE : S.toList.isEmpty = false := by
            rw [← hS, str_toList]
            cases l with
            | nil => exact absurd rfl hl0
            | cons c r => rfl
          by_cases he : deedT a.1 a.2 = l
          · rw [decide_eq_true he] at hcmp
            have hf2 : (decide (l ≠ []) && decide (deedT a.1 a.2 = l)) = true := by rw [decide_eq_true he, decide_eq_true hl0]; rfl
            rw [hf2] at hf1
            have hrd : rdV l = (a, true) := rd_some hf1.symm
            have hrd' := hide hrd
            clear hf1 hf2 hrd he
            gi_wp2_with (refine ⟨trivial, ?_⟩; gi_at_call 86; refine (cW9.2 (hT _)).mono ?_; clear hT; go_loud (rintro e w7 ⟨rfl, hB7⟩; have hB8 := hB6.trans (hB7.mono hB6.size); have c1' := (hB7.cell (p := ⟨g5, k * 2, none⟩) (lL9 hg5l hB6.size)).trans c1; have c2' := (hB7.cell (p := ⟨g5, k * 2 + 1, none⟩) (lL9 hg5l hB6.size)).trans c2; have hr8 := hreal _ hB8; have d0 : w7.cell? ⟨w.heap.size, 0, none⟩ = some (.int .i64 0) := (by simp [World.cell?, hr8]); have d1 : w7.cell? ⟨w.heap.size, 1, none⟩ = some (.int .i64 0) := (by simp [World.cell?, hr8]); have f0 : w7.frozen? ⟨w.heap.size, 0, none⟩ = false := (by simp [World.frozen?, hr8]); have f1 : w7.frozen? ⟨w.heap.size, 1, none⟩ = false := (by simp [World.frozen?, hr8])))
            have hset := deed_set hr8 a.1 a.2
            refine bodyPost_ret (results_deed rfl _ _ w.heap.size a.1 a.2 rfl hset) rfl ⟨by rw [hrd'.out]; rfl, ?_⟩
            exact (((hB5.trans (hB8.mono hB5.size)).setCell (p := ⟨w.heap.size, 0, none⟩) (Nat.le_refl _) _).setCell (p := ⟨w.heap.size, 1, none⟩) (Nat.le_refl _) _)
          · rw [decide_eq_false he] at hcmp
            have hf2 : (decide (l ≠ []) && decide (deedT a.1 a.2 = l)) = false := by rw [decide_eq_false he, Bool.and_false]
            rw [hf2] at hf1
            have hf3 := hide hf1
            clear hf1 hf2 hreal
            gi_wp2_with (refine ⟨trivial, ?_⟩; gi_at_call 86; refine (cW9.2 (hT _)).mono ?_; clear hT; rintro e w7 ⟨rfl, hB7⟩)
            go_roundw
            case rel => exact ⟨k + 1, by omega, by go_num, hB6.trans (hB7.mono hB6.size), hf3⟩
            case measure => simp [intOf]; omega
      · obtain rfl : k = L.length := by omega
        have hki : ¬ ((L.length : Nat) : Int) < (L.length : Int) := by omega
        have hf1 := hf.out
        rw [List.drop_length, List.find?_nil] at hf1
        have hrd' := hide (rd_none hf1.symm)
        have hr8 := (hB6.block _ (gE9.1 hres5).1).trans hres5
        have d0 : wr.cell? ⟨w.heap.size, 0, none⟩ = some (.int .i64 0) := by simp [World.cell?, hr8]
        have d1 : wr.cell? ⟨w.heap.size, 1, none⟩ = some (.int .i64 0) := by simp [World.cell?, hr8]
        have f0 : wr.frozen? ⟨w.heap.size, 0, none⟩ = false := by simp [World.frozen?, hr8]
        have f1 : wr.frozen? ⟨w.heap.size, 1, none⟩ = false := by simp [World.frozen?, hr8]
        clear hf hf1 hcell5
        gi_wp2
        have hset := deed_set hr8 0 0
        refine bodyPost_ret (results_deed rfl _ _ w.heap.size 0 0 rfl hset) rfl ⟨by rw [hrd'.out]; rfl, ?_⟩
        exact (((hB5.trans (hB6.mono hB5.size)).setCell (p := ⟨w.heap.size, 0, none⟩) (Nat.le_refl _) _).setCell (p := ⟨w.heap.size, 1, none⟩) (Nat.le_refl _) _)
end
section
open Go.RowKit
theorem tmod_nat' (n b : Nat) : Int.tmod (n : Int) (b : Int) = ((n % b : Nat) : Int) := by rw [Int.tmod_eq_emod_of_nonneg (by omega)]; rfl
theorem tdiv_nat' (n b : Nat) : Int.tdiv (n : Int) (b : Int) = ((n / b : Nat) : Int) := by rw [Int.tdiv_eq_ediv_of_nonneg (by omega)]; rfl
set_option maxHeartbeats 400000 in
theorem specCount (n b : Int) (w : World) : Calls Tryz.prog 151 #[.int .i64 n, .int .i64 b] w fun e w' => e = .returned (.int .i64 (countV n b)) ∧ w = w' := by
 by_cases hbad : bad1 n b
 · rw [countV_bad hbad]
   unfold bad1 at hbad
   by_cases h1 : n < 0 ∨ 999999999 < n
   all_goals
    go_enter Tryz.func151, Tryz.ntmps151
    go_wp2_with (first | (go_at_call 95; refine (l1In_t _ _ _ _ (by omega) (by omega)).mono ?_; rintro e w' ⟨rfl, rfl⟩) | (go_at_call 95; refine (l1In_f _ _ _ _ (by omega)).mono ?_; rintro e w' ⟨rfl, rfl⟩))
    go_ret
    exact ⟨rfl, rfl⟩
 · unfold bad1 at hbad
   obtain ⟨N, rfl⟩ : ∃ N : Nat, n = N := ⟨n.toNat, by omega⟩
   obtain ⟨B, rfl⟩ : ∃ B : Nat, b = B := ⟨b.toNat, by omega⟩
   have hN : N ≤ 999999999 := by omega
   have hB : 2 ≤ B := by omega
   have hB2 : B ≤ 16 := by omega
   rw [countV_nat hN hB hB2]
   clear hbad
   have hsl := mul_le hB N
   obtain ⟨S, hS⟩ : ∃ S, mulL (digs B N) = S := ⟨_, rfl⟩
   rw [hS] at hsl ⊢
   have hS0 : 1 * mulL (digs B N) = S := by omega
   clear hS
   go_enter Tryz.func151, Tryz.ntmps151
   go_wp2_with (go_at_call 95; refine (l1In_t _ _ _ _ (by omega) (by omega)).mono ?_; rintro e w' ⟨rfl, rfl⟩)
   go_loop [0, 5] (fun n s => ∃ m t : Nat, n = .int .i64 m ∧ s = .int .i64 t ∧ m ≤ N ∧ t * mulL (digs B m) = S) (fun n _ => (intOf n).toNat)
   case atStart => exact ⟨N, 1, rfl, rfl, Nat.le_refl _, hS0⟩
   case round =>
    clear hS0
    obtain ⟨m, t, rfl, rfl, hm, hs⟩ := hrel
    by_cases hlt : 0 < m
    · rw [digs_pos hB hlt] at hs
      simp only [mulL] at hs
      have hq1 := tmod_nat' m B
      have hq2 := tdiv_nat' m B
      have hr := Nat.mod_lt m (show 0 < B by omega)
      have hdl := Nat.div_lt_self hlt hB
      generalize m % B = r at *
      generalize m / B = q at *
      rw [← Nat.mul_assoc] at hs
      have hts : t * (r + 1) ≤ S := by rw [← hs]; exact Nat.le_mul_of_pos_right _ (mulL_pos _)
      have hs' := hide hs
      have hb0 : ((B : Int) == 0) = false := by simp; omega
      have hw1 : IntKind.i64.wrap (r : Int) = r := IntWalk.i64_in _ (by omega)
      have hw2 : IntKind.i64.wrap (q : Int) = q := IntWalk.i64_in _ (by omega)
      have hw4 : (t : Int) * ((r : Int) + 1) = ((t * (r + 1) : Nat) : Int) := by simp
      have hw3 : IntKind.i64.wrap ((t : Int) * ((r : Int) + 1)) = ((t * (r + 1) : Nat) : Int) := by rw [hw4]; exact IntWalk.i64_in _ (by omega)
      clear hs hw4
      go_wp2
      go_round
      case rel => exact ⟨q, t * (r + 1), rfl, rfl, by omega, hs'.out⟩
      case measure => simp [intOf]; omega
    · obtain rfl : m = 0 := by omega
      rw [digs_zero] at hs
      simp only [mulL, Nat.mul_one] at hs
      obtain rfl : t = S := by omega
      clear hs
      go_wp2
      go_ret
      exact ⟨rfl, rfl⟩
set_option maxHeartbeats 400000 in
theorem specUnder (x y b : Int) (w : World) : Calls Tryz.prog 109 #[.int .i64 x, .int .i64 y, .int .i64 b] w fun e w' => e = .returned (.bool (underV x y b)) ∧ Below w.heap.size w w' := by
 by_cases hbad : bad3 x y b
 · rw [underV_bad hbad]
   unfold bad3 at hbad
   by_cases h1 : x < 0 ∨ 999999999 < x
   case' neg => by_cases h2 : y < 0 ∨ 999999999 < y
   all_goals
    go_enter Tryz.func109, Tryz.ntmps109
    go_wp2_with (first | (go_at_call 95; refine (l1In_t _ _ _ _ (by omega) (by omega)).mono ?_; rintro e w' ⟨rfl, rfl⟩) | (go_at_call 95; refine (l1In_f _ _ _ _ (by omega)).mono ?_; rintro e w' ⟨rfl, rfl⟩))
    go_ret
    exact ⟨rfl, Below.refl _ _⟩
 · unfold bad3 at hbad
   obtain ⟨X, rfl⟩ : ∃ N : Nat, x = N := ⟨x.toNat, by omega⟩
   obtain ⟨Y, rfl⟩ : ∃ N : Nat, y = N := ⟨y.toNat, by omega⟩
   obtain ⟨B, rfl⟩ : ∃ B : Nat, b = B := ⟨b.toNat, by omega⟩
   have hX : X ≤ 999999999 := by omega
   have hY : Y ≤ 999999999 := by omega
   have hB : 2 ≤ B := by omega
   have hB2 : B ≤ 16 := by omega
   rw [underV_nat hX hY hB hB2]
   clear hbad
   obtain ⟨S, hS⟩ : ∃ S, und B X Y = S := ⟨_, rfl⟩
   rw [hS]
   have hS' := hide hS
   clear hS
   go_enter Tryz.func109, Tryz.ntmps109
   go_wp2_with (go_at_call 95; refine (l1In_t _ _ _ _ (by omega) (by omega)).mono ?_; rintro e w' ⟨rfl, rfl⟩)
   go_loopw [0, 1] (fun p q wr => ∃ m k : Nat, p = .int .i64 m ∧ q = .int .i64 k ∧ m ≤ X ∧ k ≤ Y ∧ und B m k = S ∧ Below w.heap.size w wr) (fun p _ _ => (intOf p).toNat)
   case atStart => exact ⟨X, Y, rfl, rfl, Nat.le_refl _, Nat.le_refl _, hS'.out, Below.refl _ _⟩
   case round =>
    clear hS'
    obtain ⟨m, k, rfl, rfl, hm, hk, hs, hBl⟩ := hrel
    by_cases hlt : 0 < m
    · rw [und_step hB] at hs
      have hq1 := tmod_nat' m B
      have hq2 := tdiv_nat' m B
      have hq3 := tmod_nat' k B
      have hq4 := tdiv_nat' k B
      have hr1 := Nat.mod_lt m (show 0 < B by omega)
      have hr2 := Nat.mod_lt k (show 0 < B by omega)
      have hdl := Nat.div_lt_self hlt hB
      have hdk := Nat.div_le_self k B
      generalize m % B = r1 at *
      generalize m / B = q1 at *
      generalize k % B = r2 at *
      generalize k / B = q2 at *
      have hb0 : ((B : Int) == 0) = false := by simp; omega
      have hw1 : IntKind.i64.wrap (r1 : Int) = r1 := IntWalk.i64_in _ (by omega)
      have hw2 : IntKind.i64.wrap (q1 : Int) = q1 := IntWalk.i64_in _ (by omega)
      have hw3 : IntKind.i64.wrap (r2 : Int) = r2 := IntWalk.i64_in _ (by omega)
      have hw4 : IntKind.i64.wrap (q2 : Int) = q2 := IntWalk.i64_in _ (by omega)
      by_cases hle : r1 ≤ r2
      · rw [show decide (r1 ≤ r2) = true by simpa using hle, Bool.true_and] at hs
        have hs' := hide hs
        clear hs
        go_wp2
        go_quiet (fail)
        go_wp2
        go_roundw
        case rel => exact ⟨q1, q2, rfl, rfl, by omega, by omega, hs'.out, ⟨hBl.os, hBl.tape, hBl.output, hBl.size, hBl.block⟩⟩
        case measure => simp [intOf]; omega
      · rw [show decide (r1 ≤ r2) = false by simpa using hle, Bool.false_and] at hs
        subst hs
        go_wp2
        go_quiet (fail)
        go_wp2
        go_ret
        exact ⟨rfl, ⟨hBl.os, hBl.tape, hBl.output, hBl.size, hBl.block⟩⟩
    · obtain rfl : m = 0 := by omega
      rw [und_none hB] at hs
      subst hs
      go_wp2
      go_ret
      exact ⟨rfl, hBl⟩
theorem ret_bool {a b : Bool} (h : a = b) : Ending.returned (.bool a) = .returned (.bool b) := by rw [h]
theorem Ints.shape {w : World} {v : Value} {xs : List Int} (h : Ints w v xs) : ∃ a c, v = .slice a xs.length c := by
 rcases h with ⟨a, c, rfl, rfl⟩ | ⟨g, cap, rfl, _⟩
 · exact ⟨_, _, rfl⟩
 · exact ⟨_, _, rfl⟩
theorem Ints.cells {w : World} {v : Value} {xs : List Int} (h : Ints w v xs) (h0 : 1 ≤ xs.length) : ∃ g cap, v = .slice (some ⟨g, 0, none⟩) xs.length cap ∧ g < w.heap.size ∧ ∀ i, i < xs.length → w.cell? ⟨g, i, none⟩ = some (.int .i64 (xs.getD i 0)) := by
 rcases h with ⟨a, c, rfl, rfl⟩ | ⟨g, cap, rfl, hg, hc⟩
 · simp at h0
 · exact ⟨g, cap, rfl, hg, hc⟩
set_option maxHeartbeats 400000 in
theorem specSide (v : Value) (xs : List Int) (w : World) (hv : Ints w v xs) (hl : xs.length ≤ 1000000000) : Calls Tryz.prog 51 #[v] w fun e w' => e = .returned (.bool (sideB xs)) ∧ w = w' := by
 by_cases h0 : xs.length = 0
 · obtain ⟨a, c, rfl⟩ := hv.shape
   have hr := hide (sideB_short (xs := xs) (by omega))
   rw [h0]
   clear hv
   go_enter Tryz.func51, Tryz.ntmps51
   go_wp2
   refine wp_loop_rounds 1 ?_
   rw [rounds_succ]
   go_wp2_with (go_at_call 95; refine (l1In_f _ _ _ _ (by omega)).mono ?_; rintro e w' ⟨rfl, rfl⟩)
   go_ret
   exact ⟨ret_bool hr.out.symm, rfl⟩
 · obtain ⟨g, cap, rfl, hg, hc⟩ := hv.cells (by omega)
   have hno : ∀ i, i < xs.length → (xs.getD i 0 < 0 ∨ 1 < xs.getD i 0) → sideB xs = false := fun i hi h => sideB_not hi h
   have hlong : 12 < xs.length → sideB xs = false := fun h => sideB_short (.inr h)
   have hyes : xs.length ≤ 12 → (∀ i, i < xs.length → 0 ≤ xs.getD i 0 ∧ xs.getD i 0 ≤ 1) → sideB xs = true := fun h1 h2 => sideB_of (by omega) h1 h2
   obtain ⟨n, hn⟩ : ∃ n, xs.length = n := ⟨_, rfl⟩
   rw [hn] at hc hno hlong hyes h0 hl ⊢
   clear hv hn
   go_enter Tryz.func51, Tryz.ntmps51
   go_wp2
   go_loop [3] (fun i => ∃ k : Nat, k ≤ n ∧ i = .int .i64 k ∧ Hid (∀ i, i < k → 0 ≤ xs.getD i 0 ∧ xs.getD i 0 ≤ 1)) (fun i => n - (intOf i).toNat)
   case atStart => exact ⟨0, by omega, rfl, hide (fun i hi => by omega)⟩
   case round =>
    obtain ⟨k, hk, rfl, hall⟩ := hrel
    by_cases hlt : k < n
    · have hck := hc k hlt
      have hki : (k : Int) < (n : Int) := by omega
      by_cases hz : xs.getD k 0 < 0 ∨ 1 < xs.getD k 0
      · have hr := hide (hno k hlt hz)
        generalize xs.getD k 0 = z at *
        clear hc hno hlong hyes hall
        go_wp2_with (go_at_call 95; refine (l1In_f _ _ _ _ (by omega)).mono ?_; rintro e w' ⟨rfl, rfl⟩)
        go_ret
        exact ⟨ret_bool hr.out.symm, rfl⟩
      · have hall' : Hid (∀ i, i < k + 1 → 0 ≤ xs.getD i 0 ∧ xs.getD i 0 ≤ 1) := hide (fun i hi => by
       by_cases e : i = k
       · subst e; omega
       · exact hall.out i (by omega))
        generalize hzz : xs.getD k 0 = z at hck hz
        clear hc hno hlong hyes hall hzz
        go_wp2_with (go_at_call 95; refine (l1In_t _ _ _ _ (by omega) (by omega)).mono ?_; rintro e w' ⟨rfl, rfl⟩)
        go_round
        case rel => exact ⟨k + 1, by omega, by go_num, hall'⟩
        case measure => simp [intOf]; omega
    · obtain rfl : k = n := by omega
      by_cases h12 : k ≤ 12
      · have hr := hide (hyes h12 hall.out)
        clear hc hno hlong hyes hall hlt
        go_wp2_with (go_at_call 95; refine (l1In_t _ _ _ _ (by omega) (by omega)).mono ?_; rintro e w' ⟨rfl, rfl⟩)
        go_ret
        exact ⟨ret_bool hr.out.symm, rfl⟩
      · have hr := hide (hlong (by omega))
        clear hc hno hlong hyes hall hlt
        go_wp2_with (go_at_call 95; refine (l1In_f _ _ _ _ (by omega)).mono ?_; rintro e w' ⟨rfl, rfl⟩)
        go_ret
        exact ⟨ret_bool hr.out.symm, rfl⟩
set_option maxHeartbeats 1000000 in
theorem specUnder9 (v : Value) (xs : List Int) (w : World) (hv : Ints w v xs) (hl : xs.length ≤ 1000000000) : Calls Tryz.prog 146 #[v] w fun e w' =>
 ∃ r, e = .returned r ∧ w'.ownsRow w.heap.size 3 1 r (undrV xs).length ((undrV xs).map (Value.int .i64)) ∧ Below w.heap.size w w' := by
 have hS : ∀ wr, Below w.heap.size w wr → Calls Tryz.prog 51 #[v] wr fun e w' => e = .returned (.bool (sideB xs)) ∧ wr = w' := fun wr hB => specSide v xs wr (hv.below hB) hl
 cases hside : sideB xs with
 | false =>
   rw [undrV_no hside]
   rw [hside] at hS
   obtain ⟨a, c, rfl⟩ := hv.shape
   clear hv hside
   generalize xs.length = n at *
   by_cases h1 : 1 < n
   · have h1i : (1 : Int) < (n : Int) := by omega
     go_enter Tryz.func146, Tryz.ntmps146
     go_wp2
     refine wp_loop_rounds 1 ?_
     rw [rounds_succ]
     go_wp2_with (go_at_call 51; refine (hS _ ((Below.refl _ w).alloc (Nat.le_refl _) _)).mono ?_; rintro e w' ⟨rfl, rfl⟩)
     go_ret
     exact ⟨_, rfl, World.ownsRow_made _ _ _ (Nat.le_refl _) (by decide) rfl, (Below.refl _ _).alloc (Nat.le_refl _) _⟩
   · have h1i : ¬ (1 : Int) < (n : Int) := by omega
     have h1d : decide ((1 : Int) < (n : Int)) = false := by simp; omega
     clear hS
     go_enter Tryz.func146, Tryz.ntmps146
     go_wp2
     refine wp_loop_rounds 1 ?_
     rw [rounds_succ]
     go_wp2
     go_ret
     exact ⟨_, rfl, World.ownsRow_made _ _ _ (Nat.le_refl _) (by decide) rfl, (Below.refl _ _).alloc (Nat.le_refl _) _⟩
 | true =>
   have hlen := sideB_len hside
   rw [undrV_yes hside]
   rw [hside] at hS
   have hf := side_bit hside
   obtain ⟨g, cap, rfl, hg, hc⟩ := hv.cells hlen.1
   have hcf : ∀ i, i < xs.length → w.cell? ⟨g, i, none⟩ = some (.int .i64 (natL xs i : Nat)) := fun i hi => by rw [hc i hi, side_get hside hi]
   generalize natL xs = f at *
   obtain ⟨n, hn⟩ : ∃ n, xs.length = n + 1 := ⟨xs.length - 1, by omega⟩
   rw [hn] at hcf hlen hS ⊢
   rw [stL_len, Nat.add_sub_cancel]
   have hn12 : n ≤ 11 := by omega
   clear hv hside hc hl hn hlen
   go_enter Tryz.func146, Tryz.ntmps146
   go_wp2
   go_loopw [3, 4] (fun o i wr => ∃ k : Nat, k ≤ n ∧ i = .int .i64 ((k : Int) + 1) ∧ wr.ownsRow w.heap.size 3 1 o k ((stL f 1 k).map (Value.int .i64)) ∧ Below w.heap.size w wr) (fun _ i _ => n + 2 - (intOf i).toNat)
   case atStart => exact ⟨0, by omega, rfl, World.ownsRow_made _ _ _ (Nat.le_refl _) (by decide) rfl, (Below.refl _ _).alloc (Nat.le_refl _) _⟩
   case round =>
    obtain ⟨k, hk, rfl, hown, hB⟩ := hrel
    by_cases hlt : k < n
    · have hc0 : wr.cell? ⟨g, k, none⟩ = some (.int .i64 (f k : Nat)) := (hB.cell (by exact hg)).trans (hcf k (by omega))
      have hc1 : wr.cell? ⟨g, k + 1, none⟩ = some (.int .i64 (f (k + 1) : Nat)) := (hB.cell (by exact hg)).trans (hcf (k + 1) (by omega))
      have hf0 := hf k
      have hf1 := hf (k + 1)
      have hst : st f 1 k = (f k + f (k + 1)) % 2 := rfl
      have hsn := stL_snoc f 1 k
      rw [hst] at hsn
      have hS1 := hS wr hB
      have hq := tmod_nat' (f k + f (k + 1)) 2
      rw [Int.natCast_add] at hq
      have hrl : (f k + f (k + 1)) % 2 ≤ 1 := by omega
      generalize f k = x at *
      generalize f (k + 1) = y at *
      generalize (x + y) % 2 = r at *
      have hq' : Int.tmod ((x : Int) + (y : Int)) 2 = (r : Int) := hq
      have hsn' := hide hsn
      have hw1 : IntKind.i64.wrap (k : Int) = k := IntWalk.i64_in _ (by omega)
      have hw2 : IntKind.i64.wrap ((x : Int) + (y : Int)) = (x : Int) + (y : Int) := IntWalk.i64_in _ (by omega)
      have hw4 : IntKind.i64.wrap (r : Int) = r := IntWalk.i64_in _ (by omega)
      have hk1 : (k : Int) + 1 < (n : Int) + 1 := by omega
      have hk2 : ((k : Int) + 1).toNat = k + 1 := by omega
      have hk3 : (0 : Int) ≤ (k : Int) + 1 := by omega
      have hk4 : (k : Int) < (n : Int) + 1 := by omega
      clear hcf hst hsn hS hf hq
      go_wp2_with (go_at_call 51; refine hS1.mono ?_; clear hS1; rintro e w' ⟨rfl, rfl⟩)
      go_region_law ((refine step_append_one (by rfl) _ _ (by rfl) w.heap.size _ _ _ (by rfl) hown.drew (by rfl) (by omega) (by have := hB.size; simp; omega) ?_; intro v' w1 hown' hgrow))
      all_goals
       go_wp2
       go_roundw
       case rel => exact ⟨k + 1, by omega, by go_num, by rw [hsn'.out, List.map_append]; exact hown', (hB.drew.alloc (by have := hB.size; simp; omega) _).grown hgrow (by have := hB.size; simp; omega) (fun b hb => (hown.lt b hb).1)⟩
       case measure => simp [intOf]; omega
    · obtain rfl : k = n := by omega
      have hk1 : ¬ (k : Int) + 1 < (k : Int) + 1 := by omega
      clear hS hcf
      go_wp2
      go_ret
      exact ⟨_, rfl, hown, hB⟩
set_option maxHeartbeats 1000000 in
theorem specLast (v : Value) (xs : List Int) (w : World) (hv : Ints w v xs) (hl : xs.length ≤ 1000000000) : Calls Tryz.prog 69 #[v] w fun e w' => e = .returned (.int .i64 (endV xs)) ∧ Below w.heap.size w w' := by
 have hS := specSide v xs w hv hl
 cases hside : sideB xs with
 | false =>
   rw [endV_no hside]
   rw [hside] at hS
   clear hv hside
   go_enter Tryz.func69, Tryz.ntmps69
   go_wp2_with (go_at_call 51; refine hS.mono ?_; clear hS; rintro e w' ⟨rfl, rfl⟩)
   go_ret
   exact ⟨rfl, Below.refl _ _⟩
 | true =>
   have hlen := sideB_len hside
   rw [endV_yes hside]
   rw [hside] at hS
   have hf := side_bit hside
   obtain ⟨g, cap, rfl, hg, hc⟩ := hv.cells hlen.1
   have hcf : ∀ i, i < xs.length → w.cell? ⟨g, i, none⟩ = some (.int .i64 (natL xs i : Nat)) := fun i hi => by rw [hc i hi, side_get hside hi]
   generalize natL xs = f at *
   obtain ⟨n, hn⟩ : ∃ n, xs.length = n + 1 := ⟨xs.length - 1, by omega⟩
   rw [hn] at hcf hlen hS ⊢
   rw [Nat.add_sub_cancel]
   have hn12 : n ≤ 11 := by omega
   obtain ⟨T, hT⟩ : ∃ T, st f n 0 = T := ⟨_, rfl⟩
   have hTT := hide (show lastU f n (n + 1) % 2 = T by rw [lastU_all hf, hT])
   have hTl : T ≤ 1 := by rw [← hT]; exact st_le hf n 0
   rw [hT]
   have hle := lastU_le hf n
   clear hv hside hc hl hn hlen hT
   go_enter Tryz.func69, Tryz.ntmps69
   go_wp2_with (go_at_call 51; refine hS.mono ?_; clear hS; rintro e w' ⟨rfl, rfl⟩)
   go_loopw [3, 4] (fun o i wr => ∃ k : Nat, k ≤ n + 1 ∧ i = .int .i64 (k : Int) ∧ o = .int .i64 (lastU f n k : Nat) ∧ Below w.heap.size w wr) (fun _ i _ => n + 1 - (intOf i).toNat)
   case atStart => exact ⟨0, by omega, rfl, rfl, Below.refl _ _⟩
   case round =>
    obtain ⟨k, hk, rfl, rfl, hB⟩ := hrel
    have hlk := hle k
    by_cases hlt : k < n + 1
    · have hf0 := hf k
      have hst : lastU f n (k + 1) = lastU f n k + (if und 2 k n = true then f k else 0) := rfl
      have hU := fun w => specUnder k n (2 : Nat) w
      obtain ⟨u, hu⟩ : ∃ u, und 2 k n = u := ⟨_, rfl⟩
      have hcu : ∀ w', Below wr.heap.size wr w' → w'.cell? ⟨g, k, none⟩ = some (.int .i64 (f k : Nat)) := fun w' hB' => (hB'.cell (by exact lL9 hg hB.size)).trans ((hB.cell (by exact hg)).trans (hcf k hlt))
      have hki : (k : Int) < (n : Int) + 1 := by omega
      have hw1 : IntKind.i64.wrap (n : Int) = n := IntWalk.i64_in _ (by omega)
      simp only [underV_nat (show k ≤ 999999999 by omega) (show n ≤ 999999999 by omega) (show 2 ≤ 2 by omega) (show 2 ≤ 16 by omega), hu] at hU
      rw [hu] at hst
      clear hu hcf hle hf hTT
      have hU' : ∀ w, Calls Tryz.prog 109 #[.int .i64 k, .int .i64 n, .int .i64 2] w fun e w' => e = .returned (.bool u) ∧ Below w.heap.size w w' := hU
      clear hU
      cases u with
      | true =>
        rw [if_pos rfl] at hst
        have hst' := hide hst
        clear hst
        generalize lastU f n k = s at *
        go_wp2_with (go_at_call 109; (with_reducible refine (hU' _).mono ?_); rintro e w' ⟨rfl, hB'⟩; have hck := hcu w' hB'; clear hcu)
        generalize f k = z at *
        go_wp2
        go_roundw
        case rel => exact ⟨k + 1, by omega, by go_num, by rw [hst'.out]; go_num, hB.trans (hB'.mono hB.size)⟩
        case measure => simp [intOf]; omega
      | false =>
        rw [if_neg (by simp)] at hst
        have hst' := hide hst
        clear hst hcu
        generalize lastU f n k = s at *
        go_wp2_with (go_at_call 109; (with_reducible refine (hU' _).mono ?_); rintro e w' ⟨rfl, hB'⟩)
        go_roundw
        case rel => exact ⟨k + 1, by omega, by go_num, by rw [hst'.out]; rfl, hB.trans (hB'.mono hB.size)⟩
        case measure => simp [intOf]; omega
    · obtain rfl : k = n + 1 := by omega
      have hq := tmod_nat' (lastU f n (n + 1)) 2
      rw [hTT.out] at hq
      clear hTT hcf hle hf
      generalize lastU f n (n + 1) = s at *
      have hw4 : IntKind.i64.wrap (T : Int) = T := IntWalk.i64_in _ (by omega)
      have hq' : Int.tmod (s : Int) 2 = (T : Int) := hq
      go_wp2
      go_ret
      exact ⟨rfl, hB⟩
def two (i : Nat) (a b : Int) : Int := if i = 0 then a else b
theorem append_row {w : World} {ops : Array Oper} {rest : List Oper} {o : Oper} {a : Act} {Q : Exit → Act → World → Prop} (hgd : o.guard = none) (s x : Operand)
 (ho : o.op = .call { callee := .builtin .append, args := #[s, x], argTypes := #[28, 28] })
 (base : Nat) (v : Value) (n : Nat) (xs : List Value) (hs : a.eval s = v) (hown : w.ownsRow base 3 1 v n xs) (g m c : Nat) (zs : List Int) (hx : a.eval x = .slice (some ⟨g, 0, none⟩) m c) (hl : zs.length = m)
 (hz : ∀ i, i < m → w.cell? ⟨g, i, none⟩ = some (.int .i64 (zs.getD i 0))) (hn : n + m ≤ 1000000000) (hbase : base ≤ w.heap.size)
 (h : ∀ v' w', w'.ownsRow base 3 1 v' (n + m) (xs ++ zs.map (Value.int .i64)) → w.grownBy w' v.ownBlock → wpList Tryz.prog ops Q rest (a.put o.dst v') w') :
 wpList Tryz.prog ops Q (o :: rest) a w := by
 obtain ⟨i0, hi, hz0, hz1, hz2⟩ := info_parts Tryz.infoInt
 refine wpList_append_own _ hgd s x 28 ho base 3 i0 (.int .i64 0) 1 8 Tryz.underlying28 hi hz0 hz1 hz2 rfl (by decide) v n xs hs hown ⟨g, 0, none⟩ m c (zs.map (Value.int .i64)) hx (by simp [hl]) ?_ ?_ ?_ ?_ hbase ?_
 · intro j u hj
   rw [List.getElem?_map] at hj
   obtain ⟨z, hz3, rfl⟩ := Option.map_eq_some_iff.1 hj
   have hjl := (List.getElem?_eq_some_iff.1 hz3).1
   have h1 := hz j (by omega)
   have hadd : (⟨g, 0, none⟩ : Addr).add j = ⟨g, j, none⟩ := by unfold Addr.add; split <;> simp_all
   rw [hadd, h1, List.getD, hz3]; rfl
 · intro u hu
   obtain ⟨z, _, rfl⟩ := List.mem_map.1 hu
   rfl
 · unfold maxLen; omega
 · omega
 · intro v' w' h1 h2 _; exact h v' w' h1 h2
def Lies (v : Value) : Prop := v = .slice none 0 0 ∨ ∃ p n c, v = .slice (some p) n c
theorem Lies.of_owns {w : World} {base n : Nat} {e : TypeId} {v : Value} {xs : List Value} (h : w.ownsRow base e 1 v n xs) : Lies v := by
 rcases h.2 with ⟨rfl, _⟩ | ⟨g, cap, cur, rfl, _⟩
 · exact .inl rfl
 · exact .inr ⟨_, _, _, rfl⟩
theorem own_form {w : World} {base n : Nat} {e : TypeId} {v : Value} {xs : List Value} (h : w.ownsRow base e 1 v n xs) : ∃ a c, v = .slice a n c := by
 rcases h.2 with ⟨rfl, rfl⟩ | ⟨g, cap, cur, rfl, _⟩
 · exact ⟨_, _, rfl⟩
 · exact ⟨_, _, rfl⟩
theorem own_below {w w' : World} {base n : Nat} {e : TypeId} {v : Value} {xs : List Value} (h : w.ownsRow base e 1 v n xs) (hB : Below w.heap.size w w') : w'.ownsRow base e 1 v n xs :=
 h.kept (row := none) ⟨hB.os, hB.tape, hB.output, hB.size, fun k hk _ => hB.block k hk⟩ (by cases v.ownBlock <;> simp)
theorem own_apart {w : World} {b b' n m : Nat} {v u : Value} {xs ys : List Value} (h : w.ownsRow b 3 1 v n xs) (k : w.ownsRow b' 28 1 u m ys) : v.ownBlock = none ∨ v.ownBlock ≠ u.ownBlock := by
 rcases h.2 with ⟨rfl, _⟩ | ⟨g, cap, cur, rfl, _, hg, _⟩
 · exact .inl rfl
 · refine .inr fun e => ?_
   rcases k.2 with ⟨rfl, _⟩ | ⟨g', cap', cur', rfl, _, hg', _⟩
   · simp [Value.ownBlock] at e
   · simp only [Value.ownBlock, Option.some.injEq] at e
     subst e
     rw [hg] at hg'
     injection hg' with hg'
     injection hg' with _ h2
     exact absurd h2 (by decide)
theorem append_ints {w : World} {ops : Array Oper} {rest : List Oper} {o : Oper} {a : Act} {Q : Exit → Act → World → Prop} (hgd : o.guard = none) (s x : Operand)
 (ho : o.op = .call { callee := .builtin .append, args := #[s, x], argTypes := #[28, 28] })
 (base : Nat) (v : Value) (n : Nat) (xs : List Value) (hs : a.eval s = v) (hown : w.ownsRow base 3 1 v n xs) (u : Value) (zs : List Int) (hx : a.eval x = u) (hu : Ints w u zs) (hlies : Lies u)
 (hn : n + zs.length ≤ 1000000000) (hbase : base ≤ w.heap.size)
 (h : ∀ v' w', w'.ownsRow base 3 1 v' (n + zs.length) (xs ++ zs.map (Value.int .i64)) → w.grownBy w' v.ownBlock → wpList Tryz.prog ops Q rest (a.put o.dst v') w') :
 wpList Tryz.prog ops Q (o :: rest) a w := by
 obtain ⟨i0, hi, hz0, hz1, hz2⟩ := info_parts Tryz.infoInt
 have hempty : zs = [] → (∀ p c, u = .slice (some p) 0 c → wpList Tryz.prog ops Q (o :: rest) a w) := fun h0 p c hp => by
  subst h0
  refine wpList_append_own _ hgd s x 28 ho base 3 i0 (.int .i64 0) 1 8 Tryz.underlying28 hi hz0 hz1 hz2 rfl (by decide) v n xs hs hown p 0 c [] (hx.trans hp) rfl (fun j u hj => by simp at hj) (fun u hu => by simp at hu) ?_ ?_ hbase ?_
  · unfold maxLen; simp at hn; omega
  · simp at hn; omega
  · intro v' w' h1 h2 _; exact h v' w' (by simpa using h1) h2
 rcases hu with ⟨p, c, hp, h0⟩ | ⟨g, cap, hp, hg, hc⟩
 · rcases hlies with hl | ⟨p', n', c', hl⟩
   · subst h0
     refine wpList_append_own_none hgd s x 28 ho base 3 i0 1 Tryz.underlying28 hi v n xs hs hown (hx.trans hl) ?_
     exact h v w (by simpa using hown) (grownBy_refl _ _)
   · rw [hp] at hl
     injection hl with hl1 hl2 hl3
     exact hempty h0 p' c (by rw [hp, hl1])
 · exact append_row hgd s x ho base v n xs hs hown g zs.length cap zs (hx.trans hp) rfl hc hn hbase h
theorem Tryz.infoRow : (Tryz.prog.info? 28).map (fun i => (i.zero, i.size, i.bytes)) = some (some (.slice none 0 0), 1, 24) := by kernel_rfl
theorem info_rows {o : Option TypeInfo} {z : Value} {s b : Nat} (h : o.map (fun i => (i.zero, i.size, i.bytes)) = some (some z, s, b)) : ∃ i, o = some i ∧ i.zero = some z ∧ i.size = s ∧ i.bytes = b := by
 obtain ⟨i, hi, h2⟩ := Option.map_eq_some_iff.1 h
 injection h2 with h3 h4
 injection h4 with h5 h6
 exact ⟨i, hi, h3, h5, h6⟩
theorem append_slice {ops : Array Oper} {rest : List Oper} {o : Oper} {a : Act} {Q : Exit → Act → World → Prop} {w : World} {z : Value} (hgd : o.guard = none) (s x : Operand)
 (ho : o.op = .call { callee := .builtin .append, args := #[s, x], argTypes := #[29, 29] }) (hz1 : z.oneCell' = true)
 (base : Nat) (v : Value) (n : Nat) (xs : List Value) (hs : a.eval s = v) (hown : w.ownsRow base 28 1 v n xs) (hx : a.eval x = .slice (some ⟨w.heap.size, 0, none⟩) 1 1)
 (hn : n ≤ 1000000) (hbase : base ≤ w.heap.size)
 (h : ∀ v' w', w'.ownsRow base 28 1 v' (n + 1) (xs ++ [z]) → (w.alloc (.cells #[z] 28)).grownBy w' v.ownBlock → wpList Tryz.prog ops Q rest (a.put o.dst v') w') :
 wpList Tryz.prog ops Q (o :: rest) a (w.alloc (.cells #[z] 28)) := by
 obtain ⟨i0, hi, hz0, hz2, hz3⟩ := info_rows Tryz.infoRow
 refine wpList_append_own _ hgd s x 29 ho base 28 i0 (.slice none 0 0) 1 24 Tryz.underlying29 hi hz0 hz2 hz3 rfl (by decide) v n xs hs (hown.alloc _) ⟨w.heap.size, 0, none⟩ 1 1 [z] hx rfl ?_ ?_ ?_ ?_ ?_ ?_
 · intro j u hj
   match j, hj with
   | 0, hj => simp at hj; subst hj; simp [Addr.add]
 · intro u hu; simp at hu; subst hu; exact hz1
 · unfold maxLen; omega
 · omega
 · simp; omega
 · intro v' w' h1 h2 _; exact h v' w' h1 h2
def OwnSS (w : World) (base : Nat) (v : Value) (rows : List (List Int)) : Prop :=
 ∃ us : List Value, us.length = rows.length ∧ w.ownsRow base 28 1 v us.length us ∧ ∀ j, j < rows.length → w.ownsRow base 3 1 (us.getD j undef) (rows.getD j []).length ((rows.getD j []).map (Value.int .i64))
theorem OwnSS.below {w w' : World} {base : Nat} {v : Value} {rows : List (List Int)} (h : OwnSS w base v rows) (hB : Below w.heap.size w w') : OwnSS w' base v rows := by
 obtain ⟨us, h1, h2, h3⟩ := h
 exact ⟨us, h1, own_below h2 hB, fun j hj => own_below (h3 j hj) hB⟩
theorem OwnSS.nil {w : World} {base : Nat} {v : Value} (h : w.ownsRow base 28 1 v 0 []) : OwnSS w base v [] := ⟨[], rfl, h, fun j hj => by simp at hj⟩
theorem OwnSS.read {w : World} {base : Nat} {v : Value} {rows : List (List Int)} (h : OwnSS w base v rows) (h0 : 0 < rows.length) : ∃ g cap, v = .slice (some ⟨g, 0, none⟩) rows.length cap ∧ g < w.heap.size ∧ ∀ j, j < rows.length → ∃ u, w.cell? ⟨g, j, none⟩ = some u ∧ Ints w u (rows.getD j []) ∧ Lies u := by
 obtain ⟨us, h1, h2, h3⟩ := h
 rcases h2.2 with ⟨_, hn⟩ | ⟨g, cap, cur, rfl, hb, hg, _⟩
 · omega
 · refine ⟨g, cap, by rw [h1], (gE9.1 hg).1, fun j hj => ⟨us.getD j undef, ?_, Ints.of_owns (h3 j hj), Lies.of_owns (h3 j hj)⟩⟩
   rw [h2.cellAt j (by omega), List.getD, eG9 (by omega)]; rfl
theorem step_append_at {ops : Array Oper} {o : Oper} {a : Act} {K : Act → World → Prop} {Q : Exit → Act → World → Prop} {E : Prop} {w : World} {z : Int} (hgd : o.guard = none) (s x : Operand)
 (ho : o.op = .call { callee := .builtin .append, args := #[s, x], argTypes := #[28, 28] })
 (base : Nat) (v : Value) (n : Nat) (xs : List Value) (hs : a.eval s = v) (hown : w.ownsRow base 3 1 v n xs) (hx : a.eval x = .slice (some ⟨w.heap.size, 0, none⟩) 1 1)
 (hn : n ≤ 1000000000) (hbase : base ≤ w.heap.size)
 (h : ∀ v' w', w'.ownsRow base 3 1 v' (n + 1) (xs ++ [.int .i64 z]) → (w.alloc (.cells #[.int .i64 z] 3)).grownBy w' v.ownBlock → (v'.ownBlock = v.ownBlock ∨ v'.ownBlock = some (w.heap.size + 1)) → K (a.put o.dst v') w') :
 if Region.wanted o (yielded ops a.tmps) = true then Oper.wp Tryz.prog o a (w.alloc (.cells #[.int .i64 z] 3)) K Q else E := by
 obtain ⟨i0, hi, hz0, hz1, hz2⟩ := info_parts Tryz.infoInt
 rw [if_pos (by simp [Region.wanted, hgd])]
 obtain ⟨v', w', hr, h2, h3, _, h5⟩ := run_append_own_at (P := Tryz.prog) (w.alloc (.cells #[.int .i64 z] 3)) base 28 o.type 3 i0 (.int .i64 0) 1 8 Tryz.underlying28 hi hz0 hz1 hz2 rfl (by decide) v n xs (hown.alloc _) ⟨w.heap.size, 0, none⟩ 1 1 [.int .i64 z] rfl (cell_one_new _ _ _) (fun u hu => by simp at hu; subst hu; rfl) (by unfold maxLen; omega) (by omega) (by simp; omega)
 unfold Oper.wp execOp
 simp only [ho, resolve, invoke, builtin, Sem.run_bind, Sem.run_pure, Result.andThen_ok, List.map_toArray, List.map_cons, List.map_nil, hs, hx, hr]
 exact h v' w' h2 h3 (by rwa [World.size_alloc] at h5)
def BlkAt (w : World) (g : Nat) (t : TypeId) (N : Nat) (V : Nat → Option Value) : Prop :=
 ∃ cur : Array Value, w.heap[g]? = some (.cells cur t (0, 0)) ∧ cur.size = N ∧ ∀ i v, V i = some v → cur[i]? = some v
def updV (V : Nat → Option Value) (p : Nat) (v : Value) : Nat → Option Value := fun i => if i = p then some v else V i
theorem BlkAt.lt {w : World} {g N : Nat} {t : TypeId} {V : Nat → Option Value} (h : BlkAt w g t N V) : g < w.heap.size := by
 obtain ⟨cur, h1, _⟩ := h; exact (gE9.1 h1).1
theorem BlkAt.cell {w : World} {g N : Nat} {t : TypeId} {V : Nat → Option Value} (h : BlkAt w g t N V) {i : Nat} {v : Value} (hi : V i = some v) : w.cell? ⟨g, i, none⟩ = some v := by
 obtain ⟨cur, h1, _, h3⟩ := h
 rw [cell_of_row w g i cur t (0, 0) h1]; exact h3 i v hi
theorem BlkAt.frozen {w : World} {g N : Nat} {t : TypeId} {V : Nat → Option Value} (h : BlkAt w g t N V) (i : Nat) : w.frozen? ⟨g, i, none⟩ = false := by
 obtain ⟨cur, h1, _⟩ := h
 simp [World.frozen?, h1]
theorem BlkAt.weaken {w : World} {g N : Nat} {t : TypeId} {V V' : Nat → Option Value} (h : BlkAt w g t N V) (he : ∀ i v, V' i = some v → V i = some v) : BlkAt w g t N V' := by
 obtain ⟨cur, h1, h2, h3⟩ := h
 exact ⟨cur, h1, h2, fun i v hi => h3 i v (he i v hi)⟩
theorem BlkAt.of_block {w w' : World} {g N : Nat} {t : TypeId} {V : Nat → Option Value} (h : BlkAt w g t N V) (hb : w'.heap[g]? = w.heap[g]?) : BlkAt w' g t N V := by
 obtain ⟨cur, h1, h2⟩ := h
 exact ⟨cur, hb.trans h1, h2⟩
theorem BlkAt.kept {w w' : World} {g N : Nat} {t : TypeId} {V : Nat → Option Value} {row : Option Nat} (h : BlkAt w g t N V) (hg : w.grownBy w' row) (hr : some g ≠ row) : BlkAt w' g t N V := h.of_block (hg.block g h.lt hr)
theorem BlkAt.set {w : World} {g N : Nat} {t : TypeId} {V : Nat → Option Value} (h : BlkAt w g t N V) {p : Nat} (v : Value) (hp : p < N) : BlkAt (w.setCell ⟨g, p, none⟩ v) g t N (updV V p v) := by
 obtain ⟨cur, h1, h2, h3⟩ := h
 obtain ⟨hlt, hk⟩ := gE9.1 h1
 refine ⟨cur.setIfInBounds p v, ?_, by simpa using h2, fun i u hi => ?_⟩
 · show (w.heap.modify g _)[g]? = _
   rw [Array.getElem?_eq_getElem (by rw [Array.size_modify]; exact hlt), Array.getElem_modify_self, hk]; rfl
 · rw [Array.getElem?_setIfInBounds]
   unfold updV at hi
   by_cases e : i = p
   · subst e; rw [if_pos rfl] at hi; rw [if_pos rfl, if_pos (by omega)]; exact hi
   · rw [if_neg e] at hi; rw [if_neg (fun h => e h.symm)]; exact h3 i u hi
def intsV (N : Nat) (f : Nat → Int) : Nat → Option Value := fun i => if i < N then some (.int .i64 (f i)) else none
theorem intsV_at {N : Nat} {f : Nat → Int} {i : Nat} (h : i < N) : intsV N f i = some (.int .i64 (f i)) := if_pos h
theorem BlkAt.congr {w : World} {g N : Nat} {t : TypeId} {f f' : Nat → Int} (h : BlkAt w g t N (intsV N f)) (he : ∀ i, i < N → f i = f' i) : BlkAt w g t N (intsV N f') := by
 refine h.weaken (fun i v hi => ?_)
 unfold intsV at hi ⊢
 by_cases e : i < N
 · rw [if_pos e] at hi ⊢; rw [he i e]; exact hi
 · rw [if_neg e] at hi; cases hi
theorem BlkAt.setI {w : World} {g N : Nat} {t : TypeId} {f : Nat → Int} (h : BlkAt w g t N (intsV N f)) {p : Nat} (z : Int) (hp : p < N) : BlkAt (w.setCell ⟨g, p, none⟩ (.int .i64 z)) g t N (intsV N fun i => if i = p then z else f i) := by
 refine (h.set (.int .i64 z) hp).weaken (fun i v hi => ?_)
 unfold intsV at hi
 unfold updV intsV
 dsimp only at hi ⊢
 by_cases e : i = p
 · subst e; rw [if_pos hp, if_pos rfl] at hi; rw [if_pos rfl]; exact hi
 · by_cases e2 : i < N
   · rw [if_pos e2, if_neg e] at hi; rw [if_neg e, if_pos e2]; exact hi
   · rw [if_neg e2] at hi; cases hi
theorem BlkAt.row {w : World} {g N M : Nat} {V : Nat → Option Value} {f : Nat → Int} (h : BlkAt w g 3 N V) (hM : M ≤ N) (hv : ∀ i, i < M → V i = some (.int .i64 (f i))) : RowAt w g M f := by
 obtain ⟨cur, h1, h2, h3⟩ := h
 exact ⟨cur, h1, by omega, fun i hi => h3 i _ (hv i hi)⟩
theorem BlkAt.owns {w : World} {g N base : Nat} {V : Nat → Option Value} {xs : List Int} (h : BlkAt w g 3 N V) (hx : xs.length = N) (hv : ∀ i, i < N → V i = some (.int .i64 (xs.getD i 0))) (hb : base ≤ g) (hN : N ≤ 1000000000) :
 w.ownsRow base 3 1 (.slice (some ⟨g, 0, none⟩) N N) N (xs.map (Value.int .i64)) := by
 obtain ⟨cur, h1, h2, h3⟩ := h
 refine ⟨by simp [hx], .inr ⟨g, N, cur, rfl, hb, h1, Nat.le_refl _, by unfold maxLen; omega, by omega, ?_⟩⟩
 have ht : cur.toList.take (N * 1) = cur.toList := List.take_of_length_le (by simp; omega)
 rw [ht]
 apply List.ext_getElem?
 intro i
 by_cases hi : i < N
 · have h4 := h3 i _ (hv i hi)
   have h5 : xs[i]? = some (xs.getD i 0) := by rw [List.getD, eG9 (by omega)]; rfl
   rw [Array.getElem?_toList, h4, List.getElem?_map, h5]; rfl
 · rw [List.getElem?_eq_none (by simp; omega), List.getElem?_eq_none (by simp; omega)]
theorem make_blk (w : World) {ops : Array Oper} {rest : List Oper} {o : Oper} {a : Act} {Q : Exit → Act → World → Prop}
 (hg : o.guard = none) (l c : Operand) (hop : o.op = Op.makeSlice 28 l c) (L C : Int) (N : Nat) (hl : a.eval l = .int .i64 L) (hc : a.eval c = .int .i64 C) (hL : L = (N : Int)) (hC : C = (N : Int)) (hN : N ≤ 10000000)
 (hK : ∀ w', BlkAt w' w.heap.size 3 N (intsV N fun _ => 0) → w.grownBy w' none → wpList Tryz.prog ops Q rest (a.put o.dst (.slice (some ⟨w.heap.size, 0, none⟩) N N)) w') :
 wpList Tryz.prog ops Q (o :: rest) a w := by
 obtain ⟨i0, hi, hz0, hz1, hz2⟩ := info_parts Tryz.infoInt
 refine wpList_plain hg fun K hK' => ?_
 obtain ⟨w', hrun, r1, r2⟩ := run_make_full (P := Tryz.prog) w w.heap.size 28 3 i0 (.int .i64 0) 1 Tryz.underlying28 hi hz0 hz1 .i64 .i64 N (by rw [hz2]; omega) (by unfold maxLen; omega) (Nat.le_refl _)
 subst hL
 subst hC
 unfold Oper.wp
 simp [execOp, hop, hl, hc, hrun, Result.andThen]
 refine hK' _ _ (hK w' ?_ r2)
 obtain ⟨hlen, hv⟩ := r1
 rcases hv with ⟨h, _⟩ | ⟨g, cap, cur, h, _, hgb, _, _, hs, ht⟩
 · cases h
 · cases h
   refine ⟨cur, hgb, by omega, fun i v hi' => ?_⟩
   have h1 : cur.toList.take (N * 1) = cur.toList := List.take_of_length_le (by simp; omega)
   unfold intsV at hi'
   split at hi'
   · rename_i hlt
     rw [h1] at ht
     rw [← Array.getElem?_toList, ht, Array.getElem?_toList]
     simpa [madeCells, Value.cells, hlt, Nat.mod_one] using hi'
   · cases hi'
set_option maxHeartbeats 400000 in
theorem keepLeft_blk (g o n c N : Nat) (t : TypeId) (V : Nat → Option Value) (f : Nat → Nat) (q : Nat) (w : World) (hN : N ≤ 1000000) (hon : o + n ≤ N) (hq : 2 ≤ q) (hq2 : q ≤ 1000) (hf : ∀ i, f i ≤ 2305843009213693952) (hr : BlkAt w g t N V)
 (hv : ∀ i, i < n → V (o + i) = some (.int .i64 (f i))) :
 Calls Tryz.prog 248 #[.slice (some ⟨g, o, none⟩) n c, .int .i64 q] w fun e w' =>
  (∃ v, e = .returned v) ∧ BlkAt w' g t N (fun i => if o ≤ i ∧ i < o + n then some (.int .i64 ((f (i - o) % q : Nat) : Int)) else V i) ∧ w.grownBy w' (some g) := by
 go_enter Tryz.func248, Tryz.ntmps248
 go_wp2
 go_loopw [7] (fun p wr => ∃ k : Nat, k ≤ n ∧ p = .int .i64 k ∧ BlkAt wr g t N (fun i => if o ≤ i ∧ i < o + k then some (.int .i64 ((f (i - o) % q : Nat) : Int)) else V i) ∧ w.grownBy wr (some g)) (fun p _ => n - (intOf p).toNat)
 case atStart =>
  refine ⟨0, by omega, rfl, hr.weaken (fun i v hi => ?_), grownBy_refl _ _⟩
  rw [if_neg (by omega)] at hi; exact hi
 case round =>
  obtain ⟨k, hk, rfl, hrow, hg⟩ := hrel
  by_cases hlt : k < n
  · have hca := hrow.cell (i := o + k) (v := .int .i64 (f k)) (by rw [if_neg (by omega)]; exact hv k hlt)
    have hfr := hrow.frozen (o + k)
    have h1 := hf k
    have hm := tmod_n (f k) q
    have hml : f k % q ≤ 1000 := by have := Nat.mod_lt (f k) (show 0 < q by omega); omega
    have hb0 : ((q : Int) == 0) = false := by simp; omega
    have hfk : ∃ F, f k % q = F := ⟨_, rfl⟩
    obtain ⟨F, hF⟩ := hfk
    rw [hF] at hm hml
    have hF' := hide hF
    clear hF
    have hw1 : IntKind.i64.wrap (F : Int) = F := IntWalk.i64_in _ (by omega)
    go_wp2
    go_roundw
    case rel =>
     refine ⟨k + 1, by omega, by go_num, (hrow.set _ (by omega)).weaken (fun i v hi => ?_), grownBy_set hg _ _⟩
     unfold updV
     dsimp only at hi ⊢
     by_cases e : i = o + k
     · subst e; rw [if_pos (by omega), show o + k - o = k by omega, hF'.out] at hi; rw [if_pos rfl]; exact hi
     · rw [if_neg e]
       by_cases e2 : o ≤ i ∧ i < o + k
       · rw [if_pos (by omega)] at hi; rw [if_pos e2]; exact hi
       · rw [if_neg (by omega)] at hi; rw [if_neg e2]; exact hi
    case measure => simp [intOf]; omega
  · obtain rfl : k = n := by omega
    go_wp2
    go_end0
    exact ⟨⟨_, rfl⟩, hrow, hg⟩
def DeedsI (W : World) (v : Value) (L : List (Int × Int)) : Prop :=
 ∃ a c, v = .slice a L.length c ∧ (0 < L.length → ∃ g o, a = some ⟨g, o, none⟩ ∧ g < W.heap.size ∧ ∀ k, k < L.length → W.cell? ⟨g, o + k * 2, none⟩ = some (.int .i64 (L.getD k (0, 0)).1) ∧ W.cell? ⟨g, o + k * 2 + 1, none⟩ = some (.int .i64 (L.getD k (0, 0)).2))
theorem DeedsI.below {W W' : World} {v : Value} {L : List (Int × Int)} (h : DeedsI W v L) (hB : Below W.heap.size W W') : DeedsI W' v L := by
 obtain ⟨a, c, rfl, h⟩ := h
 refine ⟨a, c, rfl, fun h0 => ?_⟩
 obtain ⟨g, o, rfl, hg, hc⟩ := h h0
 exact ⟨g, o, rfl, lL9 hg hB.size, fun k hk => ⟨(hB.cell (p := ⟨g, o + k * 2, none⟩) hg).trans (hc k hk).1, (hB.cell (p := ⟨g, o + k * 2 + 1, none⟩) hg).trans (hc k hk).2⟩⟩
theorem DeedsI.of_owns {w : World} {base : Nat} {v : Value} {L : List (Int × Int)} (h : w.ownsRow base 39 2 v L.length (cellsD L)) : DeedsI w v L := by
 by_cases h0 : 0 < L.length
 · obtain ⟨g, c, rfl, _, hg, hc⟩ := deeds_open h h0 rfl
   refine ⟨_, _, rfl, fun _ => ⟨g, 0, rfl, hg, fun k hk => ?_⟩⟩
   have := hc k hk
   rw [Nat.mul_comm 2 k] at this
   rw [Nat.zero_add]; exact this
 · rcases h.2 with ⟨rfl, _⟩ | ⟨g, cap, cur, rfl, _⟩
   · have : L.length = 0 := by omega
     exact ⟨_, 0, by rw [this], fun hh => absurd hh h0⟩
   · exact ⟨_, _, rfl, fun hh => absurd hh h0⟩
def sliceLen : Value → Nat
 | .slice _ n _ => n
 | _ => 0
theorem rowsV_at {xs : List Int} (h : sideB xs = true) {j : Nat} (hj : j < xs.length) : (rowsV xs).getD j [] = stL (natL xs) j (xs.length - j) := by
 rw [rowsV_yes h]; simp [List.getD, hj]
theorem rowsV_length {xs : List Int} (h : sideB xs = true) : (rowsV xs).length = xs.length := by rw [rowsV_yes h]; simp
set_option maxHeartbeats 2000000 in
theorem specRows (v : Value) (xs : List Int) (w : World) (hv : Ints w v xs) (hlies : Lies v) (hl : xs.length ≤ 10000000) : Calls Tryz.prog 108 #[v] w fun e w' =>
 ∃ r, e = .returned r ∧ OwnSS w' w.heap.size r (rowsV xs) ∧ Below w.heap.size w w' := by
 have hA : Below w.heap.size w (w.alloc (.cells #[] 28)) := (Below.refl _ w).alloc (Nat.le_refl _) _
 have hAB : Below w.heap.size w ((w.alloc (.cells #[] 28)).alloc (.cells #[] 3)) := hA.alloc (by simp) _
 have hmade : ((w.alloc (.cells #[] 28)).alloc (.cells #[] 3)).ownsRow w.heap.size 3 1 (.slice (some ⟨w.heap.size + 1, 0, none⟩) 0 0) 0 [] := by
  have := World.ownsRow_made (base := w.heap.size) (e := 3) (size := 1) (w.alloc (.cells #[] 28)) #[] 0 (by simp) (by decide) rfl
  rw [World.size_alloc] at this
  exact this
 have hout : ((w.alloc (.cells #[] 28)).alloc (.cells #[] 3)).ownsRow w.heap.size 28 1 (.slice (some ⟨w.heap.size, 0, none⟩) 0 0) 0 [] :=
  (World.ownsRow_made (base := w.heap.size) (e := 28) (size := 1) w #[] 0 (Nat.le_refl _) (by decide) rfl).alloc _
 have hvAB := hv.below hAB
 obtain ⟨a0, c0, rfl⟩ := hv.shape
 obtain ⟨rows, hrv⟩ : ∃ rows, rowsV xs = rows := ⟨_, rfl⟩
 rw [hrv]
 go_enter Tryz.func108, Tryz.ntmps108
 go_wp2_with (at_builtin; refine append_ints rfl _ _ rfl w.heap.size _ 0 [] rfl hmade _ xs rfl hvAB hlies (by omega) (by simp; omega) ?_; intro nw w2 hnw hgr2)
 rw [Nat.zero_add, List.nil_append] at hnw
 replace hgr2 : ((w.alloc (.cells #[] 28)).alloc (.cells #[] 3)).grownBy w2 (some (w.heap.size + 1)) := hgr2
 have hout2 : w2.ownsRow w.heap.size 28 1 (.slice (some ⟨w.heap.size, 0, none⟩) 0 0) 0 [] := hout.kept hgr2 (.inr (by simp [Value.ownBlock]))
 have hB2 : Below w.heap.size w w2 := hAB.grown hgr2 hAB.size (fun k e => by injection e; omega)
 clear hmade hout hA hAB hvAB hgr2
 cases hside : sideB xs with
 | false =>
   obtain rfl : rows = [] := by rw [← hrv, rowsV_no hside]
   have hS := specSide nw xs w2 (Ints.of_owns hnw) (by omega)
   rw [hside] at hS
   obtain ⟨a1, c1, rfl⟩ := own_form hnw
   by_cases h0 : 0 < xs.length
   · have h0i : (0 : Int) < (xs.length : Int) := by omega
     generalize xs.length = n at *
     go_wp2
     refine wp_loop_rounds 1 ?_
     rw [rounds_succ]
     go_wp2_with (go_at_call 51; refine hS.mono ?_; clear hS; rintro e w' ⟨rfl, rfl⟩)
     go_ret
     exact ⟨_, rfl, OwnSS.nil hout2, hB2⟩
   · obtain h0e : xs.length = 0 := by omega
     rw [h0e] at *
     go_wp2
     refine wp_loop_rounds 1 ?_
     rw [rounds_succ]
     go_wp2
     go_ret
     exact ⟨_, rfl, OwnSS.nil hout2, hB2⟩
 | true =>
   have hlen := sideB_len hside
   have hf := side_bit hside
   have hrl := rowsV_length hside
   have hra := fun j (hj : j < xs.length) => rowsV_at hside hj
   have hz := stL_zero hside
   rw [← hz] at hnw
   rw [stL_len] at hnw
   rw [hrv] at hrl hra
   clear hz hside hv hlies hl hrv
   generalize natL xs = f at *
   generalize xs.length = n at *
   go_wp2
   go_loopw [3, 4] (fun o nw wr => ∃ (i : Nat) (us : List Value), i ≤ n ∧ us.length = i ∧ wr.ownsRow w.heap.size 28 1 o i us ∧ (∀ j, j < i → wr.ownsRow w.heap.size 3 1 (us.getD j undef) (n - j) ((stL f j (n - j)).map (Value.int .i64))) ∧ wr.ownsRow w.heap.size 3 1 nw (n - i) ((stL f i (n - i)).map (Value.int .i64)) ∧ Below w.heap.size w wr) (fun _ nw _ => sliceLen nw)
   case atStart => exact ⟨0, [], by omega, rfl, hout2, fun j hj => by omega, hnw, hB2⟩
   case round =>
    clear hout2 hB2
    obtain ⟨i, us, hi, hus, hout, hrows, hnow, hB⟩ := hrel
    by_cases hlt : i < n
    · obtain ⟨m, hm⟩ : ∃ m, n - i = m + 1 := ⟨n - i - 1, by omega⟩
      rw [hm] at hnow
      obtain ⟨g, cap, rfl, _, hg, _, _⟩ := owns_open hnow (by omega)
      have hin : Ints wr (.slice (some ⟨g, 0, none⟩) (m + 1) cap) (stL f i (m + 1)) := Ints.of_owns hnow
      have hS := specSide _ _ wr hin (by rw [stL_len]; omega)
      rw [stL_side hf i (m + 1) (by omega) (by omega)] at hS
      have hm1 : (0 : Int) < (m : Int) + 1 := by omega
      go_wp2_with (first
       | (go_at_call 51; refine hS.mono ?_; clear hS; rintro e w' ⟨rfl, rfl⟩)
       | (at_builtin; refine append_slice rfl _ _ rfl rfl w.heap.size _ i us rfl hout rfl (by omega) (by have := hB.size; omega) ?_; intro o2 w3 hout3 hgr3))
      have hgr4 : wr.grownBy w3 _ := (World.grownBy_alloc wr _ _).trans hgr3
      have hB3 : Below w.heap.size w w3 := (hB.alloc hB.size _).grown hgr3 (by have := hB.size; simp; omega) (fun k hk => (hout.lt k hk).1)
      have hnow3 := hnow.kept hgr4 (own_apart hnow hout)
      have hrows3 : ∀ j, j < i + 1 → w3.ownsRow w.heap.size 3 1 ((us ++ [Value.slice (some ⟨g, 0, none⟩) (m + 1) cap]).getD j undef) (n - j) ((stL f j (n - j)).map (Value.int .i64)) := fun j hj => by
       by_cases e : j = i
       · subst e
         rw [hm, List.getD, List.getElem?_append_right (by omega), hus, Nat.sub_self]
         exact hnow3
       · have h1 := (hrows j (by omega)).kept hgr4 (own_apart (hrows j (by omega)) hout)
         rw [List.getD, List.getElem?_append_left (by omega)]
         exact h1
      have hin3 : Ints w3 (.slice (some ⟨g, 0, none⟩) (m + 1) cap) (stL f i (m + 1)) := Ints.of_owns hnow3
      have hU := specUnder9 _ _ w3 hin3 (by rw [stL_len]; omega)
      have hun : undrV (stL f i (m + 1)) = stL f (i + 1) m := by rw [undrV_yes (stL_side hf i (m + 1) (by omega) (by omega)), stL_len, Nat.add_sub_cancel, stL_next]
      rw [hun, stL_len] at hU
      clear hun hin hin3 hrows hgr3 hgr4 hout hnow hB hg
      go_wp2_with (go_at_call 146; refine hU.mono ?_; clear hU; rintro e w4 ⟨r, rfl, hr, hB4⟩)
      obtain ⟨ar, cr, rfl⟩ := own_form hr
      go_roundw
      case rel =>
       refine ⟨i + 1, us ++ [Value.slice (some ⟨g, 0, none⟩) (m + 1) cap], by omega, by simp [hus], own_below hout3 hB4, fun j hj => own_below (hrows3 j hj) hB4, ?_, hB3.trans (hB4.mono hB3.size)⟩
       rw [show n - (i + 1) = m by omega]
       exact owns_from hr hB3.size
      case measure => simp [sliceLen]
    · obtain rfl : i = n := by omega
      rw [Nat.sub_self] at hnow
      obtain ⟨ar, cr, rfl⟩ := own_form hnow
      go_wp2
      go_ret
      refine ⟨_, rfl, ⟨us, by rw [hus, hrl], by rw [hus]; exact hout, fun j hj => ?_⟩, hB⟩
      rw [hrl] at hj
      rw [hra j hj, stL_len]
      exact hrows j hj
set_option maxHeartbeats 2000000 in
theorem specOnes (v : Value) (xs : List Int) (w : World) (hv : Ints w v xs) (hlies : Lies v) (hl : xs.length ≤ 10000000) : Calls Tryz.prog 68 #[v] w fun e w' => e = .returned (.int .i64 (onesV xs)) ∧ Below w.heap.size w w' := by
 have hS := specSide v xs w hv (by omega)
 cases hside : sideB xs with
 | false =>
   rw [onesV_no hside]
   rw [hside] at hS
   clear hv hside
   go_enter Tryz.func68, Tryz.ntmps68
   go_wp2_with (go_at_call 51; refine hS.mono ?_; clear hS; rintro e w' ⟨rfl, rfl⟩)
   go_ret
   exact ⟨rfl, Below.refl _ _⟩
 | true =>
   have hR := specRows v xs w hv hlies hl
   have hlen := sideB_len hside
   have hf := side_bit hside
   have hrl := rowsV_length hside
   have hra := fun j (hj : j < xs.length) => rowsV_at hside hj
   rw [onesV_yes hside]
   rw [hside] at hS
   generalize rowsV xs = rows at *
   generalize natL xs = f at *
   generalize xs.length = n at *
   obtain ⟨T, hT⟩ : ∃ T, tot (st f) n = T := ⟨_, rfl⟩
   have hT' := hide (show totU f n n = T by rw [totU_all, hT])
   rw [hT]
   have htl := fun i hi => totU_le hf hlen.2 i hi
   clear hv hside hl hlies hT
   go_enter Tryz.func68, Tryz.ntmps68
   go_wp2_with (first | (go_at_call 51; refine hS.mono ?_; clear hS; rintro e w' ⟨rfl, rfl⟩) | (go_at_call 108; refine hR.mono ?_; clear hR; rintro e w1 ⟨r, rfl, hown, hB⟩))
   obtain ⟨G, cap, rfl, hG, hread⟩ := hown.read (by omega)
   rw [hrl] at *
   clear hown
   go_loop [3, 5] (fun o i => ∃ k : Nat, k ≤ n ∧ i = .int .i64 k ∧ o = .int .i64 (totU f n k : Nat)) (fun _ i => n - (intOf i).toNat)
   case atStart => exact ⟨0, by omega, rfl, rfl⟩
   case round =>
    obtain ⟨k, hk, rfl, rfl⟩ := hrel
    by_cases hlt : k < n
    · obtain ⟨u, hcu, hiu, _⟩ := hread k hlt
      rw [hra k hlt] at hiu
      obtain ⟨b, cb, rfl, hb, hcb⟩ := hiu.cells (by rw [stL_len]; omega)
      have hcb' : ∀ j, j < n - k → w1.cell? ⟨b, j, none⟩ = some (.int .i64 (st f k j : Nat)) := fun j hj => by
       rw [hcb j (by rw [stL_len]; exact hj), stL_getD f k (n - k) j hj]
      rw [stL_len] at hcu
      clear hcb hiu
      have hki : (k : Int) < (n : Int) := by omega
      have htk := htl k (by omega)
      have hst : totU f n (k + 1) = totU f n k + sumF (st f k) (n - k) := rfl
      have hbit := st_le hf k
      have hst' := hide hst
      have hsb := sumF_bit hbit
      have hLn : n - k ≤ 12 := by omega
      clear hst hread hra hT' htl
      generalize n - k = L at *
      generalize totU f n k = t at *
      go_wp2
      go_loop [3, 6] (fun o i => ∃ j : Nat, j ≤ L ∧ i = .int .i64 j ∧ o = .int .i64 ((t : Int) + (sumF (st f k) j : Nat))) (fun _ i => L - (intOf i).toNat)
      case atStart => exact ⟨0, by omega, rfl, by simp [sumF]⟩
      case round =>
       obtain ⟨j, hj, rfl, rfl⟩ := hrel
       have hsj := hsb j
       by_cases hjl : j < L
       · have hcj := hcb' j hjl
         have hbj := hbit j
         have hss : sumF (st f k) (j + 1) = sumF (st f k) j + st f k j := rfl
         have hss' := hide hss
         have hji : (j : Int) < (L : Int) := by omega
         clear hcb' hbit hsb hss hst'
         generalize st f k j = z at *
         generalize sumF (st f k) j = s at *
         go_wp2
         go_round
         case rel => exact ⟨j + 1, by omega, by go_num, by rw [hss'.out]; go_num⟩
         case measure => simp [intOf]; omega
       · obtain rfl : j = L := by omega
         have hjn : ¬ (j : Int) < (j : Int) := by omega
         clear hcb' hbit hsb
         go_wp2
         go_round
         case rel => exact ⟨k + 1, by omega, by go_num, by rw [hst'.out]; go_num⟩
         case measure => simp [intOf]; omega
    · obtain rfl : k = n := by omega
      rw [hT'.out]
      clear hread hra hT' htl hf
      go_wp2
      go_ret
      exact ⟨rfl, hB⟩
set_option maxHeartbeats 2000000 in
theorem specTurned (v : Value) (xs : List Int) (w : World) (hv : Ints w v xs) (hlies : Lies v) (hl : xs.length ≤ 10000000) : Calls Tryz.prog 147 #[v] w fun e w' =>
 ∃ r, e = .returned r ∧ w'.ownsRow w.heap.size 3 1 r (turnV xs).length ((turnV xs).map (Value.int .i64)) ∧ Below w.heap.size w w' := by
 have hA : Below w.heap.size w (w.alloc (.cells #[] 3)) := (Below.refl _ w).alloc (Nat.le_refl _) _
 have hmade : (w.alloc (.cells #[] 3)).ownsRow w.heap.size 3 1 (.slice (some ⟨w.heap.size, 0, none⟩) 0 0) 0 [] := World.ownsRow_made _ _ _ (Nat.le_refl _) (by decide) rfl
 have hR := specRows v xs (w.alloc (.cells #[] 3)) (hv.below hA) hlies hl
 cases hside : sideB xs with
 | false =>
   rw [turnV_no hside]
   rw [rowsV_no hside] at hR
   have hem : Calls Tryz.prog 108 #[v] (w.alloc (.cells #[] 3)) fun e w' => ∃ a c, e = .returned (.slice a 0 c) ∧ Below (w.alloc (.cells #[] 3)).heap.size (w.alloc (.cells #[] 3)) w' := hR.mono fun e w' ⟨r, he, hown, hB⟩ => by
    obtain ⟨us, h1, h2, _⟩ := hown
    obtain ⟨a, c, rfl⟩ := own_form h2
    rw [h1] at he
    exact ⟨a, c, he, hB⟩
   clear hR hv hside
   go_enter Tryz.func147, Tryz.ntmps147
   go_wp2_with (go_at_call 108; refine hem.mono ?_; clear hem; rintro e w1 ⟨a, c, rfl, hB⟩)
   refine wp_loop_rounds 1 ?_
   rw [rounds_succ]
   go_wp2
   go_ret
   exact ⟨_, rfl, own_below hmade hB, hA.trans (hB.mono hA.size)⟩
 | true =>
   have hlen := sideB_len hside
   have hf := side_bit hside
   have hrl := rowsV_length hside
   have hra := fun j (hj : j < xs.length) => rowsV_at hside hj
   rw [turnV_yes hside]
   generalize rowsV xs = rows at *
   generalize natL xs = f at *
   generalize xs.length = n at *
   clear hv hside hl hlies
   go_enter Tryz.func147, Tryz.ntmps147
   go_wp2_with (go_at_call 108; refine hR.mono ?_; clear hR; rintro e w1 ⟨r, rfl, hown, hB⟩)
   have hrd : ∃ G cap, r = .slice (some ⟨G, 0, none⟩) n cap ∧ w.heap.size < G ∧ G < w1.heap.size ∧ ∀ j, j < n → ∃ b cb, w.heap.size < b ∧ b < w1.heap.size ∧ w1.cell? ⟨G, j, none⟩ = some (.slice (some ⟨b, 0, none⟩) (n - j) cb) ∧ w1.cell? ⟨b, n - j - 1, none⟩ = some (.int .i64 (side f n j : Nat)) := by
    obtain ⟨us, h1, h2, h3⟩ := hown
    have h2s := h2.lt
    rcases h2.2 with ⟨_, hn⟩ | ⟨G, cap, cur, rfl, hb, hg, _⟩
    · omega
    · rw [World.size_alloc] at hb
      refine ⟨G, cap, by rw [h1, hrl], by omega, (gE9.1 hg).1, fun j hj => ?_⟩
      have h4 := h3 j (by omega)
      rw [hra j hj, stL_len] at h4
      obtain ⟨b, cb, hu, hb1, hb2, _, hcc⟩ := owns_open h4 (by omega)
      rw [World.size_alloc] at hb1
      refine ⟨b, cb, by omega, hb2, ?_, ?_⟩
      · rw [h2.cellAt j (by omega), ← hu, List.getD, eG9 (by omega)]; rfl
      · exact hcc (n - j - 1) _ (by unfold stL; rw [List.getElem?_map, List.getElem?_map, List.getElem?_range (by omega)]; unfold side; rw [show n - j - 1 = n - 1 - j by omega]; rfl)
   have hm1 := own_below hmade hB
   have hB1 := hA.trans (hB.mono hA.size)
   obtain ⟨G, cap, rfl, hG0, hG, hread⟩ := hrd
   have hside1 := side_le hf n
   clear hown hmade hA hra hrl
   go_loopw [3, 5] (fun o i wr => ∃ k : Nat, k ≤ n ∧ i = .int .i64 k ∧ wr.ownsRow w.heap.size 3 1 o k (((List.range k).map fun j => (side f n j : Int)).map (Value.int .i64)) ∧ Below w.heap.size w wr ∧ (∀ b, w.heap.size < b → b < w1.heap.size → wr.heap[b]? = w1.heap[b]?) ∧ w1.heap.size ≤ wr.heap.size ∧ ∀ b, o.ownBlock = some b → b = w.heap.size ∨ w1.heap.size ≤ b) (fun _ i _ => n - (intOf i).toNat)
   case atStart => exact ⟨0, by omega, rfl, hm1, hB1, fun _ _ _ => rfl, Nat.le_refl _, fun b e => by injection e with e; exact .inl e.symm⟩
   case round =>
    obtain ⟨k, hk, rfl, hown, hBr, hkeep, hsz, hob⟩ := hrel
    by_cases hlt : k < n
    · obtain ⟨b, cb, hb0, hb1, hcG, hcb⟩ := hread k hlt
      have hcG' : wr.cell? ⟨G, k, none⟩ = some (.slice (some ⟨b, 0, none⟩) (n - k) cb) := (World.cell?_of_block (hkeep G hG0 hG)).trans hcG
      have hcb' : wr.cell? ⟨b, n - k - 1, none⟩ = some (.int .i64 (side f n k : Nat)) := (World.cell?_of_block (hkeep b hb0 hb1)).trans hcb
      have hsl := hside1 k
      have hsn : ((List.range (k + 1)).map fun j => (side f n j : Int)) = ((List.range k).map fun j => (side f n j : Int)) ++ [(side f n k : Int)] := by rw [List.range_succ, List.map_append]; rfl
      have hsn' := hide hsn
      obtain ⟨L, hL⟩ : ∃ L, n - k = L + 1 := ⟨n - k - 1, by omega⟩
      rw [hL] at hcG' hcb'
      rw [Nat.add_sub_cancel] at hcb'
      have hki : (k : Int) < (n : Int) := by omega
      have hw1 : IntKind.i64.wrap (L : Int) = L := IntWalk.i64_in _ (by omega)
      have hLi : (L : Int) < (L : Int) + 1 := by omega
      have hown' := hown
      generalize ((List.range k).map fun j => (side f n j : Int)) = ys at *
      generalize side f n k = z at *
      clear hread hcG hcb hsn hside1 hown'
      go_wp2
      go_region_law ((refine step_append_at (by rfl) _ _ (by rfl) w.heap.size _ _ _ (by rfl) hown.drew (by rfl) (by omega) (by have := hBr.size; simp; omega) ?_; intro v' w3 hown' hgrow hat))
      all_goals
       have hat' := hat
       have hgs := hgrow.size
       rw [World.size_alloc] at hgs
       go_wp2
       go_roundw
       case rel =>
        refine ⟨k + 1, by omega, by go_num, by rw [hsn'.out, List.map_append]; exact hown', (hBr.drew.alloc (by have := hBr.size; simp; omega) _).grown hgrow (by have := hBr.size; simp; omega) (fun b hb => (hown.lt b hb).1), fun b h0 h1 => ?_, ?_, fun b e => ?_⟩
        · rw [hgrow.block b (by rw [World.size_alloc]; show b < wr.heap.size + 1; omega) (fun e => by rcases hob b e.symm with h | h <;> omega)]
          rw [← hkeep b h0 h1]
          exact (World.grownBy_alloc wr.drew _ none).block b (by show b < wr.heap.size; omega) (by simp)
        · have : wr.drew.heap.size = wr.heap.size := rfl
          omega
        · rcases hat' with h | h
          · exact hob b (h ▸ e)
          · rw [h] at e; injection e with e
            have : wr.drew.heap.size = wr.heap.size := rfl
            omega
       case measure => simp [intOf]; omega
    · obtain rfl : k = n := by omega
      have hki : ¬ (k : Int) < (k : Int) := by omega
      clear hread hside1
      go_wp2
      go_ret
      exact ⟨_, rfl, by simpa using hown, hBr⟩
def IsRow (k : IntKind) (w : World) (a : Option Addr) (len cap : Nat) (zs : List Int) : Prop :=
 (a = none ∧ len = 0 ∧ cap = 0 ∧ zs = []) ∨
 ∃ x, a = some x ∧ len ≤ cap ∧ cap ≤ maxLen ∧ zs.length = cap ∧ (∀ i, i < zs.length → w.cell? (x.add i) = some (.int k (zs.getD i 0))) ∧ ∀ n ∈ zs, (Lit.int k n).wf = true
theorem IsRow.bytes {w : World} {a : Option Addr} {len cap : Nat} {zs : List Int} (h : IsRow .u8 w a len cap zs) {n : Nat} (hn : n ≤ len) (h2 : n ≤ 2000) : Bytes w a n := by
 refine ⟨h2, fun hpos => ?_⟩
 rcases h with ⟨_, h0, _⟩ | ⟨⟨b, off, spot⟩, rfl, hl, hm, hz, hcell, hwf⟩
 · omega
 · have h0 := hcell 0 (by omega)
   have hs : spot = none := by simpa [Addr.add] using World.cell?_spot h0
   subst hs
   have hb : b < w.heap.size := by
    have := World.block_lt_of_cell? w _ h0
    simpa [Addr.add] using this
   refine ⟨b, off, rfl, hb, fun i => zs.getD i 0, fun i => ?_, fun i hi => ?_⟩
   · by_cases hi : i < zs.length
     · have := hwf (zs.getD i 0) (by rw [List.getD, eG9 hi]; simp)
       simpa [Lit.wf, IntKind.min, IntKind.max, IntKind.signed, IntKind.bits] using this
     · simp [List.getD, hi]
   · have := hcell i (by omega)
     have hadd : (⟨b, off, none⟩ : Addr).add i = ⟨b, off + i, none⟩ := by unfold Addr.add; split <;> simp_all
     rwa [hadd] at this
def Opened (W0 : World) (a : Option Addr) (e : Ending) (w' : World) : Prop :=
 ∃ R len cap, e = .returned (.pointer (some ⟨R, 0, none⟩)) ∧ Bytes W0 a len ∧ Rd W0 R a len cap w' 0
theorem open_in (w : World) (a : Option Addr) (len cap : Nat) (zs : List Int) (h : IsRow .u8 w a len cap zs) : Calls Tryz.prog 39 #[.slice a len cap] w (Opened w a) := by
 have hRd : ∀ n c : Nat, Rd w w.heap.size a n c (w.alloc (.cells #[.slice a n c, .int .i64 0] 109)) 0 := fun n c => ⟨(Below.refl _ w).alloc (Nat.le_refl _) _, Nat.le_refl _, heap_alloc_new w _⟩
 have hcap : len ≤ cap := by rcases h with ⟨_, h0, h1, _⟩ | ⟨_, _, hl, _⟩ <;> omega
 by_cases hl : 2000 < len
 · have hb := h.bytes (n := 2000) (by omega) (Nat.le_refl _)
   have hcp : (2000 : Int) ≤ cap := by omega
   rcases h with ⟨_, h0, _⟩ | ⟨x, rfl, _⟩
   · omega
   · go_enter Tryz.func39, Tryz.ntmps39
     go_wp2
     go_ret
     exact ⟨_, _, _, rfl, hb, hRd _ _⟩
 · have hb := h.bytes (n := len) (Nat.le_refl _) (by omega)
   go_enter Tryz.func39, Tryz.ntmps39
   go_wp2
   go_ret
   exact ⟨_, _, _, rfl, hb, hRd _ _⟩
def ArgI (W0 : World) (v : Value) (xs : List Int) : Prop :=
 (∃ a c, v = .slice a 0 c ∧ xs = []) ∨ ∃ b off cap, v = .slice (some ⟨b, off, none⟩) xs.length cap ∧ b < W0.heap.size ∧ ∀ i, i < xs.length → W0.cell? ⟨b, off + i, none⟩ = some (.int .i64 (xs.getD i 0))
def OwnI (W : World) (base lim : Nat) (v : Value) (n : Nat) (f : Nat → Int) : Prop :=
 (n = 0 ∧ ∃ a c, v = .slice a 0 c) ∨ ∃ g cap, v = .slice (some ⟨g, 0, none⟩) n cap ∧ base ≤ g ∧ g < lim ∧ RowAt W g n f
theorem OwnI.of_owns {w w' : World} {v : Value} {xs : List Int} (h : w'.ownsRow w.heap.size 3 1 v xs.length (xs.map (Value.int .i64))) : OwnI w' w.heap.size w'.heap.size v xs.length (fun i => xs.getD i 0) := by
 by_cases h0 : 0 < xs.length
 · obtain ⟨g, cap, rfl, hb, hr⟩ := RowAt.of_owns h h0
   exact .inr ⟨g, cap, rfl, hb, hr.lt, hr⟩
 · refine .inl ⟨by omega, ?_⟩
   have e : xs.length = 0 := by omega
   rcases h.2 with ⟨rfl, _⟩ | ⟨g, cap, cur, rfl, _⟩
   · exact ⟨_, _, rfl⟩
   · rw [e]; exact ⟨_, _, rfl⟩
theorem OwnI.ints {W : World} {base lim : Nat} {v : Value} {xs : List Int} (h : OwnI W base lim v xs.length (fun i => xs.getD i 0)) : Ints W v xs := by
 rcases h with ⟨h0, a, c, rfl⟩ | ⟨g, cap, rfl, _, _, hr⟩
 · exact .inl ⟨_, _, rfl, List.length_eq_zero_iff.1 h0⟩
 · exact .inr ⟨g, cap, rfl, hr.lt, fun i hi => hr.cell hi⟩
theorem OwnI.grown {W W' : World} {base lim n : Nat} {v : Value} {f : Nat → Int} {row : Option Nat} (h : OwnI W base lim v n f) (hg : W.grownBy W' row) (hr : ∀ k, row = some k → k < base ∨ lim ≤ k) : OwnI W' base lim v n f := by
 rcases h with h | ⟨g, cap, rfl, h1, h2, h3⟩
 · exact .inl h
 · exact .inr ⟨g, cap, rfl, h1, h2, h3.kept hg (fun e => by have := hr g e.symm; omega)⟩
theorem OwnI.below {W W' : World} {base lim n : Nat} {v : Value} {f : Nat → Int} (h : OwnI W base lim v n f) (hb : Below W.heap.size W W') : OwnI W' base lim v n f := by
 rcases h with h | ⟨g, cap, rfl, h1, h2, h3⟩
 · exact .inl h
 · exact .inr ⟨g, cap, rfl, h1, h2, h3.of_block (hb.block g h3.lt)⟩
def RowsI (W : World) (v : Value) (rows : List (List Int)) : Prop :=
 ∃ a c, v = .slice a rows.length c ∧ (0 < rows.length → ∃ G, a = some ⟨G, 0, none⟩ ∧ G < W.heap.size ∧ ∀ j, j < rows.length → ∃ u, W.cell? ⟨G, j, none⟩ = some u ∧ Ints W u (rows.getD j []))
theorem RowsI.below {W W' : World} {v : Value} {rows : List (List Int)} (h : RowsI W v rows) (hb : Below W.heap.size W W') : RowsI W' v rows := by
 obtain ⟨a, c, rfl, h⟩ := h
 refine ⟨a, c, rfl, fun h0 => ?_⟩
 obtain ⟨G, rfl, hG, hr⟩ := h h0
 refine ⟨G, rfl, lL9 hG hb.size, fun j hj => ?_⟩
 obtain ⟨u, h1, h2⟩ := hr j hj
 exact ⟨u, (hb.cell (p := ⟨G, j, none⟩) hG).trans h1, h2.below hb⟩
theorem OwnSS.rowsI {w : World} {base : Nat} {v : Value} {rows : List (List Int)} (h : OwnSS w base v rows) : RowsI w v rows := by
 by_cases h0 : 0 < rows.length
 · obtain ⟨g, cap, rfl, h1, h2⟩ := h.read h0
   refine ⟨_, _, rfl, fun _ => ⟨g, rfl, h1, fun j hj => ?_⟩⟩
   obtain ⟨u, h3, h4, _⟩ := h2 j hj
   exact ⟨u, h3, h4⟩
 · obtain ⟨us, h1, h2, _⟩ := h
   obtain ⟨a, c, rfl⟩ : ∃ a c, v = .slice a us.length c := by
    rcases h2.2 with ⟨rfl, hn⟩ | ⟨g, cap, cur, rfl, _⟩
    · exact ⟨_, _, by rw [hn]⟩
    · exact ⟨_, _, rfl⟩
   exact ⟨a, c, by rw [h1], fun h => absurd h h0⟩
def OwnRows (w : World) (base : Nat) (v : Value) (rows : List (List Int)) : Prop :=
 ∃ us : List Value, us.length = rows.length ∧ w.ownsRow base 28 1 v us.length us ∧ (∀ j, j < rows.length → w.ownsRow base 3 1 (us.getD j undef) (rows.getD j []).length ((rows.getD j []).map (Value.int .i64))) ∧
   ∀ i j, i < j → j < rows.length → (us.getD i undef).ownBlock ≠ (us.getD j undef).ownBlock
theorem OwnRows.ownSS {w : World} {base : Nat} {v : Value} {rows : List (List Int)} (h : OwnRows w base v rows) : OwnSS w base v rows := by
 obtain ⟨us, h1, h2, h3, _⟩ := h
 exact ⟨us, h1, h2, h3⟩
structure Grid (W : World) (base lim G n : Nat) (b cb L : Nat → Nat) (F : Nat → Nat → Int) : Prop where
 gb : base ≤ G ∧ G < lim ∧ G < W.heap.size
 at_ : ∀ j, j < n → W.cell? ⟨G, j, none⟩ = some (.slice (some ⟨b j, 0, none⟩) (L j) (cb j))
 rb : ∀ j, j < n → base ≤ b j ∧ b j < lim ∧ b j ≠ G
 row : ∀ j, j < n → RowAt W (b j) (L j) (F j)
 ne : ∀ i j, i < j → j < n → b i ≠ b j
structure Between (base lim : Nat) (W W' : World) : Prop where
 os : W'.os = W.os
 tape : W'.tape = W.tape
 output : W'.output = W.output
 size : W.heap.size ≤ W'.heap.size
 block : ∀ k, k < W.heap.size → (k < base ∨ lim ≤ k) → W'.heap[k]? = W.heap[k]?
theorem Between.refl (base lim : Nat) (W : World) : Between base lim W W := ⟨rfl, rfl, rfl, Nat.le_refl _, fun _ _ _ => rfl⟩
theorem Between.grown {base lim : Nat} {W W' W2 : World} {row : Option Nat} (h : Between base lim W W') (hg : W'.grownBy W2 row) (hr : ∀ k, row = some k → base ≤ k ∧ k < lim) : Between base lim W W2 :=
 ⟨hg.os.trans h.os, hg.tape.trans h.tape, hg.output.trans h.output, lT9 h.size hg.size, fun k hk ho => (hg.block k (lL9 hk h.size) (fun e => by have := hr k e.symm; omega)).trans (h.block k hk ho)⟩
theorem Between.below {base lim B : Nat} {W W' W0 : World} (h : Between base lim W W') (h0 : Below B W0 W) (hb : B ≤ base) (hs : B ≤ W.heap.size) : Below B W0 W' :=
 h0.trans ⟨h.os, h.tape, h.output, h.size, fun k hk => h.block k (lL9 hk hs) (.inl (by omega))⟩
theorem OwnI.between {W W' : World} {base lim base' lim' n : Nat} {v : Value} {f : Nat → Int} (h : OwnI W base lim v n f) (hg : Between base' lim' W W') (hr : lim ≤ base' ∨ lim' ≤ base) : OwnI W' base lim v n f := by
 rcases h with h | ⟨g, cap, rfl, h1, h2, h3⟩
 · exact .inl h
 · exact .inr ⟨g, cap, rfl, h1, h2, h3.of_block (hg.block g h3.lt (by omega))⟩
theorem Grid.below {W W' : World} {base lim G n : Nat} {b cb L : Nat → Nat} {F : Nat → Nat → Int} (h : Grid W base lim G n b cb L F) (hb : Below W.heap.size W W') : Grid W' base lim G n b cb L F :=
 ⟨⟨h.gb.1, h.gb.2.1, lL9 h.gb.2.2 hb.size⟩, fun j hj => (hb.cell (p := ⟨G, j, none⟩) h.gb.2.2).trans (h.at_ j hj), h.rb, fun j hj => (h.row j hj).of_block (hb.block _ (h.row j hj).lt), h.ne⟩
theorem Grid.between {W W' : World} {base lim base' lim' G n : Nat} {b cb L : Nat → Nat} {F : Nat → Nat → Int} (h : Grid W base lim G n b cb L F) (hg : Between base' lim' W W') (hr : lim ≤ base' ∨ lim' ≤ base) : Grid W' base lim G n b cb L F :=
 ⟨⟨h.gb.1, h.gb.2.1, lL9 h.gb.2.2 hg.size⟩,
   fun j hj => (show W'.cell? ⟨G, j, none⟩ = W.cell? ⟨G, j, none⟩ from World.cell?_of_block (w := W) (hg.block G h.gb.2.2 (by have := h.gb; omega))).trans (h.at_ j hj), h.rb,
   fun j hj => (h.row j hj).of_block (hg.block _ (h.row j hj).lt (by have := h.rb j hj; omega)), h.ne⟩
theorem Grid.set {W W' : World} {base lim G n : Nat} {b cb L : Nat → Nat} {F F' : Nat → Nat → Int} (h : Grid W base lim G n b cb L F) {k : Nat} (hk : k < n) (hg : W.grownBy W' (some (b k))) (hr : RowAt W' (b k) (L k) (F' k)) (he : ∀ j, j ≠ k → F' j = F j) : Grid W' base lim G n b cb L F' := by
 refine ⟨⟨h.gb.1, h.gb.2.1, lL9 h.gb.2.2 hg.size⟩, fun j hj => ?_, h.rb, fun j hj => ?_, h.ne⟩
 · exact (show W'.cell? ⟨G, j, none⟩ = W.cell? ⟨G, j, none⟩ from World.cell?_of_block (w := W) (hg.block G h.gb.2.2 (fun e => by have := (h.rb k hk).2.2; injection e with e; omega))).trans (h.at_ j hj)
 · by_cases e : j = k
   · subst e; exact hr
   · rw [he j e]
     refine (h.row j hj).of_block (hg.block _ (h.row j hj).lt (fun e2 => ?_))
     injection e2 with e2
     rcases Nat.lt_or_ge j k with h3 | h3
     · exact h.ne j k h3 hk e2
     · exact h.ne k j (by omega) hj e2.symm
def OwnG (W : World) (base lim : Nat) (v : Value) (n : Nat) (L : Nat → Nat) (F : Nat → Nat → Int) : Prop :=
 (n = 0 ∧ ∃ a c, v = .slice a 0 c) ∨ ∃ G cap b cb, v = .slice (some ⟨G, 0, none⟩) n cap ∧ Grid W base lim G n b cb L F
theorem OwnG.below {W W' : World} {base lim n : Nat} {v : Value} {L : Nat → Nat} {F : Nat → Nat → Int} (h : OwnG W base lim v n L F) (hb : Below W.heap.size W W') : OwnG W' base lim v n L F := by
 rcases h with h | ⟨G, cap, b, cb, rfl, h⟩
 · exact .inl h
 · exact .inr ⟨G, cap, b, cb, rfl, h.below hb⟩
theorem OwnG.between {W W' : World} {base lim base' lim' n : Nat} {v : Value} {L : Nat → Nat} {F : Nat → Nat → Int} (h : OwnG W base lim v n L F) (hg : Between base' lim' W W') (hr : lim ≤ base' ∨ lim' ≤ base) : OwnG W' base lim v n L F := by
 rcases h with h | ⟨G, cap, b, cb, rfl, h⟩
 · exact .inl h
 · exact .inr ⟨G, cap, b, cb, rfl, h.between hg hr⟩
theorem OwnG.rowsI {W : World} {base lim : Nat} {v : Value} {rows : List (List Int)} (h : OwnG W base lim v rows.length (fun j => (rows.getD j []).length) (fun j i => (rows.getD j []).getD i 0)) : RowsI W v rows := by
 rcases h with ⟨h0, a, c, rfl⟩ | ⟨G, cap, b, cb, rfl, h⟩
 · exact ⟨a, c, by rw [h0], fun h => by omega⟩
 · refine ⟨_, _, rfl, fun _ => ⟨G, rfl, h.gb.2.2, fun j hj => ⟨_, h.at_ j hj, ?_⟩⟩⟩
   exact .inr ⟨_, _, rfl, (h.row j hj).lt, fun i hi => (h.row j hj).cell hi⟩
end
section
open Go.RowKit Go.Shelf
attribute [local go_sem] Oper.semAt_some
set_option maxRecDepth 100000 in
set_option maxHeartbeats 1000000 in
theorem specNumF : ∀ (f n : Nat), n < 10 ^ (f + 1) → n ≤ 9223372036854775807 → f ≤ 20 → ∀ w : World, Calls Tryz.prog 67 #[.int .i64 n] w fun e w' => e = .returned (.string (str (decF f n))) ∧ Below w.heap.size w w' := by
 intro f
 induction f with
 | zero =>
   intro n hn _ _ w
   have h10 : n < 10 := by simpa using hn
   have hni : (n : Int) < 10 := by omega
   have hc := fun w => byte_text (48 + n) (w.alloc (.cells #[.int .u8 (48 + n : Nat)] 5)) w.heap.size (Boxed.new w 5 _).cell
   rw [decF_low 0 n h10]
   obtain ⟨S, hS⟩ : ∃ S, str [48 + n] = S := ⟨_, rfl⟩
   rw [hS] at hc ⊢
   have hcast : ((48 + n : Nat) : Int) = 48 + (n : Int) := by omega
   simp only [hcast] at hc
   have hw1 : IntKind.i64.wrap (48 + (n : Int)) = 48 + (n : Int) := IntWalk.i64_in _ (by omega)
   have hw2 : IntKind.u8.wrap (48 + (n : Int)) = 48 + (n : Int) := IntWalk.u8_in _ (by omega)
   have hmx : ¬ (n : Int) < 0 := by omega
   clear hS hn h10 hcast
   go_enter Tryz.func67, Tryz.ntmps67
   go_wp2
   go_ret
   exact ⟨rfl, (Below.refl _ w).alloc (Nat.le_refl _) _⟩
 | succ f ih =>
   intro n hn hn18 hf w
   by_cases h10 : n < 10
   · have hb := ih n (by have : 10 ^ 1 ≤ 10 ^ (f + 1) := Nat.pow_le_pow_right (by omega) (by omega); omega) hn18 (by omega) w
     rw [decF_low _ n h10] at hb ⊢
     exact hb
   · have hni : ¬ (n : Int) < 10 := by omega
     have hqd : n / 10 < 10 ^ (f + 1) := by rw [Nat.div_lt_iff_lt_mul (by decide)]; rwa [Nat.pow_succ] at hn
     have hI := fun V => ih (n / 10) hqd (by omega) (by omega) V
     have hd : decF (f + 1) n = decF f (n / 10) ++ [48 + n % 10] := by conv => lhs; unfold decF; rw [if_neg h10]
     rw [hd]
     have hl := decF_len f (n / 10)
     have happ := str_app (decF f (n / 10)) [48 + n % 10]
     have hs1 := str_size (decF f (n / 10))
     have hs2 := str_size [48 + n % 10]
     have hq1 : Int.tmod (n : Int) 10 = ((n % 10 : Nat) : Int) := tmod_n n 10
     have hq2 : Int.tdiv (n : Int) 10 = ((n / 10 : Nat) : Int) := tdiv_n n 10
     have hr := Nat.mod_lt n (show 0 < 10 by decide)
     have hp := Nat.div_le_self n 10
     generalize n / 10 = p at *
     generalize n % 10 = r at *
     have hc := fun (W : World) (q : Nat) h => byte_text (48 + r) W q h
     obtain ⟨X, hX⟩ : ∃ X, str (decF f p) = X := ⟨_, rfl⟩
     obtain ⟨Y, hY⟩ : ∃ Y, str [48 + r] = Y := ⟨_, rfl⟩
     obtain ⟨Z, hZ⟩ : ∃ Z, str (decF f p ++ [48 + r]) = Z := ⟨_, rfl⟩
     rw [hX] at hI hs1 happ
     rw [hY] at hc hs2 happ
     rw [hZ] at happ ⊢
     have hXs : X.size ≤ 100 := by omega
     have hYs : Y.size ≤ 100 := by simp at hs2; omega
     have hw1 : IntKind.i64.wrap (r : Int) = r := IntWalk.i64_in _ (by omega)
     have hw2 : IntKind.i64.wrap (48 + (r : Int)) = 48 + (r : Int) := IntWalk.i64_in _ (by omega)
     have hw3 : IntKind.u8.wrap (48 + (r : Int)) = 48 + (r : Int) := IntWalk.u8_in _ (by omega)
     have hw4 : IntKind.i64.wrap (p : Int) = p := IntWalk.i64_in _ (by omega)
     have hcast : ((48 + r : Nat) : Int) = 48 + (r : Int) := by omega
     simp only [hcast] at hc
     clear ih hn hd hX hY hZ hs1 hs2 hqd hl hcast
     refine (cW9 (n := 9)).1 ?_
     refine callsIn_of_wp Tryz.func67 rfl trivial ?_ rfl
     simp only [Tryz.ntmps67, List.size_toArray, List.length_cons, List.length_nil, Nat.reduceAdd, Nat.reduceSub, Array.replicate_succ, Array.replicate_zero, List.push_toArray, List.append_toArray, List.nil_append, List.cons_append]
     gi_wp2
     refine wpIn_region_kinds 9 (by kernel_rfl) (by kernel_rfl) (by kernel_rfl) (by decide)
      (fun s => { tmps := #[.int .i64 n, undef, .string ⟨#[]⟩, .int .i64 n, .bool false, undef, undef, undef, undef, undef, undef, s 0, s 1, s 2, s 3, s 4, s 5, s 6, s 7, s 8, undef], defers := [] })
      [.val (.int .i64 n), .val (.int .i64 p), .val (.string X), .val (.int .i64 n), .val (.int .i64 r), .val (.int .i64 (48 + (r : Int))), .val (.int .u8 (48 + (r : Int))), .one (.int .u8 (48 + (r : Int))), .val (.string Y)]
      ⟨fun _ => undef, rfl⟩ ?put ?step ?tail
     case put =>
      intro i o s v hi ho
      rcases (show i = 0 ∨ i = 1 ∨ i = 2 ∨ i = 3 ∨ i = 4 ∨ i = 5 ∨ i = 6 ∨ i = 7 ∨ i = 8 by omega) with rfl | rfl | rfl | rfl | rfl | rfl | rfl | rfl | rfl
      all_goals
       simp at ho
       subst ho
       simp [Act.put]
     case step =>
      rintro i o s V hi ho hV hd Q' hQ
      rcases (show i = 0 ∨ i = 1 ∨ i = 2 ∨ i = 3 ∨ i = 4 ∨ i = 5 ∨ i = 6 ∨ i = 7 ∨ i = 8 by omega) with rfl | rfl | rfl | rfl | rfl | rfl | rfl | rfl | rfl
      all_goals
       simp at ho
       subst ho
       simp [Act.put] at hQ
       have hQ' := hide hQ
       clear hQ
      case inl =>
       clear hd
       gi_wp2
       exact hQ'.out _ _ (Below.refl _ _) rfl
      case inr.inl =>
       have e1 : s 0 = .int .i64 n := hd 0 (by kernel_rfl)
       clear hd
       gi_wp2
       exact hQ'.out _ _ (Below.refl _ _) rfl
      case inr.inr.inl =>
       have e1 : s 1 = .int .i64 p := hd 1 (by kernel_rfl)
       clear hd
       gi_wp2_with (refine ⟨trivial, ?_⟩; gi_at_call 67; refine (cW9.2 (hI _)).mono ?_; rintro e w' ⟨rfl, hB'⟩)
       have hr' := hQ'.out
       rw [e1] at hr'
       exact hr' _ _ hB' rfl
      case inr.inr.inr.inl =>
       clear hd
       gi_wp2
       exact hQ'.out _ _ (Below.refl _ _) rfl
      case inr.inr.inr.inr.inl =>
       have e1 : s 3 = .int .i64 n := hd 3 (by kernel_rfl)
       clear hd
       gi_wp2
       exact hQ'.out _ _ (Below.refl _ _) rfl
      case inr.inr.inr.inr.inr.inl =>
       have e1 : s 4 = .int .i64 r := hd 4 (by kernel_rfl)
       clear hd
       gi_wp2
       exact hQ'.out _ _ (Below.refl _ _) rfl
      case inr.inr.inr.inr.inr.inr.inl =>
       have e1 : s 5 = .int .i64 (48 + (r : Int)) := hd 5 (by kernel_rfl)
       clear hd
       gi_wp2
       exact hQ'.out _ _ (Below.refl _ _) rfl
      case inr.inr.inr.inr.inr.inr.inr.inl =>
       have e1 : s 6 = .int .u8 (48 + (r : Int)) := hd 6 (by kernel_rfl)
       clear hd
       gi_wp2
       exact hQ'.out _ _ ((Below.refl _ V).alloc (Nat.le_refl _) _) ⟨V.heap.size, rfl, by simp, (Boxed.new V 5 _).cell⟩
      case inr.inr.inr.inr.inr.inr.inr.inr =>
       obtain ⟨q, e1, hq, hcq⟩ : ∃ q, s 7 = .slice (some ⟨q, 0, none⟩) 1 1 ∧ q < V.heap.size ∧ V.cell? ⟨q, 0, none⟩ = some (.int .u8 (48 + (r : Int))) := hd 7 (by kernel_rfl)
       have hcv := hc V q hcq
       clear hd hc
       gi_wp2
       exact hQ'.out _ _ (Below.refl _ _) rfl
     case tail =>
      rintro s V hV hd
      have e2 : s 2 = .string X := hd 2 (by omega)
      have e8 : s 8 = .string Y := hd 8 (by omega)
      clear hd
      simp only [List.drop_succ_cons, List.drop_zero]
      gi_wp2
      refine bodyPost_ret (results_tmp rfl _ _ _) rfl ⟨rfl, hV⟩
end
section
theorem dec_digits : ∀ (f u : Nat), u < 10 ^ (f + 1) → Lib.decDigits u = (decF f u).map UInt8.ofNat
 | 0, u, h => by
   rw [Lib.decDigits_one (by simpa using h)]
   have : u % 10 = u := Nat.mod_eq_of_lt (by simpa using h)
   simp [decF, this]
 | f + 1, u, h => by
   unfold decF
   by_cases h1 : u < 10
   · rw [if_pos h1, Lib.decDigits_one h1]; rfl
   · rw [if_neg h1, Lib.decDigits, dif_neg h1, dec_digits f (u / 10) (by rw [Nat.pow_succ] at h; omega)]
     simp
theorem itoa_dec (u : Nat) (h : u ≤ 999999999) : Lib.itoa (u : Int) = (decF 20 u).map UInt8.ofNat := by
 rw [Lib.itoa_nonneg]
 exact dec_digits 20 u (Nat.lt_of_le_of_lt h (by decide))
theorem dec_byte : ∀ (f u : Nat), ∀ x ∈ decF f u, 48 ≤ x ∧ x ≤ 57
 | 0, u, x, hx => by simp [decF] at hx; omega
 | f + 1, u, x, hx => by
   unfold decF at hx
   split at hx
   · simp at hx; omega
   · rcases List.mem_append.1 hx with hx | hx
     · exact dec_byte f _ x hx
     · simp at hx; omega
theorem digL_app : ∀ (xs : List Nat) (c n : Nat), digL (xs ++ [c]) n = (digL xs n).bind fun k => if 48 ≤ c ∧ c ≤ 57 then some (10 * k + (c - 48)) else none
 | [], c, n => by
   simp only [List.nil_append, digL, Option.bind_some]
 | x :: xs, c, n => by
   rw [List.cons_append, digL, digL]
   split
   · exact digL_app xs c _
   · rfl
theorem dec_dig : ∀ (f u : Nat), u < 10 ^ (f + 1) → digL (decF f u) 0 = some u
 | 0, u, h => by
   have : u % 10 = u := Nat.mod_eq_of_lt (by simpa using h)
   have h2 : u < 10 := by simpa using h
   simp only [decF, this, digL]
   rw [if_pos (by omega)]
   simp
 | f + 1, u, h => by
   unfold decF
   by_cases h1 : u < 10
   · rw [if_pos h1]
     simp only [digL]
     rw [if_pos (by omega)]
     simp
   · rw [if_neg h1, digL_app, dec_dig f (u / 10) (by rw [Nat.pow_succ] at h; omega), Option.bind_some, if_pos (by omega)]
     congr 1
     omega
theorem dec_len : ∀ (f u k : Nat), 1 ≤ k → u < 10 ^ k → 1 ≤ (decF f u).length ∧ (k ≤ f + 1 → (decF f u).length ≤ k)
 | 0, u, k, hk, h => by simp [decF]; omega
 | f + 1, u, k, hk, h => by
   unfold decF
   by_cases h1 : u < 10
   · rw [if_pos h1]; simp; omega
   · rw [if_neg h1]
     have hk2 : 2 ≤ k := by
      rcases Nat.lt_or_ge k 2 with h3 | h3
      · obtain rfl : k = 1 := by omega
        simp at h; omega
      · exact h3
     obtain ⟨j, rfl⟩ : ∃ j, k = j + 1 := ⟨k - 1, by omega⟩
     have := dec_len f (u / 10) j (by omega) (by rw [Nat.pow_succ] at h; omega)
     rw [List.length_append, List.length_singleton]
     exact ⟨by omega, fun h4 => by have := this.2 (by omega); omega⟩
theorem dec_head : ∀ (f u : Nat), 1 ≤ u → u < 10 ^ (f + 1) → (decF f u).getD 0 0 ≠ 48
 | 0, u, h1, h => by
   have : u % 10 = u := Nat.mod_eq_of_lt (by simpa using h)
   simp [decF, this]; omega
 | f + 1, u, h1, h => by
   unfold decF
   by_cases h2 : u < 10
   · rw [if_pos h2]; simp; omega
   · rw [if_neg h2]
     have h3 := dec_head f (u / 10) (by omega) (by rw [Nat.pow_succ] at h; omega)
     have h4 := (dec_len f (u / 10) (f + 1) (by omega) (by rw [Nat.pow_succ] at h; omega)).1
     rw [List.getD, List.getElem?_append_left (by omega)]
     exact h3
theorem dig_dec (m : Nat) (h : m ≤ 999999999) : digT (decF 20 m) = some m := by
 have h20 : m < 10 ^ 21 := Nat.lt_of_le_of_lt h (by decide)
 have hl := dec_len 20 m 9 (by omega) (by omega)
 have h3 : ¬ (1 < (decF 20 m).length ∧ (decF 20 m).getD 0 0 = 48) := fun ⟨h1, h2⟩ => by
  rcases Nat.eq_zero_or_pos m with e | e
  · subst e; simp [decF] at h1
  · exact dec_head 20 m e h20 h2
 unfold digT
 rw [if_pos (show _ ∧ _ ∧ _ from ⟨hl.1, hl.2 (by omega), h3⟩), dec_dig 20 m h20]
theorem dig_num : ∀ (n : Nat) (q : List Nat), q.length = n → q ≠ [] → q.getD 0 0 ≠ 48 → ∀ k, digL q 0 = some k → 1 ≤ k ∧ k < 10 ^ q.length ∧ ∀ f, q.length ≤ f + 1 → decF f k = q
 | 0, q, hn, hne, _, _, _ => absurd (List.length_eq_zero_iff.1 hn) hne
 | n + 1, q, hn, hne, h48, k, hk => by
   obtain ⟨r, c, rfl⟩ : ∃ r c, q = r ++ [c] := ⟨q.dropLast, q.getLast hne, (List.dropLast_concat_getLast hne).symm⟩
   rw [digL_app] at hk
   have hr : r.length = n := by simpa using hn
   cases hd : digL r 0 with
   | none => rw [hd] at hk; cases hk
   | some k' =>
     rw [hd, Option.bind_some] at hk
     split at hk
     · rename_i hc
       injection hk with hk
       subst hk
       by_cases h0 : r = []
       · subst h0
         simp only [digL] at hd
         injection hd with hd
         subst hd
         simp at h48
         refine ⟨by omega, by simp; omega, fun f _ => ?_⟩
         have hlt : 10 * 0 + (c - 48) < 10 := by omega
         cases f with
         | zero => simp [decF]; omega
         | succ f => unfold decF; rw [if_pos hlt]; simp; omega
       · have hrl : 0 < r.length := List.length_pos_iff.2 h0
         have h48' : r.getD 0 0 ≠ 48 := by
          rw [List.getD, List.getElem?_append_left hrl] at h48
          exact h48
         obtain ⟨h1, h2, h3⟩ := dig_num n r hr h0 h48' k' hd
         refine ⟨by omega, ?_, fun f hf => ?_⟩
         · rw [List.length_append, List.length_singleton, Nat.pow_succ]; omega
         · rw [List.length_append, List.length_singleton] at hf
           cases f with
           | zero => omega
           | succ f =>
             unfold decF
             rw [if_neg (by omega), show (10 * k' + (c - 48)) / 10 = k' by omega, show (10 * k' + (c - 48)) % 10 = c - 48 by omega, h3 f (by omega), show 48 + (c - 48) = c by omega]
     · cases hk
theorem dig_is {p : List Nat} {m : Nat} (h : digT p = some m) : m ≤ 999999999 ∧ decF 20 m = p := by
  unfold digT at h
  split at h
  · rename_i hc
    obtain ⟨h1, h2, h3⟩ := hc
    by_cases h48 : p.getD 0 0 = 48
    · have hl : p.length = 1 := by
        rcases Nat.lt_or_ge 1 p.length with h4 | h4
        · exact absurd ⟨h4, h48⟩ h3
        · omega
      match p, hl with
      | [c], _ =>
        simp at h48
        subst h48
        simp only [digL] at h
        injection h with h
        subst h
        exact ⟨by omega, rfl⟩
    · obtain ⟨h4, h5, h6⟩ := dig_num p.length p rfl (fun e => by rw [e] at h1; simp at h1) h48 m h
      have h7 : (10 : Nat) ^ p.length ≤ 10 ^ 9 := Nat.pow_le_pow_right (by omega) h2
      exact ⟨by omega, h6 20 (by omega)⟩
  · cases h
theorem digL_ge : ∀ (p : List Nat) (n m : Nat), digL p n = some m → n ≤ m
  | [], n, m, h => by simp only [digL] at h; injection h with h; omega
  | c :: r, n, m, h => by
    rw [digL] at h
    split at h
    · have := digL_ge r _ m h; omega
    · cases h
theorem parse_dig : ∀ (p : List Nat) (n m : Nat), (∀ x ∈ p, x < 256) → m ≤ 999999999 → digL p n = some m → Lib.parseUint10 n (p.map UInt8.ofNat) = .ok m
  | [], n, m, _, _, h => by simp only [digL] at h; injection h with h; subst h; rfl
  | c :: r, n, m, hb, hm, h => by
    rw [digL] at h
    split at h
    · rename_i hc
      have hge := digL_ge r _ m h
      have hcb : (UInt8.ofNat c).toNat = c := by simp; have := hb c (by simp); omega
      rw [List.map_cons, Lib.parseUint10, hcb, if_pos hc, if_neg (by omega), if_neg (by omega), show n * 10 + (c - 48) = 10 * n + (c - 48) by omega]
      exact parse_dig r _ m (fun x hx => hb x (by simp [hx])) hm h
    · cases h
theorem atoi_dig {p : List Nat} {m : Nat} (hb : ∀ x ∈ p, x < 256) (h : digT p = some m) : Lib.atoiAll (p.map UInt8.ofNat) = .ok (m : Int) := by
  obtain ⟨hm, hd⟩ := dig_is h
  have h2 := h
  unfold digT at h2
  split at h2
  · rename_i hc
    match p, hc with
    | c :: r, _ =>
      have hcd : 48 ≤ c ∧ c ≤ 57 := by
        rw [digL] at h2
        split at h2
        · assumption
        · cases h2
      have hcb : (UInt8.ofNat c).toNat = c := by simp; omega
      have hp := parse_dig (c :: r) 0 m hb hm h2
      rw [List.map_cons] at hp ⊢
      rw [Lib.atoiAll_plain _ _ (by omega) (by omega)]
      unfold Lib.parseMag
      rw [if_neg (by simp), hp]
      unfold Lib.signless
      simp
      omega
  · cases h2
theorem itoa_not {p : List Nat} (hb : ∀ x ∈ p, x < 256) (h : digT p = none) (n : Nat) (hn : n ≤ 999999999) : (Lib.itoa (n : Int)) ≠ p.map UInt8.ofNat := fun e => by
 rw [itoa_dec n hn] at e
 have h1 := str_inj (fun x hx => by have := dec_byte 20 n x hx; omega) hb e
 rw [← h1, dig_dec n hn] at h
 cases h
end
section
open Go.RowKit
theorem odd_any (W0 : World) (R len cap p : Nat) (a : Option Addr) (n : Int) (w : World) (hb : Bytes W0 a len) (h : Rd W0 R a len cap w p) (hp : p ≤ 900000) (hn : 0 < n) (hn2 : n ≤ 1000) :
 Calls Tryz.prog 49 #[.pointer (some ⟨R, 0, none⟩), .int .i64 n] w fun e w' => ∃ b, e = .returned (.bool b) ∧ Rd W0 R a len cap w' (p + 1) ∧ w.grownBy w' (some R) := by
 have hw1 : IntKind.i64.wrap (n - 1) = n - 1 := IntWalk.i64_in _ (by omega)
 go_enter Tryz.func49, Tryz.ntmps49
 go_wp2_with fail
 go_at_call 42
 refine (pick_in W0 R len cap _ a _ _ hb h (by omega)).mono ?_
 rintro e w2 ⟨k, rfl, _, _, _, hR2, hgr, _⟩
 go_wp2
 go_ret
 exact ⟨_, rfl, hR2, hgr⟩
end
section
open Go Go.RowKit
def putsOf : List (Option Tmp × Nat) → Act → (Nat → Value) → Act
 | [], a, _ => a
 | (d, i) :: r, a, s => putsOf r (a.put d (s i)) s
def okPuts : List (Option Tmp × Nat) → Bool
 | [] => true
 | (d, i) :: r => r.all (fun p => p.2 != i && (d.isNone || p.1 != d)) && okPuts r
def dstsOf (ops : Array Oper) (m : Nat) : List (Option Tmp × Nat) := (List.range m).map fun i => (ops[i]?.bind fun o => o.dst, i)
theorem put_put (a : Act) (d : Option Tmp) (u v : Value) : (a.put d u).put d v = a.put d v := by
 cases d with
 | none => rfl
 | some d => simp [Act.put, Array.setIfInBounds_setIfInBounds]
theorem puts_comm (s : Nat → Value) (d : Option Tmp) (v : Value) : ∀ (L : List (Option Tmp × Nat)) (a : Act), (∀ p ∈ L, ∀ x, d = some x → p.1 ≠ some x) → putsOf L (a.put d v) s = (putsOf L a s).put d v
 | [], _, _ => rfl
 | (e, i) :: r, a, h => by
   simp only [putsOf]
   rw [Act.put_comm a v (s i) (fun x hx => h (e, i) (List.mem_cons_self ..) x hx)]
   exact puts_comm s d v r _ (fun p hp => h p (List.mem_cons_of_mem _ hp))
theorem puts_other {s s' : Nat → Value} : ∀ (L : List (Option Tmp × Nat)) (a : Act), (∀ p ∈ L, s p.2 = s' p.2) → putsOf L a s = putsOf L a s'
 | [], _, _ => rfl
 | (e, i) :: r, a, h => by
   simp only [putsOf]
   rw [h (e, i) (List.mem_cons_self ..)]
   exact puts_other r _ (fun p hp => h p (List.mem_cons_of_mem _ hp))
theorem puts_put (s : Nat → Value) (d : Option Tmp) (i : Nat) (v : Value) : ∀ (L : List (Option Tmp × Nat)) (a : Act), okPuts L = true → (d, i) ∈ L → (putsOf L a s).put d v = putsOf L a (fun j => if j = i then v else s j)
 | [], _, _, h => by cases h
 | (e, j) :: r, a, hok, h => by
   simp only [okPuts, Bool.and_eq_true, List.all_eq_true, bne_iff_ne, Bool.or_eq_true] at hok
   simp only [putsOf]
   rcases List.mem_cons.1 h with h | h
   · injection h with h1 h2
     subst h1
     subst h2
     rw [if_pos rfl, ← puts_comm s d v r _ (fun p hp x hx he => by
      rcases (hok.1 p hp).2 with h3 | h3
      · rw [hx] at h3; cases h3
      · exact h3 (by rw [he, hx])), put_put]
     exact puts_other r _ (fun p hp => by rw [if_neg (hok.1 p hp).1])
   · have h3 := hok.1 _ h
     rw [if_neg (fun e => h3.1 e.symm)]
     exact puts_put s d i v r _ hok.2 h
theorem put_self (a : Act) (d : Option Tmp) : ∃ v, a.put d v = a := by
 cases d with
 | none => exact ⟨undef, rfl⟩
 | some d =>
   by_cases h : d < a.tmps.size
   · refine ⟨a.tmps[d], ?_⟩
     have hx : a.tmps.setIfInBounds d a.tmps[d] = a.tmps := by
      unfold Array.setIfInBounds
      rw [dif_pos h]
      simp
     show ({ a with tmps := a.tmps.setIfInBounds d a.tmps[d] } : Act) = a
     rw [hx]
   · refine ⟨undef, ?_⟩
     have hx : a.tmps.setIfInBounds d undef = a.tmps := by
      unfold Array.setIfInBounds
      rw [dif_neg h]
     show ({ a with tmps := a.tmps.setIfInBounds d undef } : Act) = a
     rw [hx]
theorem puts_self (a : Act) : ∀ (L : List (Option Tmp × Nat)), okPuts L = true → ∃ s, a = putsOf L a s
 | [], _ => ⟨fun _ => undef, rfl⟩
 | (d, i) :: r, hok => by
   simp only [okPuts, Bool.and_eq_true, List.all_eq_true, bne_iff_ne, Bool.or_eq_true] at hok
   obtain ⟨s, hs⟩ := puts_self a r hok.2
   obtain ⟨v, hv⟩ := put_self a d
   refine ⟨fun j => if j = i then v else s j, ?_⟩
   have h1 : putsOf r a (fun j => if j = i then v else s j) = putsOf r a s := puts_other r a (fun p hp => if_neg (hok.1 p hp).1)
   show a = putsOf r (a.put d (if i = i then v else s i)) _
   rw [if_pos rfl, hv, h1]
   exact hs
theorem wpIn_region_put {F : Fence} {n : Nat} {P : Program} {id : Nat} {ops : Array Oper} {Q : Exit → Act → World → Prop} {a : Act} {W : World} (m : Nat) (L : List (Option Tmp × Nat)) (hm : P.follows .mixedOrders = true) (hb : backB ops = true) (ht : tailB ops m = true) (hsz : m < ops.size)
 (hL : dstsOf ops m = L) (hok : okPuts L = true) (Φ : Nat → Value → World → Prop) (hmono : ∀ k v V V', Φ k v V → Below V.heap.size V V' → Φ k v V')
 (hstep : ∀ i o s V, i < m → ops[i]? = some o → Below W.heap.size W V → (∀ k, depB ops i k = true → Φ k (s k) V) → ∀ Q' : Exit → Act → World → Prop,
  (∀ v V', Below V.heap.size V V' → Φ i v V' → Q' .normal ((putsOf L a s).put o.dst v) V') → wpListIn F n P ops Q' [o] (putsOf L a s) V)
 (htail : ∀ s V, Below W.heap.size W V → (∀ k, k < m → Φ k (s k) V) → wpListIn F n P ops Q (ops.toList.drop m) (putsOf L a s) V) : (Code.region id ops true).wpIn F n P Q a W := by
 refine wpIn_region_tail m hm hb ht hsz (putsOf L a) (fun V => Below W.heap.size W V) (fun V V' => Below V.heap.size V V') Φ (puts_self a L hok) ?_ (Below.refl _ _).drew (fun k v V V' h hg => hmono k v V V' h hg) ?_ htail
 · intro i o s v hi ho
   refine puts_put s o.dst i v L a hok ?_
   rw [← hL]
   unfold dstsOf
   refine List.mem_map.2 ⟨i, List.mem_range.2 hi, ?_⟩
   rw [ho]
   rfl
 · rintro i o s V him ho hV hd Q' hQ'
   exact hstep i o s V him ho hV hd Q' (fun v V' h2 h3 => hQ' v V' (hV.trans (h2.mono hV.size)) h2 h3)
end
section
open Go
theorem wpIn_region_tailL {F : Fence} {n : Nat} {P : Program} {id : Nat} {ops : Array Oper} {Q : Exit → Act → World → Prop} {a : Act} {w : World} (m : Nat) (hm : P.follows .mixedOrders = true) (hb : backB ops = true) (ht : tailB ops m = true) (hsz : m < ops.size)
    (fr : (Nat → Value) → Act) (C : (Nat → Bool) → World → Prop) (G : World → World → Prop) (Φ : Nat → Value → World → Prop)
    (h0 : ∃ s, a = fr s) (hput : ∀ i o s v, i < m → ops[i]? = some o → (fr s).put o.dst v = fr (fun j => if j = i then v else s j))
    (hC : C (fun _ => false) w.drew) (hG : ∀ k v W W', Φ k v W → G W W' → Φ k v W')
    (hstep : ∀ L i o s W, i < m → L i = false → ops[i]? = some o → C L W → (∀ k, depB ops i k = true → Φ k (s k) W) → ∀ Q' : Exit → Act → World → Prop,
      (∀ v W', C (fun j => if j = i then true else L j) W' → G W W' → Φ i v W' → Q' .normal ((fr s).put o.dst v) W') → wpListIn F n P ops Q' [o] (fr s) W)
    (htail : ∀ L s W, C L W → (∀ k, k < m → L k = true) → (∀ k, k < m → Φ k (s k) W) → wpListIn F n P ops Q (ops.toList.drop m) (fr s) W) : (Code.region id ops true).wpIn F n P Q a w := by
  have hdrop : ∀ d (h : d < ops.size), ops.toList.drop d = ops[d] :: ops.toList.drop (d + 1) := fun d h => by
    rw [List.drop_eq_getElem_cons (by simpa using h)]; simp
  refine wpIn_region_any hm (wpAnyIn_inv2 hb (fun L b W => Shut ops L ∧ (((∀ j, m ≤ j → j < ops.size → L j = false) ∧ ∃ s, b = fr s ∧ C L W ∧ ∀ k, L k = true → Φ k (s k) W) ∨
    (∃ d, m < d ∧ d ≤ ops.size ∧ (∀ j, j < ops.size → (L j = true ↔ j < d)) ∧ wpListIn F n P ops Q (ops.toList.drop d) b W))) ?_ ?_ _ _ _ _ (by simp) ?_ ?_)
  · rintro L b W i o ho hLi hde ⟨hS, (⟨hno, s, rfl, hCW, hΦ⟩ | ⟨d, hd1, hd2, hd3, hd4⟩)⟩ K hK
    · obtain ⟨hi, ho'⟩ := gE9.1 ho
      have hS' := shut_next ho hde hS
      by_cases him : i < m
      · have hst := hstep L i o s W him hLi ho hCW (fun k hk => hΦ k (dep_of ho hde hk)) (fun e b' W' => match e with | .normal => K b' W' | e => Q e b' W')
          (fun v W' h1 h2 h3 => hK _ _ ⟨hS', .inl ⟨fun j hj1 hj2 => (by dsimp only; rw [if_neg (by omega)]; exact hno j hj1 hj2), fun j => if j = i then v else s j, hput i o s v him ho, h1, fun k hk => (by
            by_cases e : k = i
            · subst e; simpa using h3
            · simp only [if_neg e] at hk ⊢
              exact hG k _ W W' (hΦ k hk) h2)⟩⟩)
        unfold wpOpIn
        rw [ho]
        simp only [wpListIn] at hst
        exact hst
      · have hall : ∀ k, k < i → L k = true := fun k hk => by
          have := tail_of ht hS' (by omega) hi (if_pos rfl) hk
          rwa [if_neg (by omega)] at this
        have him2 : i = m := by
          rcases Nat.lt_or_ge m i with h | h
          · have h1 := hall m h
            rw [hno m (Nat.le_refl _) hsz] at h1
            cases h1
          · omega
        subst him2
        have hl := htail L s W hCW (fun k hk => hall k hk) (fun k hk => hΦ k (hall k hk))
        rw [hdrop _ hi, ho'] at hl
        refine wpOp_of_list ho hl (fun b' W' h' => hK _ _ ⟨hS', .inr ⟨i + 1, by omega, by omega, fun j hj => ?_, h'⟩⟩)
        dsimp only
        by_cases e : j = i
        · rw [if_pos e]; exact ⟨fun _ => by omega, fun _ => rfl⟩
        · rw [if_neg e]
          refine ⟨fun h => ?_, fun h => hall j (by omega)⟩
          rcases Nat.lt_or_ge j i with h2 | h2
          · omega
          · rw [hno j h2 hj] at h; cases h
    · obtain ⟨hi, ho'⟩ := gE9.1 ho
      have hS' := shut_next ho hde hS
      have hid : d ≤ i := by
        rcases Nat.lt_or_ge i d with h | h
        · rw [(hd3 i hi).2 h] at hLi; cases hLi
        · exact h
      have hall : ∀ k, k < i → L k = true := fun k hk => by
        have := tail_of ht hS' (by omega) hi (if_pos rfl) hk
        rwa [if_neg (by omega)] at this
      have hid2 : i = d := by
        rcases Nat.lt_or_ge d i with h | h
        · have := (hd3 d (by omega)).1 (hall d h); omega
        · omega
      subst hid2
      rw [hdrop _ hi, ho'] at hd4
      refine wpOp_of_list ho hd4 (fun b' W' h' => hK _ _ ⟨hS', .inr ⟨i + 1, by omega, by omega, fun j hj => ?_, h'⟩⟩)
      dsimp only
      by_cases e : j = i
      · rw [if_pos e]; exact ⟨fun _ => by omega, fun _ => rfl⟩
      · rw [if_neg e]
        have := hd3 j hj
        exact ⟨fun h => by have := this.1 h; omega, fun h => this.2 (by omega)⟩
  · rintro L b W hL ⟨_, (⟨hno, _⟩ | ⟨d, hd1, hd2, hd3, hd4⟩)⟩
    · have := hno m (Nat.le_refl _) hsz
      rw [hL m hsz] at this; cases this
    · have hds : d = ops.size := by
        rcases Nat.lt_or_ge d ops.size with h | h
        · have := (hd3 d h).1 (hL d h); omega
        · omega
      subst hds
      rw [List.drop_of_length_le (by simp)] at hd4
      exact hd4
  · unfold unl
    simp
  · have hfn : (fun j => (Array.replicate ops.size false).getD j false) = fun _ => false := by
      funext j
      rw [Array.getD_eq_getD_getElem?]
      by_cases e : j < ops.size
      · rw [Array.getElem?_replicate, if_pos e]; rfl
      · rw [Array.getElem?_eq_none (by simp; omega)]; rfl
    rw [hfn]
    obtain ⟨s, hs⟩ := h0
    exact ⟨fun _ _ (h : false = true) => (by cases h), .inl ⟨fun _ _ _ => rfl, s, hs, hC, fun _ (h : false = true) => (by cases h)⟩⟩
theorem wpIn_region_storeL {F : Fence} {n : Nat} {P : Program} {id : Nat} {ops : Array Oper} {Q : Exit → Act → World → Prop} {a : Act} {w : World} (p m : Nat) (hm : P.follows .mixedOrders = true) (hb : backB ops = true) (ht : tailB ops m = true) (hpm : p < m) (hsz : m < ops.size)
    (fr : (Nat → Value) → Act) (C : (Nat → Bool) → World → Prop) (G : World → World → Prop) (Φ : Bool → Nat → Value → World → Prop)
    (h0 : ∃ s, a = fr s) (hput : ∀ i o s v, i < m → ops[i]? = some o → (fr s).put o.dst v = fr (fun j => if j = i then v else s j))
    (hC : C (fun _ => false) w.drew) (hG : ∀ c k v W W', Φ c k v W → G W W' → Φ c k v W')
    (hstep : ∀ L i o s W, i < m → i ≠ p → L i = false → (L p = true → needs ops p ops.size i = false) → ops[i]? = some o → C L W → (∀ k, depB ops i k = true → Φ (L p) k (s k) W) → ∀ Q' : Exit → Act → World → Prop,
      (∀ v W', C (fun j => if j = i then true else L j) W' → G W W' → Φ (L p) i v W' → Q' .normal ((fr s).put o.dst v) W') → wpListIn F n P ops Q' [o] (fr s) W)
    (hmid : ∀ L o s W, L p = false → ops[p]? = some o → C L W → (∀ k, depB ops p k = true → Φ false k (s k) W) → ∀ Q' : Exit → Act → World → Prop,
      (∀ v W', C (fun j => if j = p then true else L j) W' → (∀ k, k ≠ p → Φ false k (s k) W → Φ true k (s k) W') → Φ true p v W' → Q' .normal ((fr s).put o.dst v) W') → wpListIn F n P ops Q' [o] (fr s) W)
    (htail : ∀ L s W, C L W → (∀ k, k < m → L k = true) → (∀ k, k < m → Φ true k (s k) W) → wpListIn F n P ops Q (ops.toList.drop m) (fr s) W) : (Code.region id ops true).wpIn F n P Q a w := by
  have hdrop : ∀ d (h : d < ops.size), ops.toList.drop d = ops[d] :: ops.toList.drop (d + 1) := fun d h => by
    rw [List.drop_eq_getElem_cons (by simpa using h)]; simp
  refine wpIn_region_any hm (wpAnyIn_inv2 hb (fun L b W => Shut ops L ∧ (((∀ j, m ≤ j → j < ops.size → L j = false) ∧ ∃ s, b = fr s ∧ C L W ∧ ∀ k, L k = true → Φ (L p) k (s k) W) ∨
    (∃ d, m < d ∧ d ≤ ops.size ∧ (∀ j, j < ops.size → (L j = true ↔ j < d)) ∧ wpListIn F n P ops Q (ops.toList.drop d) b W))) ?_ ?_ _ _ _ _ (by simp) ?_ ?_)
  · rintro L b W i o ho hLi hde ⟨hS, (⟨hno, s, rfl, hCW, hΦ⟩ | ⟨d, hd1, hd2, hd3, hd4⟩)⟩ K hK
    · obtain ⟨hi, ho'⟩ := gE9.1 ho
      have hS' := shut_next ho hde hS
      by_cases him : i < m
      · by_cases hip : i = p
        · subst hip
          rw [hLi] at hΦ
          have hL1 : (fun j => if j = i then true else L j) i = true := if_pos rfl
          have hst := hmid L o s W hLi ho hCW (fun k hk => hΦ k (dep_of ho hde hk)) (fun e b' W' => match e with | .normal => K b' W' | e => Q e b' W')
            (fun v W' h1 h2 h3 => hK _ _ ⟨hS', .inl ⟨fun j hj1 hj2 => (by dsimp only; rw [if_neg (by omega)]; exact hno j hj1 hj2), fun j => if j = i then v else s j, hput i o s v him ho, h1, fun k hk => (by
              rw [hL1]
              by_cases e : k = i
              · subst e; simpa using h3
              · simp only [if_neg e] at hk ⊢
                exact h2 k e (hΦ k hk))⟩⟩)
          unfold wpOpIn
          rw [ho]
          simp only [wpListIn] at hst
          exact hst
        · have hLp : (fun j => if j = i then true else L j) p = L p := if_neg (fun e => hip e.symm)
          have hst := hstep L i o s W him hip hLi (fun hc => (by
            cases hn : needs ops p ops.size i with
            | false => rfl
            | true => have := needs_of hS hc _ _ hn; rw [hLi] at this; cases this)) ho hCW (fun k hk => hΦ k (dep_of ho hde hk)) (fun e b' W' => match e with | .normal => K b' W' | e => Q e b' W')
            (fun v W' h1 h2 h3 => hK _ _ ⟨hS', .inl ⟨fun j hj1 hj2 => (by dsimp only; rw [if_neg (by omega)]; exact hno j hj1 hj2), fun j => if j = i then v else s j, hput i o s v him ho, h1, fun k hk => (by
              rw [hLp]
              by_cases e : k = i
              · subst e; simpa using h3
              · simp only [if_neg e] at hk ⊢
                exact hG _ k _ W W' (hΦ k hk) h2)⟩⟩)
          unfold wpOpIn
          rw [ho]
          simp only [wpListIn] at hst
          exact hst
      · have hall : ∀ k, k < i → L k = true := fun k hk => by
          have := tail_of ht hS' (by omega) hi (if_pos rfl) hk
          rwa [if_neg (by omega)] at this
        have him2 : i = m := by
          rcases Nat.lt_or_ge m i with h | h
          · have h1 := hall m h
            rw [hno m (Nat.le_refl _) hsz] at h1
            cases h1
          · omega
        subst him2
        have hLp := hall p hpm
        rw [hLp] at hΦ
        have hl := htail L s W hCW (fun k hk => hall k hk) (fun k hk => hΦ k (hall k hk))
        rw [hdrop _ hi, ho'] at hl
        refine wpOp_of_list ho hl (fun b' W' h' => hK _ _ ⟨hS', .inr ⟨i + 1, by omega, by omega, fun j hj => ?_, h'⟩⟩)
        dsimp only
        by_cases e : j = i
        · rw [if_pos e]; exact ⟨fun _ => by omega, fun _ => rfl⟩
        · rw [if_neg e]
          refine ⟨fun h => ?_, fun h => hall j (by omega)⟩
          rcases Nat.lt_or_ge j i with h2 | h2
          · omega
          · rw [hno j h2 hj] at h; cases h
    · obtain ⟨hi, ho'⟩ := gE9.1 ho
      have hS' := shut_next ho hde hS
      have hid : d ≤ i := by
        rcases Nat.lt_or_ge i d with h | h
        · rw [(hd3 i hi).2 h] at hLi; cases hLi
        · exact h
      have hall : ∀ k, k < i → L k = true := fun k hk => by
        have := tail_of ht hS' (by omega) hi (if_pos rfl) hk
        rwa [if_neg (by omega)] at this
      have hid2 : i = d := by
        rcases Nat.lt_or_ge d i with h | h
        · have := (hd3 d (by omega)).1 (hall d h); omega
        · omega
      subst hid2
      rw [hdrop _ hi, ho'] at hd4
      refine wpOp_of_list ho hd4 (fun b' W' h' => hK _ _ ⟨hS', .inr ⟨i + 1, by omega, by omega, fun j hj => ?_, h'⟩⟩)
      dsimp only
      by_cases e : j = i
      · rw [if_pos e]; exact ⟨fun _ => by omega, fun _ => rfl⟩
      · rw [if_neg e]
        have := hd3 j hj
        exact ⟨fun h => by have := this.1 h; omega, fun h => this.2 (by omega)⟩
  · rintro L b W hL ⟨_, (⟨hno, _⟩ | ⟨d, hd1, hd2, hd3, hd4⟩)⟩
    · have := hno m (Nat.le_refl _) hsz
      rw [hL m hsz] at this; cases this
    · have hds : d = ops.size := by
        rcases Nat.lt_or_ge d ops.size with h | h
        · have := (hd3 d h).1 (hL d h); omega
        · omega
      subst hds
      rw [List.drop_of_length_le (by simp)] at hd4
      exact hd4
  · unfold unl
    simp
  · have hfn : (fun j => (Array.replicate ops.size false).getD j false) = fun _ => false := by
      funext j
      rw [Array.getD_eq_getD_getElem?]
      by_cases e : j < ops.size
      · rw [Array.getElem?_replicate, if_pos e]; rfl
      · rw [Array.getElem?_eq_none (by simp; omega)]; rfl
    rw [hfn]
    obtain ⟨s, hs⟩ := h0
    exact ⟨fun _ _ (h : false = true) => (by cases h), .inl ⟨fun _ _ _ => rfl, s, hs, hC, fun _ (h : false = true) => (by cases h)⟩⟩
def cnt (L : Nat → Bool) : Nat → Nat
  | 0 => 0
  | n + 1 => cnt L n + (if L n = true then 1 else 0)
theorem cnt_le (L : Nat → Bool) : ∀ n, cnt L n ≤ n
  | 0 => Nat.le_refl _
  | n + 1 => by
    have := cnt_le L n
    unfold cnt; split <;> omega
theorem cnt_none : ∀ n, cnt (fun _ => false) n = 0
  | 0 => rfl
  | n + 1 => by unfold cnt; rw [cnt_none n]; rfl
theorem cnt_same (L : Nat → Bool) (i : Nat) : ∀ n, n ≤ i → cnt (fun j => if j = i then true else L j) n = cnt L n
 | 0, _ => rfl
 | n + 1, h => by unfold cnt; rw [cnt_same L i n (by omega), if_neg (show ¬ n = i by omega)]
theorem cnt_next (L : Nat → Bool) (i : Nat) (h : L i = false) : ∀ n, i < n → cnt (fun j => if j = i then true else L j) n = cnt L n + 1
 | 0, hi => by omega
 | n + 1, hi => by
   unfold cnt
   by_cases e : i = n
   · subst e; rw [cnt_same L i i (Nat.le_refl _), if_pos rfl, h]; simp
   · rw [cnt_next L i h n (by omega), if_neg (fun h : n = i => e h.symm)]; omega
theorem wp_region_pred {P : Program} {id : Nat} {ops : Array Oper} {Q : Exit → Act → World → Prop} {a : Act} {w : World} (hm : P.follows .mixedOrders = true) (hb : backB ops = true)
 (fr : (Nat → Value) → Act) (C : Nat → World → Prop) (G : World → World → Prop) (Φ : Nat → Value → World → Prop)
 (h0 : ∃ s, a = fr s) (hput : ∀ i o s v, ops[i]? = some o → (fr s).put o.dst v = fr (fun j => if j = i then v else s j))
 (hC : C 0 w.drew) (hG : ∀ k v W W', Φ k v W → G W W' → Φ k v W')
 (hstep : ∀ i o s W c, c < ops.size → ops[i]? = some o → C c W → (∀ k, (o.after.any fun e => Region.binds .any e && e.on == k) = true → Φ k (s k) W) → ∀ Q' : Exit → Act → World → Prop,
  (∀ v W', C (c + 1) W' → G W W' → Φ i v W' → Q' .normal ((fr s).put o.dst v) W') → wpListIn Fence.wide 9 P ops Q' [o] (fr s) W)
 (hfin : ∀ s W, (∃ c, C c W) → (∀ k, k < ops.size → Φ k (s k) W) → Q .normal (fr s) W) : (Code.region id ops true).wp P Q a w := by
 refine (wpIn_wide (n := 9)).1 (wpIn_region_inv hm hb (fun L b W => ∃ s, b = fr s ∧ C (cnt L ops.size) W ∧ ∀ k, L k = true → Φ k (s k) W) ?_ ?_ ?_)
 · obtain ⟨s, hs⟩ := h0
   exact ⟨s, hs, by rw [cnt_none]; exact hC, fun k h => by cases h⟩
 · rintro L b W i o ho hLi hde ⟨s, rfl, hCW, hΦ⟩ Q' hQ'
   have hi : i < ops.size := (gE9.1 ho).1
   have hc : cnt L ops.size < ops.size := by
    have h1 := cnt_next L i hLi ops.size hi
    have h2 := cnt_le (fun j => if j = i then true else L j) ops.size
    omega
   refine hstep i o s W _ hc ho hCW (fun k hk => ?_) Q' (fun v W' h1 h2 h3 => ?_)
   · rw [← Array.any_toList, List.any_eq_true] at hk
     obtain ⟨e, he, hek⟩ := hk
     rw [Array.mem_toList_iff] at he
     rw [Array.all_eq_true_iff_forall_mem] at hde
     have h1 := hde e he
     rw [Bool.and_eq_true] at hek
     rw [hek.1] at h1
     have h2 : e.on = k := by simpa using hek.2
     subst h2
     exact hΦ _ (by simpa using h1)
   · refine hQ' _ _ ⟨fun j => if j = i then v else s j, hput i o s v ho, by rw [cnt_next L i hLi ops.size hi]; exact h1, fun k hk => ?_⟩
     by_cases e : k = i
     · subst e; simpa using h3
     · simp only [if_neg e] at hk ⊢
       exact hG k _ W W' (hΦ k hk) h2
 · rintro L b W hall ⟨s, rfl, hCW, hΦ⟩
   exact hfin s W ⟨_, hCW⟩ (fun k hk => hΦ k (hall k hk))
end
section
open Go Go.RowKit
theorem puts_of {ops : Array Oper} {m : Nat} {L : List (Option Tmp × Nat)} {a : Act} (hL : dstsOf ops m = L) (hok : okPuts L = true) (i : Nat) (o : Oper) (s : Nat → Value) (v : Value) (hi : i < m) (ho : ops[i]? = some o) : (putsOf L a s).put o.dst v = putsOf L a (fun j => if j = i then v else s j) := by
 refine puts_put s o.dst i v L a hok ?_
 rw [← hL]
 unfold dstsOf
 refine List.mem_map.2 ⟨i, List.mem_range.2 hi, ?_⟩
 rw [ho]
 rfl
theorem wpIn_region_rd {F : Fence} {n : Nat} {id : Nat} {ops : Array Oper} {Q : Exit → Act → World → Prop} {a : Act} {w : World} (W0 : World) (R len cap p : Nat) (ad : Option Addr) (K m : Nat) (L : List (Option Tmp × Nat)) (hK : K ≤ 200) (hm : Tryz.prog.follows .mixedOrders = true) (hb : backB ops = true) (ht : tailB ops m = true) (hsz : m < ops.size) (hsz2 : ops.size ≤ 100)
 (hL : dstsOf ops m = L) (hok : okPuts L = true) (hR : Rd W0 R ad len cap w p) (Φ : Nat → Value → World → Prop) (hΦ : ∀ k v V V', Φ k v V → V.grownBy V' (some R) → Φ k v V')
 (hstep : ∀ i o s V q, i < m → ops[i]? = some o → q ≤ p + 20000 → Rd W0 R ad len cap V q → w.grownBy V (some R) → (∀ k, depB ops i k = true → Φ k (s k) V) → ∀ Q' : Exit → Act → World → Prop,
  (∀ v V' q', q' ≤ q + K → Rd W0 R ad len cap V' q' → V.grownBy V' (some R) → Φ i v V' → Q' .normal ((putsOf L a s).put o.dst v) V') → wpListIn F n Tryz.prog ops Q' [o] (putsOf L a s) V)
 (htail : ∀ s V q, q ≤ p + K * ops.size → Rd W0 R ad len cap V q → w.grownBy V (some R) → (∀ k, k < m → Φ k (s k) V) → wpListIn F n Tryz.prog ops Q (ops.toList.drop m) (putsOf L a s) V) : (Code.region id ops true).wpIn F n Tryz.prog Q a w := by
 refine wpIn_region_tailL m hm hb ht hsz (putsOf L a) (fun Ls V => w.grownBy V (some R) ∧ ∃ q, q ≤ p + K * cnt Ls ops.size ∧ Rd W0 R ad len cap V q) (fun V V' => V.grownBy V' (some R)) Φ (puts_self a L hok) (puts_of hL hok) ⟨grownBy_drew (grownBy_refl _ _), p, by omega, hR.drew⟩ hΦ ?_ ?_
 · rintro Ls i o s V him hLi ho ⟨hg, q, hq, hRV⟩ hd Q' hQ'
   have hi : i < ops.size := by omega
   have h1 := cnt_le Ls ops.size
   have h2 : K * cnt Ls ops.size ≤ 200 * 100 := Nat.mul_le_mul hK (by omega)
   exact hstep i o s V q him ho (by omega) hRV hg hd Q' (fun v V' q' hq' h3 h4 h5 => hQ' v V' ⟨hg.trans h4, q', by rw [cnt_next Ls i hLi ops.size hi, Nat.mul_succ]; omega, h3⟩ h4 h5)
 · rintro Ls s V ⟨hg, q, hq, hRV⟩ _ hd
   have h1 := cnt_le Ls ops.size
   have h2 : K * cnt Ls ops.size ≤ K * ops.size := Nat.mul_le_mul_left K h1
   exact htail s V q (by omega) hRV hg hd
end
section
open Go.RowKit Go.BigFrame
def RowsB (W : World) (lim : Nat) (v : Value) (rows : List (List Int)) : Prop :=
 ∃ W0 : World, W0.heap.size = lim ∧ RowsI W0 v rows ∧ lim ≤ W.heap.size ∧ ∀ k, k < lim → W.heap[k]? = W0.heap[k]?
theorem RowsB.of {W : World} {v : Value} {rows : List (List Int)} (h : RowsI W v rows) : RowsB W W.heap.size v rows := ⟨W, rfl, h, Nat.le_refl _, fun _ _ => rfl⟩
theorem RowsB.more {W W' : World} {lim : Nat} {v : Value} {rows : List (List Int)} (h : RowsB W lim v rows) (hs : W.heap.size ≤ W'.heap.size) (hb : ∀ k, k < lim → W'.heap[k]? = W.heap[k]?) : RowsB W' lim v rows := by
 obtain ⟨W0, h1, h2, h3, h4⟩ := h
 exact ⟨W0, h1, h2, by omega, fun k hk => (hb k hk).trans (h4 k hk)⟩
theorem RowsB.below {W W' : World} {lim : Nat} {v : Value} {rows : List (List Int)} (h : RowsB W lim v rows) (hb : Below W.heap.size W W') : RowsB W' lim v rows := by
 have h3 : lim ≤ W.heap.size := by obtain ⟨_, _, _, h3, _⟩ := h; exact h3
 exact h.more hb.size fun k hk => hb.block k (by omega)
theorem RowsB.grown {W W' : World} {lim : Nat} {v : Value} {rows : List (List Int)} {row : Option Nat} (h : RowsB W lim v rows) (hg : W.grownBy W' row) (hr : ∀ k, row = some k → lim ≤ k) : RowsB W' lim v rows := by
 have h3 : lim ≤ W.heap.size := by obtain ⟨_, _, _, h3, _⟩ := h; exact h3
 exact h.more hg.size fun k hk => hg.block k (by omega) (fun e => by have := hr k e.symm; omega)
theorem RowsB.between {W W' : World} {lim base lim' : Nat} {v : Value} {rows : List (List Int)} (h : RowsB W lim v rows) (hg : Between base lim' W W') (hl : lim ≤ base) : RowsB W' lim v rows := by
 have h3 : lim ≤ W.heap.size := by obtain ⟨_, _, _, h3, _⟩ := h; exact h3
 exact h.more hg.size fun k hk => hg.block k (by omega) (.inl (by omega))
theorem ints_same {W W' : World} {v : Value} {xs : List Int} (h : Ints W v xs) (hs : W.heap.size ≤ W'.heap.size) (hb : ∀ k, k < W.heap.size → W'.heap[k]? = W.heap[k]?) : Ints W' v xs := by
 rcases h with h | ⟨g, cap, rfl, hg, hc⟩
 · exact .inl h
 · exact .inr ⟨g, cap, rfl, by omega, fun i hi => (show W'.cell? ⟨g, i, none⟩ = W.cell? ⟨g, i, none⟩ from World.cell?_of_block (w := W) (hb g hg)).trans (hc i hi)⟩
theorem RowsB.rowsI {W : World} {lim : Nat} {v : Value} {rows : List (List Int)} (h : RowsB W lim v rows) : RowsI W v rows := by
 obtain ⟨W0, h1, ⟨a, c, rfl, h2⟩, h3, h4⟩ := h
 refine ⟨a, c, rfl, fun h0 => ?_⟩
 obtain ⟨G, rfl, hG, hr⟩ := h2 h0
 refine ⟨G, rfl, by omega, fun j hj => ?_⟩
 obtain ⟨u, h5, h6⟩ := hr j hj
 exact ⟨u, (show W.cell? ⟨G, j, none⟩ = W0.cell? ⟨G, j, none⟩ from World.cell?_of_block (w := W0) (h4 G (by omega))).trans h5, ints_same h6 (by omega) (fun k hk => h4 k (by omega))⟩
theorem OwnG.grown {W W' : World} {base lim n : Nat} {v : Value} {L : Nat → Nat} {F : Nat → Nat → Int} {row : Option Nat} (h : OwnG W base lim v n L F) (hg : W.grownBy W' row) (hr : ∀ k, row = some k → k < base ∨ lim ≤ k) : OwnG W' base lim v n L F := by
 rcases h with h | ⟨G, cap, b, cb, rfl, h⟩
 · exact .inl h
 · refine .inr ⟨G, cap, b, cb, rfl, ⟨⟨h.gb.1, h.gb.2.1, lL9 h.gb.2.2 hg.size⟩, fun j hj => ?_, h.rb, fun j hj => ?_, h.ne⟩⟩
   · exact (show W'.cell? ⟨G, j, none⟩ = W.cell? ⟨G, j, none⟩ from World.cell?_of_block (w := W) (hg.block G h.gb.2.2 (fun e => by have := hr G e.symm; have := h.gb; omega))).trans (h.at_ j hj)
   · exact (h.row j hj).of_block (hg.block _ (h.row j hj).lt (fun e => by have := hr _ e.symm; have := h.rb j hj; omega))
end
section
open Go.RowKit
set_option maxHeartbeats 400000 in
theorem specRing (v : Value) (xs : List Int) (w : World) (hv : Ints w v xs) (hl : xs.length ≤ 1000000000) : Calls Tryz.prog 110 #[v] w fun e w' => e = .returned (.bool (ringB xs)) ∧ w = w' := by
 by_cases h0 : xs.length = 0
 · obtain ⟨a, c, rfl⟩ := hv.shape
   have hr := hide (ringB_short (xs := xs) (by omega))
   rw [h0]
   clear hv
   go_enter Tryz.func110, Tryz.ntmps110
   go_wp2
   refine wp_loop_rounds 1 ?_
   rw [rounds_succ]
   go_wp2_with (go_at_call 95; refine (l1In_f _ _ _ _ (by omega)).mono ?_; rintro e w' ⟨rfl, rfl⟩)
   go_ret
   exact ⟨ret_bool hr.out.symm, rfl⟩
 · obtain ⟨g, cap, rfl, hg, hc⟩ := hv.cells (by omega)
   have hno : ∀ i, i < xs.length → (xs.getD i 0 < 0 ∨ 100 < xs.getD i 0) → ringB xs = false := fun i hi h => ringB_not hi h
   have hlong : 8 < xs.length → ringB xs = false := fun h => ringB_short (.inr h)
   have hyes : xs.length ≤ 8 → (∀ i, i < xs.length → 0 ≤ xs.getD i 0 ∧ xs.getD i 0 ≤ 100) → ringB xs = true := fun h1 h2 => ringB_of (by omega) h1 h2
   obtain ⟨n, hn⟩ : ∃ n, xs.length = n := ⟨_, rfl⟩
   rw [hn] at hc hno hlong hyes h0 hl ⊢
   clear hv hn
   go_enter Tryz.func110, Tryz.ntmps110
   go_wp2
   go_loop [3] (fun i => ∃ k : Nat, k ≤ n ∧ i = .int .i64 k ∧ Hid (∀ i, i < k → 0 ≤ xs.getD i 0 ∧ xs.getD i 0 ≤ 100)) (fun i => n - (intOf i).toNat)
   case atStart => exact ⟨0, by omega, rfl, hide (fun i hi => by omega)⟩
   case round =>
    obtain ⟨k, hk, rfl, hall⟩ := hrel
    by_cases hlt : k < n
    · have hck := hc k hlt
      have hki : (k : Int) < (n : Int) := by omega
      by_cases hz : xs.getD k 0 < 0 ∨ 100 < xs.getD k 0
      · have hr := hide (hno k hlt hz)
        generalize xs.getD k 0 = z at *
        clear hc hno hlong hyes hall
        go_wp2_with (go_at_call 95; refine (l1In_f _ _ _ _ (by omega)).mono ?_; rintro e w' ⟨rfl, rfl⟩)
        go_ret
        exact ⟨ret_bool hr.out.symm, rfl⟩
      · have hall' : Hid (∀ i, i < k + 1 → 0 ≤ xs.getD i 0 ∧ xs.getD i 0 ≤ 100) := hide (fun i hi => by
       by_cases e : i = k
       · subst e; omega
       · exact hall.out i (by omega))
        generalize hzz : xs.getD k 0 = z at hck hz
        clear hc hno hlong hyes hall hzz
        go_wp2_with (go_at_call 95; refine (l1In_t _ _ _ _ (by omega) (by omega)).mono ?_; rintro e w' ⟨rfl, rfl⟩)
        go_round
        case rel => exact ⟨k + 1, by omega, by go_num, hall'⟩
        case measure => simp [intOf]; omega
    · obtain rfl : k = n := by omega
      by_cases h12 : k ≤ 8
      · have hr := hide (hyes h12 hall.out)
        clear hc hno hlong hyes hall hlt
        go_wp2_with (go_at_call 95; refine (l1In_t _ _ _ _ (by omega) (by omega)).mono ?_; rintro e w' ⟨rfl, rfl⟩)
        go_ret
        exact ⟨ret_bool hr.out.symm, rfl⟩
      · have hr := hide (hlong (by omega))
        clear hc hno hlong hyes hall hlt
        go_wp2_with (go_at_call 95; refine (l1In_f _ _ _ _ (by omega)).mono ?_; rintro e w' ⟨rfl, rfl⟩)
        go_ret
        exact ⟨ret_bool hr.out.symm, rfl⟩
set_option maxHeartbeats 2000000 in
theorem specRound (v : Value) (xs : List Int) (w : World) (hv : Ints w v xs) (hl : xs.length ≤ 1000000000) : Calls Tryz.prog 111 #[v] w fun e w' =>
 ∃ r, e = .returned r ∧ w'.ownsRow w.heap.size 3 1 r (roundV xs).length ((roundV xs).map (Value.int .i64)) ∧ Below w.heap.size w w' := by
 have hS : ∀ wr, Below w.heap.size w wr → Calls Tryz.prog 110 #[v] wr fun e w' => e = .returned (.bool (ringB xs)) ∧ wr = w' := fun wr hB => specRing v xs wr (hv.below hB) hl
 cases hside : ringB xs with
 | false =>
   rw [roundV_no hside]
   rw [hside] at hS
   obtain ⟨a, c, rfl⟩ := hv.shape
   clear hv hside
   generalize xs.length = n at *
   by_cases h1 : 0 < n
   · have h1i : (0 : Int) < (n : Int) := by omega
     go_enter Tryz.func111, Tryz.ntmps111
     go_wp2
     refine wp_loop_rounds 1 ?_
     rw [rounds_succ]
     go_wp2_with (go_at_call 110; refine (hS _ ((Below.refl _ w).alloc (Nat.le_refl _) _)).mono ?_; rintro e w' ⟨rfl, rfl⟩)
     go_ret
     exact ⟨_, rfl, World.ownsRow_made _ _ _ (Nat.le_refl _) (by decide) rfl, (Below.refl _ _).alloc (Nat.le_refl _) _⟩
   · obtain rfl : n = 0 := by omega
     clear hS
     go_enter Tryz.func111, Tryz.ntmps111
     go_wp2
     refine wp_loop_rounds 1 ?_
     rw [rounds_succ]
     go_wp2
     go_ret
     exact ⟨_, rfl, World.ownsRow_made _ _ _ (Nat.le_refl _) (by decide) rfl, (Below.refl _ _).alloc (Nat.le_refl _) _⟩
 | true =>
   have hlen := ringB_len hside
   rw [roundV_yes hside]
   rw [hside] at hS
   have hf := ringF_le hside
   have hp := ringF_per (xs := xs)
   obtain ⟨g, cap, rfl, hg, hc⟩ := hv.cells hlen.1
   have hcf : ∀ i, i < xs.length → w.cell? ⟨g, i, none⟩ = some (.int .i64 (ringF xs i : Nat)) := fun i hi => by rw [hc i hi, ringF_get hside hi]
   generalize ringF xs = f at *
   generalize xs.length = n at *
   rw [rgL_len]
   clear hv hside hc hl
   go_enter Tryz.func111, Tryz.ntmps111
   go_wp2
   go_loopw [3, 4] (fun o i wr => ∃ k : Nat, k ≤ n ∧ i = .int .i64 (k : Int) ∧ wr.ownsRow w.heap.size 3 1 o k ((rgL (dF f) k).map (Value.int .i64)) ∧ Below w.heap.size w wr) (fun _ i _ => n - (intOf i).toNat)
   case atStart => exact ⟨0, by omega, rfl, World.ownsRow_made _ _ _ (Nat.le_refl _) (by decide) rfl, (Below.refl _ _).alloc (Nat.le_refl _) _⟩
   case round =>
    obtain ⟨k, hk, rfl, hown, hB⟩ := hrel
    by_cases hlt : k < n
    · obtain ⟨m, hm⟩ : ∃ m, (k + 1) % n = m := ⟨_, rfl⟩
      have hml : m < n := by rw [← hm]; exact Nat.mod_lt _ (by omega)
      have hfm : f m = f (k + 1) := by rw [← hm]; exact per_mod hp (k + 1)
      have hc0 : ∀ W, Below w.heap.size w W → W.cell? ⟨g, k, none⟩ = some (.int .i64 (f k : Nat)) := fun W h => (h.cell (p := ⟨g, k, none⟩) hg).trans (hcf k hlt)
      have hc1 : wr.cell? ⟨g, m, none⟩ = some (.int .i64 (f (k + 1) : Nat)) := by rw [← hfm]; exact (hB.cell (p := ⟨g, m, none⟩) hg).trans (hcf m hml)
      have hq : Int.tmod ((k : Int) + 1) (n : Int) = (m : Int) := by have := tmod_n (k + 1) n; rw [hm] at this; simpa using this
      have hf0 := hf k
      have hf1 := hf (k + 1)
      have hsn := rgL_snoc (dF f) k
      have hd : dF f k = ad (f k) (f (k + 1)) := rfl
      rw [hd, ad_max] at hsn
      have hS1 := hS wr hB
      have hcd := hc0 wr hB
      have hn0 : ((n : Int) == 0) = false := by rw [beq_eq_false_iff_ne]; omega
      have hki : (k : Int) < (n : Int) := by omega
      have hmi : (m : Int) < (n : Int) := by omega
      generalize f k = x at *
      generalize f (k + 1) = y at *
      have hmx : ((max x y - min x y : Nat) : Int) = IntKind.i64.wrap ((if x < y then (y : Int) else (x : Int)) - if y < x then (y : Int) else (x : Int)) := by
       rw [IntWalk.i64_in _ (by split <;> split <;> omega)]
       split <;> split <;> omega
      rw [hmx] at hsn
      have hsn' := hide hsn
      have hw1 : IntKind.i64.wrap (m : Int) = m := IntWalk.i64_in _ (by omega)
      clear hcf hsn hS hf hm hfm hp hd hmx
      go_wp2_with (go_at_call 110; refine hS1.mono ?_; clear hS1; rintro e w' ⟨rfl, rfl⟩)
      go_region_law ((refine step_append_one (by rfl) _ _ (by rfl) w.heap.size _ _ _ (by rfl) hown.drew (by rfl) (by omega) (by have := hB.size; simp; omega) ?_; intro v' w1 hown' hgrow))
      all_goals
       go_wp2
       go_roundw
       case rel => exact ⟨k + 1, by omega, by go_num, by rw [hsn'.out, List.map_append]; exact hown', (hB.drew.alloc (by have := hB.size; simp; omega) _).grown hgrow (by have := hB.size; simp; omega) (fun b hb => (hown.lt b hb).1)⟩
       case measure => simp [intOf]; omega
    · obtain rfl : k = n := by omega
      clear hS hcf
      go_wp2
      go_ret
      exact ⟨_, rfl, hown, hB⟩
def PastI (W : World) (v : Value) (rows : List (List Int)) : Prop :=
 ∃ a c, v = .slice a rows.length c ∧ (0 < rows.length → ∃ G o, a = some ⟨G, o, none⟩ ∧ G < W.heap.size ∧ ∀ j, j < rows.length → ∃ u, W.cell? ⟨G, o + j, none⟩ = some u ∧ Ints W u (rows.getD j []))
theorem PastI.below {W W' : World} {v : Value} {rows : List (List Int)} (h : PastI W v rows) (hb : Below W.heap.size W W') : PastI W' v rows := by
 obtain ⟨a, c, rfl, h⟩ := h
 refine ⟨a, c, rfl, fun h0 => ?_⟩
 obtain ⟨G, o, rfl, hG, hr⟩ := h h0
 refine ⟨G, o, rfl, lL9 hG hb.size, fun j hj => ?_⟩
 obtain ⟨u, h1, h2⟩ := hr j hj
 exact ⟨u, (hb.cell (p := ⟨G, o + j, none⟩) hG).trans h1, h2.below hb⟩
theorem RowsI.past {W : World} {v : Value} {rows : List (List Int)} (h : RowsI W v rows) : PastI W v rows := by
 obtain ⟨a, c, rfl, h⟩ := h
 refine ⟨a, c, rfl, fun h0 => ?_⟩
 obtain ⟨G, rfl, hG, hr⟩ := h h0
 exact ⟨G, 0, rfl, hG, fun j hj => by rw [Nat.zero_add]; exact hr j hj⟩
def DeskI (W : World) (v : Value) (d : Dk) : Prop := ∃ x p, v = .agg #[x, p] ∧ Ints W x d.1 ∧ PastI W p d.2
theorem DeskI.below {W W' : World} {v : Value} {d : Dk} (h : DeskI W v d) (hb : Below W.heap.size W W') : DeskI W' v d := by
 obtain ⟨x, p, rfl, h1, h2⟩ := h
 exact ⟨x, p, rfl, h1.below hb, h2.below hb⟩
def DkS (d : Dk) : Prop := d.1.length ≤ 2000000 ∧ d.2.length ≤ 2000000 ∧ ∀ j, (d.2.getD j []).length ≤ 2000000
theorem deskB_no {d : Dk} {k : Nat} (hk : k < d.2.length) (h : sideB (d.2.getD k []) = false) : deskB d = false := by
 cases hd : deskB d with
 | false => rfl
 | true =>
   have := (deskB_is.1 hd).1 (d.2.getD k []) (by rw [List.getD, eG9 hk]; exact List.getElem_mem hk)
   rw [h] at this; cases this
theorem deskB_end {d : Dk} (h : ∀ k, k < d.2.length → sideB (d.2.getD k []) = true) : deskB d = (sideB d.1 && decide (d.2.length ≤ 8)) := by
 unfold deskB
 have : d.2.all sideB = true := List.all_eq_true.2 fun r hr => by
  obtain ⟨k, hk, rfl⟩ := List.getElem_of_mem hr
  have := h k hk
  rwa [List.getD, eG9 hk] at this
 rw [this, Bool.true_and]
theorem desk_box {w : World} {x p : Value} {t : TypeId} : (w.alloc (.cells #[x, p] t)).cell? ⟨w.heap.size, 0, none⟩ = some x ∧ (w.alloc (.cells #[x, p] t)).cell? ⟨w.heap.size, 1, none⟩ = some p := by
 have hb := aN9 w (.cells #[x, p] t)
 exact ⟨by unfold World.cell?; rw [hb]; rfl, by unfold World.cell?; rw [hb]; rfl⟩
set_option maxHeartbeats 1000000 in
theorem specDeskOk (v : Value) (d : Dk) (w : World) (hv : DeskI w v d) (hs : DkS d) : Calls Tryz.prog 13 #[v] w fun e w' => e = .returned (.bool (deskB d)) ∧ Below w.heap.size w w' := by
 obtain ⟨x, p, rfl, hx, hp⟩ := hv
 have hB0 : Below w.heap.size w (w.alloc (.cells #[x, p] 31)) := (Below.refl _ w).alloc (Nat.le_refl _) _
 have hx0 := specSide x d.1 _ (hx.below hB0) (by have := hs.1; omega)
 have hp0 := hp.below hB0
 obtain ⟨d0, d1⟩ := desk_box (w := w) (x := x) (p := p) (t := 31)
 obtain ⟨a, c, rfl, hr⟩ := hp0
 have hno := fun k (hk : k < d.2.length) => deskB_no hk
 have hend := deskB_end (d := d)
 have hsm := hs.2.2
 have hn := hs.2.1
 obtain ⟨W0, hW0⟩ : ∃ W0, w.alloc (.cells #[x, .slice a d.2.length c] 31) = W0 := ⟨_, rfl⟩
 rw [hW0] at hB0 hx0 hr d0 d1
 generalize d.2.length = n at *
 generalize deskB d = res at *
 obtain ⟨row, past⟩ := d
 simp only at hr hno hend hsm hx0
 clear hx hp hs
 by_cases h0 : 0 < n
 · obtain ⟨G, o, rfl, hG, hc⟩ := hr h0
   clear hr
   go_enter Tryz.func13, Tryz.ntmps13
   go_wp2
   try rw [hW0]
   clear hW0
   go_loop [3] (fun i => ∃ k : Nat, k ≤ n ∧ i = .int .i64 k ∧ Hid (∀ j, j < k → sideB (past.getD j []) = true)) (fun i => n - (intOf i).toNat)
   case atStart => exact ⟨0, by omega, rfl, hide (fun i hi => by omega)⟩
   case round =>
    obtain ⟨k, hk, rfl, hall⟩ := hrel
    by_cases hlt : k < n
    · obtain ⟨u, huc, hu⟩ := hc k hlt
      have hki : (k : Int) < (n : Int) := by omega
      have hS := specSide u (past.getD k []) W0 hu (by have := hsm k; omega)
      cases hsd : sideB (past.getD k []) with
      | false =>
        have hr := hide (hno k hlt hsd)
        rw [hsd] at hS
        clear hc hno hend hall hx0 hsd
        go_wp2_with (go_at_call 51; refine hS.mono ?_; clear hS; rintro e w' ⟨rfl, rfl⟩)
        go_ret
        exact ⟨ret_bool hr.out.symm, hB0⟩
      | true =>
        have hall' : Hid (∀ i, i < k + 1 → sideB (past.getD i []) = true) := hide (fun i hi => by
         by_cases e : i = k
         · subst e; exact hsd
         · exact hall.out i (by omega))
        rw [hsd] at hS
        clear hc hno hend hall hx0 hsd
        go_wp2_with (go_at_call 51; refine hS.mono ?_; clear hS; rintro e w' ⟨rfl, rfl⟩)
        go_round
        case rel => exact ⟨k + 1, by omega, by go_num, hall'⟩
        case measure => simp [intOf]; omega
    · obtain rfl : k = n := by omega
      have hr := hide (hend hall.out)
      have hki : ¬ ((k : Nat) : Int) < (k : Int) := by omega
      clear hc hno hend hall hlt
      cases hsd : sideB row with
      | false =>
        rw [hsd] at hx0 hr
        go_wp2_with (go_at_call 51; refine hx0.mono ?_; clear hx0; rintro e w' ⟨rfl, rfl⟩)
        go_ret
        exact ⟨ret_bool hr.out.symm, hB0⟩
      | true =>
        rw [hsd] at hx0 hr
        go_wp2_with (go_at_call 51; refine hx0.mono ?_; clear hx0; rintro e w' ⟨rfl, rfl⟩)
        go_ret
        refine ⟨ret_bool ?_, hB0⟩
        rw [hr.out]
        by_cases h8 : k ≤ 8
        · rw [decide_eq_true h8, decide_eq_true (by omega)]; rfl
        · rw [decide_eq_false h8, decide_eq_false (by omega)]; rfl
 · obtain rfl : n = 0 := by omega
   have hr := hide (hend (fun k hk => absurd hk (Nat.not_lt_zero k)))
   clear hno hend
   cases hsd : sideB row with
   | false =>
     rw [hsd] at hx0 hr
     go_enter Tryz.func13, Tryz.ntmps13
     go_wp2
     try rw [hW0]
     refine wp_loop_rounds 1 ?_
     rw [rounds_succ]
     go_wp2_with (go_at_call 51; refine hx0.mono ?_; clear hx0; rintro e w' ⟨rfl, rfl⟩)
     go_ret
     exact ⟨ret_bool hr.out.symm, hB0⟩
   | true =>
     rw [hsd] at hx0 hr
     go_enter Tryz.func13, Tryz.ntmps13
     go_wp2
     try rw [hW0]
     refine wp_loop_rounds 1 ?_
     rw [rounds_succ]
     go_wp2_with (go_at_call 51; refine hx0.mono ?_; clear hx0; rintro e w' ⟨rfl, rfl⟩)
     go_ret
     exact ⟨ret_bool (by rw [hr.out]; rfl), hB0⟩
end
section
open Go.RowKit Go.Shelf
attribute [local go_sem] Oper.semAt_some
theorem append_row_in {F : Fence} {k : Nat} {w : World} {ops : Array Oper} {rest : List Oper} {o : Oper} {a : Act} {Q : Exit → Act → World → Prop} (hgd : o.guard = none) (s x : Operand)
 (ho : o.op = .call { callee := .builtin .append, args := #[s, x], argTypes := #[28, 28] })
 (base : Nat) (v : Value) (n : Nat) (xs : List Value) (hs : a.eval s = v) (hown : w.ownsRow base 3 1 v n xs) (g m c : Nat) (zs : List Int) (hx : a.eval x = .slice (some ⟨g, 0, none⟩) m c) (hl : zs.length = m)
 (hz : ∀ i, i < m → w.cell? ⟨g, i, none⟩ = some (.int .i64 (zs.getD i 0))) (hn : n + m ≤ 1000000000) (hbase : base ≤ w.heap.size)
 (h : ∀ v' w', w'.ownsRow base 3 1 v' (n + m) (xs ++ zs.map (Value.int .i64)) → w.grownBy w' v.ownBlock → wpListIn F k Tryz.prog ops Q rest (a.put o.dst v') w') :
 wpListIn F k Tryz.prog ops Q (o :: rest) a w := by
 obtain ⟨i0, hi, hz0, hz1, hz2⟩ := info_parts Tryz.infoInt
 refine wpListIn_append_own _ hgd s x 28 ho base 3 i0 (.int .i64 0) 1 8 Tryz.underlying28 hi hz0 hz1 hz2 rfl (by decide) v n xs hs hown ⟨g, 0, none⟩ m c (zs.map (Value.int .i64)) hx (by simp [hl]) ?_ ?_ ?_ ?_ hbase ?_
 · intro j u hj
   rw [List.getElem?_map] at hj
   obtain ⟨z, hz3, rfl⟩ := Option.map_eq_some_iff.1 hj
   have hjl := (List.getElem?_eq_some_iff.1 hz3).1
   have h1 := hz j (by omega)
   have hadd : (⟨g, 0, none⟩ : Addr).add j = ⟨g, j, none⟩ := by unfold Addr.add; split <;> simp_all
   rw [hadd, h1, List.getD, hz3]; rfl
 · intro u hu
   obtain ⟨z, _, rfl⟩ := List.mem_map.1 hu
   rfl
 · unfold maxLen; omega
 · omega
 · intro v' w' h1 h2 _; exact h v' w' h1 h2
theorem append_copy_in {F : Fence} {k : Nat} {w : World} {ops : Array Oper} {rest : List Oper} {o : Oper} {a : Act} {Q : Exit → Act → World → Prop} (hgd : o.guard = none) (s x : Operand)
 (ho : o.op = .call { callee := .builtin .append, args := #[s, x], argTypes := #[28, 28] })
 (base : Nat) (b : Addr) (hs : a.eval s = .slice (some b) 0 0) (g m c : Nat) (zs : List Int) (hx : a.eval x = .slice (some ⟨g, 0, none⟩) m c) (hl : zs.length = m)
 (hz : ∀ i, i < m → w.cell? ⟨g, i, none⟩ = some (.int .i64 (zs.getD i 0))) (h0 : 1 ≤ m) (hn : m ≤ 1000000000) (hbase : base ≤ w.heap.size)
 (h : ∀ v' w', w'.ownsRow base 3 1 v' m (zs.map (Value.int .i64)) → Below w.heap.size w w' → wpListIn F k Tryz.prog ops Q rest (a.put o.dst v') w') :
 wpListIn F k Tryz.prog ops Q (o :: rest) a w := by
 obtain ⟨i0, hi, hz0, hz1, hz2⟩ := info_parts Tryz.infoInt
 refine wpListIn_plain hgd fun K hK' => ?_
 have hr := run_append_grow (P := Tryz.prog) w 28 o.type 3 i0 (.int .i64 0) Tryz.underlying28 hi hz0 b 0 0 [] (by simp) (fun j u hj => by simp at hj) ⟨g, 0, none⟩ m c (zs.map (Value.int .i64)) (by simp [hl, hz1]) (fun j u hj => by
  rw [List.getElem?_map] at hj
  obtain ⟨z, hz3, rfl⟩ := Option.map_eq_some_iff.1 hj
  have hjl := (List.getElem?_eq_some_iff.1 hz3).1
  have h1 := hz j (by omega)
  have hadd : (⟨g, 0, none⟩ : Addr).add j = ⟨g, j, none⟩ := by unfold Addr.add; split <;> simp_all
  rw [hadd, h1, List.getD, hz3]; rfl) (by omega) (by omega) (growslice_fits (by omega) (by rw [hz2]; omega))
 simp only [Nat.zero_add] at hr
 have hge := grownCap_ge w m 0 3
 have hcm := grownCap_le_maxLen w m 0 3 (by unfold maxLen; omega)
 have hown : (w.drew.alloc (.cells (([] : List Value).toArray ++ (zs.map (Value.int .i64)).toArray ++ Builtin.zeroCells (Value.int .i64 0).cells (grownCap w m 0 3 - m)) 3)).ownsRow base 3 1
  (.slice (some ⟨w.heap.size, 0, none⟩) m (grownCap w m 0 3)) m (zs.map (Value.int .i64)) := by
  refine ⟨by simp [hl], .inr ⟨w.heap.size, _, _, rfl, hbase, aN9 w.drew _, hge, hcm, ?_, ?_⟩⟩
  · simp only [Array.size_append, List.size_toArray, size_zeroCells, List.length_nil, List.length_map, hl, Value.cells]
    simp
    omega
  · simp only [Array.toList_append, List.nil_append]
    rw [List.take_append_of_le_length (by simp [hl]), List.take_of_length_le (by simp [hl])]
 have hB : Below w.heap.size w (w.drew.alloc (.cells (([] : List Value).toArray ++ (zs.map (Value.int .i64)).toArray ++ Builtin.zeroCells (Value.int .i64 0).cells (grownCap w m 0 3 - m)) 3)) :=
  (Below.refl w.heap.size w).drew.alloc (Nat.le_refl _) _
 unfold Oper.wpIn
 refine ⟨?_, ?_⟩
 · simp [Oper.about, ho, resolve, Target.leads, Sem.run_pure]
 · rw [Oper.semAt_plain F _ _ (by rw [ho]; intro c hc'; cases hc')]
   simp only [execOp, ho, resolve, invoke, builtin, Sem.run_bind, Sem.run_pure, Result.andThen_ok, List.map_toArray, List.map_cons, List.map_nil, hs, hx, hr]
   exact hK' _ _ (h _ _ hown hB)
theorem append_slice_in {F : Fence} {k : Nat} {ops : Array Oper} {rest : List Oper} {o : Oper} {a : Act} {Q : Exit → Act → World → Prop} {w : World} {z : Value} (hgd : o.guard = none) (s x : Operand)
 (ho : o.op = .call { callee := .builtin .append, args := #[s, x], argTypes := #[29, 29] }) (hz1 : z.oneCell' = true)
 (base : Nat) (v : Value) (n : Nat) (xs : List Value) (hs : a.eval s = v) (hown : w.ownsRow base 28 1 v n xs) (q : Nat) (hx : a.eval x = .slice (some ⟨q, 0, none⟩) 1 1) (hq : w.cell? ⟨q, 0, none⟩ = some z)
 (hn : n ≤ 1000000) (hbase : base ≤ w.heap.size)
 (h : ∀ v' w', w'.ownsRow base 28 1 v' (n + 1) (xs ++ [z]) → w.grownBy w' v.ownBlock → wpListIn F k Tryz.prog ops Q rest (a.put o.dst v') w') :
 wpListIn F k Tryz.prog ops Q (o :: rest) a w := by
 obtain ⟨i0, hi, hz0, hz2, hz3⟩ := info_rows Tryz.infoRow
 refine wpListIn_append_own _ hgd s x 29 ho base 28 i0 (.slice none 0 0) 1 24 Tryz.underlying29 hi hz0 hz2 hz3 rfl (by decide) v n xs hs hown ⟨q, 0, none⟩ 1 1 [z] hx rfl ?_ ?_ ?_ ?_ hbase ?_
 · intro j u hj
   match j, hj with
   | 0, hj => simp at hj; subst hj; simpa [Addr.add] using hq
 · intro u hu; simp at hu; subst hu; exact hz1
 · unfold maxLen; omega
 · omega
 · intro v' w' h1 h2 _; exact h v' w' h1 h2
theorem OwnSS.push {V w' : World} {base : Nat} {v v' u : Value} {rows : List (List Int)} {row : List Int} {us : List Value} (h1 : us.length = rows.length) (h2 : V.ownsRow base 28 1 v us.length us)
 (h3 : ∀ j, j < rows.length → V.ownsRow base 3 1 (us.getD j undef) (rows.getD j []).length ((rows.getD j []).map (Value.int .i64)))
 (hu : V.ownsRow base 3 1 u row.length (row.map (Value.int .i64))) (hv : w'.ownsRow base 28 1 v' (us.length + 1) (us ++ [u])) (hg : V.grownBy w' v.ownBlock) : OwnSS w' base v' (rows ++ [row]) := by
 refine ⟨us ++ [u], by simp [h1], by rw [List.length_append]; exact hv, fun j hj => ?_⟩
 by_cases e : j < rows.length
 · rw [List.getD, List.getElem?_append_left (by omega), List.getD, List.getElem?_append_left e]
   exact (h3 j e).kept hg (own_apart (h3 j e) h2)
 · have : j = rows.length := by simp at hj; omega
   subst this
   rw [List.getD, ← h1, List.getElem?_append_right (Nat.le_refl _), List.getD, h1, List.getElem?_append_right (Nat.le_refl _), Nat.sub_self]
   exact hu.kept hg (own_apart hu h2)
theorem desk_new {w : World} {a b : Value} {t : TypeId} : (w.alloc (.cells #[a, b] t)).cell? ⟨w.heap.size, 0, none⟩ = some a ∧ (w.alloc (.cells #[a, b] t)).cell? ⟨w.heap.size, 1, none⟩ = some b ∧
 (w.alloc (.cells #[a, b] t)).frozen? ⟨w.heap.size, 0, none⟩ = false ∧ (w.alloc (.cells #[a, b] t)).frozen? ⟨w.heap.size, 1, none⟩ = false := by
 have hb := aN9 w (.cells #[a, b] t)
 exact ⟨by unfold World.cell?; rw [hb]; rfl, by unfold World.cell?; rw [hb]; rfl, by unfold World.frozen?; rw [hb]; rfl, by unfold World.frozen?; rw [hb]; rfl⟩
theorem own_not {W : World} {base n b : Nat} {e t : TypeId} {v : Value} {xs : List Value} {cur : Array Value} (h : W.ownsRow base e 1 v n xs) (hb : W.heap[b]? = some (.cells cur t (0, 0))) (ht : e ≠ t) : v.ownBlock ≠ some b := by
 intro e2
 rcases h.2 with ⟨rfl, _⟩ | ⟨g, cap, cur', rfl, _, hg, _⟩
 · cases e2
 · injection e2 with e2
   subst e2
   rw [hg] at hb
   injection hb with hb
   injection hb with _ h2
   exact ht h2
theorem own_old {W : World} {base n b : Nat} {e : TypeId} {v : Value} {xs : List Value} (h : W.ownsRow base e 1 v n xs) (hb : b < base) : v.ownBlock ≠ some b := by
 intro e2
 have := h.lt b e2
 omega
theorem own_kept {W W' : World} {base n : Nat} {e : TypeId} {v : Value} {xs : List Value} {k : Nat} (h : W.ownsRow base e 1 v n xs) (hg : W.grownBy W' (some k)) (hk : v.ownBlock ≠ some k) : W'.ownsRow base e 1 v n xs := h.kept hg (.inr hk)
theorem OwnSS.kept {W W' : World} {base : Nat} {v : Value} {rows : List (List Int)} {b : Nat} {cur : Array Value} {t : TypeId} (h : OwnSS W base v rows) (hb : W.heap[b]? = some (.cells cur t (0, 0))) (h1 : 28 ≠ t) (h2 : 3 ≠ t) (hg : W.grownBy W' (some b)) : OwnSS W' base v rows := by
 obtain ⟨us, l, o, r⟩ := h
 exact ⟨us, l, own_kept o hg (own_not o hb h1), fun j hj => own_kept (r j hj) hg (own_not (r j hj) hb h2)⟩
theorem grownBy_setAt (W : World) (b i : Nat) (v : Value) : W.grownBy (W.setCell ⟨b, i, none⟩ v) (some b) :=
 ⟨rfl, rfl, rfl, (KeepsWalks.setCell W _ v).size, fun k _ hk => Below.heap_setCell _ _ _ k (fun e => hk (by rw [e]))⟩
theorem own_from {w : World} {base base' n : Nat} {e : TypeId} {v : Value} {xs : List Value} (h : w.ownsRow base e 1 v n xs) (hb : base' ≤ base) : w.ownsRow base' e 1 v n xs := by
 obtain ⟨h1, h2⟩ := h
 refine ⟨h1, ?_⟩
 rcases h2 with h2 | ⟨g, cap, cur, rfl, h3, h4⟩
 · exact .inl h2
 · exact .inr ⟨g, cap, cur, rfl, lT9 hb h3, h4⟩
structure Cp (w0 : World) (b : Nat) (x p Y : Value) (row : List Int) (rows : List (List Int)) (pv : Value) (W : World) : Prop where
 below : Below w0.heap.size w0 W
 box : W.heap[w0.heap.size]? = some (.cells #[x, p] 31 (0, 0))
 res : W.heap[w0.heap.size + 1]? = some (.cells #[.slice none 0 0, .slice none 0 0] 31 (0, 0))
 lt : w0.heap.size + 2 ≤ b
 out : W.heap[b]? = some (.cells #[Y, pv] 31 (0, 0))
 now : W.ownsRow (w0.heap.size + 2) 3 1 Y row.length (row.map (Value.int .i64))
 past : OwnSS W (w0.heap.size + 2) pv rows
theorem Cp.more {w0 : World} {b : Nat} {x p Y : Value} {row : List Int} {rows : List (List Int)} {pv : Value} {W V : World} (h : Cp w0 b x p Y row rows pv W) (hV : Below W.heap.size W V) : Cp w0 b x p Y row rows pv V where
 below := h.below.trans (hV.mono h.below.size)
 box := (hV.block _ (gE9.1 h.box).1).trans h.box
 res := (hV.block _ (gE9.1 h.res).1).trans h.res
 lt := h.lt
 out := (hV.block _ (gE9.1 h.out).1).trans h.out
 now := own_below h.now hV
 past := h.past.below hV
theorem Cp.grown {w0 : World} {b : Nat} {x p Y : Value} {row : List Int} {rows rows' : List (List Int)} {pv v' : Value} {V V' : World} (h : Cp w0 b x p Y row rows pv V) (hg : V.grownBy V' pv.ownBlock) (hn : OwnSS V' (w0.heap.size + 2) v' rows') : Cp w0 b x p Y row rows' v' (V'.setCell ⟨b, 1, none⟩ v') := by
 have hp := h.past
 obtain ⟨us, _, ho, _⟩ := h.past
 have n0 : pv.ownBlock ≠ some w0.heap.size := own_old ho (by omega)
 have n1 : pv.ownBlock ≠ some (w0.heap.size + 1) := own_old ho (by omega)
 have n2 : pv.ownBlock ≠ some b := own_not ho h.out (by decide)
 have l0 := (gE9.1 h.box).1
 have l1 := (gE9.1 h.res).1
 have l2 := (gE9.1 h.out).1
 have k0 := (hg.block _ l0 (fun e => n0 e.symm)).trans h.box
 have k1 := (hg.block _ l1 (fun e => n1 e.symm)).trans h.res
 have k2 := (hg.block _ l2 (fun e => n2 e.symm)).trans h.out
 have hs := grownBy_setAt V' b 1 v'
 have hlt := h.lt
 have hnow : V'.ownsRow (w0.heap.size + 2) 3 1 Y row.length (row.map (Value.int .i64)) := h.now.kept hg (own_apart h.now ho)
 refine ⟨?_, (hs.block _ (gE9.1 k0).1 (fun e => by injection e with e; omega)).trans k0, (hs.block _ (gE9.1 k1).1 (fun e => by injection e with e; omega)).trans k1, h.lt, set_cells k2 1 v', own_kept hnow hs (own_not hnow k2 (by decide)), hn.kept k2 (by decide) (by decide) hs⟩
 exact (h.below.grown hg h.below.size (fun k e => by have := ho.lt k e; omega)).setCell (p := ⟨b, 1, none⟩) (by show w0.heap.size ≤ b; omega) _
theorem Cp.at_ {w0 : World} {b : Nat} {x p Y : Value} {row : List Int} {rows : List (List Int)} {pv : Value} {V V' : World} (h : Cp w0 b x p Y row rows pv V) (hg : V.grownBy V' pv.ownBlock) : V'.heap[b]? = some (.cells #[Y, pv] 31 (0, 0)) := by
 obtain ⟨us, _, ho, _⟩ := h.past
 exact (hg.block _ (gE9.1 h.out).1 (fun e => own_not ho h.out (by decide) e.symm)).trans h.out
theorem row_at {W : World} {b : Nat} {x y : Value} {t : TypeId} (h : W.heap[b]? = some (.cells #[x, y] t (0, 0))) : W.cell? ⟨b, 0, none⟩ = some x ∧ W.cell? ⟨b, 1, none⟩ = some y ∧ W.frozen? ⟨b, 0, none⟩ = false ∧ W.frozen? ⟨b, 1, none⟩ = false :=
 ⟨by unfold World.cell?; rw [h]; rfl, by unfold World.cell?; rw [h]; rfl, by unfold World.frozen?; rw [h]; rfl, by unfold World.frozen?; rw [h]; rfl⟩
theorem OwnSS.form {W : World} {base : Nat} {v : Value} {rows : List (List Int)} (h : OwnSS W base v rows) : ∃ a c, v = .slice a rows.length c := by
 obtain ⟨us, l, o, _⟩ := h
 obtain ⟨a, c, rfl⟩ := own_form o
 exact ⟨a, c, by rw [l]⟩
theorem desk_set {W : World} {B : Nat} {x y : Value} (h : W.heap[B]? = some (.cells #[x, y] 31 (0, 0))) (u v : Value) :
 ((W.setCell ⟨B, 0, none⟩ u).setCell ⟨B, 1, none⟩ v).heap[B]? = some (.cells #[u, v] 31 (0, 0)) := set_cells (set_cells h 0 _) 1 _
theorem results_desk {fn : Func} {p : Tmp} (h : fn.results = #[.cell p 31]) (tmps : Array Value) (w : World) (B : Nat) (u v : Value) (hp : tmps.getD p undef = .pointer (some ⟨B, 0, none⟩))
 (hb : w.heap[B]? = some (.cells #[u, v] 31 (0, 0))) : (results fn tmps).run Tryz.prog w = .ok (.agg #[u, v]) w := by
 have hl : (loadVar 31 ⟨B, 0, none⟩).run Tryz.prog w = .ok (.agg #[u, v]) w := run_loadVar_row w B _ 31 #[u, v] (0, 0) _ hb Tryz.underlying31 rfl (by kernel_rfl)
 have hp' : tmps[p]?.getD undef = .pointer (some ⟨B, 0, none⟩) := by simpa using hp
 simp [results, h, hp', asAddr, hl]
theorem OwnSS.old {W W' : World} {base b : Nat} {v : Value} {rows : List (List Int)} (h : OwnSS W base v rows) (hb : b < base) (hg : W.grownBy W' (some b)) : OwnSS W' base v rows := by
 obtain ⟨us, l, o, r⟩ := h
 exact ⟨us, l, own_kept o hg (own_old o hb), fun j hj => own_kept (r j hj) hg (own_old (r j hj) hb)⟩
theorem OwnSS.down {W : World} {base base' : Nat} {v : Value} {rows : List (List Int)} (h : OwnSS W base v rows) (hb : base' ≤ base) : OwnSS W base' v rows := by
 obtain ⟨us, l, o, r⟩ := h
 exact ⟨us, l, own_from o hb, fun j hj => own_from (r j hj) hb⟩
def cpPh (base b : Nat) (rows : List (List Int)) (k : Nat) (v : Value) (V : World) : Prop := (k = 10 → OwnSS V base v rows) ∧ (k = 11 → v = .pointer (some ⟨b, 1, none⟩))
def cpP (base b : Nat) (rows : List (List Int)) (ks : List Kd) (c : Bool) (k : Nat) (v : Value) (V : World) : Prop := match c with | true => cpPh base b rows k v V | false => (kdAt ks k).holds v V
def cpC (W : World) (row : Option Nat) (c : Bool) (V : World) : Prop := match c with | true => ∃ V0, Below W.heap.size W V0 ∧ V0.grownBy V row | false => Below W.heap.size W V
theorem cpP.mono {base b : Nat} {rows : List (List Int)} {ks : List Kd} (c : Bool) (k : Nat) (v : Value) (V V' : World) (h : cpP base b rows ks c k v V) (hB : Below V.heap.size V V') : cpP base b rows ks c k v V' := by
 cases c with
 | false => exact Kd.mono _ h hB
 | true => exact ⟨fun e => (h.1 e).below hB, h.2⟩
set_option maxRecDepth 100000 in
set_option maxHeartbeats 2000000 in
theorem specCopy (x p : Value) (d : Dk) (w : World) (hx : Ints w x d.1) (hp : PastI w p d.2) (hb : deskB d = true) : Calls Tryz.prog 65 #[.agg #[x, p]] w fun e w' =>
 ∃ y q, e = .returned (.agg #[y, q]) ∧ w'.ownsRow w.heap.size 3 1 y d.1.length (d.1.map (Value.int .i64)) ∧ OwnSS w' w.heap.size q d.2 ∧ Below w.heap.size w w' := by
 obtain ⟨hd1, hd2, hd3⟩ := deskB_is.1 hb
 have hl := sideB_len hd2
 obtain ⟨row, past⟩ := d
 simp only at hd1 hd2 hd3 hl hx hp ⊢
 obtain ⟨gx, cx, rfl, hgx, hcx⟩ := hx.cells hl.1
 refine (cW9 (n := 9)).1 ?_
 refine callsIn_of_wp Tryz.func65 rfl trivial ?_ rfl
 simp only [Tryz.ntmps65, List.size_toArray, List.length_cons, List.length_nil, Nat.reduceAdd, Nat.reduceSub, Array.replicate_succ, Array.replicate_zero, List.push_toArray, List.append_toArray, List.nil_append, List.cons_append]
 obtain ⟨wa, hwa⟩ : ∃ wa, ((w.alloc (.cells #[.slice (some ⟨gx, 0, none⟩) row.length cx, p] 31)).alloc (.cells #[.slice none 0 0, .slice none 0 0] 31)).alloc (.cells #[] 3) = wa := ⟨_, rfl⟩
 have hBa : Below w.heap.size w wa := by rw [← hwa]; exact (((Below.refl _ w).alloc (Nat.le_refl _) _).alloc (by rw [World.size_alloc]; omega) _).alloc (by rw [World.size_alloc, World.size_alloc]; omega) _
 have hcxa : ∀ i, i < row.length → wa.cell? ⟨gx, i, none⟩ = some (.int .i64 (row.getD i 0)) := fun i hi => (hBa.cell (p := ⟨gx, i, none⟩) hgx).trans (hcx i hi)
 have hsz : wa.heap.size = w.heap.size + 3 := by rw [← hwa]; simp
 have hmade : wa.ownsRow (w.heap.size + 2) 3 1 (.slice (some ⟨w.heap.size + 2, 0, none⟩) 0 0) 0 [] := by
  have h := World.ownsRow_made (base := w.heap.size + 2) (e := 3) (size := 1) ((w.alloc (.cells #[.slice (some ⟨gx, 0, none⟩) row.length cx, p] 31)).alloc (.cells #[.slice none 0 0, .slice none 0 0] 31)) #[] 0 (by simp) (by decide) rfl
  rw [hwa] at h
  simpa using h
 have hbox : wa.heap[w.heap.size]? = some (.cells #[.slice (some ⟨gx, 0, none⟩) row.length cx, p] 31 (0, 0)) := by
  rw [← hwa]
  exact (Below.heap_alloc _ _ _ (by rw [World.size_alloc, World.size_alloc]; omega)).trans ((Below.heap_alloc _ _ _ (by rw [World.size_alloc]; omega)).trans (aN9 w _))
 have hres : wa.heap[w.heap.size + 1]? = some (.cells #[.slice none 0 0, .slice none 0 0] 31 (0, 0)) := by
  rw [← hwa]
  refine (Below.heap_alloc _ _ _ (by rw [World.size_alloc, World.size_alloc]; omega)).trans ?_
  have h := aN9 (w.alloc (.cells #[.slice (some ⟨gx, 0, none⟩) row.length cx, p] 31)) (.cells #[.slice none 0 0, .slice none 0 0] 31)
  rw [World.size_alloc] at h
  exact h
 have b0 : wa.cell? ⟨w.heap.size, 0, none⟩ = some (.slice (some ⟨gx, 0, none⟩) row.length cx) := by unfold World.cell?; rw [hbox]; rfl
 have b1 : wa.cell? ⟨w.heap.size, 1, none⟩ = some p := by unfold World.cell?; rw [hbox]; rfl
 gi_wp2_with (gi_at_builtin; go_loud (refine append_row_in rfl _ _ rfl (w.heap.size + 2) _ 0 [] rfl hmade gx row.length cx row rfl rfl hcxa (by omega) (by omega) ?_; intro y w2 hy hg2; replace hg2 : wa.grownBy w2 (some (w.heap.size + 2)) := hg2; rw [Nat.zero_add, List.nil_append] at hy; obtain ⟨ay, cy, rfl⟩ := own_form hy; obtain ⟨e0, e1, e2, e3⟩ := desk_new (w := w2) (a := .slice none 0 0) (b := .slice none 0 0) (t := 31)))
 have hBg : Below w.heap.size w w2 := hBa.grown hg2 hBa.size (fun k e => by injection e with e; omega)
 have hsz2 := hg2.size
 have hC : Cp w w2.heap.size (.slice (some ⟨gx, 0, none⟩) row.length cx) p (.slice ay row.length cy) row (past.take 0) (.slice none 0 0) (w2.alloc (.cells #[.slice ay row.length cy, .slice none 0 0] 31)) := by
  refine ⟨hBg.alloc hBg.size _, ?_, ?_, by omega, aN9 w2 _, hy.alloc _, OwnSS.nil ⟨by simp, .inl ⟨rfl, rfl⟩⟩⟩
  · rw [Below.heap_alloc _ _ _ (by omega)]
    exact (hg2.block _ (by omega) (fun e => by injection e with e; omega)).trans hbox
  · rw [Below.heap_alloc _ _ _ (by omega)]
    exact (hg2.block _ (by omega) (fun e => by injection e with e; omega)).trans hres
 generalize w2.alloc (.cells #[.slice ay row.length cy, .slice none 0 0] 31) = W3 at *
 generalize w2.heap.size = b at *
 clear hbox hres b0 b1 hy hg2 hsz2 hBg hmade hsz hcxa hBa hwa
 obtain ⟨a, c, rfl, hrows⟩ := id hp
 gi_loopw [4] (fun i wr => ∃ k : Nat, k ≤ past.length ∧ i = .int .i64 k ∧ ∃ pv, Cp w b (.slice (some ⟨gx, 0, none⟩) row.length cx) (.slice a past.length c) (.slice ay row.length cy) row (past.take k) pv wr) (fun i _ => past.length - (intOf i).toNat)
 case atStart => exact ⟨0, by omega, rfl, _, hC⟩
 case round =>
  obtain ⟨k, hk, rfl, pv, hCk⟩ := hrel
  have b1 : wr.cell? ⟨w.heap.size, 1, none⟩ = some (.slice a past.length c) := by unfold World.cell?; rw [hCk.box]; rfl
  by_cases hlt : k < past.length
  · have hki : (k : Int) < (past.length : Int) := by omega
    obtain ⟨G, o, rfl, hG, hc⟩ := hrows (by omega)
    have hsk : sideB (past.getD k []) = true := hd1 _ (by rw [List.getD, eG9 hlt]; exact List.getElem_mem hlt)
    have hlk := sideB_len hsk
    have htake : past.take (k + 1) = past.take k ++ [past.getD k []] := by
     rw [List.take_add_one, eG9 hlt, List.getD, eG9 hlt]; rfl
    obtain ⟨u, huc, hu⟩ := hc k hlt
    obtain ⟨gu, cu, rfl, hgu, hcu⟩ := hu.cells hlk.1
    obtain ⟨R, hR⟩ : ∃ R, past.getD k [] = R := ⟨_, rfl⟩
    rw [hR] at hcu huc hlk htake
    have hG2 := lL9 hG hCk.below.size
    have hgu2 := lL9 hgu hCk.below.size
    have huc2 := (hCk.below.cell (p := ⟨G, o + k, none⟩) hG).trans huc
    have hcu2 : ∀ i, i < R.length → wr.cell? ⟨gu, i, none⟩ = some (.int .i64 (R.getD i 0)) := fun i hi => (hCk.below.cell (p := ⟨gu, i, none⟩) hgu).trans (hcu i hi)
    have hwb := hCk.below.size
    have hblt := hCk.lt
    have hbs := (gE9.1 hCk.out).1
    have hCk' := hide hCk
    clear hCk huc hu hcu hsk hR hcx hx
    gi_wp2
    refine wpIn_region_two 10 12 (by kernel_rfl) (by kernel_rfl) (by kernel_rfl) (by decide) (by decide)
     (fun s => { tmps := #[.agg #[.slice (some ⟨gx, 0, none⟩) row.length cx, .slice (some ⟨G, o, none⟩) past.length c], .pointer (some ⟨w.heap.size, 0, none⟩), .pointer (some ⟨w.heap.size + 1, 0, none⟩), .pointer (some ⟨b, 0, none⟩), .int .i64 k, .slice (some ⟨w.heap.size + 1 + 1, 0, none⟩) 0 0, .pointer (some ⟨w.heap.size, 0, none⟩), .slice (some ⟨gx, 0, none⟩) row.length cx, .slice ay row.length cy, .agg #[.slice ay row.length cy, .slice none 0 0], .int .i64 k, .pointer (some ⟨w.heap.size, 1, none⟩), .slice (some ⟨G, o, none⟩) past.length c, .int .i64 past.length, .bool true, u15, u16, s 0, s 1, s 2, s 3, s 4, s 5, s 6, s 7, s 8, s 9, s 10, s 11, undef], defers := [] })
     (cpC wr pv.ownBlock) (fun V V' => Below V.heap.size V V')
     (cpP (w.heap.size + 2) b (past.take (k + 1)) [.val (.pointer (some ⟨b, 1, none⟩)), .val pv, .cells 0 [], .val (.pointer (some ⟨w.heap.size, 1, none⟩)), .val (.slice (some ⟨G, o, none⟩) past.length c), .val (.int .i64 k), .val (.pointer (some ⟨G, o + k, none⟩)), .val (.slice (some ⟨gu, 0, none⟩) R.length cu), .own (w.heap.size + 2) R.length (R.map (Value.int .i64)), .oneOwn (w.heap.size + 2) R.length (R.map (Value.int .i64)), .val undef, .val (.pointer (some ⟨b, 1, none⟩))])
     ⟨fun j => #[u17, u18, u19, u20, u21, u22, u23, u24, u25, u26, u27, u28].getD j undef, rfl⟩ ?put (Below.refl _ _).drew cpP.mono ?step ?mid ?tail
    case put =>
     intro i o s v hi ho
     rcases (show i = 0 ∨ i = 1 ∨ i = 2 ∨ i = 3 ∨ i = 4 ∨ i = 5 ∨ i = 6 ∨ i = 7 ∨ i = 8 ∨ i = 9 ∨ i = 10 ∨ i = 11 by omega) with rfl | rfl | rfl | rfl | rfl | rfl | rfl | rfl | rfl | rfl | rfl | rfl
     all_goals
      simp at ho
      subst ho
      simp [Act.put]
    case step =>
     rintro ph i op s V hi hip hneed ho hV hd Q' hQ
     rcases (show i = 0 ∨ i = 1 ∨ i = 2 ∨ i = 3 ∨ i = 4 ∨ i = 5 ∨ i = 6 ∨ i = 7 ∨ i = 8 ∨ i = 9 ∨ i = 11 by omega) with rfl | rfl | rfl | rfl | rfl | rfl | rfl | rfl | rfl | rfl | rfl
     all_goals
      simp at ho
      subst ho
      simp [Act.put] at hQ
      have hQ' := hide hQ
      clear hQ
     case inl =>
      cases ph with
      | true => cases ((hneed rfl).symm.trans (by kernel_rfl) : false = true)
      | false =>
        have hV1 : Below wr.heap.size wr V := hV
        clear hd hV
        gi_wp2
        exact hQ'.out _ _ hV1 (Below.refl _ _) rfl
     case inr.inl =>
      cases ph with
      | true => cases ((hneed rfl).symm.trans (by kernel_rfl) : false = true)
      | false =>
        have hV1 : Below wr.heap.size wr V := hV
        have e1 : s 0 = .pointer (some ⟨b, 1, none⟩) := hd 0 (by kernel_rfl)
        have hcc : V.cell? ⟨b, 1, none⟩ = some pv := by unfold World.cell?; rw [(hCk'.out.more hV1).out]; rfl
        clear hd hV
        gi_wp2
        exact hQ'.out _ _ hV1 (Below.refl _ _) rfl
     case inr.inr.inl =>
      cases ph with
      | true => cases ((hneed rfl).symm.trans (by kernel_rfl) : false = true)
      | false =>
        have hV1 : Below wr.heap.size wr V := hV
        clear hd hV
        gi_wp2
        exact hQ'.out _ _ (hV1.alloc hV1.size _) ((Below.refl _ V).alloc (Nat.le_refl _) _) ⟨V.heap.size, rfl, by simp, fun j u h => by simp at h⟩
     case inr.inr.inr.inl =>
      cases ph with
      | true => cases ((hneed rfl).symm.trans (by kernel_rfl) : false = true)
      | false =>
        have hV1 : Below wr.heap.size wr V := hV
        clear hd hV
        gi_wp2
        exact hQ'.out _ _ hV1 (Below.refl _ _) rfl
     case inr.inr.inr.inr.inl =>
      cases ph with
      | true => cases ((hneed rfl).symm.trans (by kernel_rfl) : false = true)
      | false =>
        have hV1 : Below wr.heap.size wr V := hV
        have e1 : s 3 = .pointer (some ⟨w.heap.size, 1, none⟩) := hd 3 (by kernel_rfl)
        have hcc : V.cell? ⟨w.heap.size, 1, none⟩ = some (.slice (some ⟨G, o, none⟩) past.length c) := by unfold World.cell?; rw [(hCk'.out.more hV1).box]; rfl
        clear hd hV
        gi_wp2
        exact hQ'.out _ _ hV1 (Below.refl _ _) rfl
     case inr.inr.inr.inr.inr.inl =>
      cases ph with
      | true => cases ((hneed rfl).symm.trans (by kernel_rfl) : false = true)
      | false =>
        have hV1 : Below wr.heap.size wr V := hV
        clear hd hV
        gi_wp2
        exact hQ'.out _ _ hV1 (Below.refl _ _) rfl
     case inr.inr.inr.inr.inr.inr.inl =>
      cases ph with
      | true => cases ((hneed rfl).symm.trans (by kernel_rfl) : false = true)
      | false =>
        have hV1 : Below wr.heap.size wr V := hV
        have e1 : s 4 = .slice (some ⟨G, o, none⟩) past.length c := hd 4 (by kernel_rfl)
        have e2 : s 5 = .int .i64 k := hd 5 (by kernel_rfl)
        clear hd hV
        gi_wp2
        exact hQ'.out _ _ hV1 (Below.refl _ _) rfl
     case inr.inr.inr.inr.inr.inr.inr.inl =>
      cases ph with
      | true => cases ((hneed rfl).symm.trans (by kernel_rfl) : false = true)
      | false =>
        have hV1 : Below wr.heap.size wr V := hV
        have e1 : s 6 = .pointer (some ⟨G, o + k, none⟩) := hd 6 (by kernel_rfl)
        have hcc := (hV1.cell (p := ⟨G, o + k, none⟩) hG2).trans huc2
        clear hd hV
        gi_wp2
        exact hQ'.out _ _ hV1 (Below.refl _ _) rfl
     case inr.inr.inr.inr.inr.inr.inr.inr.inl =>
      cases ph with
      | true => cases ((hneed rfl).symm.trans (by kernel_rfl) : false = true)
      | false =>
        have hV1 : Below wr.heap.size wr V := hV
        obtain ⟨q, e1, hq, _⟩ : ∃ q, s 2 = .slice (some ⟨q, 0, none⟩) 0 0 ∧ q < V.heap.size ∧ ∀ j u, ([] : List Value)[j]? = some u → V.cell? ⟨q, j, none⟩ = some u := hd 2 (by kernel_rfl)
        have e2 : s 7 = .slice (some ⟨gu, 0, none⟩) R.length cu := hd 7 (by kernel_rfl)
        have hcV : ∀ i, i < R.length → V.cell? ⟨gu, i, none⟩ = some (.int .i64 (R.getD i 0)) := fun i hi => (hV1.cell (p := ⟨gu, i, none⟩) hgu2).trans (hcu2 i hi)
        clear hd hV
        have hVs := hV1.size
        refine append_copy_in rfl _ _ rfl (w.heap.size + 2) ⟨q, 0, none⟩ e1 gu R.length cu R e2 rfl hcV hlk.1 (by omega) (by omega) ?_
        intro v' w' how hBw
        gi_wp2
        have hr := hQ'.out
        rw [e1, e2] at hr
        exact hr _ _ (hV1.trans (hBw.mono hVs)) hBw how
     case inr.inr.inr.inr.inr.inr.inr.inr.inr.inl =>
      cases ph with
      | true => cases ((hneed rfl).symm.trans (by kernel_rfl) : false = true)
      | false =>
        have hV1 : Below wr.heap.size wr V := hV
        have e1 : V.ownsRow (w.heap.size + 2) 3 1 (s 8) R.length (R.map (Value.int .i64)) := hd 8 (by kernel_rfl)
        clear hd hV
        obtain ⟨ar, cr, er⟩ := own_form e1
        rw [er] at e1
        gi_wp2
        exact hQ'.out _ _ (hV1.alloc hV1.size _) ((Below.refl _ V).alloc (Nat.le_refl _) _) ⟨V.heap.size, .slice ar R.length cr, rfl, by simp, (Boxed.new V 28 (.slice ar R.length cr)).cell, e1.alloc _⟩
     case inr.inr.inr.inr.inr.inr.inr.inr.inr.inr =>
      cases ph with
      | true =>
        clear hd
        gi_wp2
        exact hQ'.out _ _ hV (Below.refl _ _) ⟨fun e => (by cases e), fun _ => rfl⟩
      | false =>
        have hV1 : Below wr.heap.size wr V := hV
        clear hd hV
        gi_wp2
        exact hQ'.out _ _ hV1 (Below.refl _ _) rfl
    case mid =>
     rintro op s V ho hV hd Q' hQ
     have hV1 : Below wr.heap.size wr V := hV
     simp at ho
     subst ho
     simp [Act.put] at hQ
     have hQ' := hide hQ
     clear hQ
     have e1 : s 1 = pv := hd 1 (by kernel_rfl)
     obtain ⟨q, u, e9, hq, hcq, hu⟩ : ∃ q u, s 9 = .slice (some ⟨q, 0, none⟩) 1 1 ∧ q < V.heap.size ∧ V.cell? ⟨q, 0, none⟩ = some u ∧ V.ownsRow (w.heap.size + 2) 3 1 u R.length (R.map (Value.int .i64)) := hd 9 (by kernel_rfl)
     clear hd hV
     obtain ⟨us, hul, huo, hur⟩ := (hCk'.out.more hV1).past
     have hus : us.length ≤ 8 := by rw [hul, List.length_take]; omega
     have hVs := hV1.size
     refine append_slice_in rfl _ _ rfl (by obtain ⟨ar, cr, rfl⟩ := own_form hu; rfl) (w.heap.size + 2) pv us.length us e1 huo q e9 hcq (by omega) (by omega) ?_
     intro v' w' how hgr
     gi_wp2
     have hr := hQ'.out
     rw [e1, e9] at hr
     refine hr _ _ ⟨V, hV1, hgr⟩ (fun k x hk h => ⟨fun e => absurd e hk, fun e => (by subst e; exact h)⟩) ⟨fun _ => ?_, fun e => (by cases e)⟩
     rw [htake]
     exact OwnSS.push hul huo hur hu how hgr
    case tail =>
     rintro s V ⟨V0, hV0, hgr⟩ hd
     have e10 : OwnSS V (w.heap.size + 2) (s 10) (past.take (k + 1)) := (hd 10 (by omega)).1 rfl
     have e11 : s 11 = .pointer (some ⟨b, 1, none⟩) := (hd 11 (by omega)).2 rfl
     clear hd
     have hnew := (hCk'.out.more hV0).grown hgr e10
     obtain ⟨c0, c1, f0, f1⟩ := row_at ((hCk'.out.more hV0).at_ hgr)
     obtain ⟨a', c', e'⟩ := e10.form
     rw [List.length_take, Nat.min_eq_left (by omega)] at e'
     rw [e'] at hnew
     have hnew' := hide hnew
     clear hnew e10 hgr hV0 hCk'
     simp only [List.drop_succ_cons, List.drop_zero]
     gi_wp2
     go_roundw
     case rel => exact ⟨k + 1, by omega, by go_num, _, hnew'.out⟩
     case measure => simp [intOf]; omega
  · obtain rfl : k = past.length := by omega
    have hki : ¬ ((past.length : Nat) : Int) < (past.length : Int) := by omega
    rw [List.take_length] at hCk
    obtain ⟨c0, c1, f0, f1⟩ := row_at hCk.out
    obtain ⟨r0, r1, g0, g1⟩ := row_at hCk.res
    obtain ⟨a', c', e'⟩ := hCk.past.form
    subst e'
    have hres := desk_set hCk.res (.slice ay row.length cy) (.slice a' past.length c')
    have hCk' := hide hCk
    clear hCk hcx hx hrows
    gi_wp2
    refine bodyPost_ret (results_desk rfl _ _ (w.heap.size + 1) _ _ rfl hres) rfl ⟨_, _, rfl, ?_, ?_, ?_⟩
    · have hn := hCk'.out.now
      have hn1 := own_kept hn (grownBy_setAt wr (w.heap.size + 1) 0 (.slice ay row.length cy)) (own_old hn (by omega))
      exact own_from (own_kept hn1 (grownBy_setAt _ (w.heap.size + 1) 1 (.slice a' past.length c')) (own_old hn1 (by omega))) (by omega)
    · exact ((hCk'.out.past.old (by omega) (grownBy_setAt wr (w.heap.size + 1) 0 (.slice ay row.length cy))).old (by omega) (grownBy_setAt _ (w.heap.size + 1) 1 (.slice a' past.length c'))).down (by omega)
    · exact (hCk'.out.below.setCell (p := ⟨w.heap.size + 1, 0, none⟩) (by show w.heap.size ≤ w.heap.size + 1; omega) _).setCell (p := ⟨w.heap.size + 1, 1, none⟩) (by show w.heap.size ≤ w.heap.size + 1; omega) _
end
section
open Go.RowKit
theorem same_not {xs ys : List Int} {k : Nat} (h : xs.getD k 0 ≠ ys.getD k 0) : decide (xs = ys) = false := decide_eq_false fun e => h (by rw [e])
theorem same_all {xs ys : List Int} (hl : xs.length = ys.length) (h : ∀ k, k < xs.length → xs.getD k 0 = ys.getD k 0) : decide (xs = ys) = true := decide_eq_true (by
 refine List.ext_getElem hl fun i h1 h2 => ?_
 have := h i h1
 rwa [List.getD, List.getD, eG9 h1, eG9 h2] at this)
set_option maxHeartbeats 1000000 in
theorem specSame (v u : Value) (xs ys : List Int) (w : World) (hv : Ints w v xs) (hu : Ints w u ys) (hl : xs.length ≤ 1000000000) : Calls Tryz.prog 107 #[v, u] w fun e w' => e = .returned (.bool (decide (xs = ys))) ∧ Below w.heap.size w w' := by
 by_cases hll : xs.length = ys.length
 · by_cases h0 : xs.length = 0
   · have hr := hide (same_all hll (fun k hk => by omega))
     obtain ⟨a, c, rfl⟩ := hv.shape
     obtain ⟨a2, c2, rfl⟩ := hu.shape
     rw [← hll, h0]
     clear hv hu
     go_enter Tryz.func107, Tryz.ntmps107
     go_wp2
     refine wp_loop_rounds 1 ?_
     rw [rounds_succ]
     go_wp2
     go_ret
     exact ⟨ret_bool hr.out.symm, Below.refl _ _⟩
   · obtain ⟨g, c, rfl, hg, hc⟩ := hv.cells (by omega)
     obtain ⟨g2, c2, rfl, hg2, hc2⟩ := hu.cells (by omega)
     have hno := fun k => same_not (xs := xs) (ys := ys) (k := k)
     have hall := same_all hll
     rw [← hll] at hc2 ⊢
     generalize decide (xs = ys) = res at *
     generalize xs.length = n at *
     clear hv hu hll
     go_enter Tryz.func107, Tryz.ntmps107
     go_wp2
     go_loopw [5] (fun i wr => ∃ k : Nat, k ≤ n ∧ i = .int .i64 k ∧ Below w.heap.size w wr ∧ Hid (∀ i, i < k → xs.getD i 0 = ys.getD i 0)) (fun i _ => n - (intOf i).toNat)
     case atStart => exact ⟨0, by omega, rfl, Below.refl _ _, hide (fun i hi => by omega)⟩
     case round =>
      obtain ⟨k, hk, rfl, hB, hkk⟩ := hrel
      by_cases hlt : k < n
      · have hki : (k : Int) < (n : Int) := by omega
        have c1 := (hB.cell (p := ⟨g, k, none⟩) hg).trans (hc k hlt)
        have c3 := (hB.cell (p := ⟨g2, k, none⟩) hg2).trans (hc2 k hlt)
        by_cases he : xs.getD k 0 = ys.getD k 0
        · have hkk' : Hid (∀ i, i < k + 1 → xs.getD i 0 = ys.getD i 0) := hide (fun i hi => by
         by_cases e : i = k
         · subst e; exact he
         · exact hkk.out i (by omega))
          rw [← he] at c3
          clear hc hc2 hno hall hkk he
          generalize xs.getD k 0 = z at *
          go_wp2
          go_region
          all_goals
           go_wp2
           go_roundw
           case rel => exact ⟨k + 1, by omega, by go_num, hB.drew, hkk'⟩
           case measure => simp [intOf]; omega
        · have hr := hide (hno k he)
          generalize xs.getD k 0 = z at *
          generalize ys.getD k 0 = y at *
          clear hc hc2 hno hall hkk
          go_wp2
          go_region
          all_goals
           go_wp2
           go_ret
           exact ⟨ret_bool hr.out.symm, hB.drew⟩
      · obtain rfl : k = n := by omega
        have hr := hide (hall hkk.out)
        clear hc hc2 hno hall hkk
        go_wp2
        go_ret
        exact ⟨ret_bool hr.out.symm, hB⟩
 · have hr : Hid (decide (xs = ys) = false) := hide (decide_eq_false fun e => hll (by rw [e]))
   obtain ⟨a, c, rfl⟩ := hv.shape
   obtain ⟨a2, c2, rfl⟩ := hu.shape
   generalize decide (xs = ys) = res at *
   have hb : ((xs.length : Int) == (ys.length : Int)) = false := by rw [beq_eq_false_iff_ne]; omega
   generalize xs.length = n at *
   generalize ys.length = m at *
   clear hv hu
   by_cases h0 : 0 < n
   · have h0' : (0 : Int) < (n : Int) := by omega
     go_enter Tryz.func107, Tryz.ntmps107
     go_wp2
     refine wp_loop_rounds 1 ?_
     rw [rounds_succ]
     go_wp2
     go_ret
     exact ⟨ret_bool hr.out.symm, Below.refl _ _⟩
   · obtain rfl : n = 0 := by omega
     go_enter Tryz.func107, Tryz.ntmps107
     go_wp2
     refine wp_loop_rounds 1 ?_
     rw [rounds_succ]
     go_wp2
     go_ret
     exact ⟨ret_bool (by rw [hr.out, beq_eq_false_iff_ne]; omega), Below.refl _ _⟩
theorem results_desk2 {fn : Func} {p u : Tmp} (h : fn.results = #[.cell p 31, .tmp u]) (tmps : Array Value) (w : World) (B : Nat) (x y : Value) (hp : tmps.getD p undef = .pointer (some ⟨B, 0, none⟩))
 (hb : w.heap[B]? = some (.cells #[x, y] 31 (0, 0))) : (results fn tmps).run Tryz.prog w = .ok (.tuple #[.agg #[x, y], tmps.getD u undef]) w := by
 have hl : (loadVar 31 ⟨B, 0, none⟩).run Tryz.prog w = .ok (.agg #[x, y]) w := run_loadVar_row w B _ 31 #[x, y] (0, 0) _ hb Tryz.underlying31 rfl (by kernel_rfl)
 have hp' : tmps[p]?.getD undef = .pointer (some ⟨B, 0, none⟩) := by simpa using hp
 simp [results, h, hp', asAddr, hl, Result.andThen]
theorem PastI.none (W : World) (a : Option Addr) (c : Nat) : PastI W (.slice a 0 c) [] := ⟨a, c, rfl, fun h => absurd h (Nat.lt_irrefl 0)⟩
theorem Ints.none (W : World) (a : Option Addr) (c : Nat) : Ints W (.slice a 0 c) [] := .inl ⟨a, c, rfl, rfl⟩
set_option maxRecDepth 100000 in
set_option maxHeartbeats 1000000 in
theorem specNew (v : Value) (xs : List Int) (w : World) (hv : Ints w v xs) (hl : xs.length ≤ 1000000000) : Calls Tryz.prog 93 #[v] w fun e w' =>
 ∃ x, e = .returned (.tuple #[.agg #[x, .slice none 0 0], .bool (sideB xs)]) ∧ w'.ownsRow w.heap.size 3 1 x (newV xs).1.length ((newV xs).1.map (Value.int .i64)) ∧ Below w.heap.size w w' := by
 have hB0 : Below w.heap.size w (w.alloc (.cells #[.slice none 0 0, .slice none 0 0] 31)) := (Below.refl _ w).alloc (Nat.le_refl _) _
 have hS := specSide v xs _ (hv.below hB0) hl
 have hb := aN9 w (.cells #[.slice none 0 0, .slice none 0 0] 31)
 have hset := desk_set hb
 obtain ⟨d0, d1, f0, f1⟩ := row_at hb
 cases hsd : sideB xs with
 | false =>
   have hnv : newV xs = ([], []) := by unfold newV; rw [hsd]; rfl
   rw [hnv]
   rw [hsd] at hS
   clear hb
   obtain ⟨W0, hW0⟩ : ∃ W0, w.alloc (.cells #[.slice none 0 0, .slice none 0 0] 31) = W0 := ⟨_, rfl⟩
   rw [hW0] at hS hset d0 d1 f0 f1 hB0
   go_enter Tryz.func93, Tryz.ntmps93
   go_wp2_with (go_at_call 51; refine hS.mono ?_; clear hS; rintro e w' ⟨rfl, rfl⟩)
   refine bodyPost_ret (results_desk2 rfl _ _ w.heap.size _ _ rfl (hset _ _)) rfl ⟨_, rfl, World.ownsRow_nil _ _ _ _, ?_⟩
   exact (hB0.setCell (p := ⟨w.heap.size, 0, none⟩) (Nat.le_refl _) _).setCell (p := ⟨w.heap.size, 1, none⟩) (Nat.le_refl _) _
 | true =>
   have hlen := sideB_len hsd
   have hnv : newV xs = (xs, []) := by unfold newV; rw [hsd]; rfl
   rw [hnv]
   rw [hsd] at hS
   obtain ⟨g, c, rfl, hg, hc⟩ := hv.cells hlen.1
   have hs0 := World.size_alloc w (.cells #[.slice none 0 0, .slice none 0 0] 31)
   obtain ⟨W0, hW0⟩ : ∃ W0, w.alloc (.cells #[.slice none 0 0, .slice none 0 0] 31) = W0 := ⟨_, rfl⟩
   rw [hW0] at hS hB0 hb hs0
   have hs1 := Nat.le_of_eq hs0
   have hs2 := Nat.le_of_eq hs0.symm
   clear hs0
   have hcz : ∀ i, i < xs.length → (W0.alloc (.cells #[] 3)).cell? ⟨g, i, none⟩ = some (.int .i64 (xs.getD i 0)) := fun i hi => ((hB0.alloc hB0.size (.cells #[] 3)).cell (p := ⟨g, i, none⟩) hg).trans (hc i hi)
   have hmade : (W0.alloc (.cells #[] 3)).ownsRow (w.heap.size + 1) 3 1 (.slice (some ⟨W0.heap.size, 0, none⟩) 0 0) 0 [] := World.ownsRow_made _ _ _ (by omega) (by decide) rfl
   have hba : (W0.alloc (.cells #[] 3)).heap[w.heap.size]? = some (.cells #[.slice none 0 0, .slice none 0 0] 31 (0, 0)) := (Below.heap_alloc _ _ _ (by omega)).trans hb
   have hBa : Below w.heap.size w (W0.alloc (.cells #[] 3)) := hB0.alloc hB0.size _
   have hsz := Nat.le_of_eq (World.size_alloc W0 (.cells #[] 3)).symm
   clear hset d0 d1 f0 f1 hv hc
   go_enter Tryz.func93, Tryz.ntmps93
   go_wp2_with (first
    | (go_at_call 51; refine hS.mono ?_; clear hS; rintro e w' ⟨rfl, rfl⟩)
    | (at_builtin; go_loud (refine append_row rfl _ _ rfl (w.heap.size + 1) _ 0 [] rfl hmade g xs.length c xs rfl rfl hcz (by omega) (by omega) ?_; intro y w2 hy hg2; replace hg2 : (W0.alloc (.cells #[] 3)).grownBy w2 (some W0.heap.size) := hg2; rw [Nat.zero_add, List.nil_append] at hy; obtain ⟨ay, cy, rfl⟩ := own_form hy; have hb2 := (hg2.block w.heap.size (by omega) (fun e => by injection e with e; omega)).trans hba; obtain ⟨d0, d1, f0, f1⟩ := row_at hb2)))
   have hset := desk_set hb2 (.slice ay xs.length cy) (.slice none 0 0)
   refine bodyPost_ret (results_desk2 rfl _ _ w.heap.size _ _ rfl hset) rfl ⟨_, rfl, ?_, ?_⟩
   · have h1 := own_kept hy (grownBy_setAt w2 w.heap.size 0 (.slice ay xs.length cy)) (own_old hy (by omega))
     exact own_from (own_kept h1 (grownBy_setAt _ w.heap.size 1 (.slice none 0 0)) (own_old h1 (by omega))) (by omega)
   · exact ((hBa.grown hg2 hBa.size (fun k e => by injection e with e; omega)).setCell (p := ⟨w.heap.size, 0, none⟩) (Nat.le_refl _) _).setCell (p := ⟨w.heap.size, 1, none⟩) (Nat.le_refl _) _
end
section
open Go.RowKit Go.Shelf
attribute [local go_sem] Oper.semAt_some
theorem made_flip {row : List Int} {k n : Int} (h : k = 0 ∧ 0 ≤ n ∧ n ≤ (row.length : Int) - 1) : madeV row k n = flipV row n.toNat := by unfold madeV; rw [if_pos h]
theorem made_put {row : List Int} {k n : Int} (h : k = 1 ∧ 0 ≤ n ∧ n ≤ 1 ∧ (row.length : Int) < 12) : madeV row k n = row ++ [n] := by unfold madeV; rw [if_neg (by omega), if_pos h]
theorem made_none {row : List Int} {k n : Int} (h0 : ¬ (k = 0 ∧ 0 ≤ n ∧ n ≤ (row.length : Int) - 1)) (h1 : ¬ (k = 1 ∧ 0 ≤ n ∧ n ≤ 1 ∧ (row.length : Int) < 12)) (h2 : ¬ (k = 2 ∧ n = 0)) (h3 : ¬ (k = 3 ∧ n = 0)) (h4 : ¬ (k = 4 ∧ n = 0)) : madeV row k n = [] := by
 unfold madeV; rw [if_neg h0, if_neg h1, if_neg h2, if_neg h3, if_neg h4]
theorem flip_ints {W : World} {g m cb : Nat} {row : List Int} (h : RowAt W g row.length (fun i => if i = m then 1 - row.getD m 0 else row.getD i 0)) : Ints W.drew (.slice (some ⟨g, 0, none⟩) row.length cb) (flipV row (Int.toNat (m : Int))) := by
 rw [Int.toNat_natCast]
 have hl : (flipV row m).length = row.length := by unfold flipV; rw [List.length_set]
 refine .inr ⟨g, cb, by rw [hl], h.lt, fun i hi => ?_⟩
 rw [hl] at hi
 refine (h.cell hi).trans ?_
 congr 2
 unfold flipV
 rw [show (row.set m (1 - row.getD m 0)).getD i 0 = ((row.set m (1 - row.getD m 0))[i]?).getD 0 from rfl, List.getElem?_set]
 by_cases e : m = i
 · subst e; rw [if_pos rfl, if_pos rfl, if_pos hi]; rfl
 · rw [if_neg (fun e2 => e e2.symm), if_neg e]; rfl
def mdP (base n : Nat) (xs : List Value) (ks : List Kd) (c : Bool) (k : Nat) (v : Value) (V : World) : Prop := match c with | true => (k = 6 → V.ownsRow base 3 1 v n xs) | false => (kdAt ks k).holds v V
theorem mdP.mono {base n : Nat} {xs : List Value} {ks : List Kd} (c : Bool) (k : Nat) (v : Value) (V V' : World) (h : mdP base n xs ks c k v V) (hB : Below V.heap.size V V') : mdP base n xs ks c k v V' := by
 cases c with
 | false => exact Kd.mono _ h hB
 | true => exact fun e => own_below (h e) hB
set_option maxRecDepth 100000 in
set_option maxHeartbeats 2000000 in
theorem specMade (u : Value) (row : List Int) (k n : Int) (w : World) (hu : Ints w u row) (hs : sideB row = true) (hk : Fits k) (hn : Fits n) : Calls Tryz.prog 106 #[u, dV k n] w fun e w' =>
 ∃ r, e = .returned r ∧ Ints w' r (madeV row k n) ∧ Below w.heap.size w w' ∧ ∀ g, r.ownBlock = some g → w.heap.size ≤ g := by
 have hlen := sideB_len hs
 have hBa : Below w.heap.size w (w.alloc (.cells #[.int .i64 k, .int .i64 n] 39)) := (Below.refl _ w).alloc (Nat.le_refl _) _
 have hB0 : Below w.heap.size w ((w.alloc (.cells #[.int .i64 k, .int .i64 n] 39)).alloc (.cells #[] 3)) := hBa.alloc hBa.size _
 have hb0 : ((w.alloc (.cells #[.int .i64 k, .int .i64 n] 39)).alloc (.cells #[] 3)).heap[w.heap.size]? = some (.cells #[.int .i64 k, .int .i64 n] 39 (0, 0)) := (Below.heap_alloc _ _ _ (by simp)).trans (aN9 w _)
 have hmade : ((w.alloc (.cells #[.int .i64 k, .int .i64 n] 39)).alloc (.cells #[] 3)).ownsRow (w.heap.size + 1) 3 1 (.slice (some ⟨w.heap.size + 1, 0, none⟩) 0 0) 0 [] := by
  have h := World.ownsRow_made (base := w.heap.size + 1) (e := 3) (size := 1) (w.alloc (.cells #[.int .i64 k, .int .i64 n] 39)) #[] 0 (by simp) (by decide) rfl
  simpa using h
 have hsz := Nat.le_of_eq (show ((w.alloc (.cells #[.int .i64 k, .int .i64 n] 39)).alloc (.cells #[] 3)).heap.size = w.heap.size + 2 by simp)
 have hsz2 := Nat.le_of_eq (show w.heap.size + 2 = ((w.alloc (.cells #[.int .i64 k, .int .i64 n] 39)).alloc (.cells #[] 3)).heap.size by simp)
 have q2 := equal_deed hk hn (k' := 2) (n' := 0) (by constructor <;> omega) (by constructor <;> omega) ((w.alloc (.cells #[.int .i64 k, .int .i64 n] 39)).alloc (.cells #[] 3))
 have q3 := equal_deed hk hn (k' := 3) (n' := 0) (by constructor <;> omega) (by constructor <;> omega) ((w.alloc (.cells #[.int .i64 k, .int .i64 n] 39)).alloc (.cells #[] 3))
 have q4 := equal_deed hk hn (k' := 4) (n' := 0) (by constructor <;> omega) (by constructor <;> omega) ((w.alloc (.cells #[.int .i64 k, .int .i64 n] 39)).alloc (.cells #[] 3))
 have hu0 := hu.below hB0
 obtain ⟨W1, hW1⟩ : ∃ W1, (w.alloc (.cells #[.int .i64 k, .int .i64 n] 39)).alloc (.cells #[] 3) = W1 := ⟨_, rfl⟩
 rw [hW1] at hB0 hb0 hmade q2 q3 q4 hu0 hsz hsz2
 obtain ⟨d0, d1, _, _⟩ := row_at hb0
 obtain ⟨g, c, rfl, hg, hc⟩ := hu0.cells hlen.1
 have hlies : Lies (.slice (some ⟨g, 0, none⟩) row.length c) := .inr ⟨_, _, _, rfl⟩
 unfold dV
 by_cases h0 : k = 0 ∧ 0 ≤ n ∧ n ≤ (row.length : Int) - 1
 · rw [made_flip h0]
   obtain ⟨rfl, h1, h2⟩ := h0
   obtain ⟨m, rfl⟩ : ∃ m : Nat, n = m := ⟨n.toNat, by omega⟩
   have hm : m < row.length := by omega
   clear q2 q3 q4 hBa hlies hu
   go_enter Tryz.func106, Tryz.ntmps106
   go_wp2_with (first
    | (go_at_call 95; refine (l1In_t _ _ _ _ (by omega) (by omega)).mono ?_; rintro e w' ⟨rfl, rfl⟩)
    | (at_builtin; go_loud (refine append_row rfl _ _ rfl (w.heap.size + 1) _ 0 [] rfl hmade g row.length c row rfl rfl hc (by omega) (by omega) ?_; intro y w2 hy hg2; replace hg2 : W1.grownBy w2 (some (w.heap.size + 1)) := hg2; rw [Nat.zero_add, List.nil_append] at hy; obtain ⟨gb, cb, rfl, hgb, hra⟩ := RowAt.of_owns hy (by omega); have hd1 := (hg2.cell d1 (by simp)); have hcz := hra.cell hm; have hfz := hra.frozen m)))
   have hmi : (m : Int) < (row.length : Int) := by omega
   have hzb := sideB_at hs hm
   obtain ⟨z, hz⟩ : ∃ z, row.getD m 0 = z := ⟨_, rfl⟩
   rw [hz] at hcz hzb
   go_region
   go_wp2
   go_ret
   refine ⟨_, rfl, ?_, ?_, fun q e => by simp [Value.ownBlock] at e; omega⟩
   · rw [← hz]
     exact flip_ints (hra.set (1 - row.getD m 0))
   · exact ((hB0.grown hg2 hB0.size (fun k e => by injection e with e; omega)).setCell (p := ⟨gb, m, none⟩) (by show w.heap.size ≤ gb; omega) _).drew
 by_cases h1 : k = 1 ∧ 0 ≤ n ∧ n ≤ 1 ∧ (row.length : Int) < 12
 · rw [made_put h1]
   obtain ⟨rfl, hn0, hn1, hl12⟩ := h1
   clear q2 q3 q4 hBa hlies hu h0
   refine (cW9 (n := 9)).1 ?_
   refine callsIn_of_wp Tryz.func106 rfl trivial ?_ rfl
   simp only [Tryz.ntmps106, List.size_toArray, List.length_cons, List.length_nil, Nat.reduceAdd, Nat.reduceSub, Array.replicate_succ, Array.replicate_zero, List.push_toArray, List.append_toArray, List.nil_append, List.cons_append]
   gi_wp2_with (first
    | (refine ⟨trivial, ?_⟩; gi_at_call 95; refine (cW9.2 (l1In_t _ _ _ _ (by assumption) (by assumption))).mono ?_; rintro e w' ⟨rfl, rfl⟩)
    | (refine ⟨trivial, ?_⟩))
   have hn' : row.length ≤ 12 := hlen.2
   refine wpIn_region_two 6 7 (by kernel_rfl) (by kernel_rfl) (by kernel_rfl) (by decide) (by decide)
    (fun s => { tmps := #[.slice (some ⟨g, 0, none⟩) row.length c, .agg #[.int .i64 1, .int .i64 n], undef, .pointer (some ⟨w.heap.size, 0, none⟩), .slice none 0 0, .slice (some ⟨w.heap.size + 1, 0, none⟩) 0 0, .slice (some ⟨w.heap.size + 1, 0, none⟩) 0 0, .bool false, .pointer (some ⟨w.heap.size, 0, none⟩), .int .i64 1, .bool false, .bool false, undef, undef, undef, undef, undef, undef, .bool false, undef, undef, undef, undef, undef, undef, undef, undef, undef, undef, undef, undef, undef, .bool true, .pointer (some ⟨w.heap.size, 0, none⟩), .int .i64 1, .bool true, .bool true, .pointer (some ⟨w.heap.size, 1, none⟩), .int .i64 n, .bool true, .bool true, .bool true, .slice (some ⟨g, 0, none⟩) row.length c, .int .i64 row.length, .bool true, .bool true, s 0, s 1, s 2, s 3, s 4, s 5, s 6, undef, undef, undef, undef, undef, undef, undef, undef, undef, undef, undef, undef, undef, undef, undef, undef, undef, undef, undef], defers := [] })
    (fun _ V => Below W1.heap.size W1 V) (fun V V' => Below V.heap.size V V')
    (mdP W1.heap.size (row.length + 1) (row.map (Value.int .i64) ++ [.int .i64 n]) [.val (.slice (some ⟨w.heap.size + 1, 0, none⟩) 0 0), .val (.slice (some ⟨g, 0, none⟩) row.length c), .own W1.heap.size row.length (row.map (Value.int .i64)), .val (.pointer (some ⟨w.heap.size, 1, none⟩)), .val (.int .i64 n), .one (.int .i64 n), .val undef])
    ⟨fun _ => undef, rfl⟩ ?put (Below.refl _ _).drew mdP.mono ?step ?mid ?tail
   case put =>
    intro i o s v hi ho
    rcases (show i = 0 ∨ i = 1 ∨ i = 2 ∨ i = 3 ∨ i = 4 ∨ i = 5 ∨ i = 6 by omega) with rfl | rfl | rfl | rfl | rfl | rfl | rfl
    all_goals
     simp at ho
     subst ho
     simp [Act.put]
   case step =>
    rintro ph i op s V hi hip hneed ho hV hd Q' hQ
    rcases (show i = 0 ∨ i = 1 ∨ i = 2 ∨ i = 3 ∨ i = 4 ∨ i = 5 by omega) with rfl | rfl | rfl | rfl | rfl | rfl
    all_goals
     cases ph with
     | true => cases ((hneed rfl).symm.trans (by kernel_rfl) : false = true)
     | false => _
    all_goals
     simp at ho
     subst ho
     simp [Act.put] at hQ
     have hQ' := hide hQ
     clear hQ
     have hV1 : Below W1.heap.size W1 V := hV
    · clear hd hV
      gi_wp2
      exact hQ'.out _ _ hV1 (Below.refl _ _) rfl
    · clear hd hV
      gi_wp2
      exact hQ'.out _ _ hV1 (Below.refl _ _) rfl
    · have e1 : s 0 = .slice (some ⟨w.heap.size + 1, 0, none⟩) 0 0 := hd 0 (by kernel_rfl)
      have e2 : s 1 = .slice (some ⟨g, 0, none⟩) row.length c := hd 1 (by kernel_rfl)
      have hcV : ∀ i, i < row.length → V.cell? ⟨g, i, none⟩ = some (.int .i64 (row.getD i 0)) := fun i hi => (hV1.cell (p := ⟨g, i, none⟩) hg).trans (hc i hi)
      clear hd hV
      refine append_copy_in rfl _ _ rfl W1.heap.size ⟨w.heap.size + 1, 0, none⟩ e1 g row.length c row e2 rfl hcV hlen.1 (by omega) hV1.size ?_
      intro v' w' how hBw
      gi_wp2
      have hr := hQ'.out
      rw [e1, e2] at hr
      exact hr _ _ (hV1.trans (hBw.mono hV1.size)) hBw how
    · clear hd hV
      gi_wp2
      exact hQ'.out _ _ hV1 (Below.refl _ _) rfl
    · have e1 : s 3 = .pointer (some ⟨w.heap.size, 1, none⟩) := hd 3 (by kernel_rfl)
      have hcc := (hV1.cell (p := ⟨w.heap.size, 1, none⟩) (by show w.heap.size < _; omega)).trans d1
      clear hd hV
      gi_wp2
      have hr := hQ'.out
      rw [e1] at hr
      exact hr _ _ hV1 (Below.refl _ _) rfl
    · have e1 : s 4 = .int .i64 n := hd 4 (by kernel_rfl)
      clear hd hV
      gi_wp2
      have hr := hQ'.out
      rw [e1] at hr
      exact hr _ _ (hV1.alloc hV1.size _) ((Below.refl _ V).alloc (Nat.le_refl _) _) ⟨V.heap.size, rfl, by simp, (Boxed.new V 3 (.int .i64 n)).cell⟩
   case mid =>
    rintro op s V ho hV hd Q' hQ
    have hV1 : Below W1.heap.size W1 V := hV
    simp at ho
    subst ho
    simp [Act.put] at hQ
    have hQ' := hide hQ
    clear hQ
    have e1 : V.ownsRow W1.heap.size 3 1 (s 2) row.length (row.map (Value.int .i64)) := hd 2 (by kernel_rfl)
    obtain ⟨q, e9, hq, hcq⟩ : ∃ q, s 5 = .slice (some ⟨q, 0, none⟩) 1 1 ∧ q < V.heap.size ∧ V.cell? ⟨q, 0, none⟩ = some (.int .i64 n) := hd 5 (by kernel_rfl)
    clear hd hV
    have hVs := hV1.size
    have hcn : ∀ i, i < 1 → V.cell? ⟨q, i, none⟩ = some (.int .i64 ([n].getD i 0)) := fun i hi => by
     obtain rfl : i = 0 := by omega
     exact hcq
    refine append_row_in rfl _ _ rfl W1.heap.size (s 2) row.length _ rfl e1 q 1 1 [n] e9 rfl hcn (by omega) hVs ?_
    intro v' w' how hgr
    gi_wp2
    have hr := hQ'.out
    rw [e9] at hr
    refine hr _ _ (hV1.grown hgr hVs (fun k e => (e1.lt k e).1)) (fun k x hk h => fun e => absurd e hk) (fun _ => how)
   case tail =>
    rintro s V hV hd
    have hV1 : Below W1.heap.size W1 V := hV
    have e6 : V.ownsRow W1.heap.size 3 1 (s 6) (row.length + 1) (row.map (Value.int .i64) ++ [.int .i64 n]) := hd 6 (by omega) rfl
    clear hd hV
    simp only [List.drop_succ_cons, List.drop_zero]
    gi_wp2
    have e7 : V.ownsRow W1.heap.size 3 1 (s 6) (row ++ [n]).length ((row ++ [n]).map (Value.int .i64)) := by simpa using e6
    refine bodyPost_ret (results_tmp rfl _ _ _) rfl ⟨s 6, rfl, Ints.of_owns e7, hB0.trans (hV1.mono hB0.size), fun q e => lT9 hB0.size (e7.lt q e).1⟩
 by_cases h2 : k = 2 ∧ n = 0
 · obtain ⟨rfl, rfl⟩ := h2
   have hU := specUnder9 _ row W1 hu0 (by omega)
   have hr : madeV row 2 0 = undrV row := rfl
   rw [hr]
   generalize undrV row = R at *
   have e2 : decide ((2 : Int) = 2 ∧ (0 : Int) = 0) = true := by decide
   rw [e2] at q2
   clear q3 q4 e2 hBa hlies hu hr
   go_enter Tryz.func106, Tryz.ntmps106
   go_wp2_with (go_at_call 146; refine hU.mono ?_; clear hU; rintro e w2 ⟨r, rfl, hr, hB2⟩)
   go_ret
   exact ⟨_, rfl, Ints.of_owns hr, hB0.trans (hB2.mono hB0.size), fun q e => lT9 hB0.size (hr.lt q e).1⟩
 by_cases h3 : k = 3 ∧ n = 0
 · obtain ⟨rfl, rfl⟩ := h3
   have hU := specTurned _ row W1 hu0 hlies (by omega)
   have hr : madeV row 3 0 = turnV row := rfl
   rw [hr]
   generalize turnV row = R at *
   have e2 : decide ((3 : Int) = 2 ∧ (0 : Int) = 0) = false := by decide
   have e3 : decide ((3 : Int) = 3 ∧ (0 : Int) = 0) = true := by decide
   rw [e2] at q2
   rw [e3] at q3
   clear q4 e2 e3 hBa hlies hu hr
   go_enter Tryz.func106, Tryz.ntmps106
   go_wp2_with (go_at_call 147; refine hU.mono ?_; clear hU; rintro e w2 ⟨r, rfl, hr, hB2⟩)
   go_ret
   exact ⟨_, rfl, Ints.of_owns hr, hB0.trans (hB2.mono hB0.size), fun q e => lT9 hB0.size (hr.lt q e).1⟩
 by_cases h4 : k = 4 ∧ n = 0
 · obtain ⟨rfl, rfl⟩ := h4
   have hU := specRound _ row W1 hu0 (by omega)
   have hr : madeV row 4 0 = roundV row := rfl
   rw [hr]
   generalize roundV row = R at *
   have e2 : decide ((4 : Int) = 2 ∧ (0 : Int) = 0) = false := by decide
   have e3 : decide ((4 : Int) = 3 ∧ (0 : Int) = 0) = false := by decide
   have e4 : decide ((4 : Int) = 4 ∧ (0 : Int) = 0) = true := by decide
   rw [e2] at q2
   rw [e3] at q3
   rw [e4] at q4
   clear e2 e3 e4 hBa hlies hu hr
   go_enter Tryz.func106, Tryz.ntmps106
   go_wp2_with (go_at_call 111; refine hU.mono ?_; clear hU; rintro e w2 ⟨r, rfl, hr, hB2⟩)
   go_ret
   exact ⟨_, rfl, Ints.of_owns hr, hB0.trans (hB2.mono hB0.size), fun q e => lT9 hB0.size (hr.lt q e).1⟩
 rw [made_none h0 h1 h2 h3 h4]
 rw [decide_eq_false h2] at q2
 rw [decide_eq_false h3] at q3
 rw [decide_eq_false h4] at q4
 have g2 := hide h2
 have g3 := hide h3
 have g4 := hide h4
 clear h2 h3 h4 hlies hu hBa
 by_cases k0 : k = 0
 · subst k0
   have hb : n < 0 ∨ (row.length : Int) - 1 < n := by omega
   clear h0 h1
   go_enter Tryz.func106, Tryz.ntmps106
   go_wp2_with (go_at_call 95; refine (l1In_f _ _ _ _ (by assumption)).mono ?_; rintro e w' ⟨rfl, rfl⟩)
   go_ret
   exact ⟨_, rfl, Ints.none _ _ _, hB0, fun q e => by simp [Value.ownBlock] at e; omega⟩
 · by_cases k1 : k = 1
   · subst k1
     by_cases hb : n < 0 ∨ 1 < n
     · clear h0 h1
       go_enter Tryz.func106, Tryz.ntmps106
       go_wp2_with (go_at_call 95; refine (l1In_f _ _ _ _ (by assumption)).mono ?_; rintro e w' ⟨rfl, rfl⟩)
       go_ret
       exact ⟨_, rfl, Ints.none _ _ _, hB0, fun q e => by simp [Value.ownBlock] at e; omega⟩
     · have hlb : ¬ (row.length : Int) < 12 := by omega
       have hn0 : 0 ≤ n := by omega
       have hn1 : n ≤ 1 := by omega
       clear h0 h1
       go_enter Tryz.func106, Tryz.ntmps106
       go_wp2_with (go_at_call 95; refine (l1In_t _ _ _ _ (by assumption) (by assumption)).mono ?_; rintro e w' ⟨rfl, rfl⟩)
       go_ret
       exact ⟨_, rfl, Ints.none _ _ _, hB0, fun q e => by simp [Value.ownBlock] at e; omega⟩
   · have b0 : (k == 0) = false := by rw [beq_eq_false_iff_ne]; exact k0
     have b1 : (k == 1) = false := by rw [beq_eq_false_iff_ne]; exact k1
     clear h0 h1
     go_enter Tryz.func106, Tryz.ntmps106
     go_wp2_with fail
     all_goals try subst_vars
     all_goals first
      | exact absurd ⟨rfl, rfl⟩ g2.out
      | exact absurd ⟨rfl, rfl⟩ g3.out
      | exact absurd ⟨rfl, rfl⟩ g4.out
      | (go_ret; exact ⟨_, rfl, Ints.none _ _ _, hB0, fun q e => by simp [Value.ownBlock] at e; omega⟩)
end
section
open Go.RowKit
theorem doV_back {d : Dk} {k n : Int} (hb : deskB d = true) (h : k = 5 ∧ n = 0 ∧ 0 < d.2.length) : doV d k n = ((pstV d.2, d.2.take (d.2.length - 1)), true) := by unfold doV; rw [if_pos hb, if_pos h]
theorem doV_same {d : Dk} {k n : Int} (hb : deskB d = true) (h : ¬ (k = 5 ∧ n = 0 ∧ 0 < d.2.length)) (hm : madeV d.1 k n = [] ∨ madeV d.1 k n = d.1) : doV d k n = (d, false) := by unfold doV; rw [if_pos hb, if_neg h, if_pos hm]
theorem doV_made {d : Dk} {k n : Int} (hb : deskB d = true) (h : ¬ (k = 5 ∧ n = 0 ∧ 0 < d.2.length)) (hm : ¬ (madeV d.1 k n = [] ∨ madeV d.1 k n = d.1)) : doV d k n = ((madeV d.1 k n, pastV d.2 d.1), true) := by unfold doV; rw [if_pos hb, if_neg h, if_neg hm]
theorem OwnSS.past {W : World} {base : Nat} {v : Value} {rows : List (List Int)} (h : OwnSS W base v rows) : PastI W v rows := h.rowsI.past
def CapP (v : Value) : Prop := ∀ x a n c, v = .agg #[x, .slice a n c] → n ≤ c
theorem CapP.of {x : Value} {a : Option Addr} {n c : Nat} (h : n ≤ c) : CapP (.agg #[x, .slice a n c]) := by
 intro x' a' n' c' e
 injection e with e
 simp at e
 omega
def CapN (base : Nat) (v : Value) : Prop := CapP v ∧ ∀ x g o t n c, v = .agg #[x, .slice (some ⟨g, o, t⟩) n c] → base ≤ g
def PastO (W : World) (base : Nat) (y : Value) (rows : List (List Int)) : Prop := ∃ x p, y = .agg #[x, p] ∧ OwnSS W base p rows ∧ ∀ g, x.ownBlock = some g → base ≤ g ∧ p.ownBlock ≠ some g
theorem OwnSS.read2 {w : World} {base : Nat} {v : Value} {rows : List (List Int)} (h : OwnSS w base v rows) (h0 : 0 < rows.length) : ∃ g cap, v = .slice (some ⟨g, 0, .none⟩) rows.length cap ∧ g < w.heap.size ∧ ∀ j, j < rows.length → ∃ u, w.cell? ⟨g, j, .none⟩ = some u ∧ Ints w u (rows.getD j []) ∧ w.ownsRow base 3 1 u (rows.getD j []).length ((rows.getD j []).map (Value.int .i64)) := by
 obtain ⟨us, h1, h2, h3⟩ := h
 rcases h2.2 with ⟨_, hn⟩ | ⟨g, cap, cur, rfl, hb, hg, _⟩
 · omega
 · refine ⟨g, cap, by rw [h1], (gE9.1 hg).1, fun j hj => ⟨us.getD j undef, ?_, Ints.of_owns (h3 j hj), h3 j hj⟩⟩
   rw [h2.cellAt j (by omega), List.getD, eG9 (by omega)]; rfl
theorem ints_ownSS {W : World} {base : Nat} {x p : Value} {xs : List Int} {rows : List (List Int)} (h : Ints W x xs) (h1 : 0 < xs.length) (k : OwnSS W base p rows) (k1 : 0 < rows.length) : ∀ g, x.ownBlock = some g → p.ownBlock ≠ some g := by
 intro g e1 e2
 rcases h with ⟨_, _, _, h0⟩ | ⟨g', c, rfl, _, hc⟩
 · rw [h0] at h1; simp at h1
 · obtain ⟨G, cp, rfl, _, hr⟩ := k.read k1
   obtain ⟨u, h2, h3, _⟩ := hr 0 k1
   simp only [Value.ownBlock, Option.some.injEq] at e1 e2
   subst e1
   subst e2
   rw [hc 0 h1] at h2
   injection h2 with h2
   obtain ⟨a, b, e⟩ := h3.shape
   rw [← h2] at e
   cases e
theorem CapN.of {base : Nat} {x : Value} {a : Option Addr} {n c : Nat} (h : n ≤ c) (ha : ∀ g o t, a = some ⟨g, o, t⟩ → base ≤ g) : CapN base (.agg #[x, .slice a n c]) := by
 refine ⟨CapP.of h, fun x' g o t n' c' e => ?_⟩
 injection e with e
 simp at e
 exact ha g o t e.2.1
set_option maxRecDepth 100000 in
set_option maxHeartbeats 2000000 in
theorem specDo_no (v : Value) (d : Dk) (k n : Int) (w : World) (hv : DeskI w v d) (hs : DkS d) (hb : deskB d = false) : Calls Tryz.prog 66 #[v, dV k n] w fun e w' =>
 ∃ x, e = .returned (.tuple #[x, .bool (doV d k n).2]) ∧ DeskI w' x (doV d k n).1 ∧ (CapN w.heap.size x ∧ (d.2.length < 8 → PastO w' w.heap.size x (doV d k n).1.2)) ∧ Below w.heap.size w w' := by
 obtain ⟨x, p, rfl, hx, hp⟩ := hv
 have hB1 : Below w.heap.size w (((w.alloc (.cells #[x, p] 31)).alloc (.cells #[.int .i64 k, .int .i64 n] 39)).alloc (.cells #[.slice none 0 0, .slice none 0 0] 31)) :=
  (((Below.refl _ w).alloc (Nat.le_refl _) _).alloc (by rw [World.size_alloc]; omega) _).alloc (by rw [World.size_alloc, World.size_alloc]; omega) _
 have hbr : (((w.alloc (.cells #[x, p] 31)).alloc (.cells #[.int .i64 k, .int .i64 n] 39)).alloc (.cells #[.slice none 0 0, .slice none 0 0] 31)).heap[w.heap.size + 2]? = some (.cells #[.slice none 0 0, .slice none 0 0] 31 (0, 0)) := by
  have h := aN9 ((w.alloc (.cells #[x, p] 31)).alloc (.cells #[.int .i64 k, .int .i64 n] 39)) (.cells #[.slice none 0 0, .slice none 0 0] 31)
  rw [World.size_alloc, World.size_alloc] at h
  exact h
 have hbx : (((w.alloc (.cells #[x, p] 31)).alloc (.cells #[.int .i64 k, .int .i64 n] 39)).alloc (.cells #[.slice none 0 0, .slice none 0 0] 31)).heap[w.heap.size]? = some (.cells #[x, p] 31 (0, 0)) :=
  (Below.heap_alloc _ _ _ (by rw [World.size_alloc, World.size_alloc]; omega)).trans ((Below.heap_alloc _ _ _ (by rw [World.size_alloc]; omega)).trans (aN9 w _))
 have hsz := Nat.le_of_eq (show w.heap.size + 3 = (((w.alloc (.cells #[x, p] 31)).alloc (.cells #[.int .i64 k, .int .i64 n] 39)).alloc (.cells #[.slice none 0 0, .slice none 0 0] 31)).heap.size by simp)
 obtain ⟨W1, hW1⟩ : ∃ W1, ((w.alloc (.cells #[x, p] 31)).alloc (.cells #[.int .i64 k, .int .i64 n] 39)).alloc (.cells #[.slice none 0 0, .slice none 0 0] 31) = W1 := ⟨_, rfl⟩
 rw [hW1] at hB1 hbr hbx hsz
 have hOK := specDeskOk (.agg #[x, p]) d W1 ⟨x, p, rfl, hx.below hB1, hp.below hB1⟩ hs
 rw [hb] at hOK
 rw [doV_no hb]
 obtain ⟨a0, a1, _, _⟩ := row_at hbx
 unfold dV
 clear hx hp hs hb
 go_enter Tryz.func66, Tryz.ntmps66
 go_wp2_with (go_at_call 13; refine hOK.mono ?_; clear hOK; go_loud (rintro e W2 ⟨rfl, hB2⟩; have hbr2 := (hB2.block (w.heap.size + 2) (by omega)).trans hbr; obtain ⟨r0, r1, g0, g1⟩ := row_at hbr2))
 refine bodyPost_ret (results_desk2 rfl _ _ (w.heap.size + 2) _ _ rfl (desk_set hbr2 _ _)) rfl ⟨_, rfl, ⟨_, _, rfl, Ints.none _ _ _, PastI.none _ _ _⟩, ⟨CapN.of (Nat.le_refl _) (fun g o t e => by cases e), fun _ => ⟨_, _, rfl, ⟨[], rfl, World.ownsRow_nil _ _ _ _, fun j hj => by simp at hj⟩, fun g e => by simp [Value.ownBlock] at e⟩⟩, ?_⟩
 exact ((hB1.trans (hB2.mono hB1.size)).setCell (p := ⟨w.heap.size + 2, 0, none⟩) (by show w.heap.size ≤ w.heap.size + 2; omega) _).setCell (p := ⟨w.heap.size + 2, 1, none⟩) (by show w.heap.size ≤ w.heap.size + 2; omega) _
structure Do1 (w : World) (x p : Value) (k n : Int) (W : World) : Prop where
 below : Below w.heap.size w W
 size : w.heap.size + 3 ≤ W.heap.size
 desk : W.heap[w.heap.size]? = some (.cells #[x, p] 31 (0, 0))
 deed : W.heap[w.heap.size + 1]? = some (.cells #[.int .i64 k, .int .i64 n] 39 (0, 0))
 res : W.heap[w.heap.size + 2]? = some (.cells #[.slice none 0 0, .slice none 0 0] 31 (0, 0))
theorem Do1.new (w : World) (x p : Value) (k n : Int) : Do1 w x p k n (((w.alloc (.cells #[x, p] 31)).alloc (.cells #[.int .i64 k, .int .i64 n] 39)).alloc (.cells #[.slice none 0 0, .slice none 0 0] 31)) := by
 refine ⟨(((Below.refl _ w).alloc (Nat.le_refl _) _).alloc (by rw [World.size_alloc]; omega) _).alloc (by rw [World.size_alloc, World.size_alloc]; omega) _, by simp, ?_, ?_, ?_⟩
 · exact (Below.heap_alloc _ _ _ (by rw [World.size_alloc, World.size_alloc]; omega)).trans ((Below.heap_alloc _ _ _ (by rw [World.size_alloc]; omega)).trans (aN9 w _))
 · refine (Below.heap_alloc _ _ _ (by rw [World.size_alloc, World.size_alloc]; omega)).trans ?_
   have h := aN9 (w.alloc (.cells #[x, p] 31)) (.cells #[.int .i64 k, .int .i64 n] 39)
   rw [World.size_alloc] at h
   exact h
 · have h := aN9 ((w.alloc (.cells #[x, p] 31)).alloc (.cells #[.int .i64 k, .int .i64 n] 39)) (.cells #[.slice none 0 0, .slice none 0 0] 31)
   rw [World.size_alloc, World.size_alloc] at h
   exact h
theorem Do1.more {w : World} {x p : Value} {k n : Int} {W V : World} (h : Do1 w x p k n W) (hV : Below W.heap.size W V) : Do1 w x p k n V :=
 ⟨h.below.trans (hV.mono h.below.size), lT9 h.size hV.size, (hV.block _ (by have := h.size; omega)).trans h.desk, (hV.block _ (by have := h.size; omega)).trans h.deed, (hV.block _ (by have := h.size; omega)).trans h.res⟩
theorem own_cap {W : World} {base n n' c : Nat} {e : TypeId} {a : Option Addr} {xs : List Value} (h : W.ownsRow base e 1 (.slice a n' c) n xs) : n' ≤ c := by
 rcases h.2 with ⟨e, h0⟩ | ⟨b, cap, cur, e, _, _, hc, _⟩
 · injection e with _ e2 e3; omega
 · injection e with _ e2 e3; omega
theorem append_slice12 {ops : Array Oper} {rest : List Oper} {o : Oper} {a : Act} {Q : Exit → Act → World → Prop} {w : World} {z : Value} (hgd : o.guard = none) (s x : Operand)
 (ho : o.op = .call { callee := .builtin .append, args := #[s, x], argTypes := #[29, 29] }) (hz1 : z.oneCell' = true)
 (base : Nat) (v : Value) (n : Nat) (xs : List Value) (hs : a.eval s = v) (hown : w.ownsRow base 28 1 v n xs) (q : Nat) (hx : a.eval x = .slice (some ⟨q, 0, none⟩) 1 1) (hq : w.cell? ⟨q, 0, none⟩ = some z)
 (hn : n ≤ 1000000) (hbase : base ≤ w.heap.size)
 (h : ∀ v' w', w'.ownsRow base 28 1 v' (n + 1) (xs ++ [z]) → w.grownBy w' v.ownBlock → wpList Tryz.prog ops Q rest (a.put o.dst v') w') :
 wpList Tryz.prog ops Q (o :: rest) a w := by
 obtain ⟨i0, hi, hz0, hz2, hz3⟩ := info_rows Tryz.infoRow
 refine wpList_append_own _ hgd s x 29 ho base 28 i0 (.slice none 0 0) 1 24 Tryz.underlying29 hi hz0 hz2 hz3 rfl (by decide) v n xs hs hown ⟨q, 0, none⟩ 1 1 [z] hx rfl ?_ ?_ ?_ ?_ hbase ?_
 · intro j u hj
   match j, hj with
   | 0, hj => simp at hj; subst hj; simpa [Addr.add] using hq
 · intro u hu; simp at hu; subst hu; exact hz1
 · unfold maxLen; omega
 · omega
 · intro v' w' h1 h2 _; exact h v' w' h1 h2
structure Do2 (w : World) (x p : Value) (k n : Int) (b : Nat) (y q : Value) (d : Dk) (W : World) : Prop where
 one : Do1 w x p k n W
 lt : w.heap.size + 3 ≤ b
 out : W.heap[b]? = some (.cells #[y, q] 31 (0, 0))
 now : W.ownsRow (w.heap.size + 3) 3 1 y d.1.length (d.1.map (Value.int .i64))
 past : OwnSS W (w.heap.size + 3) q d.2
theorem Do2.more {w : World} {x p : Value} {k n : Int} {b : Nat} {y q : Value} {d : Dk} {W V : World} (h : Do2 w x p k n b y q d W) (hV : Below W.heap.size W V) : Do2 w x p k n b y q d V :=
 ⟨h.one.more hV, h.lt, (hV.block _ (gE9.1 h.out).1).trans h.out, own_below h.now hV, h.past.below hV⟩
theorem ints_grown {W W' : World} {v : Value} {xs : List Int} {b n1 c1 n2 c2 : Nat} {a1 a2 : Option Addr} {t : TypeId} (h : Ints W v xs) (hb : W.heap[b]? = some (.cells #[.slice a1 n1 c1, .slice a2 n2 c2] t (0, 0))) (hg : W.grownBy W' (some b)) : Ints W' v xs := by
  rcases h with h | ⟨g, cap, rfl, hg0, hc⟩
  · exact .inl h
  · by_cases h0 : 0 < xs.length
    · have hne : g ≠ b := fun e => by
        subst e
        have h1 := hc 0 h0
        unfold World.cell? at h1
        rw [hb] at h1
        simp at h1
      exact .inr ⟨g, cap, rfl, lL9 hg0 hg.size, fun i hi => (show W'.cell? ⟨g, i, none⟩ = W.cell? ⟨g, i, none⟩ from World.cell?_of_block (w := W) (hg.block g hg0 (fun e => hne (by injection e)))).trans (hc i hi)⟩
    · exact .inr ⟨g, cap, rfl, lL9 hg0 hg.size, fun i hi => absurd hi (by omega)⟩
theorem Do2.result {w : World} {x p : Value} {k n : Int} {b : Nat} {y q : Value} {d : Dk} {W : World} (h : Do2 w x p k n b y q d W) :
    DeskI ((W.setCell ⟨w.heap.size + 2, 0, .none⟩ y).setCell ⟨w.heap.size + 2, 1, .none⟩ q) (.agg #[y, q]) d ∧ Below w.heap.size w ((W.setCell ⟨w.heap.size + 2, 0, .none⟩ y).setCell ⟨w.heap.size + 2, 1, .none⟩ q) ∧ OwnSS ((W.setCell ⟨w.heap.size + 2, 0, .none⟩ y).setCell ⟨w.heap.size + 2, 1, .none⟩ q) w.heap.size q d.2 ∧ ∀ g, y.ownBlock = some g → w.heap.size ≤ g ∧ q.ownBlock ≠ some g := by
  have g0 := grownBy_setAt W (w.heap.size + 2) 0 y
  have g1 := grownBy_setAt (W.setCell ⟨w.heap.size + 2, 0, .none⟩ y) (w.heap.size + 2) 1 q
  have n1 := own_kept h.now g0 (own_old h.now (by omega))
  have n2 := own_kept n1 g1 (own_old n1 (by omega))
  refine ⟨⟨y, q, rfl, Ints.of_owns n2, ((h.past.old (by omega) g0).old (by omega) g1).past⟩, ?_, ((h.past.old (by omega) g0).old (by omega) g1).down (by omega), fun g e1 => ⟨by have := (h.now.lt g e1).1; omega, fun e2 => by
    obtain ⟨us, _, ho, _⟩ := h.past
    rcases own_apart h.now ho with h3 | h3
    · rw [h3] at e1; cases e1
    · exact h3 (e1.trans e2.symm)⟩⟩
  exact (h.one.below.setCell (p := ⟨w.heap.size + 2, 0, .none⟩) (by show w.heap.size ≤ w.heap.size + 2; omega) _).setCell (p := ⟨w.heap.size + 2, 1, .none⟩) (by show w.heap.size ≤ w.heap.size + 2; omega) _
theorem do2_new {w : World} {x p : Value} {k n : Int} {y q : Value} {d : Dk} {V W : World} (hD : Do1 w x p k n V) (hy : W.ownsRow V.heap.size 3 1 y d.1.length (d.1.map (Value.int .i64))) (hq : OwnSS W V.heap.size q d.2) (hB : Below V.heap.size V W) : Do2 w x p k n W.heap.size y q d (W.alloc (.cells #[y, q] 31)) := by
  have hs := hD.size
  have hB2 := hB.size
  have ha := (Below.refl _ W).alloc (Nat.le_refl _) (.cells #[y, q] 31)
  exact ⟨(hD.more hB).more ha, by omega, aN9 W _, own_below (own_from hy (by omega)) ha, (hq.down (by omega)).below ha⟩
theorem own_some {w : World} {base n : Nat} {e : TypeId} {v : Value} {xs : List Value} (h : w.ownsRow base e 1 v n xs) (hn : 0 < n) : ∃ g c, v = .slice (some ⟨g, 0, none⟩) n c := by
  rcases h.2 with ⟨_, h0⟩ | ⟨g, cap, cur, rfl, _⟩
  · omega
  · exact ⟨g, cap, rfl⟩
theorem do2_block {w : World} {x p : Value} {k n : Int} {b : Nat} {y q : Value} {d : Dk} {W : World} (h : Do2 w x p k n b y q d W) : ∀ g, q.ownBlock = some g → g < W.heap.size := fun g e => by
 obtain ⟨us, _, ho, _⟩ := h.past
 exact (ho.lt g e).2
theorem ints_apart {W W' : World} {v : Value} {xs : List Int} {row : Option Nat} (h : Ints W v xs) (hg : W.grownBy W' row) (hr : ∀ g, v.ownBlock = some g → row ≠ some g) : Ints W' v xs := by
 rcases h with h | ⟨g, cap, rfl, hg0, hc⟩
 · exact .inl h
 · exact .inr ⟨g, cap, rfl, lL9 hg0 hg.size, fun i hi => (show W'.cell? ⟨g, i, none⟩ = W.cell? ⟨g, i, none⟩ from World.cell?_of_block (w := W) (hg.block g hg0 (fun e => hr g rfl e.symm))).trans (hc i hi)⟩
structure Fin12 (w : World) (b : Nat) (y q r : Value) (M : List Int) (v : Value) (rows : List (List Int)) (W : World) : Prop where
 below : Below w.heap.size w W
 lt : w.heap.size + 3 ≤ b
 out : W.heap[b]? = some (.cells #[y, q] 31 (0, 0))
 res : W.heap[w.heap.size + 2]? = some (.cells #[.slice none 0 0, .slice none 0 0] 31 (0, 0))
 own : OwnSS W (w.heap.size + 3) v rows
 ints : Ints W r M
theorem Fin12.set0 {w : World} {b n1 c1 n2 c2 : Nat} {a1 a2 : Option Addr} {r : Value} {M : List Int} {v : Value} {rows : List (List Int)} {W : World} (h : Fin12 w b (.slice a1 n1 c1) (.slice a2 n2 c2) r M v rows W) (z : Value) : Fin12 w b z (.slice a2 n2 c2) r M v rows (W.setCell ⟨b, 0, .none⟩ z) := by
 have hs := grownBy_setAt W b 0 z
 have hlt := h.lt
 exact ⟨h.below.setCell (p := ⟨b, 0, .none⟩) (by show w.heap.size ≤ b; omega) _, h.lt, set_cells h.out 0 z, (hs.block _ (gE9.1 h.res).1 (fun e => by injection e with e; omega)).trans h.res, h.own.kept h.out (by decide) (by decide) hs, ints_grown h.ints h.out hs⟩
theorem Fin12.set1 {w : World} {b n1 c1 n2 c2 : Nat} {a1 a2 : Option Addr} {r : Value} {M : List Int} {v : Value} {rows : List (List Int)} {W : World} (h : Fin12 w b (.slice a1 n1 c1) (.slice a2 n2 c2) r M v rows W) (z : Value) : Fin12 w b (.slice a1 n1 c1) z r M v rows (W.setCell ⟨b, 1, .none⟩ z) := by
 have hs := grownBy_setAt W b 1 z
 have hlt := h.lt
 exact ⟨h.below.setCell (p := ⟨b, 1, .none⟩) (by show w.heap.size ≤ b; omega) _, h.lt, set_cells h.out 1 z, (hs.block _ (gE9.1 h.res).1 (fun e => by injection e with e; omega)).trans h.res, h.own.kept h.out (by decide) (by decide) hs, ints_grown h.ints h.out hs⟩
theorem past_tail {W : World} {G o n c : Nat} {rows : List (List Int)} (h : PastI W (.slice (some ⟨G, o, none⟩) (n + 1) c) rows) : PastI W (.slice (some ⟨G, o + 1, none⟩) n (c - 1)) rows.tail := by
 obtain ⟨a, c', e, hr⟩ := h
 injection e with e1 e2 e3
 subst e1
 refine ⟨some ⟨G, o + 1, none⟩, c - 1, by rw [List.length_tail, ← e2]; rfl, fun h0 => ?_⟩
 obtain ⟨G', o', e, hG, hc⟩ := hr (by omega)
 injection e with e
 injection e with e4 e5
 subst e4 e5
 refine ⟨G, o + 1, rfl, hG, fun j hj => ?_⟩
 obtain ⟨u, h1, h2⟩ := hc (j + 1) (by rw [List.length_tail] at hj; omega)
 refine ⟨u, by rw [show o + 1 + j = o + (j + 1) by omega]; exact h1, ?_⟩
 rw [List.getD, List.getElem?_tail]
 exact h2
theorem Fin12.result {w : World} {b : Nat} {y q r z : Value} {M : List Int} {v : Value} {rows rows' : List (List Int)} {W : World} (h : Fin12 w b y q r M v rows W) (hz : ∀ W', PastI W' v rows → PastI W' z rows') :
 DeskI ((W.setCell ⟨w.heap.size + 2, 0, .none⟩ r).setCell ⟨w.heap.size + 2, 1, .none⟩ z) (.agg #[r, z]) (M, rows') ∧ Below w.heap.size w ((W.setCell ⟨w.heap.size + 2, 0, .none⟩ r).setCell ⟨w.heap.size + 2, 1, .none⟩ z) := by
 have g0 := grownBy_setAt W (w.heap.size + 2) 0 r
 have g1 := grownBy_setAt (W.setCell ⟨w.heap.size + 2, 0, .none⟩ r) (w.heap.size + 2) 1 z
 obtain ⟨ar, cr, er⟩ := h.ints.shape
 have k0 := set_cells h.res 0 r
 have i1 := ints_grown h.ints h.res g0
 rw [er] at i1 k0 g0 g1 ⊢
 have i2 := ints_grown i1 k0 g1
 refine ⟨⟨_, z, rfl, i2, hz _ ((h.own.old (by omega) g0).old (by omega) g1).past⟩, ?_⟩
 exact (h.below.setCell (p := ⟨w.heap.size + 2, 0, .none⟩) (by show w.heap.size ≤ w.heap.size + 2; omega) _).setCell (p := ⟨w.heap.size + 2, 1, .none⟩) (by show w.heap.size ≤ w.heap.size + 2; omega) _
theorem Fin12.own2 {w : World} {b : Nat} {y q r z : Value} {M : List Int} {v : Value} {rows : List (List Int)} {W : World} (h : Fin12 w b y q r M v rows W) :
 OwnSS ((W.setCell ⟨w.heap.size + 2, 0, .none⟩ r).setCell ⟨w.heap.size + 2, 1, .none⟩ z) w.heap.size v rows := by
 have g0 := grownBy_setAt W (w.heap.size + 2) 0 r
 have g1 := grownBy_setAt (W.setCell ⟨w.heap.size + 2, 0, .none⟩ r) (w.heap.size + 2) 1 z
 exact ((h.own.old (by omega) g0).old (by omega) g1).down (by omega)
theorem ownSS_take {W : World} {base G L c : Nat} {rows : List (List Int)} (h : OwnSS W base (.slice (some ⟨G, 0, .none⟩) (L + 1) c) rows) : OwnSS W base (.slice (some ⟨G, 0, .none⟩) L c) (rows.take L) := by
 obtain ⟨us, hl, ho, hr⟩ := h
 obtain ⟨a, c', e⟩ := own_form ho
 injection e with _ e2 _
 have hln : (us.take L).length = L := by rw [List.length_take]; omega
 refine ⟨us.take L, by rw [List.length_take, List.length_take, hl], ?_, fun j hj => ?_⟩
 · rcases ho.2 with ⟨e, _⟩ | ⟨g, cap, cur, e, hb, hg, hc, hm, hs, ht⟩
   · cases e
   · injection e with e1 e3 e4
     injection e1 with e1
     injection e1 with e1
     subst e1 e4
     refine ⟨by omega, .inr ⟨G, c, cur, by rw [hln], hb, hg, by omega, hm, hs, ?_⟩⟩
     rw [hln, ← ht, List.take_take, show min L (us.length * 1) = L * 1 by omega]
 · rw [List.length_take] at hj
   have h1 := hr j (by omega)
   rw [List.getD, List.getD, List.getElem?_take, List.getElem?_take, if_pos (by omega), if_pos (by omega)]
   exact h1
theorem Do2.append {w : World} {x p : Value} {k n : Int} {b : Nat} {y q : Value} {row : List Int} {past : List (List Int)} {V W : World} {us : List Value} {r v : Value} {M : List Int} {B : Nat} (h : Do2 w x p k n b y q (row, past) V) (hul : us.length = past.length) (huo : V.ownsRow (w.heap.size + 3) 28 1 q us.length us)
 (hur : ∀ j, j < past.length → V.ownsRow (w.heap.size + 3) 3 1 (us.getD j undef) (past.getD j []).length ((past.getD j []).map (Value.int .i64))) (how : W.ownsRow (w.heap.size + 3) 28 1 v (us.length + 1) (us ++ [y])) (hg : V.grownBy W q.ownBlock)
 (hr : Ints V r M) (hrf : ∀ g, r.ownBlock = some g → B ≤ g) (hqb : ∀ g, q.ownBlock = some g → g < B) : Fin12 w b y q r M v (past ++ [row]) W := by
 have hlt := h.lt
 have n1 : q.ownBlock ≠ some (w.heap.size + 2) := own_old huo (by omega)
 have n2 : q.ownBlock ≠ some b := own_not huo h.out (by decide)
 refine ⟨h.one.below.grown hg h.one.below.size (fun k e => by have := huo.lt k e; omega), h.lt, (hg.block _ (gE9.1 h.out).1 (fun e => n2 e.symm)).trans h.out, (hg.block _ (gE9.1 h.one.res).1 (fun e => n1 e.symm)).trans h.one.res, OwnSS.push hul huo hur h.now how hg, ints_apart hr hg (fun g e1 e2 => ?_)⟩
 have := hrf g e1
 have := hqb g e2
 omega
theorem and_i64 (a b : Nat) (ha : a < 4294967296) (hb : b < 4294967296) : bits .and .i64 (a : Int) (b : Int) = ((a &&& b : Nat) : Int) := by
 have hx : a &&& b < 2 ^ 32 := Nat.and_lt_two_pow a (by omega)
 have h1 : (BitVec.ofInt 64 (a : Int)).toNat = a := by
  rw [BitVec.ofInt_natCast, BitVec.toNat_ofNat]; exact Nat.mod_eq_of_lt (by omega)
 have h2 : (BitVec.ofInt 64 (b : Int)).toNat = b := by
  rw [BitVec.ofInt_natCast, BitVec.toNat_ofNat]; exact Nat.mod_eq_of_lt (by omega)
 show IntKind.i64.wrap ((BitVec.ofInt 64 (a : Int) &&& BitVec.ofInt 64 (b : Int)).toNat : Int) = _
 rw [BitVec.toNat_and, h1, h2]
 exact IntWalk.i64_in _ (by omega)
theorem hundred {f : Nat → Nat} (hf : ∀ k, f k ≤ 100) (r : Nat) : ∀ k, dR f r k ≤ 100 := dR_le hf r
theorem dR_next (f : Nat → Nat) (r : Nat) : dF (dR f r) = dR f (r + 1) := rfl
def mostF (f : Nat → Nat) : Nat → Nat
 | 0 => 0
 | k + 1 => max (mostF f k) (f k)
theorem mostF_le {f : Nat → Nat} {M : Nat} (h : ∀ k, f k ≤ M) : ∀ n, mostF f n ≤ M
 | 0 => Nat.zero_le _
 | n + 1 => by have := mostF_le h n; have := h n; show max _ _ ≤ M; omega
theorem mostF_zero {f : Nat → Nat} : ∀ {n : Nat}, mostF f n = 0 ↔ ∀ k, k < n → f k = 0
 | 0 => by simp [mostF]
 | n + 1 => by
   show max (mostF f n) (f n) = 0 ↔ _
   have h := mostF_zero (f := f) (n := n)
   constructor
   · intro h1 k hk
     by_cases e : k = n
     · subst e; omega
     · exact h.1 (by omega) k (by omega)
   · intro h1
     have h2 := h.2 fun k hk => h1 k (by omega)
     have h3 := h1 n (by omega)
     omega
theorem endN_no {xs : List Int} (h : ringB xs = false) : endI xs = -1 ∧ endB xs = false := by
 have : endN xs = none := by unfold endN; rw [h]; rfl
 unfold endI endB; rw [this]; exact ⟨rfl, rfl⟩
theorem endN_at {xs : List Int} (h : ringB xs = true) {r : Nat} (h1 : r ≤ 2000) (h2 : ∀ k, k < xs.length → dR (ringF xs) r k = 0) (h3 : ∀ j, j < r → ¬ ∀ k, k < xs.length → dR (ringF xs) j k = 0) : endI xs = r ∧ endB xs = true := by
 have : endN xs = some r := by
  unfold endN
  rw [if_pos h, firstI_some]
  refine ⟨by omega, zeroB_iff.2 h2, fun j hj => ?_⟩
  cases e : zeroB (ringF xs) xs.length j with
  | false => rfl
  | true => exact absurd (zeroB_iff.1 e) (h3 j hj)
 unfold endI endB; rw [this]; exact ⟨rfl, rfl⟩
theorem endN_none {xs : List Int} (h : ringB xs = true) (h3 : ∀ j, j ≤ 2000 → ¬ ∀ k, k < xs.length → dR (ringF xs) j k = 0) : endI xs = -1 ∧ endB xs = false := by
 have : endN xs = none := by
  unfold endN
  rw [if_pos h, firstI_none]
  intro j hj
  cases e : zeroB (ringF xs) xs.length j with
  | false => rfl
  | true => exact absurd (zeroB_iff.1 e) (h3 j (by omega))
 unfold endI endB; rw [this]; exact ⟨rfl, rfl⟩
end
end Go.Proofs.YtiaaefapbcjgmaaGreatDoor
