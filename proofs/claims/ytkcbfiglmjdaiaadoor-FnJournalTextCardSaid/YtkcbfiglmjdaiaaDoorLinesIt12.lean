/-
  strings.Lines: its iterator hands out the lines of the text.
-/
import Derived.Test.YtkcbfiglmjdaiaaDoorRangeM
import Derived.Test.YtkcbfiglmjdaiaaDoorCut12
import Derived.Test.YtkcbfiglmjdaiaaDoorBaseZ
namespace Go.Proofs.YtkcbfiglmjdaiaaDoor
open Go Go.RowKit
attribute [local go_sem] Oper.semAt_some

theorem grownBy_setAtL (W : World) (b i : Nat) (v : Value) : W.grownBy (W.setCell ⟨b, i, none⟩ v) (some b) :=
  ⟨rfl, rfl, rfl, (KeepsWalks.setCell W _ v).size, fun k _ hk => Below.heap_setCell _ _ _ k (fun e => hk (by rw [e]))⟩
theorem boxed_setL {W : World} {B : Nat} {t : TypeId} {v : Value} (h : Boxed W B t v) (u : Value) : Boxed (W.setCell ⟨B, 0, none⟩ u) B t u := by
  have h' : W.heap[B]? = some (.cells #[v] t (0, 0)) := h
  obtain ⟨hlt, hk⟩ := Array.getElem?_eq_some_iff.1 h'
  show (W.heap.modify B _)[B]? = _
  rw [Array.getElem?_eq_getElem (by rw [Array.size_modify]; exact hlt), Array.getElem_modify_self, hk]; rfl
theorem below_grownL {W V : World} (h : Below W.heap.size W V) : W.grownBy V none := ⟨h.os, h.tape, h.output, h.size, fun k hk _ => h.block k hk⟩
/-- How long the text in a cell is. -/
def leftL (W : World) (B : Nat) : Nat := match W.cell? ⟨B, 0, none⟩ with | some (.string S) => S.size | _ => 0

set_option maxRecDepth 100000 in
set_option maxHeartbeats 2000000 in
theorem lines_stops (s0 : List Nat) (hs0 : ∀ x ∈ s0, x < 256) (hn0 : s0.length ≤ 1100000) (n : Nat) (Bs : Nat) (w : World) (hBs : Boxed w Bs 9 (txt s0)) :
    SeqMut n Tryd.prog 34 #[.pointer (some ⟨Bs, 0, none⟩)] (fun x => #[txt x]) (fun k => k = Bs) (linL [] s0) w := by
  intro l J Jx W hW hJ hJx hY h0
  have hb0 := boxed_below hBs hW
  clear hBs hW
  obtain ⟨XS, hXS⟩ : ∃ XS, linL [] s0 = XS := ⟨_, rfl⟩
  rw [hXS] at hY ⊢
  refine callsIn_of_wp_marks Tryd.func34 rfl trivial ?_ rfl
  simp only [Tryd.ntmps34, List.size_toArray, List.length_cons, List.length_nil, Nat.reduceAdd, Nat.reduceSub, Array.replicate_succ, Array.replicate_zero, List.push_toArray, List.append_toArray, List.nil_append, List.cons_append]
  gi_wp2
  gi_loopw [3] (fun _ wr => ∃ (r : List Nat) (pre : List (List Nat)), (∀ x ∈ r, x < 256) ∧ r.length ≤ 1100000 ∧ XS = pre ++ linL [] r ∧ J (fun _ => False) pre wr ∧ Boxed wr Bs 9 (txt r)) (fun _ wr => leftL wr Bs)
  case atStart => exact ⟨s0, [], hs0, hn0, by rw [hXS]; rfl, h0, hb0⟩
  case round =>
    clear h0 hb0 hs0 hn0 hXS
    obtain ⟨r, pre, hr, hrn, hXS, hJr, hb⟩ := hrel
    have hcell := hb.cell
    have hsz := str_size r
    have hnl := fun V => newline_in r hr V
    by_cases hr0 : r.length = 0
    · obtain rfl := List.length_eq_zero_iff.1 hr0
      have hx := hide (show XS = pre by rw [hXS]; simp [linL])
      have hz : (str []).size = 0 := by kernel_rfl
      unfold txt at hcell
      generalize str [] = S at *
      clear hXS hnl hrn hr0
      gi_wp2
      exact ⟨_, results_none rfl _ _ _, ⟨_, rfl⟩, .inl ⟨_, by rw [hx.out]; exact hJr⟩⟩
    · have hcell0 := hcell
      have hpos : (0 : Int) < (r.length : Int) := by omega
      obtain ⟨S, hS⟩ : ∃ S, str r = S := ⟨_, rfl⟩
      have hbS : Boxed wr Bs 9 (.string S) := by rw [← hS]; exact hb
      unfold txt at hcell hcell0
      rw [hS] at hcell hsz hnl hcell0
      gi_wp2_with fail
      refine ⟨trivial, ?_⟩
      refine ⟨fun h => by simp [Fence.wide] at h, ?_⟩
      gi_at_call 35
      refine (callsIn_wide.2 (hnl _)).mono ?_
      clear hnl
      rintro e w3 ⟨hcase, rfl⟩
      rcases hcase with ⟨rfl, hno⟩ | ⟨i, rfl, hi1, hi2⟩
      · have hne : r ≠ [] := fun e => hr0 (by rw [e]; rfl)
        have hXS1 : XS = pre ++ r :: linL [] [] := by
          rw [hXS, lin_none r [] hno, if_neg (by simpa using hne)]
          simp [linL]
        have g1 := grownBy_setAtL wr Bs 0 (.string ⟨#[]⟩)
        have hb1 : Boxed (wr.setCell ⟨Bs, 0, none⟩ (.string ⟨#[]⟩)) Bs 9 (txt []) := boxed_setL hbS _
        have hJ1 : J (fun _ => False) pre (wr.setCell ⟨Bs, 0, none⟩ (.string ⟨#[]⟩)) := hJ.put hJr g1 (fun r e => by cases e; exact .inl rfl)
        have hfz := hbS.frozen
        obtain ⟨W1, hW1⟩ : ∃ W1, wr.setCell ⟨Bs, 0, none⟩ (.string ⟨#[]⟩) = W1 := ⟨_, rfl⟩
        rw [hW1] at hb1 hJ1
        clear g1 hXS
        obtain ⟨fn, tmps, assign, body, hy, hR⟩ := hY _ pre r (linL [] []) _ hXS1 hJ1
        simp only [txt, hS] at hy
        gi_wp2
        refine ⟨fun h => by simp [Fence.wide] at h, ?_⟩
        refine hR.mono ?_
        rintro e W3 (⟨rfl, hJ3, hk3⟩ | ⟨rfl, hJx3, hk3⟩)
        · have hb4 : Boxed W3 Bs 9 (txt []) := (hk3.same Bs hb1.lt (.inl rfl)).trans hb1
          have hm4 := hb4.cell
          gi_wp2
          go_roundw
          case rel => exact ⟨[], pre ++ [r], (by simp), (by simp), by rw [hXS1]; simp, hJ3, hb4⟩
          case measure => unfold leftL; rw [hm4, hcell0]; simp only [txt]; show (str []).size < _; rw [str_size, List.length_nil]; omega
        · gi_wp2
          exact ⟨_, results_none rfl _ _ _, ⟨_, rfl⟩, .inr ⟨_, _, ⟨linL [] [], by rw [hXS1]; simp⟩, hJx3⟩⟩
      · have hil : i < r.length := by
          rcases Nat.lt_or_ge i r.length with h | h
          · exact h
          · rw [List.getElem?_eq_none h] at hi1; cases hi1
        have hXe : S.extract 0 (i + 1) = str (r.take (i + 1)) := by rw [← hS, str_cut]; simp
        have hYe : S.extract (i + 1) S.size = str (r.drop (i + 1)) := by
          rw [← hS, str_cut, str_size, List.take_of_length_le (by simp)]
        have hXS1 : XS = pre ++ r.take (i + 1) :: linL [] (r.drop (i + 1)) := by
          rw [hXS, lin_hit r [] i hi1 hi2]
          rfl
        obtain ⟨x1, hx1⟩ : ∃ x1, r.take (i + 1) = x1 := ⟨_, rfl⟩
        obtain ⟨r2, hr2e⟩ : ∃ r2, r.drop (i + 1) = r2 := ⟨_, rfl⟩
        have hr2 : ∀ x ∈ r2, x < 256 := fun x hx => hr x (List.mem_of_mem_drop (hr2e ▸ hx))
        have hr2n : r2.length < r.length := by rw [← hr2e, List.length_drop]; omega
        rw [hx1] at hXe hXS1
        rw [hr2e] at hYe hXS1
        obtain ⟨X, hX⟩ : ∃ X, str x1 = X := ⟨_, rfl⟩
        obtain ⟨Y, hYY⟩ : ∃ Y, str r2 = Y := ⟨_, rfl⟩
        rw [hX] at hXe
        rw [hYY] at hYe
        have hb3 := hbS
        have hii : (i : Int) + 1 ≤ (r.length : Int) := by omega
        rw [hsz] at hYe
        clear hi1 hi2 hx1 hr2e hXS hcell hS hb hr
        gi_wp2_with fail
        refine wpIn_region_put 9 [(some 12, 0), (some 13, 1), (some 14, 2), (some 15, 3), (some 16, 4), (some 17, 5), (some 18, 6), (some 19, 7), (some 3, 8)] (by kernel_rfl) (by kernel_rfl) (by kernel_rfl) (by decide) (by rfl) (by decide)
          (fun j v _ => match j with | 0 => v = .string S | 1 => v = .int .i64 i | 2 => v = .int .i64 ((i : Int) + 1) | 3 => v = .string X | 4 => v = .string S | 5 => v = .int .i64 i | 6 => v = .int .i64 ((i : Int) + 1) | 7 => v = .string Y | 8 => v = .string X | _ => True)
          (fun j v V V' h _ => match j, h with | 0, h => h | 1, h => h | 2, h => h | 3, h => h | 4, h => h | 5, h => h | 6, h => h | 7, h => h | 8, h => h | (_ + 9), _ => trivial)
          ?step ?tail
        case step =>
          rintro j oo s V hj ho hBV hd Q' hQ
          rcases (show j = 0 ∨ j = 1 ∨ j = 2 ∨ j = 3 ∨ j = 4 ∨ j = 5 ∨ j = 6 ∨ j = 7 ∨ j = 8 by omega) with rfl | rfl | rfl | rfl | rfl | rfl | rfl | rfl | rfl
          all_goals
            simp at ho
            subst ho
            simp only [putsOf, Act.put, List.setIfInBounds_toArray, List.set_cons_succ, List.set_cons_zero] at hQ ⊢
            have hQ' := hide hQ
            clear hQ
          · clear hd
            have hcV := (boxed_below hb3 hBV).cell
            gi_wp2
            exact hQ'.out _ _ (Below.refl _ _) rfl
          · clear hd
            gi_wp2
            exact hQ'.out _ _ (Below.refl _ _) rfl
          · have e1 : s 1 = .int .i64 i := hd 1 (by kernel_rfl)
            clear hd
            have hw : IntKind.i64.wrap ((i : Int) + 1) = (i : Int) + 1 := IntWalk.i64_in _ (by omega)
            gi_wp2
            have hr := hQ'.out
            simp only [e1] at hr ⊢
            exact hr _ _ (Below.refl _ _) rfl
          · have e1 : s 0 = .string S := hd 0 (by kernel_rfl)
            have e2 : s 2 = .int .i64 ((i : Int) + 1) := hd 2 (by kernel_rfl)
            clear hd
            gi_wp2
            have hr := hQ'.out
            simp only [e1, e2] at hr ⊢
            exact hr _ _ (Below.refl _ _) rfl
          · clear hd
            have hcV := (boxed_below hb3 hBV).cell
            gi_wp2
            exact hQ'.out _ _ (Below.refl _ _) rfl
          · clear hd
            gi_wp2
            exact hQ'.out _ _ (Below.refl _ _) rfl
          · have e1 : s 5 = .int .i64 i := hd 5 (by kernel_rfl)
            clear hd
            have hw : IntKind.i64.wrap ((i : Int) + 1) = (i : Int) + 1 := IntWalk.i64_in _ (by omega)
            gi_wp2
            have hr := hQ'.out
            simp only [e1] at hr ⊢
            exact hr _ _ (Below.refl _ _) rfl
          · have e1 : s 4 = .string S := hd 4 (by kernel_rfl)
            have e2 : s 6 = .int .i64 ((i : Int) + 1) := hd 6 (by kernel_rfl)
            clear hd
            gi_wp2
            have hr := hQ'.out
            simp only [e1, e2] at hr ⊢
            exact hr _ _ (Below.refl _ _) rfl
          · have e1 : s 3 = .string X := hd 3 (by kernel_rfl)
            clear hd
            gi_wp2
            have hr := hQ'.out
            simp only [e1] at hr ⊢
            exact hr _ _ (Below.refl _ _) rfl

        case tail =>
          rintro s V hBV hd
          have f7 : s 7 = .string Y := hd 7 (by omega)
          have f8 : s 8 = .string X := hd 8 (by omega)
          clear hd
          have hbV := boxed_below hb3 hBV
          have hfz := hbV.frozen
          have hcV := hbV.cell
          have g1 := grownBy_setAtL V Bs 0 (.string Y)
          have hb1 : Boxed (V.setCell ⟨Bs, 0, none⟩ (.string Y)) Bs 9 (txt r2) := by unfold txt; rw [hYY]; exact boxed_setL hbV _
          have hJV : J (fun _ => False) pre V := hJ.put hJr (below_grownL hBV) (fun r e => by cases e)
          have hJ1 : J (fun _ => False) pre (V.setCell ⟨Bs, 0, none⟩ (.string Y)) := hJ.put hJV g1 (fun r e => by cases e; exact .inl rfl)
          obtain ⟨W1, hW1⟩ : ∃ W1, V.setCell ⟨Bs, 0, none⟩ (.string Y) = W1 := ⟨_, rfl⟩
          rw [hW1] at hb1 hJ1
          clear g1 hJV
          simp only [putsOf, Act.put, List.setIfInBounds_toArray, List.set_cons_succ, List.set_cons_zero]
          simp only [List.drop_succ_cons, List.drop_zero]
          simp only [f7, f8]
          obtain ⟨fn, tmps, assign, body, hy, hR⟩ := hY _ pre x1 (linL [] r2) _ hXS1 hJ1
          simp only [txt, hX] at hy
          gi_wp2
          refine ⟨fun h => by simp [Fence.wide] at h, ?_⟩
          refine hR.mono ?_
          rintro e W3 (⟨rfl, hJ3, hk3⟩ | ⟨rfl, hJx3, hk3⟩)
          · have hb4 : Boxed W3 Bs 9 (txt r2) := (hk3.same Bs hb1.lt (.inl rfl)).trans hb1
            have hm4 := hb4.cell
            gi_wp2
            go_roundw
            case rel => exact ⟨r2, pre ++ [x1], hr2, (by omega), by rw [hXS1]; simp, hJ3, hb4⟩
            case measure => unfold leftL; rw [hm4, hcell0]; simp only [txt]; show (str r2).size < S.size; rw [str_size]; omega
          · gi_wp2
            exact ⟨_, results_none rfl _ _ _, ⟨_, rfl⟩, .inr ⟨_, _, ⟨linL [] r2, by rw [hXS1]; simp⟩, hJx3⟩⟩
end Go.Proofs.YtkcbfiglmjdaiaaDoor
