/-
  Parts of the proofs, laid together: AppTxt12, Exact12s, LineS12, LineT12, OpenDesk, OpenTexts, RegMadeP, SayKit12, SayKit12b, SayS12, Shaped12.
-/
import Derived.WalkKit
import Derived.Laws.Concat
import Derived.Laws.Strings2
import Derived.OrdersIn
import Derived.TacticsIn
import Derived.Test.YtiaaefapbcjgmaaGreatDoorProg
import Derived.OwnWalkIn
import Derived.Deep.RegionLaw
import Derived.RangeFuncBox
import Derived.Laws.DeepStrings4
import Derived.Laws.Cover1
import Derived.Maps.AppendAt
import Derived.WalkSpells
import Derived.RangeFuncNested
import Derived.RangeFuncBound
import Derived.RangeFuncCalls
import Derived.RangeFuncLeaves
import Derived.BigRegion
import Derived.Shelf.Abstract
import Derived.Shelf.RegionOpen
import Derived.TacticsInMore
import Derived.LoopNIn
import Derived.LoopIn
import Derived.Deep.QuietTactic
import Derived.BigQuiet
import Derived.Below
import Derived.Laws.BytesString
import Derived.Deep.RegionWith
import Derived.DeepKeys5
import Derived.Maps.Keyed
import Derived.Deep.DeepCutAuto
import Derived.Laws.AppendOwnNone
import Derived.Laws.CopyOwn
import Derived.StillTailTactics
import Derived.Maps.OwnSet
import Derived.Laws.Bits64
import Derived.Laws.Bits64b
import Derived.Lib.AppendZeros
import Derived.Lib.AppendZerosOnto
import Derived.ControlIn
import Derived.Lib.AtoiAll
import Derived.Lib.AtoiAllCases
import Derived.Lib.ItoaNum
import Derived.Lib.ItoaMem
import Derived.Lib.SplitLaws
import Derived.Lib.AppendIntMem
import Derived.WideLaws
import Derived.Lib.SlicesS
import Derived.BigCall
import Derived.Maps.Own
import Derived.Maps.OwnOps
import Derived.StringKeys
import Derived.Shelf.Strings.BuilderK
import Derived.Lib.FrozenHead
import Derived.Tactics
import Derived.Tactics2
import Derived.Defers
import Derived.Laws.Pointers
import Derived.Laws.LoneSync
import Derived.RegionTactic
import Derived.RegionCalls
import Derived.ChangeAlike
import Derived.Laws.EntriesVeiled
import Derived.Laws.OwnMore
import Derived.Test.YtiaaefapbcjgmaaGreatDoorRows
import Derived.HandedShaped
import Derived.Stop.LaidErr
import Derived.Lib.LaidTab
import Derived.LaidLaws
import Derived.Deep.Slices
import Derived.Deep.Fields
import Derived.ChangeSame
import Derived.ChangeSlices
import Derived.OpenShut
import Derived.Lib.SmallJoins
import Derived.ChangeArms
import Derived.Test.YtiaaefapbcjgmaaGreatDoorLay12
import Derived.Test.YtiaaefapbcjgmaaGreatDoorLay6
import Derived.Test.YtiaaefapbcjgmaaGreatDoorPe0
import Derived.Test.YtiaaefapbcjgmaaGreatDoorPe1
import Derived.Test.YtiaaefapbcjgmaaGreatDoorPe2
import Derived.Test.YtiaaefapbcjgmaaGreatDoorPe3
import Derived.Test.YtiaaefapbcjgmaaGreatDoorPe4
namespace Go.Proofs.YtiaaefapbcjgmaaGreatDoor
open Go Go.RowKit Go.Shelf
attribute [local go_sem] Oper.semAt_some

set_option maxRecDepth 100000 in
set_option maxHeartbeats 4000000 in
theorem specLine_ones (x p : Value) (d : Dk) (w : World) (hx : Ints w x d.1) (hp : PastI w p d.2) (hb : deskB d = true) (k n : Int) (hr : rdV [111, 110, 101, 115] = ((k, n), false)) :
    Calls Tryz.prog 21 #[.agg #[x, p], .string ⟨#[111, 110, 101, 115]⟩] w fun e w' => ∃ y, e = .returned (.tuple #[y, .string (str (decI (onesV d.1)))]) ∧ DeskI w' y d ∧ CapN w.heap.size y ∧ Below w.heap.size w w' := by
  obtain ⟨hd1, hd2, hd3⟩ := deskB_is.1 hb
  have hl1 := sideB_len hd2
  have hB : Below w.heap.size w ((w.alloc (.cells #[x, p] 31)).alloc (.cells #[.slice none 0 0, .slice none 0 0] 31)) := ((Below.refl _ w).alloc (Nat.le_refl _) _).alloc (by rw [World.size_alloc]; omega) _
  have k0 : ((w.alloc (.cells #[x, p] 31)).alloc (.cells #[.slice none 0 0, .slice none 0 0] 31)).heap[w.heap.size]? = some (.cells #[x, p] 31 (0, 0)) := (Below.heap_alloc _ _ _ (by rw [World.size_alloc]; omega)).trans (World.alloc_heap_new w _)
  have k1 := World.alloc_heap_new (w.alloc (.cells #[x, p] 31)) (.cells #[.slice none 0 0, .slice none 0 0] 31)
  rw [World.size_alloc] at k1
  have hsz : w.heap.size + 2 ≤ ((w.alloc (.cells #[x, p] 31)).alloc (.cells #[.slice none 0 0, .slice none 0 0] 31)).heap.size := by simp
  obtain ⟨W1, hW1⟩ : ∃ W1, (w.alloc (.cells #[x, p] 31)).alloc (.cells #[.slice none 0 0, .slice none 0 0] 31) = W1 := ⟨_, rfl⟩
  rw [hW1] at hB k0 k1 hsz
  have hOK := specDeskOk (.agg #[x, p]) d W1 ⟨x, p, rfl, hx.below hB, hp.below hB⟩ (deskB_size hb)
  rw [hb] at hOK
  have hKp := fun V (hV : Below w.heap.size w V) => specCopy x p d V (hx.below hV) (hp.below hV) hb
  have hRd : ∀ V, Calls Tryz.prog 47 #[.string ⟨#[111, 110, 101, 115]⟩] V fun e w' => e = .returned (.tuple #[dV (rdV [111, 110, 101, 115]).1.1 (rdV [111, 110, 101, 115]).1.2, .bool (rdV [111, 110, 101, 115]).2]) ∧ Below V.heap.size V w' := fun V => specReadDeed [111, 110, 101, 115] (by decide) (by decide) V
  have hO := fun V (hV : Below w.heap.size w V) => specOnes x d.1 V (hx.below hV) (lies_row hx hl1.1) (by omega)
  have hT := fun V => specNum (onesV d.1) (ones_nn hd2) (by have := onesV_big hd2; omega) V
  obtain ⟨N, hN⟩ : ∃ N, onesV d.1 = N := ⟨_, rfl⟩
  rw [hN] at hO hT ⊢
  obtain ⟨S, hS⟩ : ∃ S, str (decI N) = S := ⟨_, rfl⟩
  rw [hS] at hT ⊢
  rw [hr] at hRd
  simp only at hRd
  unfold dV at hRd
  obtain ⟨xa, xc, rfl⟩ := hx.shape
  obtain ⟨pa, pc, rfl, _⟩ := id hp
  obtain ⟨c0, c1, _, _⟩ := row_at k0
  have l0 := (Array.getElem?_eq_some_iff.1 k0).1
  have l1 := (Array.getElem?_eq_some_iff.1 k1).1
  clear hx hp hd1 hr hN hS
  refine (callsIn_wide (n := 9)).1 ?_
  refine callsIn_of_wp Tryz.func21 rfl trivial ?_ rfl
  simp only [Tryz.ntmps21, List.size_toArray, List.length_cons, List.length_nil, Nat.reduceAdd, Nat.reduceSub, Array.replicate_succ, Array.replicate_zero, List.push_toArray, List.append_toArray, List.nil_append, List.cons_append]
  gi_wp2_with fail
  refine ⟨trivial, ?_⟩
  gi_at_call 13
  refine (callsIn_wide.2 hOK).mono ?_
  rintro e W2 ⟨rfl, hB2⟩
  have hB02 := hB.trans (hB2.mono hB.size)
  have k02 := (hB2.block _ l0).trans k0
  have k12 := (hB2.block _ l1).trans k1
  have hsz2 := Nat.le_trans hsz hB2.size
  obtain ⟨c0, c1, _, _⟩ := row_at k02
  clear hOK hB2 k0 k1 l0 l1 hB hsz
  gi_wp2_with fail
  refine ⟨trivial, ?_⟩
  gi_at_call 65
  refine (callsIn_wide.2 (hKp _ hB02)).mono ?_
  rintro e W3 ⟨y, q, rfl, hy, hq, hB3⟩
  have hLs3 : Ls w W3.heap.size (.slice xa d.1.length xc) (.slice pa d.2.length pc) y q d (W3.alloc (.cells #[y, q] 31)) := by
    have hB03 := hB02.trans (hB3.mono hB02.size)
    have hA := (Below.refl _ W3).alloc (Nat.le_refl _) (.cells #[y, q] 31)
    have h02 := (hB3.block _ (Array.getElem?_eq_some_iff.1 k02).1).trans k02
    have h12 := (hB3.block _ (Array.getElem?_eq_some_iff.1 k12).1).trans k12
    exact ⟨hB03.alloc hB03.size _, (hA.block _ (Array.getElem?_eq_some_iff.1 h02).1).trans h02, (hA.block _ (Array.getElem?_eq_some_iff.1 h12).1).trans h12, Nat.le_trans hsz2 hB3.size, World.alloc_heap_new W3 _, own_below (own_fromD hy hsz2) hA, (hq.down hsz2).below hA⟩
  obtain ⟨y1, y2, rfl⟩ := own_form hy
  obtain ⟨q1, q2, rfl⟩ := hq.form
  obtain ⟨b, hbe⟩ : ∃ b, W3.heap.size = b := ⟨_, rfl⟩
  obtain ⟨W4, hW4⟩ : ∃ W4, W3.alloc (.cells #[.slice y1 d.1.length y2, .slice q1 d.2.length q2] 31) = W4 := ⟨_, rfl⟩
  rw [hW4, hbe] at hLs3
  obtain ⟨c0, c1, _, _⟩ := row_at hLs3.box
  clear hKp hB02 k02 k12 hsz2 hy hq hB3
  gi_wp2_with fail
  refine ⟨trivial, ?_⟩
  gi_at_call 47
  refine (callsIn_wide.2 (hRd _)).mono ?_
  rintro e W5 ⟨rfl, hB5⟩
  have hLs5 := hLs3.more hB5
  have hA6 := (Below.refl _ W5).alloc (Nat.le_refl _) (.cells #[.int .i64 k, .int .i64 n] 39)
  have kd := World.alloc_heap_new W5 (.cells #[.int .i64 k, .int .i64 n] 39)
  have hLs6 := hLs5.more hA6
  clear hRd hLs3 hB5 hbe hW4
  obtain ⟨W6, hW6⟩ : ∃ W6, W5.alloc (.cells #[.int .i64 k, .int .i64 n] 39) = W6 := ⟨_, rfl⟩
  rw [hW6] at kd hLs6
  obtain ⟨c0, c1, _, _⟩ := row_at hLs6.box
  obtain ⟨r0, r1, f0, f1⟩ := row_at hLs6.res
  obtain ⟨s0, s1, _, _⟩ := row_at hLs6.out
  obtain ⟨e0, e1, _, _⟩ := row_at kd
  clear hLs5 hA6
  gi_wp2
  refine wpIn_region_put 5 [(some 63, 0), (some 64, 1), (some 65, 2), (some 66, 3), (some 67, 4)] (by kernel_rfl) (by kernel_rfl) (by kernel_rfl) (by decide) (by rfl) (by decide)
    (fun j v V => match j with | 0 => v = .agg #[.slice y1 d.1.length y2, .slice q1 d.2.length q2] | 1 => v = .pointer (some ⟨w.heap.size, 0, none⟩) | 2 => v = .slice xa d.1.length xc | 3 => v = .int .i64 N | 4 => v = .string S | _ => True)
    (fun j v V V' h _ => match j, h with | 0, h => h | 1, h => h | 2, h => h | 3, h => h | 4, h => h | (_ + 5), _ => trivial)
    ?_ ?_
  · rintro j oo s V hj ho hBV hd Q' hQ
    have hLV := hLs6.more hBV
    obtain ⟨c0, c1, _, _⟩ := row_at hLV.box
    obtain ⟨s0, s1, _, _⟩ := row_at hLV.out
    rcases (show j = 0 ∨ j = 1 ∨ j = 2 ∨ j = 3 ∨ j = 4 by omega) with rfl | rfl | rfl | rfl | rfl
    all_goals
      simp at ho
      subst ho
      simp only [putsOf, Act.put, List.setIfInBounds_toArray, List.set_cons_succ, List.set_cons_zero] at hQ ⊢
      have hQ' := hide hQ
      clear hQ
    · clear hd
      gi_wp2
      exact hQ'.out _ _ (Below.refl _ _) rfl
    · clear hd
      gi_wp2
      exact hQ'.out _ _ (Below.refl _ _) rfl
    · have p1 : s 1 = .pointer (some ⟨w.heap.size, 0, none⟩) := hd 1 (by kernel_rfl)
      clear hd
      gi_wp2
      have hr := hQ'.out
      simp only [p1] at hr ⊢
      exact hr _ _ (Below.refl _ _) rfl
    · have p2 : s 2 = .slice xa d.1.length xc := hd 2 (by kernel_rfl)
      have hOV := hO V hLV.below
      clear hd
      gi_wp2_with (refine ⟨trivial, ?_⟩; gi_at_call 68; go_loud (refine (callsIn_wide.2 hOV).mono ?_; rintro e W9 ⟨rfl, hB9⟩))
      have hr := hQ'.out
      simp only [p2] at hr ⊢
      exact hr _ _ hB9 rfl
    · have p3 : s 3 = .int .i64 N := hd 3 (by kernel_rfl)
      have hTV := hT V
      clear hd
      gi_wp2_with (refine ⟨trivial, ?_⟩; gi_at_call 67; go_loud (refine (callsIn_wide.2 hTV).mono ?_; rintro e W9 ⟨rfl, hB9⟩))
      have hr := hQ'.out
      simp only [p3] at hr ⊢
      exact hr _ _ hB9 rfl
  · rintro s V hBV hd
    have p0 : s 0 = .agg #[.slice y1 d.1.length y2, .slice q1 d.2.length q2] := hd 0 (by omega)
    have p4 : s 4 = .string S := hd 4 (by omega)
    clear hd
    have hLV := hLs6.more hBV
    obtain ⟨r0, r1, f0, f1⟩ := row_at hLV.res
    have hrs := hide (desk_set hLV.res (.slice y1 d.1.length y2) (.slice q1 d.2.length q2))
    have hfin := hide hLV.done
    clear hLV hLs6 hO hT
    simp only [putsOf, Act.put, List.setIfInBounds_toArray, List.set_cons_succ, List.set_cons_zero]
    simp only [List.drop_succ_cons, List.drop_zero]
    simp only [p0, p4]
    gi_wp2
    (try simp only [Exit.inBlock, Exit.then])
    exact bodyPost_ret (results_desk2 rfl _ _ (w.heap.size + 1) _ _ rfl hrs.out) rfl ⟨_, rfl, hfin.out.desk, hfin.out.cap, hfin.out.below⟩

set_option maxRecDepth 100000 in
set_option maxHeartbeats 4000000 in
theorem specLine_last (x p : Value) (d : Dk) (w : World) (hx : Ints w x d.1) (hp : PastI w p d.2) (hb : deskB d = true) (k n : Int) (hr : rdV [108, 97, 115, 116] = ((k, n), false)) :
    Calls Tryz.prog 21 #[.agg #[x, p], .string ⟨#[108, 97, 115, 116]⟩] w fun e w' => ∃ y, e = .returned (.tuple #[y, .string (str (decI (endV d.1)))]) ∧ DeskI w' y d ∧ CapN w.heap.size y ∧ Below w.heap.size w w' := by
  obtain ⟨hd1, hd2, hd3⟩ := deskB_is.1 hb
  have hl1 := sideB_len hd2
  have hB : Below w.heap.size w ((w.alloc (.cells #[x, p] 31)).alloc (.cells #[.slice none 0 0, .slice none 0 0] 31)) := ((Below.refl _ w).alloc (Nat.le_refl _) _).alloc (by rw [World.size_alloc]; omega) _
  have k0 : ((w.alloc (.cells #[x, p] 31)).alloc (.cells #[.slice none 0 0, .slice none 0 0] 31)).heap[w.heap.size]? = some (.cells #[x, p] 31 (0, 0)) := (Below.heap_alloc _ _ _ (by rw [World.size_alloc]; omega)).trans (World.alloc_heap_new w _)
  have k1 := World.alloc_heap_new (w.alloc (.cells #[x, p] 31)) (.cells #[.slice none 0 0, .slice none 0 0] 31)
  rw [World.size_alloc] at k1
  have hsz : w.heap.size + 2 ≤ ((w.alloc (.cells #[x, p] 31)).alloc (.cells #[.slice none 0 0, .slice none 0 0] 31)).heap.size := by simp
  obtain ⟨W1, hW1⟩ : ∃ W1, (w.alloc (.cells #[x, p] 31)).alloc (.cells #[.slice none 0 0, .slice none 0 0] 31) = W1 := ⟨_, rfl⟩
  rw [hW1] at hB k0 k1 hsz
  have hOK := specDeskOk (.agg #[x, p]) d W1 ⟨x, p, rfl, hx.below hB, hp.below hB⟩ (deskB_size hb)
  rw [hb] at hOK
  have hKp := fun V (hV : Below w.heap.size w V) => specCopy x p d V (hx.below hV) (hp.below hV) hb
  have hRd : ∀ V, Calls Tryz.prog 47 #[.string ⟨#[108, 97, 115, 116]⟩] V fun e w' => e = .returned (.tuple #[dV (rdV [108, 97, 115, 116]).1.1 (rdV [108, 97, 115, 116]).1.2, .bool (rdV [108, 97, 115, 116]).2]) ∧ Below V.heap.size V w' := fun V => specReadDeed [108, 97, 115, 116] (by decide) (by decide) V
  have hO := fun V (hV : Below w.heap.size w V) => specLast x d.1 V (hx.below hV) (by omega)
  have hT := fun V => specNum (endV d.1) (end_nn hd2) (by have := endV_big hd2; omega) V
  obtain ⟨N, hN⟩ : ∃ N, endV d.1 = N := ⟨_, rfl⟩
  rw [hN] at hO hT ⊢
  obtain ⟨S, hS⟩ : ∃ S, str (decI N) = S := ⟨_, rfl⟩
  rw [hS] at hT ⊢
  rw [hr] at hRd
  simp only at hRd
  unfold dV at hRd
  obtain ⟨xa, xc, rfl⟩ := hx.shape
  obtain ⟨pa, pc, rfl, _⟩ := id hp
  obtain ⟨c0, c1, _, _⟩ := row_at k0
  have l0 := (Array.getElem?_eq_some_iff.1 k0).1
  have l1 := (Array.getElem?_eq_some_iff.1 k1).1
  clear hx hp hd1 hr hN hS
  refine (callsIn_wide (n := 9)).1 ?_
  refine callsIn_of_wp Tryz.func21 rfl trivial ?_ rfl
  simp only [Tryz.ntmps21, List.size_toArray, List.length_cons, List.length_nil, Nat.reduceAdd, Nat.reduceSub, Array.replicate_succ, Array.replicate_zero, List.push_toArray, List.append_toArray, List.nil_append, List.cons_append]
  gi_wp2_with fail
  refine ⟨trivial, ?_⟩
  gi_at_call 13
  refine (callsIn_wide.2 hOK).mono ?_
  rintro e W2 ⟨rfl, hB2⟩
  have hB02 := hB.trans (hB2.mono hB.size)
  have k02 := (hB2.block _ l0).trans k0
  have k12 := (hB2.block _ l1).trans k1
  have hsz2 := Nat.le_trans hsz hB2.size
  obtain ⟨c0, c1, _, _⟩ := row_at k02
  clear hOK hB2 k0 k1 l0 l1 hB hsz
  gi_wp2_with fail
  refine ⟨trivial, ?_⟩
  gi_at_call 65
  refine (callsIn_wide.2 (hKp _ hB02)).mono ?_
  rintro e W3 ⟨y, q, rfl, hy, hq, hB3⟩
  have hLs3 : Ls w W3.heap.size (.slice xa d.1.length xc) (.slice pa d.2.length pc) y q d (W3.alloc (.cells #[y, q] 31)) := by
    have hB03 := hB02.trans (hB3.mono hB02.size)
    have hA := (Below.refl _ W3).alloc (Nat.le_refl _) (.cells #[y, q] 31)
    have h02 := (hB3.block _ (Array.getElem?_eq_some_iff.1 k02).1).trans k02
    have h12 := (hB3.block _ (Array.getElem?_eq_some_iff.1 k12).1).trans k12
    exact ⟨hB03.alloc hB03.size _, (hA.block _ (Array.getElem?_eq_some_iff.1 h02).1).trans h02, (hA.block _ (Array.getElem?_eq_some_iff.1 h12).1).trans h12, Nat.le_trans hsz2 hB3.size, World.alloc_heap_new W3 _, own_below (own_fromD hy hsz2) hA, (hq.down hsz2).below hA⟩
  obtain ⟨y1, y2, rfl⟩ := own_form hy
  obtain ⟨q1, q2, rfl⟩ := hq.form
  obtain ⟨b, hbe⟩ : ∃ b, W3.heap.size = b := ⟨_, rfl⟩
  obtain ⟨W4, hW4⟩ : ∃ W4, W3.alloc (.cells #[.slice y1 d.1.length y2, .slice q1 d.2.length q2] 31) = W4 := ⟨_, rfl⟩
  rw [hW4, hbe] at hLs3
  obtain ⟨c0, c1, _, _⟩ := row_at hLs3.box
  clear hKp hB02 k02 k12 hsz2 hy hq hB3
  gi_wp2_with fail
  refine ⟨trivial, ?_⟩
  gi_at_call 47
  refine (callsIn_wide.2 (hRd _)).mono ?_
  rintro e W5 ⟨rfl, hB5⟩
  have hLs5 := hLs3.more hB5
  have hA6 := (Below.refl _ W5).alloc (Nat.le_refl _) (.cells #[.int .i64 k, .int .i64 n] 39)
  have kd := World.alloc_heap_new W5 (.cells #[.int .i64 k, .int .i64 n] 39)
  have hLs6 := hLs5.more hA6
  clear hRd hLs3 hB5 hbe hW4
  obtain ⟨W6, hW6⟩ : ∃ W6, W5.alloc (.cells #[.int .i64 k, .int .i64 n] 39) = W6 := ⟨_, rfl⟩
  rw [hW6] at kd hLs6
  obtain ⟨c0, c1, _, _⟩ := row_at hLs6.box
  obtain ⟨r0, r1, f0, f1⟩ := row_at hLs6.res
  obtain ⟨s0, s1, _, _⟩ := row_at hLs6.out
  obtain ⟨e0, e1, _, _⟩ := row_at kd
  clear hLs5 hA6
  gi_wp2
  refine wpIn_region_put 5 [(some 70, 0), (some 71, 1), (some 72, 2), (some 73, 3), (some 74, 4)] (by kernel_rfl) (by kernel_rfl) (by kernel_rfl) (by decide) (by rfl) (by decide)
    (fun j v V => match j with | 0 => v = .agg #[.slice y1 d.1.length y2, .slice q1 d.2.length q2] | 1 => v = .pointer (some ⟨w.heap.size, 0, none⟩) | 2 => v = .slice xa d.1.length xc | 3 => v = .int .i64 N | 4 => v = .string S | _ => True)
    (fun j v V V' h _ => match j, h with | 0, h => h | 1, h => h | 2, h => h | 3, h => h | 4, h => h | (_ + 5), _ => trivial)
    ?_ ?_
  · rintro j oo s V hj ho hBV hd Q' hQ
    have hLV := hLs6.more hBV
    obtain ⟨c0, c1, _, _⟩ := row_at hLV.box
    obtain ⟨s0, s1, _, _⟩ := row_at hLV.out
    rcases (show j = 0 ∨ j = 1 ∨ j = 2 ∨ j = 3 ∨ j = 4 by omega) with rfl | rfl | rfl | rfl | rfl
    all_goals
      simp at ho
      subst ho
      simp only [putsOf, Act.put, List.setIfInBounds_toArray, List.set_cons_succ, List.set_cons_zero] at hQ ⊢
      have hQ' := hide hQ
      clear hQ
    · clear hd
      gi_wp2
      exact hQ'.out _ _ (Below.refl _ _) rfl
    · clear hd
      gi_wp2
      exact hQ'.out _ _ (Below.refl _ _) rfl
    · have p1 : s 1 = .pointer (some ⟨w.heap.size, 0, none⟩) := hd 1 (by kernel_rfl)
      clear hd
      gi_wp2
      have hr := hQ'.out
      simp only [p1] at hr ⊢
      exact hr _ _ (Below.refl _ _) rfl
    · have p2 : s 2 = .slice xa d.1.length xc := hd 2 (by kernel_rfl)
      have hOV := hO V hLV.below
      clear hd
      gi_wp2_with (refine ⟨trivial, ?_⟩; gi_at_call 69; go_loud (refine (callsIn_wide.2 hOV).mono ?_; rintro e W9 ⟨rfl, hB9⟩))
      have hr := hQ'.out
      simp only [p2] at hr ⊢
      exact hr _ _ hB9 rfl
    · have p3 : s 3 = .int .i64 N := hd 3 (by kernel_rfl)
      have hTV := hT V
      clear hd
      gi_wp2_with (refine ⟨trivial, ?_⟩; gi_at_call 67; go_loud (refine (callsIn_wide.2 hTV).mono ?_; rintro e W9 ⟨rfl, hB9⟩))
      have hr := hQ'.out
      simp only [p3] at hr ⊢
      exact hr _ _ hB9 rfl
  · rintro s V hBV hd
    have p0 : s 0 = .agg #[.slice y1 d.1.length y2, .slice q1 d.2.length q2] := hd 0 (by omega)
    have p4 : s 4 = .string S := hd 4 (by omega)
    clear hd
    have hLV := hLs6.more hBV
    obtain ⟨r0, r1, f0, f1⟩ := row_at hLV.res
    have hrs := hide (desk_set hLV.res (.slice y1 d.1.length y2) (.slice q1 d.2.length q2))
    have hfin := hide hLV.done
    clear hLV hLs6 hO hT
    simp only [putsOf, Act.put, List.setIfInBounds_toArray, List.set_cons_succ, List.set_cons_zero]
    simp only [List.drop_succ_cons, List.drop_zero]
    simp only [p0, p4]
    gi_wp2
    (try simp only [Exit.inBlock, Exit.then])
    exact bodyPost_ret (results_desk2 rfl _ _ (w.heap.size + 1) _ _ rfl hrs.out) rfl ⟨_, rfl, hfin.out.desk, hfin.out.cap, hfin.out.below⟩

set_option maxRecDepth 100000 in
set_option maxHeartbeats 4000000 in
theorem specLine_end (x p : Value) (d : Dk) (w : World) (hx : Ints w x d.1) (hp : PastI w p d.2) (hb : deskB d = true) (k n : Int) (hr : rdV [101, 110, 100] = ((k, n), false)) :
    Calls Tryz.prog 21 #[.agg #[x, p], .string ⟨#[101, 110, 100]⟩] w fun e w' => ∃ y, e = .returned (.tuple #[y, .string (str (if endB d.1 = true then decI (endI d.1) else [110, 111, 110, 101]))]) ∧ DeskI w' y d ∧ CapN w.heap.size y ∧ Below w.heap.size w w' := by
  obtain ⟨hd1, hd2, hd3⟩ := deskB_is.1 hb
  have hl1 := sideB_len hd2
  have hB : Below w.heap.size w ((w.alloc (.cells #[x, p] 31)).alloc (.cells #[.slice none 0 0, .slice none 0 0] 31)) := ((Below.refl _ w).alloc (Nat.le_refl _) _).alloc (by rw [World.size_alloc]; omega) _
  have k0 : ((w.alloc (.cells #[x, p] 31)).alloc (.cells #[.slice none 0 0, .slice none 0 0] 31)).heap[w.heap.size]? = some (.cells #[x, p] 31 (0, 0)) := (Below.heap_alloc _ _ _ (by rw [World.size_alloc]; omega)).trans (World.alloc_heap_new w _)
  have k1 := World.alloc_heap_new (w.alloc (.cells #[x, p] 31)) (.cells #[.slice none 0 0, .slice none 0 0] 31)
  rw [World.size_alloc] at k1
  have hsz : w.heap.size + 2 ≤ ((w.alloc (.cells #[x, p] 31)).alloc (.cells #[.slice none 0 0, .slice none 0 0] 31)).heap.size := by simp
  obtain ⟨W1, hW1⟩ : ∃ W1, (w.alloc (.cells #[x, p] 31)).alloc (.cells #[.slice none 0 0, .slice none 0 0] 31) = W1 := ⟨_, rfl⟩
  rw [hW1] at hB k0 k1 hsz
  have hOK := specDeskOk (.agg #[x, p]) d W1 ⟨x, p, rfl, hx.below hB, hp.below hB⟩ (deskB_size hb)
  rw [hb] at hOK
  have hKp := fun V (hV : Below w.heap.size w V) => specCopy x p d V (hx.below hV) (hp.below hV) hb
  have hRd : ∀ V, Calls Tryz.prog 47 #[.string ⟨#[101, 110, 100]⟩] V fun e w' => e = .returned (.tuple #[dV (rdV [101, 110, 100]).1.1 (rdV [101, 110, 100]).1.2, .bool (rdV [101, 110, 100]).2]) ∧ Below V.heap.size V w' := fun V => specReadDeed [101, 110, 100] (by decide) (by decide) V
  have hO := fun V (hV : Below w.heap.size w V) => specEnd10 x d.1 V (hx.below hV) (lies_row hx hl1.1) (by omega)
  have hT := fun (h : 0 ≤ endI d.1) V => specNum (endI d.1) h (by have := endI_big d.1; omega) V
  have hnn : endB d.1 = true → 0 ≤ endI d.1 := fun h => by
    unfold endB at h
    unfold endI
    cases he : endN d.1 with
    | none => rw [he] at h; cases h
    | some r => simp only; omega
  obtain ⟨N, hN⟩ : ∃ N, endI d.1 = N := ⟨_, rfl⟩
  obtain ⟨tb, htb⟩ : ∃ tb, endB d.1 = tb := ⟨_, rfl⟩
  rw [hN, htb] at hO hnn ⊢
  rw [hN] at hT
  obtain ⟨S, hS⟩ : ∃ S, str (decI N) = S := ⟨_, rfl⟩
  rw [hS] at hT
  have hout : str (if tb = true then decI N else [110, 111, 110, 101]) = if tb = true then S else ⟨#[110, 111, 110, 101]⟩ := by
    cases tb
    · kernel_rfl
    · simp only [if_true]; exact hS
  rw [hout]
  rw [hr] at hRd
  simp only at hRd
  unfold dV at hRd
  obtain ⟨xa, xc, rfl⟩ := hx.shape
  obtain ⟨pa, pc, rfl, _⟩ := id hp
  obtain ⟨c0, c1, _, _⟩ := row_at k0
  have l0 := (Array.getElem?_eq_some_iff.1 k0).1
  have l1 := (Array.getElem?_eq_some_iff.1 k1).1
  clear hx hp hd1 hr hN htb hS hout
  refine (callsIn_wide (n := 9)).1 ?_
  refine callsIn_of_wp Tryz.func21 rfl trivial ?_ rfl
  simp only [Tryz.ntmps21, List.size_toArray, List.length_cons, List.length_nil, Nat.reduceAdd, Nat.reduceSub, Array.replicate_succ, Array.replicate_zero, List.push_toArray, List.append_toArray, List.nil_append, List.cons_append]
  gi_wp2_with fail
  refine ⟨trivial, ?_⟩
  gi_at_call 13
  refine (callsIn_wide.2 hOK).mono ?_
  rintro e W2 ⟨rfl, hB2⟩
  have hB02 := hB.trans (hB2.mono hB.size)
  have k02 := (hB2.block _ l0).trans k0
  have k12 := (hB2.block _ l1).trans k1
  have hsz2 := Nat.le_trans hsz hB2.size
  obtain ⟨c0, c1, _, _⟩ := row_at k02
  clear hOK hB2 k0 k1 l0 l1 hB hsz
  gi_wp2_with fail
  refine ⟨trivial, ?_⟩
  gi_at_call 65
  refine (callsIn_wide.2 (hKp _ hB02)).mono ?_
  rintro e W3 ⟨y, q, rfl, hy, hq, hB3⟩
  have hLs3 : Ls w W3.heap.size (.slice xa d.1.length xc) (.slice pa d.2.length pc) y q d (W3.alloc (.cells #[y, q] 31)) := by
    have hB03 := hB02.trans (hB3.mono hB02.size)
    have hA := (Below.refl _ W3).alloc (Nat.le_refl _) (.cells #[y, q] 31)
    have h02 := (hB3.block _ (Array.getElem?_eq_some_iff.1 k02).1).trans k02
    have h12 := (hB3.block _ (Array.getElem?_eq_some_iff.1 k12).1).trans k12
    exact ⟨hB03.alloc hB03.size _, (hA.block _ (Array.getElem?_eq_some_iff.1 h02).1).trans h02, (hA.block _ (Array.getElem?_eq_some_iff.1 h12).1).trans h12, Nat.le_trans hsz2 hB3.size, World.alloc_heap_new W3 _, own_below (own_fromD hy hsz2) hA, (hq.down hsz2).below hA⟩
  obtain ⟨y1, y2, rfl⟩ := own_form hy
  obtain ⟨q1, q2, rfl⟩ := hq.form
  obtain ⟨b, hbe⟩ : ∃ b, W3.heap.size = b := ⟨_, rfl⟩
  obtain ⟨W4, hW4⟩ : ∃ W4, W3.alloc (.cells #[.slice y1 d.1.length y2, .slice q1 d.2.length q2] 31) = W4 := ⟨_, rfl⟩
  rw [hW4, hbe] at hLs3
  obtain ⟨c0, c1, _, _⟩ := row_at hLs3.box
  clear hKp hB02 k02 k12 hsz2 hy hq hB3
  gi_wp2_with fail
  refine ⟨trivial, ?_⟩
  gi_at_call 47
  refine (callsIn_wide.2 (hRd _)).mono ?_
  rintro e W5 ⟨rfl, hB5⟩
  have hLs5 := hLs3.more hB5
  have hA6 := (Below.refl _ W5).alloc (Nat.le_refl _) (.cells #[.int .i64 k, .int .i64 n] 39)
  have kd := World.alloc_heap_new W5 (.cells #[.int .i64 k, .int .i64 n] 39)
  have hLs6 := hLs5.more hA6
  clear hRd hLs3 hB5 hbe hW4
  obtain ⟨W6, hW6⟩ : ∃ W6, W5.alloc (.cells #[.int .i64 k, .int .i64 n] 39) = W6 := ⟨_, rfl⟩
  rw [hW6] at kd hLs6
  obtain ⟨c0, c1, _, _⟩ := row_at hLs6.box
  obtain ⟨r0, r1, f0, f1⟩ := row_at hLs6.res
  obtain ⟨s0, s1, _, _⟩ := row_at hLs6.out
  obtain ⟨e0, e1, _, _⟩ := row_at kd
  clear hLs5 hA6
  gi_wp2_with fail
  refine ⟨trivial, ?_⟩
  gi_at_call 70
  refine (callsIn_wide.2 (hO _ hLs6.below)).mono ?_
  rintro e W7 ⟨rfl, hB7⟩
  have hLs7 := hLs6.more hB7
  obtain ⟨c0, c1, _, _⟩ := row_at hLs7.box
  obtain ⟨r0, r1, f0, f1⟩ := row_at hLs7.res
  obtain ⟨s0, s1, _, _⟩ := row_at hLs7.out
  clear hO hLs6 hB7 kd e0 e1
  cases tb with
  | false =>
    have hrs := hide (desk_set hLs7.res (.slice y1 d.1.length y2) (.slice q1 d.2.length q2))
    have hfin := hide hLs7.done
    clear hLs7 hT hnn
    gi_wp2
    (try simp only [Exit.inBlock, Exit.then])
    exact bodyPost_ret (results_desk2 rfl _ _ (w.heap.size + 1) _ _ rfl hrs.out) rfl ⟨_, rfl, hfin.out.desk, hfin.out.cap, hfin.out.below⟩
  | true =>
    have hT2 := hT (hnn rfl)
    clear hT hnn
    gi_wp2
    refine wpIn_region_put 3 [(some 86, 0), (some 87, 1), (some 88, 2)] (by kernel_rfl) (by kernel_rfl) (by kernel_rfl) (by decide) (by rfl) (by decide)
      (fun j v V => match j with | 0 => v = .agg #[.slice y1 d.1.length y2, .slice q1 d.2.length q2] | 1 => v = .int .i64 N | 2 => v = .string S | _ => True)
      (fun j v V V' h _ => match j, h with | 0, h => h | 1, h => h | 2, h => h | (_ + 3), _ => trivial)
      ?_ ?_
    · rintro j oo s V hj ho hBV hd Q' hQ
      have hLV := hLs7.more hBV
      obtain ⟨s0, s1, _, _⟩ := row_at hLV.out
      rcases (show j = 0 ∨ j = 1 ∨ j = 2 by omega) with rfl | rfl | rfl
      all_goals
        simp at ho
        subst ho
        simp only [putsOf, Act.put, List.setIfInBounds_toArray, List.set_cons_succ, List.set_cons_zero] at hQ ⊢
        have hQ' := hide hQ
        clear hQ
      · clear hd
        gi_wp2
        exact hQ'.out _ _ (Below.refl _ _) rfl
      · clear hd
        gi_wp2
        exact hQ'.out _ _ (Below.refl _ _) rfl
      · have p1 : s 1 = .int .i64 N := hd 1 (by kernel_rfl)
        have hTV := hT2 V
        clear hd
        gi_wp2_with (refine ⟨trivial, ?_⟩; gi_at_call 67; go_loud (refine (callsIn_wide.2 hTV).mono ?_; rintro e W9 ⟨rfl, hB9⟩))
        have hr := hQ'.out
        simp only [p1] at hr ⊢
        exact hr _ _ hB9 rfl
    · rintro s V hBV hd
      have p0 : s 0 = .agg #[.slice y1 d.1.length y2, .slice q1 d.2.length q2] := hd 0 (by omega)
      have p2 : s 2 = .string S := hd 2 (by omega)
      clear hd
      have hLV := hLs7.more hBV
      obtain ⟨r0, r1, f0, f1⟩ := row_at hLV.res
      have hrs := hide (desk_set hLV.res (.slice y1 d.1.length y2) (.slice q1 d.2.length q2))
      have hfin := hide hLV.done
      clear hLV hLs7 hT2
      simp only [putsOf, Act.put, List.setIfInBounds_toArray, List.set_cons_succ, List.set_cons_zero]
      simp only [List.drop_succ_cons, List.drop_zero]
      simp only [p0, p2]
      gi_wp2
      (try simp only [Exit.inBlock, Exit.then])
      exact bodyPost_ret (results_desk2 rfl _ _ (w.heap.size + 1) _ _ rfl hrs.out) rfl ⟨_, rfl, hfin.out.desk, hfin.out.cap, hfin.out.below⟩

set_option maxRecDepth 100000 in
set_option maxHeartbeats 4000000 in
theorem specLine_balanced (x p : Value) (d : Dk) (w : World) (hx : Ints w x d.1) (hp : PastI w p d.2) (hb : deskB d = true) (k n : Int) (hr : rdV [98, 97, 108, 97, 110, 99, 101, 100] = ((k, n), false)) :
    Calls Tryz.prog 21 #[.agg #[x, p], .string ⟨#[98, 97, 108, 97, 110, 99, 101, 100]⟩] w fun e w' => ∃ y, e = .returned (.tuple #[y, .string (str (if 4 * onesV d.1 = (d.1.length : Int) * ((d.1.length : Int) + 1) then [121, 101, 115] else [110, 111]))]) ∧ DeskI w' y d ∧ CapN w.heap.size y ∧ Below w.heap.size w w' := by
  obtain ⟨hd1, hd2, hd3⟩ := deskB_is.1 hb
  have hl1 := sideB_len hd2
  have hB : Below w.heap.size w ((w.alloc (.cells #[x, p] 31)).alloc (.cells #[.slice none 0 0, .slice none 0 0] 31)) := ((Below.refl _ w).alloc (Nat.le_refl _) _).alloc (by rw [World.size_alloc]; omega) _
  have k0 : ((w.alloc (.cells #[x, p] 31)).alloc (.cells #[.slice none 0 0, .slice none 0 0] 31)).heap[w.heap.size]? = some (.cells #[x, p] 31 (0, 0)) := (Below.heap_alloc _ _ _ (by rw [World.size_alloc]; omega)).trans (World.alloc_heap_new w _)
  have k1 := World.alloc_heap_new (w.alloc (.cells #[x, p] 31)) (.cells #[.slice none 0 0, .slice none 0 0] 31)
  rw [World.size_alloc] at k1
  have hsz : w.heap.size + 2 ≤ ((w.alloc (.cells #[x, p] 31)).alloc (.cells #[.slice none 0 0, .slice none 0 0] 31)).heap.size := by simp
  obtain ⟨W1, hW1⟩ : ∃ W1, (w.alloc (.cells #[x, p] 31)).alloc (.cells #[.slice none 0 0, .slice none 0 0] 31) = W1 := ⟨_, rfl⟩
  rw [hW1] at hB k0 k1 hsz
  have hOK := specDeskOk (.agg #[x, p]) d W1 ⟨x, p, rfl, hx.below hB, hp.below hB⟩ (deskB_size hb)
  rw [hb] at hOK
  have hKp := fun V (hV : Below w.heap.size w V) => specCopy x p d V (hx.below hV) (hp.below hV) hb
  have hRd : ∀ V, Calls Tryz.prog 47 #[.string ⟨#[98, 97, 108, 97, 110, 99, 101, 100]⟩] V fun e w' => e = .returned (.tuple #[dV (rdV [98, 97, 108, 97, 110, 99, 101, 100]).1.1 (rdV [98, 97, 108, 97, 110, 99, 101, 100]).1.2, .bool (rdV [98, 97, 108, 97, 110, 99, 101, 100]).2]) ∧ Below V.heap.size V w' := fun V => specReadDeed [98, 97, 108, 97, 110, 99, 101, 100] (by decide) (by decide) V
  have hO := fun V (hV : Below w.heap.size w V) => specOnes x d.1 V (hx.below hV) (lies_row hx hl1.1) (by omega)
  have hN0 := ones_nn hd2
  have hN1 := onesV_big hd2
  obtain ⟨N, hN⟩ : ∃ N, onesV d.1 = N := ⟨_, rfl⟩
  rw [hN] at hO hN0 hN1 ⊢
  have hw1 : IntKind.i64.wrap (4 * N) = 4 * N := IntWalk.i64_in _ (by omega)
  have hw2 : IntKind.i64.wrap ((d.1.length : Int) + 1) = (d.1.length : Int) + 1 := IntWalk.i64_in _ (by omega)
  have hw3 : IntKind.i64.wrap ((d.1.length : Int) * ((d.1.length : Int) + 1)) = (d.1.length : Int) * ((d.1.length : Int) + 1) := by
    refine IntWalk.i64_in _ ?_
    have h2 : d.1.length * (d.1.length + 1) ≤ 12 * 13 := Nat.mul_le_mul hl1.2 (by omega)
    have h3 : ((d.1.length * (d.1.length + 1) : Nat) : Int) = (d.1.length : Int) * ((d.1.length : Int) + 1) := by simp
    omega
  have hout : str (if 4 * N = (d.1.length : Int) * ((d.1.length : Int) + 1) then [121, 101, 115] else [110, 111]) = if 4 * N = (d.1.length : Int) * ((d.1.length : Int) + 1) then ⟨#[121, 101, 115]⟩ else ⟨#[110, 111]⟩ := by
    split <;> kernel_rfl
  rw [hout]
  obtain ⟨OUT, hOUT⟩ : ∃ O, (if 4 * N = (d.1.length : Int) * ((d.1.length : Int) + 1) then (⟨#[121, 101, 115]⟩ : ByteArray) else ⟨#[110, 111]⟩) = O := ⟨_, rfl⟩
  rw [hOUT]
  replace hOUT := hide hOUT
  rw [hr] at hRd
  simp only at hRd
  unfold dV at hRd
  obtain ⟨xa, xc, rfl⟩ := hx.shape
  obtain ⟨pa, pc, rfl, _⟩ := id hp
  obtain ⟨c0, c1, _, _⟩ := row_at k0
  have l0 := (Array.getElem?_eq_some_iff.1 k0).1
  have l1 := (Array.getElem?_eq_some_iff.1 k1).1
  clear hx hp hd1 hr hN hout
  refine (callsIn_wide (n := 9)).1 ?_
  refine callsIn_of_wp Tryz.func21 rfl trivial ?_ rfl
  simp only [Tryz.ntmps21, List.size_toArray, List.length_cons, List.length_nil, Nat.reduceAdd, Nat.reduceSub, Array.replicate_succ, Array.replicate_zero, List.push_toArray, List.append_toArray, List.nil_append, List.cons_append]
  gi_wp2_with fail
  refine ⟨trivial, ?_⟩
  gi_at_call 13
  refine (callsIn_wide.2 hOK).mono ?_
  rintro e W2 ⟨rfl, hB2⟩
  have hB02 := hB.trans (hB2.mono hB.size)
  have k02 := (hB2.block _ l0).trans k0
  have k12 := (hB2.block _ l1).trans k1
  have hsz2 := Nat.le_trans hsz hB2.size
  obtain ⟨c0, c1, _, _⟩ := row_at k02
  clear hOK hB2 k0 k1 l0 l1 hB hsz
  gi_wp2_with fail
  refine ⟨trivial, ?_⟩
  gi_at_call 65
  refine (callsIn_wide.2 (hKp _ hB02)).mono ?_
  rintro e W3 ⟨y, q, rfl, hy, hq, hB3⟩
  have hLs3 : Ls w W3.heap.size (.slice xa d.1.length xc) (.slice pa d.2.length pc) y q d (W3.alloc (.cells #[y, q] 31)) := by
    have hB03 := hB02.trans (hB3.mono hB02.size)
    have hA := (Below.refl _ W3).alloc (Nat.le_refl _) (.cells #[y, q] 31)
    have h02 := (hB3.block _ (Array.getElem?_eq_some_iff.1 k02).1).trans k02
    have h12 := (hB3.block _ (Array.getElem?_eq_some_iff.1 k12).1).trans k12
    exact ⟨hB03.alloc hB03.size _, (hA.block _ (Array.getElem?_eq_some_iff.1 h02).1).trans h02, (hA.block _ (Array.getElem?_eq_some_iff.1 h12).1).trans h12, Nat.le_trans hsz2 hB3.size, World.alloc_heap_new W3 _, own_below (own_fromD hy hsz2) hA, (hq.down hsz2).below hA⟩
  obtain ⟨y1, y2, rfl⟩ := own_form hy
  obtain ⟨q1, q2, rfl⟩ := hq.form
  obtain ⟨b, hbe⟩ : ∃ b, W3.heap.size = b := ⟨_, rfl⟩
  obtain ⟨W4, hW4⟩ : ∃ W4, W3.alloc (.cells #[.slice y1 d.1.length y2, .slice q1 d.2.length q2] 31) = W4 := ⟨_, rfl⟩
  rw [hW4, hbe] at hLs3
  obtain ⟨c0, c1, _, _⟩ := row_at hLs3.box
  clear hKp hB02 k02 k12 hsz2 hy hq hB3
  gi_wp2_with fail
  refine ⟨trivial, ?_⟩
  gi_at_call 47
  refine (callsIn_wide.2 (hRd _)).mono ?_
  rintro e W5 ⟨rfl, hB5⟩
  have hLs5 := hLs3.more hB5
  have hA6 := (Below.refl _ W5).alloc (Nat.le_refl _) (.cells #[.int .i64 k, .int .i64 n] 39)
  have kd := World.alloc_heap_new W5 (.cells #[.int .i64 k, .int .i64 n] 39)
  have hLs6 := hLs5.more hA6
  clear hRd hLs3 hB5 hbe hW4
  obtain ⟨W6, hW6⟩ : ∃ W6, W5.alloc (.cells #[.int .i64 k, .int .i64 n] 39) = W6 := ⟨_, rfl⟩
  rw [hW6] at kd hLs6
  obtain ⟨c0, c1, _, _⟩ := row_at hLs6.box
  obtain ⟨r0, r1, f0, f1⟩ := row_at hLs6.res
  obtain ⟨s0, s1, _, _⟩ := row_at hLs6.out
  obtain ⟨e0, e1, _, _⟩ := row_at kd
  clear hLs5 hA6
  gi_wp2
  refine wpIn_region_put 12 [(some 91, 0), (some 92, 1), (some 93, 2), (some 94, 3), (some 95, 4), (some 96, 5), (some 97, 6), (some 98, 7), (some 99, 8), (some 100, 9), (some 101, 10), (some 102, 11)] (by kernel_rfl) (by kernel_rfl) (by kernel_rfl) (by decide) (by rfl) (by decide)
    (fun j v V => match j with | 0 => v = .pointer (some ⟨w.heap.size, 0, none⟩) | 1 => v = .slice xa d.1.length xc | 2 => v = .int .i64 N | 3 => v = .int .i64 (4 * N) | 4 => v = .pointer (some ⟨w.heap.size, 0, none⟩) | 5 => v = .slice xa d.1.length xc | 6 => v = .int .i64 (d.1.length : Nat) | 7 => v = .pointer (some ⟨w.heap.size, 0, none⟩) | 8 => v = .slice xa d.1.length xc | 9 => v = .int .i64 (d.1.length : Nat) | 10 => v = .int .i64 ((d.1.length : Int) + 1) | 11 => v = .int .i64 ((d.1.length : Int) * ((d.1.length : Int) + 1)) | _ => True)
    (fun j v V V' h _ => match j, h with | 0, h => h | 1, h => h | 2, h => h | 3, h => h | 4, h => h | 5, h => h | 6, h => h | 7, h => h | 8, h => h | 9, h => h | 10, h => h | 11, h => h | (_ + 12), _ => trivial)
    ?_ ?_
  · rintro j oo s V hj ho hBV hd Q' hQ
    have hLV := hLs6.more hBV
    obtain ⟨c0, c1, _, _⟩ := row_at hLV.box
    rcases (show j = 0 ∨ j = 1 ∨ j = 2 ∨ j = 3 ∨ j = 4 ∨ j = 5 ∨ j = 6 ∨ j = 7 ∨ j = 8 ∨ j = 9 ∨ j = 10 ∨ j = 11 by omega) with rfl | rfl | rfl | rfl | rfl | rfl | rfl | rfl | rfl | rfl | rfl | rfl
    all_goals
      simp at ho
      subst ho
      simp only [putsOf, Act.put, List.setIfInBounds_toArray, List.set_cons_succ, List.set_cons_zero] at hQ ⊢
      have hQ' := hide hQ
      clear hQ
    · clear hd
      gi_wp2
      have hr := hQ'.out
      exact hr _ _ (Below.refl _ _) rfl
    · have p0 : s 0 = .pointer (some ⟨w.heap.size, 0, none⟩) := hd 0 (by kernel_rfl)
      clear hd
      gi_wp2
      have hr := hQ'.out
      simp only [p0] at hr ⊢
      exact hr _ _ (Below.refl _ _) rfl
    · have p1 : s 1 = .slice xa d.1.length xc := hd 1 (by kernel_rfl)
      have hOV := hO V hLV.below
      clear hd
      gi_wp2_with (refine ⟨trivial, ?_⟩; gi_at_call 68; go_loud (refine (callsIn_wide.2 hOV).mono ?_; rintro e W9 ⟨rfl, hB9⟩))
      have hr := hQ'.out
      simp only [p1] at hr ⊢
      exact hr _ _ hB9 rfl
    · have p2 : s 2 = .int .i64 N := hd 2 (by kernel_rfl)
      clear hd
      gi_wp2
      have hr := hQ'.out
      simp only [p2] at hr ⊢
      exact hr _ _ (Below.refl _ _) rfl
    · clear hd
      gi_wp2
      have hr := hQ'.out
      exact hr _ _ (Below.refl _ _) rfl
    · have p4 : s 4 = .pointer (some ⟨w.heap.size, 0, none⟩) := hd 4 (by kernel_rfl)
      clear hd
      gi_wp2
      have hr := hQ'.out
      simp only [p4] at hr ⊢
      exact hr _ _ (Below.refl _ _) rfl
    · have p5 : s 5 = .slice xa d.1.length xc := hd 5 (by kernel_rfl)
      clear hd
      gi_wp2
      have hr := hQ'.out
      simp only [p5] at hr ⊢
      exact hr _ _ (Below.refl _ _) rfl
    · clear hd
      gi_wp2
      have hr := hQ'.out
      exact hr _ _ (Below.refl _ _) rfl
    · have p7 : s 7 = .pointer (some ⟨w.heap.size, 0, none⟩) := hd 7 (by kernel_rfl)
      clear hd
      gi_wp2
      have hr := hQ'.out
      simp only [p7] at hr ⊢
      exact hr _ _ (Below.refl _ _) rfl
    · have p8 : s 8 = .slice xa d.1.length xc := hd 8 (by kernel_rfl)
      clear hd
      gi_wp2
      have hr := hQ'.out
      simp only [p8] at hr ⊢
      exact hr _ _ (Below.refl _ _) rfl
    · have p9 : s 9 = .int .i64 (d.1.length : Nat) := hd 9 (by kernel_rfl)
      clear hd
      gi_wp2
      have hr := hQ'.out
      simp only [p9] at hr ⊢
      exact hr _ _ (Below.refl _ _) rfl
    · have p6 : s 6 = .int .i64 (d.1.length : Nat) := hd 6 (by kernel_rfl)
      have p10 : s 10 = .int .i64 ((d.1.length : Int) + 1) := hd 10 (by kernel_rfl)
      clear hd
      gi_wp2
      have hr := hQ'.out
      simp only [p6, p10] at hr ⊢
      exact hr _ _ (Below.refl _ _) rfl
  · rintro s V hBV hd
    have p3 : s 3 = .int .i64 (4 * N) := hd 3 (by omega)
    have p11 : s 11 = .int .i64 ((d.1.length : Int) * ((d.1.length : Int) + 1)) := hd 11 (by omega)
    clear hd
    have hLV := hLs6.more hBV
    obtain ⟨r0, r1, f0, f1⟩ := row_at hLV.res
    obtain ⟨s0, s1, _, _⟩ := row_at hLV.out
    have hrs := hide (desk_set hLV.res (.slice y1 d.1.length y2) (.slice q1 d.2.length q2))
    have hfin := hide hLV.done
    clear hLV hLs6 hO
    simp only [putsOf, Act.put, List.setIfInBounds_toArray, List.set_cons_succ, List.set_cons_zero]
    simp only [List.drop_succ_cons, List.drop_zero]
    simp only [p3, p11]
    by_cases he : 4 * N = (d.1.length : Int) * ((d.1.length : Int) + 1)
    · have hOe := hide (show OUT = ⟨#[121, 101, 115]⟩ by rw [← hOUT.out, if_pos he])
      have heb : ((4 * N) == ((d.1.length : Int) * ((d.1.length : Int) + 1))) = true := by rw [beq_iff_eq]; exact he
      clear hOUT
      gi_wp2
      (try simp only [Exit.inBlock, Exit.then])
      exact bodyPost_ret (results_desk2 rfl _ _ (w.heap.size + 1) _ _ rfl hrs.out) rfl ⟨_, by rw [hOe.out]; rfl, hfin.out.desk, hfin.out.cap, hfin.out.below⟩
    · have hOe := hide (show OUT = ⟨#[110, 111]⟩ by rw [← hOUT.out, if_neg he])
      have heb : ((4 * N) == ((d.1.length : Int) * ((d.1.length : Int) + 1))) = false := by rw [beq_eq_false_iff_ne]; exact he
      clear hOUT
      gi_wp2
      (try simp only [Exit.inBlock, Exit.then])
      exact bodyPost_ret (results_desk2 rfl _ _ (w.heap.size + 1) _ _ rfl hrs.out) rfl ⟨_, by rw [hOe.out]; rfl, hfin.out.desk, hfin.out.cap, hfin.out.below⟩

set_option maxRecDepth 100000 in
set_option maxHeartbeats 4000000 in
theorem specLine_row (x p : Value) (d : Dk) (w : World) (hx : Ints w x d.1) (hp : PastI w p d.2) (hb : deskB d = true) (k n : Int) (hr : rdV [114, 111, 119] = ((k, n), false)) :
    Calls Tryz.prog 21 #[.agg #[x, p], .string ⟨#[114, 111, 119]⟩] w fun e w' => ∃ y, e = .returned (.tuple #[y, .string (str (rowTx d.1))]) ∧ DeskI w' y d ∧ CapN w.heap.size y ∧ Below w.heap.size w w' := by
  obtain ⟨hd1, hd2, hd3⟩ := deskB_is.1 hb
  have hl1 := sideB_len hd2
  have hB : Below w.heap.size w ((w.alloc (.cells #[x, p] 31)).alloc (.cells #[.slice none 0 0, .slice none 0 0] 31)) := ((Below.refl _ w).alloc (Nat.le_refl _) _).alloc (by rw [World.size_alloc]; omega) _
  have k0 : ((w.alloc (.cells #[x, p] 31)).alloc (.cells #[.slice none 0 0, .slice none 0 0] 31)).heap[w.heap.size]? = some (.cells #[x, p] 31 (0, 0)) := (Below.heap_alloc _ _ _ (by rw [World.size_alloc]; omega)).trans (World.alloc_heap_new w _)
  have k1 := World.alloc_heap_new (w.alloc (.cells #[x, p] 31)) (.cells #[.slice none 0 0, .slice none 0 0] 31)
  rw [World.size_alloc] at k1
  have hsz : w.heap.size + 2 ≤ ((w.alloc (.cells #[x, p] 31)).alloc (.cells #[.slice none 0 0, .slice none 0 0] 31)).heap.size := by simp
  obtain ⟨W1, hW1⟩ : ∃ W1, (w.alloc (.cells #[x, p] 31)).alloc (.cells #[.slice none 0 0, .slice none 0 0] 31) = W1 := ⟨_, rfl⟩
  rw [hW1] at hB k0 k1 hsz
  have hOK := specDeskOk (.agg #[x, p]) d W1 ⟨x, p, rfl, hx.below hB, hp.below hB⟩ (deskB_size hb)
  rw [hb] at hOK
  have hKp := fun V (hV : Below w.heap.size w V) => specCopy x p d V (hx.below hV) (hp.below hV) hb
  have hRd : ∀ V, Calls Tryz.prog 47 #[.string ⟨#[114, 111, 119]⟩] V fun e w' => e = .returned (.tuple #[dV (rdV [114, 111, 119]).1.1 (rdV [114, 111, 119]).1.2, .bool (rdV [114, 111, 119]).2]) ∧ Below V.heap.size V w' := fun V => specReadDeed [114, 111, 119] (by decide) (by decide) V
  have hbit := fun i (hi : i < d.1.length) => sideB_at hd2 hi
  have hall : ∀ k, k < d.1.length → rowTx (d.1.take (k + 1)) = rowTx (d.1.take k) ++ decI (d.1.getD k 0) := fun k hk => by
    have : d.1.take (k + 1) = d.1.take k ++ [d.1.getD k 0] := by
      rw [List.take_add_one, List.getElem?_eq_getElem (by omega), List.getD, List.getElem?_eq_getElem (by omega)]; rfl
    unfold rowTx
    rw [this, List.flatMap_append]
    simp
  have hlen : ∀ m, m ≤ d.1.length → (rowTx (d.1.take m)).length = m := fun m => by
    induction m with
    | zero => intro _; simp [rowTx]
    | succ m ih =>
      intro hm
      rw [hall m (by omega), List.length_append, ih (by omega)]
      have := hbit m (by omega)
      rcases (show d.1.getD m 0 = 0 ∨ d.1.getD m 0 = 1 by omega) with e | e <;> rw [e] <;> rfl
  have hfin0 : rowTx (d.1.take d.1.length) = rowTx d.1 := by rw [List.take_length]
  replace hall := hide hall
  replace hlen := hide hlen
  replace hfin0 := hide hfin0
  obtain ⟨R, hR⟩ : ∃ R, rowTx d.1 = R := ⟨_, rfl⟩
  rw [hR] at hfin0 ⊢
  have hcW : ∀ W, Below w.heap.size w W → ∀ i, i < d.1.length → ∃ g c, x = .slice (some ⟨g, 0, none⟩) d.1.length c ∧ W.cell? ⟨g, i, none⟩ = some (.int .i64 (d.1.getD i 0)) := fun W hW i hi => by
    obtain ⟨g, c, e, hg, hc⟩ := hx.cells hl1.1
    exact ⟨g, c, e, (hW.cell (p := ⟨g, i, none⟩) hg).trans (hc i hi)⟩
  replace hcW := hide hcW
  have hdec := hide hl1
  rw [hr] at hRd
  simp only at hRd
  unfold dV at hRd
  obtain ⟨xa, xc, rfl⟩ := hx.shape
  obtain ⟨pa, pc, rfl, _⟩ := id hp
  obtain ⟨c0, c1, _, _⟩ := row_at k0
  have l0 := (Array.getElem?_eq_some_iff.1 k0).1
  have l1 := (Array.getElem?_eq_some_iff.1 k1).1
  clear hx hp hd1 hr hR
  refine (callsIn_wide (n := 9)).1 ?_
  refine callsIn_of_wp Tryz.func21 rfl trivial ?_ rfl
  simp only [Tryz.ntmps21, List.size_toArray, List.length_cons, List.length_nil, Nat.reduceAdd, Nat.reduceSub, Array.replicate_succ, Array.replicate_zero, List.push_toArray, List.append_toArray, List.nil_append, List.cons_append]
  gi_wp2_with fail
  refine ⟨trivial, ?_⟩
  gi_at_call 13
  refine (callsIn_wide.2 hOK).mono ?_
  rintro e W2 ⟨rfl, hB2⟩
  have hB02 := hB.trans (hB2.mono hB.size)
  have k02 := (hB2.block _ l0).trans k0
  have k12 := (hB2.block _ l1).trans k1
  have hsz2 := Nat.le_trans hsz hB2.size
  obtain ⟨c0, c1, _, _⟩ := row_at k02
  clear hOK hB2 k0 k1 l0 l1 hB hsz
  gi_wp2_with fail
  refine ⟨trivial, ?_⟩
  gi_at_call 65
  refine (callsIn_wide.2 (hKp _ hB02)).mono ?_
  rintro e W3 ⟨y, q, rfl, hy, hq, hB3⟩
  have hLs3 : Ls w W3.heap.size (.slice xa d.1.length xc) (.slice pa d.2.length pc) y q d (W3.alloc (.cells #[y, q] 31)) := by
    have hB03 := hB02.trans (hB3.mono hB02.size)
    have hA := (Below.refl _ W3).alloc (Nat.le_refl _) (.cells #[y, q] 31)
    have h02 := (hB3.block _ (Array.getElem?_eq_some_iff.1 k02).1).trans k02
    have h12 := (hB3.block _ (Array.getElem?_eq_some_iff.1 k12).1).trans k12
    exact ⟨hB03.alloc hB03.size _, (hA.block _ (Array.getElem?_eq_some_iff.1 h02).1).trans h02, (hA.block _ (Array.getElem?_eq_some_iff.1 h12).1).trans h12, Nat.le_trans hsz2 hB3.size, World.alloc_heap_new W3 _, own_below (own_fromD hy hsz2) hA, (hq.down hsz2).below hA⟩
  obtain ⟨y1, y2, rfl⟩ := own_form hy
  obtain ⟨q1, q2, rfl⟩ := hq.form
  obtain ⟨b, hbe⟩ : ∃ b, W3.heap.size = b := ⟨_, rfl⟩
  obtain ⟨W4, hW4⟩ : ∃ W4, W3.alloc (.cells #[.slice y1 d.1.length y2, .slice q1 d.2.length q2] 31) = W4 := ⟨_, rfl⟩
  rw [hW4, hbe] at hLs3
  obtain ⟨c0, c1, _, _⟩ := row_at hLs3.box
  clear hKp hB02 k02 k12 hsz2 hy hq hB3
  gi_wp2_with fail
  refine ⟨trivial, ?_⟩
  gi_at_call 47
  refine (callsIn_wide.2 (hRd _)).mono ?_
  rintro e W5 ⟨rfl, hB5⟩
  have hLs5 := hLs3.more hB5
  have hA6 := (Below.refl _ W5).alloc (Nat.le_refl _) (.cells #[.int .i64 k, .int .i64 n] 39)
  have kd := World.alloc_heap_new W5 (.cells #[.int .i64 k, .int .i64 n] 39)
  have hLs6 := hLs5.more hA6
  clear hRd hLs3 hB5 hbe hW4
  obtain ⟨W6, hW6⟩ : ∃ W6, W5.alloc (.cells #[.int .i64 k, .int .i64 n] 39) = W6 := ⟨_, rfl⟩
  rw [hW6] at kd hLs6
  obtain ⟨c0, c1, _, _⟩ := row_at hLs6.box
  obtain ⟨r0, r1, f0, f1⟩ := row_at hLs6.res
  obtain ⟨s0, s1, _, _⟩ := row_at hLs6.out
  obtain ⟨e0, e1, _, _⟩ := row_at kd
  clear hLs5 hA6
  gi_wp2
  gi_loopw [11, 12] (fun o i wr => ∃ m : Nat, m ≤ d.1.length ∧ i = .int .i64 m ∧ o = .string (str (rowTx (d.1.take m))) ∧ Ls w b (.slice xa d.1.length xc) (.slice pa d.2.length pc) (.slice y1 d.1.length y2) (.slice q1 d.2.length q2) d wr) (fun _ i _ => d.1.length - (intOf i).toNat)
  case atStart => exact ⟨0, by omega, rfl, rfl, hLs6⟩
  case round =>
    clear hLs6 c0 c1 r0 r1 s0 s1 f0 f1 kd e0 e1
    obtain ⟨m, hm, rfl, rfl, hLs⟩ := hrel
    obtain ⟨c0, c1, _, _⟩ := row_at hLs.box
    by_cases hlt : m < d.1.length
    · have hki : (m : Int) < (d.1.length : Int) := by omega
      obtain ⟨g, c, hxe, hcell⟩ := hcW.out wr hLs.below m hlt
      simp only [Value.slice.injEq, true_and] at hxe
      obtain ⟨hxa, -⟩ := hxe
      subst hxa
      have hb01 := hbit m hlt
      have hst := hide (hall.out m hlt)
      have hl1' := hlen.out m hm
      have hT := specNum (d.1.getD m 0) (by omega) (by omega) wr
      obtain ⟨yv, hyv⟩ : ∃ yv, d.1.getD m 0 = yv := ⟨_, rfl⟩
      rw [hyv] at hcell hb01 hst hT
      have hdl : (decI yv).length ≤ 1 := by
        rcases (show yv = 0 ∨ yv = 1 by omega) with e | e <;> rw [e] <;> decide
      have ha1 := str_app (rowTx (d.1.take m)) (decI yv)
      rw [← hst.out] at ha1
      have hs1 := str_size (rowTx (d.1.take m))
      have hs2 := str_size (decI yv)
      obtain ⟨T, hTT⟩ : ∃ T, str (decI yv) = T := ⟨_, rfl⟩
      obtain ⟨A, hA⟩ : ∃ A, str (rowTx (d.1.take m)) = A := ⟨_, rfl⟩
      obtain ⟨Z, hZ⟩ : ∃ Z, str (rowTx (d.1.take (m + 1))) = Z := ⟨_, rfl⟩
      rw [hTT] at hT ha1 hs2
      rw [hA] at ha1 hs1 ⊢
      rw [hZ] at ha1
      have hAs : A.size ≤ 100 := by omega
      have hTs : T.size ≤ 100 := by omega
      have hZ' := hide hZ
      clear hall hlen hbit hcW hyv hst hs1 hs2 hTT hA hZ hdl hl1'
      gi_wp2_with (refine ⟨trivial, ?_⟩; gi_at_call 67; go_loud (refine (callsIn_wide.2 hT).mono ?_; rintro e W9 ⟨rfl, hB9⟩; have hLs9 := hLs.more hB9))
      go_roundw
      case rel => exact ⟨m + 1, by omega, by go_num, by rw [hZ'.out], hLs9⟩
      case measure => simp [intOf]; omega
    · obtain rfl : m = d.1.length := by omega
      have hki : ¬ ((d.1.length : Nat) : Int) < (d.1.length : Int) := by omega
      rw [hfin0.out]
      obtain ⟨r0, r1, f0, f1⟩ := row_at hLs.res
      obtain ⟨s0, s1, _, _⟩ := row_at hLs.out
      have hrs := hide (desk_set hLs.res (.slice y1 d.1.length y2) (.slice q1 d.2.length q2))
      have hfin := hide hLs.done
      obtain ⟨RS, hRS⟩ : ∃ RS, str R = RS := ⟨_, rfl⟩
      rw [hRS]
      have hRS' := hide hRS
      clear hLs hall hlen hbit hcW hfin0 hRS
      gi_wp2
      (try simp only [Exit.inBlock, Exit.then])
      exact bodyPost_ret (results_desk2 rfl _ _ (w.heap.size + 1) _ _ rfl hrs.out) rfl ⟨_, by rw [hRS'.out]; rfl, hfin.out.desk, hfin.out.cap, hfin.out.below⟩

set_option maxRecDepth 100000 in
set_option maxHeartbeats 4000000 in
theorem specLine_words (x p : Value) (d : Dk) (l : List Nat) (w : World) (hx : Ints w x d.1) (hp : PastI w p d.2) (hb : deskB d = true) (hl : ∀ c ∈ l, c < 256) (hn : l.length ≤ 1100000) (k n : Int) (hr : rdV l = ((k, n), false)) (h0 : ¬ l = [114, 111, 119]) (h1 : ¬ l = [111, 110, 101, 115]) (h2 : ¬ l = [108, 97, 115, 116]) (h3 : ¬ l = [101, 110, 100]) (h4 : ¬ l = [98, 97, 108, 97, 110, 99, 101, 100]) :
    Calls Tryz.prog 21 #[.agg #[x, p], .string (str l)] w fun e w' => ∃ y, e = .returned (.tuple #[y, .string (str (wordsV l))]) ∧ DeskI w' y d ∧ CapN w.heap.size y ∧ Below w.heap.size w w' := by
  obtain ⟨hd1, hd2, hd3⟩ := deskB_is.1 hb
  have hl1 := sideB_len hd2
  have hB : Below w.heap.size w ((w.alloc (.cells #[x, p] 31)).alloc (.cells #[.slice none 0 0, .slice none 0 0] 31)) := ((Below.refl _ w).alloc (Nat.le_refl _) _).alloc (by rw [World.size_alloc]; omega) _
  have k0 : ((w.alloc (.cells #[x, p] 31)).alloc (.cells #[.slice none 0 0, .slice none 0 0] 31)).heap[w.heap.size]? = some (.cells #[x, p] 31 (0, 0)) := (Below.heap_alloc _ _ _ (by rw [World.size_alloc]; omega)).trans (World.alloc_heap_new w _)
  have k1 := World.alloc_heap_new (w.alloc (.cells #[x, p] 31)) (.cells #[.slice none 0 0, .slice none 0 0] 31)
  rw [World.size_alloc] at k1
  have hsz : w.heap.size + 2 ≤ ((w.alloc (.cells #[x, p] 31)).alloc (.cells #[.slice none 0 0, .slice none 0 0] 31)).heap.size := by simp
  obtain ⟨W1, hW1⟩ : ∃ W1, (w.alloc (.cells #[x, p] 31)).alloc (.cells #[.slice none 0 0, .slice none 0 0] 31) = W1 := ⟨_, rfl⟩
  rw [hW1] at hB k0 k1 hsz
  have hOK := specDeskOk (.agg #[x, p]) d W1 ⟨x, p, rfl, hx.below hB, hp.below hB⟩ (deskB_size hb)
  rw [hb] at hOK
  have hKp := fun V (hV : Below w.heap.size w V) => specCopy x p d V (hx.below hV) (hp.below hV) hb
  have hRd := fun V => specReadDeed l hl (by omega) V
  have e10 : ¬ (str l).toList = [114, 111, 119] := fun e => h0 (str_inj hl (by decide) (by rw [str_toList] at e; exact e))
  have e11 : ¬ (str l).toList = [111, 110, 101, 115] := fun e => h1 (str_inj hl (by decide) (by rw [str_toList] at e; exact e))
  have e12 : ¬ (str l).toList = [108, 97, 115, 116] := fun e => h2 (str_inj hl (by decide) (by rw [str_toList] at e; exact e))
  have e13 : ¬ (str l).toList = [101, 110, 100] := fun e => h3 (str_inj hl (by decide) (by rw [str_toList] at e; exact e))
  have e14 : ¬ (str l).toList = [98, 97, 108, 97, 110, 99, 101, 100] := fun e => h4 (str_inj hl (by decide) (by rw [str_toList] at e; exact e))
  have hCut := fun V => specCut 32 (by omega) l hl (by omega) V
  have hpos := cutL_pos 32 l []
  have hlen : (cutT 32 l).length ≤ l.length + 1 := cutL_len l
  have hmem : ∀ i, (∀ c ∈ (cutT 32 l).getD i [], c < 256) ∧ ((cutT 32 l).getD i []).length ≤ 2000000 := fun i => by
    by_cases hi : i < (cutT 32 l).length
    · have := cutL_mem 32 l [] ((cutT 32 l).getD i []) (word_mem _ i hi)
      exact ⟨fun c hc => hl c ((this.1 c hc).resolve_left (by simp)), Nat.le_trans this.2 (by simp; omega)⟩
    · rw [List.getD, List.getElem?_eq_none (by omega)]; simp
  have hwv : wordsV l = match numsL (cutT 32 l).tail with | none => whatT | some ns => askV ((cutT 32 l).getD 0 []) ns := rfl
  obtain ⟨OUT, hOUT⟩ : ∃ O, wordsV l = O := ⟨_, rfl⟩
  rw [hOUT] at hwv ⊢
  change 0 < (cutT 32 l).length at hpos
  obtain ⟨ws, hws⟩ : ∃ ws, cutT 32 l = ws := ⟨_, rfl⟩
  rw [hws] at hCut hpos hlen hmem hwv
  have hf0 : numsL ws.tail = none → OUT = whatT := fun e => by rw [hwv, e]
  have hf1 : ∀ ns, numsL ws.tail = some ns → OUT = askV (ws.getD 0 []) ns := fun ns e => by rw [hwv, e]
  replace hf0 := hide hf0
  replace hf1 := hide hf1
  have hst : Hid (numsL ws.tail = (numsL (ws.drop 1)).map ([] ++ ·)) := hide (by rw [List.drop_one]; cases numsL ws.tail <;> rfl)
  rw [hr] at hRd
  simp only at hRd
  unfold dV at hRd
  obtain ⟨xa, xc, rfl⟩ := hx.shape
  obtain ⟨pa, pc, rfl, _⟩ := id hp
  obtain ⟨LS, hLS⟩ : ∃ LS, str l = LS := ⟨_, rfl⟩
  rw [hLS] at hRd hCut e10 e11 e12 e13 e14 ⊢
  have b10 := beq_eq_false_iff_ne.2 e10
  have b11 := beq_eq_false_iff_ne.2 e11
  have b12 := beq_eq_false_iff_ne.2 e12
  have b13 := beq_eq_false_iff_ne.2 e13
  have b14 := beq_eq_false_iff_ne.2 e14
  obtain ⟨c0, c1, _, _⟩ := row_at k0
  have l0 := (Array.getElem?_eq_some_iff.1 k0).1
  have l1 := (Array.getElem?_eq_some_iff.1 k1).1
  clear hx hp hd1 hr hLS hwv hOUT hws h0 h1 h2 h3 h4
  refine (callsIn_wide (n := 9)).1 ?_
  refine callsIn_of_wp Tryz.func21 rfl trivial ?_ rfl
  simp only [Tryz.ntmps21, List.size_toArray, List.length_cons, List.length_nil, Nat.reduceAdd, Nat.reduceSub, Array.replicate_succ, Array.replicate_zero, List.push_toArray, List.append_toArray, List.nil_append, List.cons_append]
  gi_wp2_with fail
  refine ⟨trivial, ?_⟩
  gi_at_call 13
  refine (callsIn_wide.2 hOK).mono ?_
  rintro e W2 ⟨rfl, hB2⟩
  have hB02 := hB.trans (hB2.mono hB.size)
  have k02 := (hB2.block _ l0).trans k0
  have k12 := (hB2.block _ l1).trans k1
  have hsz2 := Nat.le_trans hsz hB2.size
  obtain ⟨c0, c1, _, _⟩ := row_at k02
  clear hOK hB2 k0 k1 l0 l1 hB hsz
  gi_wp2_with fail
  refine ⟨trivial, ?_⟩
  gi_at_call 65
  refine (callsIn_wide.2 (hKp _ hB02)).mono ?_
  rintro e W3 ⟨y, q, rfl, hy, hq, hB3⟩
  have hLs3 : Ls w W3.heap.size (.slice xa d.1.length xc) (.slice pa d.2.length pc) y q d (W3.alloc (.cells #[y, q] 31)) := by
    have hB03 := hB02.trans (hB3.mono hB02.size)
    have hA := (Below.refl _ W3).alloc (Nat.le_refl _) (.cells #[y, q] 31)
    have h02 := (hB3.block _ (Array.getElem?_eq_some_iff.1 k02).1).trans k02
    have h12 := (hB3.block _ (Array.getElem?_eq_some_iff.1 k12).1).trans k12
    exact ⟨hB03.alloc hB03.size _, (hA.block _ (Array.getElem?_eq_some_iff.1 h02).1).trans h02, (hA.block _ (Array.getElem?_eq_some_iff.1 h12).1).trans h12, Nat.le_trans hsz2 hB3.size, World.alloc_heap_new W3 _, own_below (own_fromD hy hsz2) hA, (hq.down hsz2).below hA⟩
  obtain ⟨y1, y2, rfl⟩ := own_form hy
  obtain ⟨q1, q2, rfl⟩ := hq.form
  obtain ⟨b, hbe⟩ : ∃ b, W3.heap.size = b := ⟨_, rfl⟩
  obtain ⟨W4, hW4⟩ : ∃ W4, W3.alloc (.cells #[.slice y1 d.1.length y2, .slice q1 d.2.length q2] 31) = W4 := ⟨_, rfl⟩
  rw [hW4, hbe] at hLs3
  obtain ⟨c0, c1, _, _⟩ := row_at hLs3.box
  clear hKp hB02 k02 k12 hsz2 hy hq hB3
  gi_wp2_with fail
  refine ⟨trivial, ?_⟩
  gi_at_call 47
  refine (callsIn_wide.2 (hRd _)).mono ?_
  rintro e W5 ⟨rfl, hB5⟩
  have hLs5 := hLs3.more hB5
  have hA6 := (Below.refl _ W5).alloc (Nat.le_refl _) (.cells #[.int .i64 k, .int .i64 n] 39)
  have kd := World.alloc_heap_new W5 (.cells #[.int .i64 k, .int .i64 n] 39)
  have hLs6 := hLs5.more hA6
  clear hRd hLs3 hB5 hbe hW4
  obtain ⟨W6, hW6⟩ : ∃ W6, W5.alloc (.cells #[.int .i64 k, .int .i64 n] 39) = W6 := ⟨_, rfl⟩
  rw [hW6] at kd hLs6
  obtain ⟨c0, c1, _, _⟩ := row_at hLs6.box
  obtain ⟨r0, r1, f0, f1⟩ := row_at hLs6.res
  obtain ⟨s0, s1, _, _⟩ := row_at hLs6.out
  obtain ⟨e0, e1, _, _⟩ := row_at kd
  clear hLs5 hA6
  gi_wp2_with fail
  refine ⟨trivial, ?_⟩
  gi_at_call 71
  refine (callsIn_wide.2 (hCut _)).mono ?_
  rintro e V0 ⟨wv, rfl, how, hB7⟩
  have hLs7 := hLs6.more hB7
  obtain ⟨va, vc, rfl, hwc⟩ := Texts.of_owns (L := ws) how
  have hwcell : ∀ W, Below V0.heap.size V0 W → ∀ i, i < ws.length → ∃ g, va = some ⟨g, 0, none⟩ ∧ W.cell? ⟨g, i, none⟩ = some (.string (str (ws.getD i []))) := fun W hW i hi => by
    obtain ⟨g, h1, h2, h3⟩ := hwc (by omega)
    refine ⟨g, h1, (hW.cell (p := ⟨g, i, none⟩) h2).trans (h3 i _ ?_)⟩
    rw [List.getD, List.getElem?_eq_getElem hi]; rfl
  replace hwcell := hide hwcell
  clear hCut hLs6 hB7 how hwc kd e0 e1 c0 c1 r0 r1 f0 f1 s0 s1
  obtain ⟨M, hM⟩ : ∃ M, ws.length = M := ⟨_, rfl⟩
  rw [hM] at hpos hlen hwcell ⊢
  have hmade : (V0.alloc (.cells #[] 3)).ownsRow V0.heap.size 3 1 (.slice (some ⟨V0.heap.size, 0, none⟩) 0 0) 0 [] := World.ownsRow_made _ _ _ (Nat.le_refl _) (by decide) rfl
  have hBm : Below V0.heap.size V0 (V0.alloc (.cells #[] 3)) := (Below.refl _ V0).alloc (Nat.le_refl _) _
  gi_wp2
  gi_loopw [16, 17] (fun o i wr => ∃ (m : Nat) (xs : List Int), 1 ≤ m ∧ m ≤ M ∧ xs.length + 1 = m ∧ i = .int .i64 m ∧ wr.ownsRow V0.heap.size 3 1 o xs.length (xs.map (Value.int .i64)) ∧ Hid (numsL ws.tail = (numsL (ws.drop m)).map (xs ++ ·)) ∧ Below V0.heap.size V0 wr) (fun _ i _ => M - (intOf i).toNat)
  case atStart => exact ⟨1, [], by omega, by omega, rfl, rfl, hmade, hst, hBm⟩
  case round =>
    clear hst hmade hBm
    obtain ⟨m, xs, hm1, hm, hxm, rfl, hown, hst, hB⟩ := hrel
    have hLs := hLs7.more hB
    by_cases hlt : m < M
    · have hki : (m : Int) < (M : Int) := by omega
      obtain ⟨g, hva, hcell⟩ := hwcell.out wr hB m hlt
      subst hva
      obtain ⟨hp, hpl⟩ := hmem m
      have hdr : ws.drop m = ws.getD m [] :: ws.drop (m + 1) := by
        rw [List.drop_eq_getElem_cons (by omega), List.getD, List.getElem?_eq_getElem (by omega)]; rfl
      have hst' := hst.out
      rw [hdr, numsL_cons] at hst'
      obtain ⟨pw, hpe⟩ : ∃ pw, ws.getD m [] = pw := ⟨_, rfl⟩
      rw [hpe] at hcell hp hpl hst'
      have hDg := specDigits pw hp hpl wr
      obtain ⟨T, hT⟩ : ∃ T, str pw = T := ⟨_, rfl⟩
      rw [hT] at hcell hDg
      cases hd : digT pw with
      | none =>
        have hdi : digI pw = -1 := by unfold digI; rw [hd]
        rw [hdi] at hDg
        rw [hd] at hst'
        have hOe := hide (show str OUT = ⟨#[119, 104, 97, 116]⟩ by rw [hf0.out (by rw [hst']; rfl)]; kernel_rfl)
        obtain ⟨r0, r1, f0, f1⟩ := row_at hLs.res
        obtain ⟨s0, s1, _, _⟩ := row_at hLs.out
        have hrs := hide (desk_set hLs.res (.slice y1 d.1.length y2) (.slice q1 d.2.length q2))
        have hfin := hide hLs.done
        clear hLs hst' hdr hpe hT hf0 hf1 hwcell hmem hst
        gi_wp2_with (refine ⟨trivial, ?_⟩; gi_at_call 72; go_loud (refine (callsIn_wide.2 hDg).mono ?_; rintro e W9 ⟨rfl, rfl⟩))
        (try simp only [Exit.inBlock, Exit.then])
        exact bodyPost_ret (results_desk2 rfl _ _ (w.heap.size + 1) _ _ rfl hrs.out) rfl ⟨_, by rw [hOe.out]; rfl, hfin.out.desk, hfin.out.cap, hfin.out.below⟩
      | some z =>
        have hdi : digI pw = z := by unfold digI; rw [hd]
        rw [hdi] at hDg
        rw [hd] at hst'
        have hnx := hide (show numsL ws.tail = (numsL (ws.drop (m + 1))).map ((xs ++ [(z : Int)]) ++ ·) by
          rw [hst']
          simp only
          cases numsL (ws.drop (m + 1)) <;> simp)
        have hz0 : ¬ (z : Int) < 0 := by omega
        clear hLs hst' hdr hpe hT hf0 hf1 hwcell hmem hst hp hpl hd hdi
        gi_wp2_with (first
          | (refine ⟨trivial, ?_⟩; gi_at_call 72; go_loud (refine (callsIn_wide.2 hDg).mono ?_; rintro e W9 ⟨rfl, rfl⟩))
          | (gi_at_builtin; go_loud (refine append_num_in rfl _ _ rfl V0.heap.size _ _ _ rfl hown rfl (by omega) hB.size ?_; intro v' w5 hown5 hgr)))
        have hB5 : Below V0.heap.size V0 w5 := (hB.alloc hB.size _).grown hgr (by rw [World.size_alloc]; have := hB.size; omega) (fun q hq => (hown.lt q hq).1)
        go_roundw
        case rel => exact ⟨m + 1, xs ++ [(z : Int)], by omega, by omega, by simp [hxm], by go_num, by simpa using hown5, hnx, hB5⟩
        case measure => simp [intOf]; omega
    · obtain rfl : m = M := by omega
      have hki : ¬ ((m : Nat) : Int) < (m : Int) := by omega
      obtain ⟨g, hva, hcell⟩ := hwcell.out wr hB 0 (by omega)
      subst hva
      have hst' := hst.out
      rw [List.drop_eq_nil_of_le (by omega)] at hst'
      have hOe := hf1.out xs (by rw [hst']; simp [numsL])
      have hI := Ints.of_owns hown
      obtain ⟨la, lc, rfl⟩ := own_form hown
      have hAsk := fun V (hV : Below wr.heap.size wr V) => specAsk (ws.getD 0 []) (hmem 0).1 xs _ V (hI.below hV)
      rw [← hOe] at hAsk
      obtain ⟨T, hT⟩ : ∃ T, str (ws.getD 0 []) = T := ⟨_, rfl⟩
      obtain ⟨S, hS⟩ : ∃ S, str OUT = S := ⟨_, rfl⟩
      rw [hT] at hcell hAsk
      rw [hS] at hAsk
      have hS' := hide hS
      have hc0 : ∀ V, Below wr.heap.size wr V → V.cell? ⟨g, 0, none⟩ = some (.string T) := fun V hV => (hV.cell (p := ⟨g, 0, none⟩) (World.block_lt_of_cell? _ _ hcell)).trans hcell
      have hc0' := hide hc0
      clear hc0 hst' hf0 hf1 hwcell hmem hst hT hS hOe hI hown hcell
      gi_wp2
      refine wpIn_region_put 6 [(some 127, 0), (some 128, 1), (some 129, 2), (some 130, 3), (some 131, 4), (some 132, 5)] (by kernel_rfl) (by kernel_rfl) (by kernel_rfl) (by decide) (by rfl) (by decide)
        (fun j v V => match j with | 0 => v = .agg #[.slice y1 d.1.length y2, .slice q1 d.2.length q2] | 1 => v = .slice (some ⟨g, 0, none⟩) m vc | 2 => v = .pointer (some ⟨g, 0, none⟩) | 3 => v = .string T | 4 => v = .slice la xs.length lc | 5 => v = .string S | _ => True)
        (fun j v V V' h _ => match j, h with | 0, h => h | 1, h => h | 2, h => h | 3, h => h | 4, h => h | 5, h => h | (_ + 6), _ => trivial)
        ?_ ?_
      · rintro j oo s V hj ho hBV hd Q' hQ
        have hLV := hLs.more hBV
        have hcV := hc0'.out V hBV
        obtain ⟨s0, s1, _, _⟩ := row_at hLV.out
        rcases (show j = 0 ∨ j = 1 ∨ j = 2 ∨ j = 3 ∨ j = 4 ∨ j = 5 by omega) with rfl | rfl | rfl | rfl | rfl | rfl
        all_goals
          simp at ho
          subst ho
          simp only [putsOf, Act.put, List.setIfInBounds_toArray, List.set_cons_succ, List.set_cons_zero] at hQ ⊢
          have hQ' := hide hQ
          clear hQ
        · clear hd
          gi_wp2
          exact hQ'.out _ _ (Below.refl _ _) rfl
        · clear hd
          gi_wp2
          exact hQ'.out _ _ (Below.refl _ _) rfl
        · have p1 : s 1 = .slice (some ⟨g, 0, none⟩) m vc := hd 1 (by kernel_rfl)
          have hm0 : (0 : Int) < (m : Int) := by omega
          clear hd
          gi_wp2
          have hr := hQ'.out
          simp only [p1] at hr ⊢
          exact hr _ _ (Below.refl _ _) rfl
        · have p2 : s 2 = .pointer (some ⟨g, 0, none⟩) := hd 2 (by kernel_rfl)
          clear hd
          gi_wp2
          have hr := hQ'.out
          simp only [p2] at hr ⊢
          exact hr _ _ (Below.refl _ _) rfl
        · clear hd
          gi_wp2
          exact hQ'.out _ _ (Below.refl _ _) rfl
        · have p3 : s 3 = .string T := hd 3 (by kernel_rfl)
          have p4 : s 4 = .slice la xs.length lc := hd 4 (by kernel_rfl)
          have hA := hAsk V hBV
          clear hd
          gi_wp2_with (refine ⟨trivial, ?_⟩; gi_at_call 73; go_loud (refine (callsIn_wide.2 hA).mono ?_; rintro e W9 ⟨rfl, hB9⟩))
          have hr := hQ'.out
          simp only [p3, p4] at hr ⊢
          exact hr _ _ hB9 rfl
      · rintro s V hBV hd
        have p0 : s 0 = .agg #[.slice y1 d.1.length y2, .slice q1 d.2.length q2] := hd 0 (by omega)
        have p5 : s 5 = .string S := hd 5 (by omega)
        clear hd
        have hLV := hLs.more hBV
        obtain ⟨r0, r1, f0, f1⟩ := row_at hLV.res
        have hrs := hide (desk_set hLV.res (.slice y1 d.1.length y2) (.slice q1 d.2.length q2))
        have hfin := hide hLV.done
        clear hLV hLs hLs7 hAsk
        simp only [putsOf, Act.put, List.setIfInBounds_toArray, List.set_cons_succ, List.set_cons_zero]
        simp only [List.drop_succ_cons, List.drop_zero]
        simp only [p0, p5]
        gi_wp2
        (try simp only [Exit.inBlock, Exit.then])
        exact bodyPost_ret (results_desk2 rfl _ _ (w.heap.size + 1) _ _ rfl hrs.out) rfl ⟨_, by rw [hS'.out]; rfl, hfin.out.desk, hfin.out.cap, hfin.out.below⟩
end Go.Proofs.YtiaaefapbcjgmaaGreatDoor
namespace Go.Proofs.YtiaaefapbcjgmaaGreatDoor
open Go Go.RowKit Go.Shelf

theorem specLine_ask (x p : Value) (d : Dk) (l : List Nat) (w : World) (hx : Ints w x d.1) (hp : PastI w p d.2) (hb : deskB d = true) (hl : ∀ c ∈ l, c < 256) (hn : l.length ≤ 1100000) (k n : Int) (hr : rdV l = ((k, n), false)) :
    Calls Tryz.prog 21 #[.agg #[x, p], .string (str l)] w fun e w' => ∃ y, e = .returned (.tuple #[y, .string (str (qaV d.1 l))]) ∧ DeskI w' y d ∧ CapN w.heap.size y ∧ Below w.heap.size w w' := by
  unfold qaV
  by_cases h0 : l = [114, 111, 119]
  · subst h0; rw [if_pos rfl]; exact specLine_row x p d w hx hp hb k n hr
  by_cases h1 : l = [111, 110, 101, 115]
  · subst h1; rw [if_neg h0, if_pos rfl]; exact specLine_ones x p d w hx hp hb k n hr
  by_cases h2 : l = [108, 97, 115, 116]
  · subst h2; rw [if_neg h0, if_neg h1, if_pos rfl]; exact specLine_last x p d w hx hp hb k n hr
  by_cases h3 : l = [101, 110, 100]
  · subst h3; rw [if_neg h0, if_neg h1, if_neg h2, if_pos rfl]; exact specLine_end x p d w hx hp hb k n hr
  by_cases h4 : l = [98, 97, 108, 97, 110, 99, 101, 100]
  · subst h4; rw [if_neg h0, if_neg h1, if_neg h2, if_neg h3, if_pos rfl]; exact specLine_balanced x p d w hx hp hb k n hr
  rw [if_neg h0, if_neg h1, if_neg h2, if_neg h3, if_neg h4]
  exact specLine_words x p d l w hx hp hb hl hn k n hr h0 h1 h2 h3 h4

set_option maxRecDepth 100000 in
set_option maxHeartbeats 1000000 in
theorem specLine_no (x p : Value) (d : Dk) (l : List Nat) (w : World) (hx : Ints w x d.1) (hp : PastI w p d.2) (hs : DkS d) (hb : deskB d = false) :
    Calls Tryz.prog 21 #[.agg #[x, p], .string (str l)] w fun e w' => ∃ y, e = .returned (.tuple #[y, .string (str (lineV d l).2)]) ∧ DeskI w' y (lineV d l).1 ∧ CapN w.heap.size y ∧ Below w.heap.size w w' := by
  rw [lineV_no hb]
  simp only
  rw [str_nil]
  have hB : Below w.heap.size w ((w.alloc (.cells #[x, p] 31)).alloc (.cells #[.slice none 0 0, .slice none 0 0] 31)) := ((Below.refl _ w).alloc (Nat.le_refl _) _).alloc (by rw [World.size_alloc]; omega) _
  have k0 : ((w.alloc (.cells #[x, p] 31)).alloc (.cells #[.slice none 0 0, .slice none 0 0] 31)).heap[w.heap.size]? = some (.cells #[x, p] 31 (0, 0)) := (Below.heap_alloc _ _ _ (by rw [World.size_alloc]; omega)).trans (World.alloc_heap_new w _)
  have k1 := World.alloc_heap_new (w.alloc (.cells #[x, p] 31)) (.cells #[.slice none 0 0, .slice none 0 0] 31)
  rw [World.size_alloc] at k1
  obtain ⟨W1, hW1⟩ : ∃ W1, (w.alloc (.cells #[x, p] 31)).alloc (.cells #[.slice none 0 0, .slice none 0 0] 31) = W1 := ⟨_, rfl⟩
  rw [hW1] at hB k0 k1
  have hOK := specDeskOk (.agg #[x, p]) d W1 ⟨x, p, rfl, hx.below hB, hp.below hB⟩ hs
  rw [hb] at hOK
  obtain ⟨xa, xc, rfl⟩ := hx.shape
  obtain ⟨pa, pc, rfl, _⟩ := id hp
  obtain ⟨LS, hLS⟩ : ∃ LS, str l = LS := ⟨_, rfl⟩
  rw [hLS]
  obtain ⟨c0, c1, _, _⟩ := row_at k0
  have l0 := (Array.getElem?_eq_some_iff.1 k0).1
  have l1 := (Array.getElem?_eq_some_iff.1 k1).1
  clear hx hp hs hLS
  go_enter Tryz.func21, Tryz.ntmps21
  go_wp2_with (go_at_call 13; go_loud (refine hOK.mono ?_; clear hOK; rintro e W2 ⟨rfl, hB2⟩; have zres := (hB2.block _ l1).trans k1; obtain ⟨c0, c1, _, _⟩ := row_at ((hB2.block _ l0).trans k0); obtain ⟨r0, r1, f0, f1⟩ := row_at zres))
  (try simp only [Exit.inBlock, Exit.then])
  have hB3 := hB.trans (hB2.mono hB.size)
  exact bodyPost_ret (results_desk2 rfl _ _ (w.heap.size + 1) _ _ rfl (desk_set zres (.slice none 0 0) (.slice none 0 0))) rfl ⟨_, rfl, ⟨_, _, rfl, .inl ⟨_, _, rfl, rfl⟩, ⟨none, 0, rfl, fun h => absurd h (Nat.lt_irrefl 0)⟩⟩, CapN.of (Nat.le_refl _) (fun g o t e => by cases e), (hB3.setCell (p := ⟨w.heap.size + 1, 0, none⟩) (Nat.le_succ _) _).setCell (p := ⟨w.heap.size + 1, 1, none⟩) (Nat.le_succ _) _⟩

theorem specLine (v : Value) (d : Dk) (l : List Nat) (w : World) (hv : DeskI w v d) (hs : DkS d) (hl : ∀ c ∈ l, c < 256) (hn : l.length ≤ 1100000) :
    Calls Tryz.prog 21 #[v, .string (str l)] w fun e w' => ∃ y, e = .returned (.tuple #[y, .string (str (lineV d l).2)]) ∧ DeskI w' y (lineV d l).1 ∧ CapN w.heap.size y ∧ Below w.heap.size w w' := by
  obtain ⟨x, p, rfl, hx, hp⟩ := hv
  cases hb : deskB d with
  | false => exact specLine_no x p d l w hx hp hs hb
  | true =>
    obtain ⟨⟨⟨k, n⟩, b⟩, hr⟩ : ∃ r, rdV l = r := ⟨_, rfl⟩
    cases b with
    | true => exact specLine_deed x p d l w hx hp hb hl hn k n hr
    | false =>
      rw [lineV_ask hb (rdV_noneS hr)]
      exact specLine_ask x p d l w hx hp hb hl hn k n hr
end Go.Proofs.YtiaaefapbcjgmaaGreatDoor
namespace Go.Proofs.YtiaaefapbcjgmaaGreatDoor
open Go Go.RowKit

theorem wpIn_region_madeP {F : Fence} {n : Nat} {id : Nat} {ops : Array Oper} {Q : Exit → Act → World → Prop} {a : Act} {W : World} (c n1 n2 : Nat) (L : List (Option Tmp × Nat)) (Z : Value) (R : World → Value → Prop)
    (hm : Tryz.prog.follows .mixedOrders = true) (hb : backB ops = true) (ht : tailB ops (c + 6) = true) (hsz : c + 6 < ops.size)
    (hdep : (depB ops (c + 1) c && depB ops (c + 2) (c + 1) && depB ops (c + 3) (c + 1) && depB ops (c + 5) (c + 2) && depB ops (c + 5) (c + 4)) = true)
    (hnd : ((List.range (c + 5)).all fun i => (i == c + 3) || needs ops (c + 5) ops.size i) = true)
    (hL : dstsOf ops (c + 6) = L) (hok : okPuts L = true) (pre : Nat → Value → World → Prop) (hpre : ∀ k v V V', pre k v V → Below V.heap.size V V' → pre k v V')
    (hRb : ∀ V V' y, R V y → Below V.heap.size V V' → R V' y)
    (hRs : ∀ V b a1 c1 a2 c2, R V (.agg #[.slice a1 n1 c1, .slice a2 n2 c2]) → W.heap.size ≤ b → V.heap[b]? = some (.cells #[.slice none 0 0, .slice none 0 0] 31 (0, 0)) → R ((V.setCell ⟨b, 0, none⟩ (.slice a1 n1 c1)).setCell ⟨b, 1, none⟩ (.slice a2 n2 c2)) (.agg #[.slice a1 n1 c1, .slice a2 n2 c2]))
    (hstep : ∀ i o s V, i < c → ops[i]? = some o → Below W.heap.size W V → (∀ k, k < c → depB ops i k = true → pre k (s k) V) → ∀ Q' : Exit → Act → World → Prop,
      (∀ v V', Below V.heap.size V V' → pre i v V' → Q' .normal ((putsOf L a s).put o.dst v) V') → wpListIn F n Tryz.prog ops Q' [o] (putsOf L a s) V)
    (hcall : ∀ o s V, ops[c]? = some o → Below W.heap.size W V → (∀ k, k < c → depB ops c k = true → pre k (s k) V) → ∀ Q' : Exit → Act → World → Prop,
      (∀ a1 c1 a2 c2 V', Below V.heap.size V V' → R V' (.agg #[.slice a1 n1 c1, .slice a2 n2 c2]) → Q' .normal ((putsOf L a s).put o.dst (.tuple #[.agg #[.slice a1 n1 c1, .slice a2 n2 c2], Z])) V') → wpListIn F n Tryz.prog ops Q' [o] (putsOf L a s) V)
    (hmove : ∀ o s V y (Q' : Exit → Act → World → Prop), ops[c + 1]? = some o → s c = y → Q' .normal ((putsOf L a s).put o.dst y) V → wpListIn F n Tryz.prog ops Q' [o] (putsOf L a s) V)
    (hext0 : ∀ o s V x z (Q' : Exit → Act → World → Prop), ops[c + 2]? = some o → s (c + 1) = .tuple #[x, z] → Q' .normal ((putsOf L a s).put o.dst x) V → wpListIn F n Tryz.prog ops Q' [o] (putsOf L a s) V)
    (hext1 : ∀ o s V x z (Q' : Exit → Act → World → Prop), ops[c + 3]? = some o → s (c + 1) = .tuple #[x, z] → Q' .normal ((putsOf L a s).put o.dst z) V → wpListIn F n Tryz.prog ops Q' [o] (putsOf L a s) V)
    (halloc : ∀ o s V (Q' : Exit → Act → World → Prop), ops[c + 4]? = some o → Q' .normal ((putsOf L a s).put o.dst (.pointer (some ⟨V.heap.size, 0, none⟩))) (V.alloc (.cells #[.slice none 0 0, .slice none 0 0] 31)) → wpListIn F n Tryz.prog ops Q' [o] (putsOf L a s) V)
    (hstore : ∀ o s V b a1 c1 a2 c2 (Q' : Exit → Act → World → Prop), ops[c + 5]? = some o → s (c + 4) = .pointer (some ⟨b, 0, none⟩) → s (c + 2) = .agg #[.slice a1 n1 c1, .slice a2 n2 c2] → V.heap[b]? = some (.cells #[.slice none 0 0, .slice none 0 0] 31 (0, 0)) →
      Q' .normal ((putsOf L a s).put o.dst undef) ((V.setCell ⟨b, 0, none⟩ (.slice a1 n1 c1)).setCell ⟨b, 1, none⟩ (.slice a2 n2 c2)) → wpListIn F n Tryz.prog ops Q' [o] (putsOf L a s) V)
    (htail : ∀ s V b a1 c1 a2 c2, Below W.heap.size W V → s (c + 4) = .pointer (some ⟨b, 0, none⟩) → W.heap.size ≤ b → V.heap[b]? = some (.cells #[.slice a1 n1 c1, .slice a2 n2 c2] 31 (0, 0)) → R V (.agg #[.slice a1 n1 c1, .slice a2 n2 c2]) → s (c + 3) = Z → wpListIn F n Tryz.prog ops Q (ops.toList.drop (c + 6)) (putsOf L a s) V) : (Code.region id ops true).wpIn F n Tryz.prog Q a W := by
  refine wpIn_region_made c n1 n2 Z R hm hb ht hsz hdep hnd (putsOf L a) pre hpre hRb hRs (puts_self a L hok) ?_ hstep hcall hmove hext0 hext1 halloc hstore htail
  intro i o s v hi ho
  refine puts_put s o.dst i v L a hok ?_
  rw [← hL]
  unfold dstsOf
  refine List.mem_map.2 ⟨i, List.mem_range.2 hi, ?_⟩
  rw [ho]
  rfl
end Go.Proofs.YtiaaefapbcjgmaaGreatDoor
namespace Go.Proofs.YtiaaefapbcjgmaaGreatDoor
open Go Go.RowKit Go.Shelf
attribute [local go_sem] Oper.semAt_some

/-- 'append(s, z)' of one text inside a fence. -/
theorem append_txt_in {F : Fence} {k : Nat} {ops : Array Oper} {rest : List Oper} {o : Oper} {a : Act} {Q : Exit → Act → World → Prop} {w : World} {z : ByteArray} (hgd : o.guard = none) (s x : Operand)
    (ho : o.op = .call { callee := .builtin .append, args := #[s, x], argTypes := #[48, 48] })
    (base : Nat) (v : Value) (n : Nat) (xs : List Value) (hs : a.eval s = v) (hown : w.ownsRow base 9 1 v n xs) (hx : a.eval x = .slice (some ⟨w.heap.size, 0, none⟩) 1 1)
    (hn : n ≤ 4000000) (hbase : base ≤ w.heap.size)
    (h : ∀ v' w', w'.ownsRow base 9 1 v' (n + 1) (xs ++ [.string z]) → (w.alloc (.cells #[.string z] 9)).grownBy w' v.ownBlock → (v'.ownBlock = v.ownBlock ∨ v'.ownBlock = some (w.heap.size + 1)) → wpListIn F k Tryz.prog ops Q rest (a.put o.dst v') w') :
    wpListIn F k Tryz.prog ops Q (o :: rest) a (w.alloc (.cells #[.string z] 9)) := by
  obtain ⟨i0, hi, hz0, hz1, hz2⟩ := info_any Tryz.infoStr
  refine wpListIn_plain hgd fun K hK => ?_
  obtain ⟨v', w', hr, h2, h3, _, h5⟩ := run_append_own_at (P := Tryz.prog) (w.alloc (.cells #[.string z] 9)) base 48 o.type 9 i0 (.string ⟨#[]⟩) 1 16 Tryz.underlying48 hi hz0 hz1 hz2 rfl (by decide) v n xs (hown.alloc _) ⟨w.heap.size, 0, none⟩ 1 1 [.string z] rfl (cell_one_new _ _ _) (fun u hu => by simp at hu; subst hu; rfl) (by unfold maxLen; omega) (by omega) (by simp; omega)
  unfold Oper.wpIn
  refine ⟨?_, ?_⟩
  · simp [Oper.about, ho, resolve, Target.leads, Sem.run_pure]
  · rw [Oper.semAt_plain F _ _ (by rw [ho]; intro c hc'; cases hc')]
    simp only [execOp, ho, resolve, invoke, builtin, Sem.run_bind, Sem.run_pure, Result.andThen_ok, List.map_toArray, List.map_cons, List.map_nil, hs, hx, hr]
    exact hK _ _ (h v' w' h2 h3 (by rwa [World.size_alloc] at h5))
end Go.Proofs.YtiaaefapbcjgmaaGreatDoor
namespace Go.Proofs.YtiaaefapbcjgmaaGreatDoor
open Go Go.RowKit
attribute [local go_sem] Oper.semAt_some

theorem say_rows {d : Dk} (h : deskB d = true) (L : List (List Nat)) : ∀ j, j < (sayL d L).1.2.length → 1 ≤ ((sayL d L).1.2.getD j []).length := fun j hj =>
  (sideB_len ((deskB_is.1 (sayL_desk L d h)).1 ((sayL d L).1.2.getD j []) (by rw [List.getD, List.getElem?_eq_getElem hj]; exact List.getElem_mem hj))).1

/-- A round of the model's DeskSay: the desk's box b, the answers so far. -/
structure Ss (w : World) (b : Nat) (d : Dk) (L : List (List Nat)) (k : Nat) (x p u : Value) (W : World) : Prop where
  below : Below w.heap.size w W
  res : W.heap[w.heap.size + 1]? = some (.cells #[.slice none 0 0, .slice none 0 0] 31 (0, 0))
  box : W.heap[b]? = some (.cells #[x, p] 31 (0, 0))
  lt : w.heap.size + 2 ≤ b
  desk : DeskI W (.agg #[x, p]) (sayL d (L.take k)).1
  out : W.ownsRow (w.heap.size + 2) 9 1 u k ((sayL d (L.take k)).2.map txt)
  em : k = 0 → ∃ g, u = .slice (some ⟨g, 0, none⟩) 0 0 ∧ W.heap[g]? = some (.cells #[] 9 (0, 0))

/-- A block of texts changes: a desk with no empty rows stands. -/
theorem deskI_txt {V V' : World} {base r : Nat} {v : Value} {D : Dk} (h : DeskI V v D) (hN : ∀ x g o t n c, v = .agg #[x, .slice (some ⟨g, o, t⟩) n c] → base ≤ g) (hr : r < base) (h1 : 1 ≤ D.1.length) (h2 : ∀ j, j < D.2.length → 1 ≤ (D.2.getD j []).length)
    (hc : ∀ i : Int, V.cell? ⟨r, 0, none⟩ ≠ some (.int .i64 i)) (hg : V.grownBy V' (some r)) : DeskI V' v D := by
  have hI : ∀ u xs, 1 ≤ xs.length → Ints V u xs → Ints V' u xs := by
    intro u xs hx h
    rcases h with ⟨a, c, rfl, rfl⟩ | ⟨g, cap, rfl, hgl, hcl⟩
    · simp at hx
    · have hne : g ≠ r := fun e => by
        subst e
        exact hc _ (hcl 0 (by omega))
      exact .inr ⟨g, cap, rfl, Nat.lt_of_lt_of_le hgl hg.size, fun i hi => (World.cell?_of_block (w := V) (hg.block g hgl (fun e => by injection e with e; exact hne (by omega)))).trans (hcl i hi)⟩
  obtain ⟨x, p, rfl, hx, hp⟩ := h
  refine ⟨x, p, rfl, hI _ _ h1 hx, ?_⟩
  obtain ⟨a, c, rfl, h⟩ := hp
  refine ⟨a, c, rfl, fun h0 => ?_⟩
  obtain ⟨G, o, rfl, hG, hcc⟩ := h h0
  have hGb := hN _ G o _ _ _ rfl
  refine ⟨G, o, rfl, Nat.lt_of_lt_of_le hG hg.size, fun j hj => ?_⟩
  obtain ⟨u, e1, e2⟩ := hcc j hj
  exact ⟨u, (World.cell?_of_block (w := V) (hg.block G hG (fun e => by injection e with e; omega))).trans e1, hI _ _ (h2 j hj) e2⟩

theorem own_desk {W : World} {base b n : Nat} {c : Array Value} {v : Value} {xs : List Value} (h : W.ownsRow base 9 1 v n xs) (hb : W.heap[b]? = some (.cells c 31 (0, 0))) (j : Nat) (x : Value) : (W.setCell ⟨b, j, none⟩ x).ownsRow base 9 1 v n xs := by
  refine h.kept (grownBy_setAt W b j x) ?_
  right
  rcases h.2 with ⟨rfl, _⟩ | ⟨g, cap, cur, rfl, _, hg, _⟩
  · simp [Value.ownBlock]
  · intro e
    simp only [Value.ownBlock, Option.some.injEq] at e
    subst e
    rw [hg] at hb
    injection hb with hb
    injection hb with _ hb
    exact absurd hb (by decide)

set_option maxRecDepth 100000 in
set_option maxHeartbeats 1000000 in
theorem specSay_no (x p ls : Value) (d : Dk) (L : List (List Nat)) (w : World) (hx : Ints w x d.1) (hp : PastI w p d.2) (hs : DkS d) (hb : deskB d = false ∨ 40 < L.length) (hls : LinesI w ls L) (hn : L.length ≤ 2000000) : Calls Tryz.prog 26 #[.agg #[x, p], ls] w fun e w' =>
    ∃ y u, e = .returned (.tuple #[y, u]) ∧ DeskI w' y ([], []) ∧ w'.ownsRow w.heap.size 9 1 u 0 [] ∧ Below w.heap.size w w' := by
  have hB0 : Below w.heap.size w ((w.alloc (.cells #[x, p] 31)).alloc (.cells #[.slice none 0 0, .slice none 0 0] 31)) := ((Below.refl _ w).alloc (Nat.le_refl _) _).alloc (by rw [World.size_alloc]; omega) _
  have hsz0 : ((w.alloc (.cells #[x, p] 31)).alloc (.cells #[.slice none 0 0, .slice none 0 0] 31)).heap.size = w.heap.size + 2 := by simp
  have k00 : ((w.alloc (.cells #[x, p] 31)).alloc (.cells #[.slice none 0 0, .slice none 0 0] 31)).heap[w.heap.size]? = some (.cells #[x, p] 31 (0, 0)) := (Below.heap_alloc _ _ _ (by rw [World.size_alloc]; omega)).trans (World.alloc_heap_new w _)
  have k10 := World.alloc_heap_new (w.alloc (.cells #[x, p] 31)) (.cells #[.slice none 0 0, .slice none 0 0] 31)
  rw [World.size_alloc] at k10
  obtain ⟨W0, hW0⟩ : ∃ W0, (w.alloc (.cells #[x, p] 31)).alloc (.cells #[.slice none 0 0, .slice none 0 0] 31) = W0 := ⟨_, rfl⟩
  rw [hW0] at hB0 hsz0 k00 k10
  have hB := hB0.alloc hB0.size (.cells #[] 9)
  have hBa := (Below.refl _ W0).alloc (Nat.le_refl _) (.cells #[] 9)
  have hmade : (W0.alloc (.cells #[] 9)).ownsRow (w.heap.size + 2) 9 1 (.slice (some ⟨W0.heap.size, 0, none⟩) 0 0) 0 [] := World.ownsRow_made _ _ _ (by omega) (by decide) rfl
  have k0 := (hBa.block _ (Array.getElem?_eq_some_iff.1 k00).1).trans k00
  have k1 := (hBa.block _ (Array.getElem?_eq_some_iff.1 k10).1).trans k10
  rw [hsz0] at hmade
  have hOK := specDeskOk (.agg #[x, p]) d _ ⟨x, p, rfl, hx.below hB, hp.below hB⟩ hs
  obtain ⟨W1, hW1⟩ : ∃ W1, W0.alloc (.cells #[] 9) = W1 := ⟨_, rfl⟩
  rw [hW1] at hB hmade k0 k1 hOK
  obtain ⟨xa, xc, rfl⟩ := hx.shape
  obtain ⟨pa, pc, rfl, _⟩ := id hp
  obtain ⟨la, lc, rfl, hlr⟩ := hls
  obtain ⟨N, hN⟩ : ∃ N, L.length = N := ⟨_, rfl⟩
  rw [hN] at hn hb ⊢
  obtain ⟨c0, c1, _, _⟩ := row_at k0
  have l0 := (Array.getElem?_eq_some_iff.1 k0).1
  have l1 := (Array.getElem?_eq_some_iff.1 k1).1
  have h40 : deskB d = true → (40 : Int) < (N : Int) := fun e => by
    rcases hb with h | h
    · rw [e] at h; cases h
    · omega
  have hmadeh := hide hmade
  clear hx hp hs hlr hb hBa k00 k10 hmade hB0
  cases hd : deskB d <;> rw [hd] at hOK h40
  all_goals
    have h40' := h40
    clear h40
    simp at h40'
    go_enter Tryz.func26, Tryz.ntmps26
    go_wp2_with (go_at_call 13; go_loud (refine hOK.mono ?_; clear hOK; rintro e W2 ⟨rfl, hB2⟩; have zres := (hB2.block _ l1).trans k1; obtain ⟨c0, c1, _, _⟩ := row_at ((hB2.block _ l0).trans k0); obtain ⟨r0, r1, f0, f1⟩ := row_at zres))
    (try simp only [Exit.inBlock, Exit.then])
    have hB3 := hB.trans (hB2.mono hB.size)
    have hz := hB2.size
    have ho := own_desk (own_desk (own_more hmadeh.out hB2) zres 0 (.slice none 0 0)) (set_cells zres 0 (.slice none 0 0)) 1 (.slice none 0 0)
    have ho2 : ((W2.setCell ⟨w.heap.size + 1, 0, none⟩ (.slice none 0 0)).setCell ⟨w.heap.size + 1, 1, none⟩ (.slice none 0 0)).ownsRow w.heap.size 9 1 (.slice (some ⟨w.heap.size + 2, 0, none⟩) 0 0) 0 [] := by
      rcases ho.2 with ⟨h, _⟩ | ⟨g, cap, cur, h, h1, h2⟩
      · cases h
      · exact ⟨rfl, .inr ⟨g, cap, cur, h, by omega, h2⟩⟩
    exact bodyPost_ret (results_desk2 rfl _ _ (w.heap.size + 1) _ _ rfl (desk_set zres (.slice none 0 0) (.slice none 0 0))) rfl ⟨_, .slice (some ⟨w.heap.size + 2, 0, none⟩) 0 0, rfl, ⟨_, _, rfl, Ints.none _ _ _, PastI.none _ _ _⟩, ho2, (hB3.setCell (p := ⟨w.heap.size + 1, 0, none⟩) (Nat.le_succ _) _).setCell (p := ⟨w.heap.size + 1, 1, none⟩) (Nat.le_succ _) _⟩

set_option maxRecDepth 100000 in
set_option maxHeartbeats 4000000 in
theorem specSay_in (x p ls : Value) (d : Dk) (L : List (List Nat)) (w : World) (hx : Ints w x d.1) (hp : PastI w p d.2) (hb : deskB d = true) (hl : L.length ≤ 40) (hls : LinesI w ls L) (hby : ∀ l ∈ L, (∀ c ∈ l, c < 256) ∧ l.length ≤ 1100000) : Calls Tryz.prog 26 #[.agg #[x, p], ls] w fun e w' =>
    ∃ y u, e = .returned (.tuple #[y, u]) ∧ DeskI w' y (sayL d L).1 ∧ w'.ownsRow w.heap.size 9 1 u L.length ((sayL d L).2.map txt) ∧ Below w.heap.size w w' := by
  have hB0 : Below w.heap.size w ((w.alloc (.cells #[x, p] 31)).alloc (.cells #[.slice none 0 0, .slice none 0 0] 31)) := ((Below.refl _ w).alloc (Nat.le_refl _) _).alloc (by rw [World.size_alloc]; omega) _
  have hsz0 : ((w.alloc (.cells #[x, p] 31)).alloc (.cells #[.slice none 0 0, .slice none 0 0] 31)).heap.size = w.heap.size + 2 := by simp
  have k00 : ((w.alloc (.cells #[x, p] 31)).alloc (.cells #[.slice none 0 0, .slice none 0 0] 31)).heap[w.heap.size]? = some (.cells #[x, p] 31 (0, 0)) := (Below.heap_alloc _ _ _ (by rw [World.size_alloc]; omega)).trans (World.alloc_heap_new w _)
  have k10 := World.alloc_heap_new (w.alloc (.cells #[x, p] 31)) (.cells #[.slice none 0 0, .slice none 0 0] 31)
  rw [World.size_alloc] at k10
  obtain ⟨W0, hW0⟩ : ∃ W0, (w.alloc (.cells #[x, p] 31)).alloc (.cells #[.slice none 0 0, .slice none 0 0] 31) = W0 := ⟨_, rfl⟩
  rw [hW0] at hB0 hsz0 k00 k10
  have hB := hB0.alloc hB0.size (.cells #[] 9)
  have hBa := (Below.refl _ W0).alloc (Nat.le_refl _) (.cells #[] 9)
  have hmade : (W0.alloc (.cells #[] 9)).ownsRow (w.heap.size + 2) 9 1 (.slice (some ⟨W0.heap.size, 0, none⟩) 0 0) 0 [] := World.ownsRow_made _ _ _ (by omega) (by decide) rfl
  have k0 := (hBa.block _ (Array.getElem?_eq_some_iff.1 k00).1).trans k00
  have k1 := (hBa.block _ (Array.getElem?_eq_some_iff.1 k10).1).trans k10
  have hsz : w.heap.size + 2 ≤ (W0.alloc (.cells #[] 9)).heap.size := by rw [World.size_alloc]; omega
  have km := World.alloc_heap_new W0 (.cells #[] 9)
  rw [hsz0] at hmade km
  have hOK := specDeskOk (.agg #[x, p]) d _ ⟨x, p, rfl, hx.below hB, hp.below hB⟩ (deskB_size hb)
  rw [hb] at hOK
  have hKp := fun V (hV : Below w.heap.size w V) => specCopy x p d V (hx.below hV) (hp.below hV) hb
  obtain ⟨W1, hW1⟩ : ∃ W1, W0.alloc (.cells #[] 9) = W1 := ⟨_, rfl⟩
  rw [hW1] at hB hmade k0 k1 hOK hsz km
  obtain ⟨xa, xc, rfl⟩ := hx.shape
  obtain ⟨pa, pc, rfl, _⟩ := id hp
  obtain ⟨la, lc, rfl, hlr⟩ := hls
  obtain ⟨N, hN⟩ : ∃ N, L.length = N := ⟨_, rfl⟩
  rw [hN] at hl hlr ⊢
  have hl' : ¬ (40 : Int) < (N : Int) := by omega
  obtain ⟨c0, c1, _, _⟩ := row_at k0
  have l0 := (Array.getElem?_eq_some_iff.1 k0).1
  have l1 := (Array.getElem?_eq_some_iff.1 k1).1
  have hmadeh := hide hmade
  clear hx hp hBa k00 k10 hmade hB0
  refine (callsIn_wide (n := 9)).1 ?_
  refine callsIn_of_wp Tryz.func26 rfl trivial ?_ rfl
  simp only [Tryz.ntmps26, List.size_toArray, List.length_cons, List.length_nil, Nat.reduceAdd, Nat.reduceSub, Array.replicate_succ, Array.replicate_zero, List.push_toArray, List.append_toArray, List.nil_append, List.cons_append]
  gi_wp2_with fail
  refine ⟨trivial, ?_⟩
  gi_at_call 13
  refine (callsIn_wide.2 hOK).mono ?_
  rintro e W2 ⟨rfl, hB2⟩
  have hB02 := hB.trans (hB2.mono hB.size)
  have k02 := (hB2.block _ l0).trans k0
  have k12 := (hB2.block _ l1).trans k1
  have hsz2 := Nat.le_trans hsz hB2.size
  have ho2 := hide (own_more hmadeh.out hB2)
  have km2 := (hB2.block _ (Array.getElem?_eq_some_iff.1 km).1).trans km
  obtain ⟨c0, c1, _, _⟩ := row_at k02
  clear hOK hB2 k0 k1 l0 l1 hB hsz hW1 hW0 hmadeh hsz0 km
  gi_wp2_with fail
  refine ⟨trivial, ?_⟩
  gi_at_call 65
  refine (callsIn_wide.2 (hKp _ hB02)).mono ?_
  rintro e W3 ⟨y, q, rfl, hy, hq, hB3⟩
  have hdy : DeskI W3 (.agg #[y, q]) d := ⟨y, q, rfl, Ints.of_owns hy, hq.past⟩
  obtain ⟨y1, y2, rfl⟩ := own_form hy
  obtain ⟨y3, y4, rfl⟩ := hq.form
  have hB34 := (Below.refl _ W3).alloc (Nat.le_refl _) (.cells #[.slice y1 d.1.length y2, .slice y3 d.2.length y4] 31)
  have hB24 := hB3.trans (hB34.mono hB3.size)
  have kb := World.alloc_heap_new W3 (.cells #[.slice y1 d.1.length y2, .slice y3 d.2.length y4] 31)
  have hbl : w.heap.size + 2 ≤ W3.heap.size := Nat.le_trans hsz2 hB3.size
  obtain ⟨V0, hV0⟩ : ∃ V0, W3.alloc (.cells #[.slice y1 d.1.length y2, .slice y3 d.2.length y4] 31) = V0 := ⟨_, rfl⟩
  rw [hV0] at hB34 hB24 kb
  obtain ⟨b, hbe⟩ : ∃ b, W3.heap.size = b := ⟨_, rfl⟩
  rw [hbe] at kb hbl
  have hS0 : Ss w b d L 0 (.slice y1 d.1.length y2) (.slice y3 d.2.length y4) (.slice (some ⟨w.heap.size + 2, 0, none⟩) 0 0) V0 := ⟨hB02.trans (hB24.mono hB02.size), (hB24.block _ (Array.getElem?_eq_some_iff.1 k12).1).trans k12, kb, hbl, by rw [List.take_zero]; exact hdy.below hB34, by rw [List.take_zero]; exact own_more ho2.out hB24, fun _ => ⟨_, rfl, (hB24.block _ (Array.getElem?_eq_some_iff.1 km2).1).trans km2⟩⟩
  have hlen := hide (fun k => sayL_len (L.take k) d)
  clear hB02 k02 k12 hsz2 ho2 hy hq hB3 hdy hB34 hB24 kb hbl hKp c0 c1 km2
  gi_wp2
  gi_loopw [6, 8] (fun o i wr => ∃ (k : Nat) (x p : Value), k ≤ N ∧ i = .int .i64 k ∧ Ss w b d L k x p o wr) (fun _ i _ => N - (intOf i).toNat)
  case atStart => exact ⟨0, _, _, Nat.zero_le _, rfl, hS0⟩
  case round =>
    obtain ⟨k, u, q, hk, rfl, hSs⟩ := hrel
    clear hS0
    obtain ⟨rB, rres, rbox, rlt, rdesk, rout, rem⟩ := hSs
    by_cases hlt : k < N
    · have hki : (k : Int) < (N : Int) := by omega
      obtain ⟨g, ol, rfl, hg, hc⟩ := hlr (by omega)
      have e1 := hc k hlt
      have hmem : L.getD k [] ∈ L := by rw [List.getD, List.getElem?_eq_getElem (by omega)]; exact List.getElem_mem _
      obtain ⟨hb1, hb2⟩ := hby _ hmem
      have hnx := say_next (d := d) (L := L) (k := k) (by omega)
      have hdb := sayL_desk (L.take k) d hb
      have hrow := say_rows hb (L.take (k + 1))
      have hrow1 := (sideB_len (deskB_is.1 (sayL_desk (L.take (k + 1)) d hb)).2.1).1
      obtain ⟨l, hl0⟩ : ∃ l, L.getD k [] = l := ⟨_, rfl⟩
      rw [hl0] at e1 hb1 hb2 hnx
      obtain ⟨⟨dk, A⟩, hdk⟩ : ∃ r, sayL d (L.take k) = r := ⟨_, rfl⟩
      rw [hdk] at rdesk hnx hdb rout
      simp only at rdesk hnx hdb rout
      obtain ⟨⟨D, tx⟩, hDt⟩ : ∃ r, lineV dk l = r := ⟨_, rfl⟩
      have hLine := fun V y (hy : DeskI V y dk) => specLine y dk l V hy (deskB_size hdb) hb1 hb2
      rw [hDt] at hLine hnx
      simp only at hLine hnx
      rw [hnx] at hrow hrow1
      simp only at hrow hrow1
      unfold txt at e1
      obtain ⟨X, hX⟩ : ∃ X, str l = X := ⟨_, rfl⟩
      obtain ⟨T, hT⟩ : ∃ T, str tx = T := ⟨_, rfl⟩
      rw [hX] at e1 hLine
      rw [hT] at hLine
      have hTt : txt tx = .string T := by unfold txt; rw [hT]
      have hnxh := hide hnx
      have hAl : A.length = k := by
        have := hlen.out k
        rw [hdk, List.length_take] at this
        simp only at this
        omega
      obtain ⟨ux, uq, eu, hu1, hu2⟩ := id rdesk
      injection eu with eu
      simp at eu
      obtain ⟨rfl, rfl⟩ := eu
      obtain ⟨q1, q2, rfl⟩ := hu1.shape
      obtain ⟨q3, q4, rfl, _⟩ := id hu2
      have lb := (Array.getElem?_eq_some_iff.1 rbox).1
      have hAt := hide (fun V (hV : Below wr.heap.size wr V) => And.intro (row_at ((hV.block _ lb).trans rbox)) ((hV.cell (p := ⟨g, ol + k, none⟩) (Nat.lt_of_lt_of_le hg rB.size)).trans ((rB.cell (p := ⟨g, ol + k, none⟩) hg).trans e1)))
      have hLh := hide (fun V (hV : Below wr.heap.size wr V) => hLine V _ (rdesk.below hV))
      clear hX hT hDt hdk hl0 hnx hdb hmem hb1 hb2 hc hlr e1 hLine hu1 hu2 hlen hby
      gi_wp2
      refine wpIn_region_madeP 5 D.1.length D.2.length [(some 31, 0), (some 32, 1), (some 33, 2), (some 34, 3), (some 35, 4), (some 36, 5), (some 30, 6), (some 37, 7), (some 38, 8), (some 9, 9), (none, 10)] (.string T) (fun V y => DeskI V y D ∧ CapN wr.heap.size y) (by kernel_rfl) (by kernel_rfl) (by kernel_rfl) (by decide) (by kernel_rfl) (by kernel_rfl) (by rfl) (by decide)
        (fun i v V => match i with | 0 => v = .agg #[.slice q1 dk.1.length q2, .slice q3 dk.2.length q4] | 1 => v = .slice (some ⟨g, ol, none⟩) N lc | 2 => v = .int .i64 k | 3 => v = .pointer (some ⟨g, ol + k, none⟩) | 4 => v = .string X | _ => True)
        (fun i v V V' h hb => match i, h with | 0, h => h | 1, h => h | 2, h => h | 3, h => h | 4, h => h | (_ + 5), _ => trivial)
        (fun V V' y h hB => ⟨h.1.below hB, h.2⟩)
        (fun V b' a1 c1 a2 c2 h _ hz => ⟨deskI_store h.1 rfl hz hrow, h.2⟩)
        ?step ?call ?move ?ext0 ?ext1 ?allo ?stor ?tail
      case step =>
        rintro i oo s V hi ho hV hd Q' hQ
        obtain ⟨⟨m0, m1, _, _⟩, n0⟩ := hAt.out V hV
        rcases (show i = 0 ∨ i = 1 ∨ i = 2 ∨ i = 3 ∨ i = 4 by omega) with rfl | rfl | rfl | rfl | rfl
        all_goals
          simp at ho
          subst ho
          simp only [putsOf, Act.put, List.setIfInBounds_toArray, List.set_cons_succ, List.set_cons_zero] at hQ ⊢
          have hQ' := hide hQ
          clear hQ
        · clear hd
          gi_wp2
          exact hQ'.out _ _ (Below.refl _ _) rfl
        · clear hd
          gi_wp2
          exact hQ'.out _ _ (Below.refl _ _) rfl
        · clear hd
          gi_wp2
          exact hQ'.out _ _ (Below.refl _ _) rfl
        · have e1 : s 1 = .slice (some ⟨g, ol, none⟩) N lc := hd 1 (by decide) (by kernel_rfl)
          have e2 : s 2 = .int .i64 k := hd 2 (by decide) (by kernel_rfl)
          clear hd
          gi_wp2
          have hr := hQ'.out
          simp only [e1, e2] at hr ⊢
          exact hr _ _ (Below.refl _ _) rfl
        · have e1 : s 3 = .pointer (some ⟨g, ol + k, none⟩) := hd 3 (by decide) (by kernel_rfl)
          clear hd
          gi_wp2
          have hr := hQ'.out
          simp only [e1] at hr ⊢
          exact hr _ _ (Below.refl _ _) rfl
      case call =>
        rintro oo s V ho hV hd Q' hQ
        simp at ho
        subst ho
        simp only [putsOf, Act.put, List.setIfInBounds_toArray, List.set_cons_succ, List.set_cons_zero] at hQ ⊢
        have hQ' := hide hQ
        clear hQ
        have e1 : s 0 = .agg #[.slice q1 dk.1.length q2, .slice q3 dk.2.length q4] := hd 0 (by decide) (by kernel_rfl)
        have e2 : s 4 = .string X := hd 4 (by decide) (by kernel_rfl)
        have hS := hLh.out V hV
        have zV := hV.size
        clear hd
        gi_wp2_with (refine ⟨trivial, ?_⟩; gi_at_call 21; go_loud (refine (callsIn_wide.2 hS).mono ?_; rintro e W9 ⟨y9, rfl, hy9, hc9, hB9⟩))
        obtain ⟨v1, v2, rfl, hv1, hv2⟩ := id hy9
        obtain ⟨z1, z2, rfl⟩ := hv1.shape
        obtain ⟨z3, z4, rfl, _⟩ := id hv2
        have hr := hQ'.out
        simp only [e1, e2] at hr ⊢
        exact hr _ _ _ _ _ hB9 ⟨hy9, hc9.1, fun x g o t n c e => Nat.le_trans zV (hc9.2 x g o t n c e)⟩
      case move =>
        rintro oo s V y Q' ho hs hQ
        simp at ho
        subst ho
        simp only [putsOf, Act.put, List.setIfInBounds_toArray, List.set_cons_succ, List.set_cons_zero] at hQ ⊢
        have hQ' := hide hQ
        clear hQ
        gi_wp2
        have hr := hQ'.out
        simp only [hs] at hr ⊢
        exact hr
      case ext0 =>
        rintro oo s V y z Q' ho hs hQ
        simp at ho
        subst ho
        simp only [putsOf, Act.put, List.setIfInBounds_toArray, List.set_cons_succ, List.set_cons_zero] at hQ ⊢
        have hQ' := hide hQ
        clear hQ
        replace hs : s 6 = .tuple #[y, z] := hs
        gi_wp2
        have hr := hQ'.out
        simp only [hs] at hr ⊢
        exact hr
      case ext1 =>
        rintro oo s V y z Q' ho hs hQ
        simp at ho
        subst ho
        simp only [putsOf, Act.put, List.setIfInBounds_toArray, List.set_cons_succ, List.set_cons_zero] at hQ ⊢
        have hQ' := hide hQ
        clear hQ
        replace hs : s 6 = .tuple #[y, z] := hs
        gi_wp2
        have hr := hQ'.out
        simp only [hs] at hr ⊢
        exact hr
      case allo =>
        rintro oo s V Q' ho hQ
        simp at ho
        subst ho
        simp only [putsOf, Act.put, List.setIfInBounds_toArray, List.set_cons_succ, List.set_cons_zero] at hQ ⊢
        have hQ' := hide hQ
        clear hQ
        gi_wp2
        exact hQ'.out
      case stor =>
        rintro oo s V b' a1 c1 a2 c2 Q' ho hs1 hs2 hz hQ
        obtain ⟨z0, z1, z2, z3⟩ := row_at hz
        simp at ho
        subst ho
        simp only [putsOf, Act.put, List.setIfInBounds_toArray, List.set_cons_succ, List.set_cons_zero] at hQ ⊢
        have hQ' := hide hQ
        clear hQ
        replace hs1 : s 9 = .pointer (some ⟨b', 0, none⟩) := hs1
        replace hs2 : s 7 = .agg #[.slice a1 D.1.length c1, .slice a2 D.2.length c2] := hs2
        gi_wp2
        have hr := hQ'.out
        simp only [hs1, hs2] at hr ⊢
        exact hr
      case tail =>
        rintro s V b' a1 c1 a2 c2 hV f9 hb' hz ⟨hdI, hcN⟩ f8
        replace f9 : s 9 = .pointer (some ⟨b', 0, none⟩) := f9
        replace f8 : s 8 = .string T := f8
        have zbox := (hV.block _ lb).trans rbox
        have zres := (hV.block _ (Array.getElem?_eq_some_iff.1 rres).1).trans rres
        have zB := rB.trans (hV.mono rB.size)
        have zout := own_more rout hV
        obtain ⟨m0, m1, m2, m3⟩ := row_at zbox
        obtain ⟨n0, n1, _, _⟩ := row_at hz
        have dB := deskI_over (s1 := a1) (m1 := D.1.length) (e1 := c1) (s2 := a2) (m2 := D.2.length) (e2 := c2) hdI hcN.2 lb zbox
        have g0 := grownBy_setAt V b 0 (.slice a1 D.1.length c1)
        have g1 := grownBy_setAt (V.setCell ⟨b, 0, none⟩ (.slice a1 D.1.length c1)) b 1 (.slice a2 D.2.length c2)
        have zb2 := desk_set zbox (.slice a1 D.1.length c1) (.slice a2 D.2.length c2)
        have zr2 := (g1.block _ (Nat.lt_of_lt_of_le (Array.getElem?_eq_some_iff.1 zres).1 g0.size) (fun e => by injection e with e; omega)).trans ((g0.block _ (Array.getElem?_eq_some_iff.1 zres).1 (fun e => by injection e with e; omega)).trans zres)
        have zB2 := (zB.setCell (p := ⟨b, 0, none⟩) (Nat.le_trans (by omega) rlt) (.slice a1 D.1.length c1)).setCell (p := ⟨b, 1, none⟩) (Nat.le_trans (by omega) rlt) (.slice a2 D.2.length c2)
        have zo2 := own_desk (own_desk zout zbox 0 (.slice a1 D.1.length c1)) (set_cells zbox 0 (.slice a1 D.1.length c1)) 1 (.slice a2 D.2.length c2)
        obtain ⟨V3, hV3⟩ : ∃ V3, (V.setCell ⟨b, 0, none⟩ (.slice a1 D.1.length c1)).setCell ⟨b, 1, none⟩ (.slice a2 D.2.length c2) = V3 := ⟨_, rfl⟩
        rw [hV3] at dB zb2 zr2 zB2 zo2
        have hsz3 := zB2.size
        obtain ⟨oa, oc, rfl⟩ := own_shape rout
        have hro := fun r e => (rout.lt r e).2
        have hr0 : ∃ r, (Value.slice oa k oc).ownBlock = some r ∧ ∀ i : Int, V3.cell? ⟨r, 0, none⟩ ≠ some (.int .i64 i) := by
          by_cases hk0 : k = 0
          · obtain ⟨g', e, hg'⟩ := rem hk0
            refine ⟨g', by rw [e]; rfl, fun i h => ?_⟩
            have hbg := (hV.block _ (Array.getElem?_eq_some_iff.1 hg').1).trans hg'
            have hne : g' ≠ b := fun e => by rw [e, zbox] at hbg; injection hbg with hbg; injection hbg with hbg; simp at hbg
            have hb3 := (g1.block _ (Nat.lt_of_lt_of_le (Array.getElem?_eq_some_iff.1 hbg).1 g0.size) (fun e => by injection e with e; exact hne (by omega))).trans ((g0.block _ (Array.getElem?_eq_some_iff.1 hbg).1 (fun e => by injection e with e; exact hne (by omega))).trans hbg)
            rw [hV3] at hb3
            unfold World.cell? at h
            rw [hb3] at h
            simp at h
          · obtain ⟨g', cap, e, h1, h2, h3⟩ := texts_open zo2 (by omega)
            refine ⟨g', by rw [e]; rfl, fun i h => ?_⟩
            have hlA := hAl
            have h4 := h3 0 (txt (A.getD 0 [])) (by rw [List.getElem?_map, List.getD, List.getElem?_eq_getElem (by omega)]; rfl)
            rw [h4] at h
            injection h with h
            exact absurd h (by unfold txt; simp)
        have hcN2 := hcN.2
        clear rem
        clear g0 g1 zbox zres zB zout hdI hcN hz hAt hLh rB rres rbox rdesk rout hV
        simp only [putsOf, Act.put, List.setIfInBounds_toArray, List.set_cons_succ, List.set_cons_zero]
        simp only [List.drop_succ_cons, List.drop_zero]
        simp only [f9, f8]
        have hs3 : w.heap.size + 2 ≤ V3.heap.size := by have := (Array.getElem?_eq_some_iff.1 zb2).1; omega
        gi_wp2_with (gi_at_builtin; go_loud (refine append_txt_in rfl _ _ rfl (w.heap.size + 2) (.slice oa k oc) k _ rfl zo2 rfl (by omega) hs3 ?_; intro v' w1 hown' hgrow hwhere))
        have hbA := (Below.refl _ V3).alloc (Nat.le_refl _) (.cells #[.string T] 9)
        have hob : ∀ r, (Value.slice oa k oc).ownBlock = some r → r < V3.heap.size ∧ w.heap.size + 2 ≤ r ∧ ∀ c : Array Value, V3.heap[r]? ≠ some (.cells c 31 (0, 0)) := fun r e => by
          have h1 := zo2.lt r e
          refine ⟨h1.2, h1.1, fun c hc => ?_⟩
          rcases zo2.2 with ⟨h, _⟩ | ⟨g', cap, cur, h, _, hg', _⟩
          · rw [h] at e; simp [Value.ownBlock] at e
          · rw [h] at e
            simp only [Value.ownBlock, Option.some.injEq] at e
            subst e
            rw [hc] at hg'
            injection hg' with hg'
            injection hg' with _ hg'
            exact absurd hg' (by decide)
        have keepB : ∀ (r : Nat) (c : Array Value), V3.heap[r]? = some (.cells c 31 (0, 0)) → w1.heap[r]? = some (.cells c 31 (0, 0)) := fun r c h => by
          have hlt := (Array.getElem?_eq_some_iff.1 h).1
          exact (hgrow.block r (by rw [World.size_alloc]; omega) (fun e => (hob r (by first | exact e | exact e.symm)).2.2 c h)).trans ((hbA.block r hlt).trans h)
        obtain ⟨r, hr1, hr2⟩ := hr0
        rw [hr1] at hgrow
        have dA := dB.below hbA
        have hrl := hob r hr1
        have hAc : ∀ i : Int, (V3.alloc (.cells #[.string T] 9)).cell? ⟨r, 0, none⟩ ≠ some (.int .i64 i) := fun i h => hr2 i ((World.cell?_of_block (w := V3) (hbA.block r hrl.1)).symm.trans h)
        have dF := deskI_txt dA hcN2 (hro r hr1) hrow1 hrow hAc hgrow
        have bF := (zB2.alloc zB2.size (.cells #[.string T] 9)).grown hgrow (by rw [World.size_alloc]; omega) (fun q e => by injection e with e; omega)
        have fin : Ss w b d L (k + 1) (.slice a1 D.1.length c1) (.slice a2 D.2.length c2) v' w1 := by
          refine ⟨bF, keepB _ _ zr2, keepB _ _ zb2, rlt, by rw [hnxh.out]; exact dF, ?_, fun h => by omega⟩
          rw [hnxh.out, List.map_append, List.map_cons, List.map_nil, hTt]
          exact hown'
        have finh := hide fin
        clear fin bF dF dA hob keepB hAc hr2 hr1 hbA dB zb2 zr2 zB2 zo2 hown' hgrow hwhere
        go_roundw
        case rel => exact ⟨k + 1, _, _, by omega, by go_num, finh.out⟩
        case measure => simp [intOf]; omega
    · obtain rfl : k = N := by omega
      have hki : ¬ (k : Int) < (k : Int) := by omega
      have ht : L.take k = L := by rw [← hN, List.take_length]
      rw [ht] at rdesk rout
      have hrow := say_rows hb L
      obtain ⟨ux, uy, eu, hu1, hu2⟩ := id rdesk
      injection eu with eu
      simp at eu
      obtain ⟨rfl, rfl⟩ := eu
      obtain ⟨q1, q2, rfl⟩ := hu1.shape
      obtain ⟨q3, q4, rfl, _⟩ := id hu2
      obtain ⟨oa, oc, rfl⟩ := own_shape rout
      obtain ⟨n1, hn1⟩ : ∃ n1, (sayL d L).1.1.length = n1 := ⟨_, rfl⟩
      obtain ⟨n2, hn2⟩ : ∃ n2, (sayL d L).1.2.length = n2 := ⟨_, rfl⟩
      have hown := hide (deskI_store rdesk rfl rres hrow)
      have ho1 := own_desk (own_desk rout rres 0 (.slice q1 n1 q2)) (set_cells rres 0 (.slice q1 n1 q2)) 1 (.slice q3 n2 q4)
      have ho2 : ((wr.setCell ⟨w.heap.size + 1, 0, none⟩ (.slice q1 n1 q2)).setCell ⟨w.heap.size + 1, 1, none⟩ (.slice q3 n2 q4)).ownsRow w.heap.size 9 1 (.slice oa k oc) k ((sayL d L).2.map txt) := by
        rcases ho1 with ⟨h0, h | ⟨g, cap, cur, h, h1, h2⟩⟩
        · exact ⟨h0, .inl h⟩
        · exact ⟨h0, .inr ⟨g, cap, cur, h, by omega, h2⟩⟩
      rw [hn1, hn2] at rdesk rbox hown
      obtain ⟨m0, m1, _, _⟩ := row_at rbox
      obtain ⟨r0, r1, f0, f1⟩ := row_at rres
      have hrs := hide (desk_set rres (.slice q1 n1 q2) (.slice q3 n2 q4))
      have hBl := hide ((rB.setCell (p := ⟨w.heap.size + 1, 0, none⟩) (Nat.le_succ _) (.slice q1 n1 q2)).setCell (p := ⟨w.heap.size + 1, 1, none⟩) (Nat.le_succ _) (.slice q3 n2 q4))
      have ho2h := hide ho2
      clear rB rdesk ht hlr hb hrow hu1 hu2 ho1 ho2 rout rem hby hlen
      gi_wp2
      (try simp only [Exit.inBlock, Exit.then])
      exact bodyPost_ret (results_desk2 rfl _ _ (w.heap.size + 1) _ _ rfl hrs.out) rfl ⟨_, .slice oa k oc, rfl, hown.out, ho2h.out, hBl.out⟩

theorem specSay (v ls : Value) (d : Dk) (L : List (List Nat)) (w : World) (hv : DeskI w v d) (hs : DkS d) (hls : LinesI w ls L) (hn : L.length ≤ 2000000) (hby : ∀ l ∈ L, (∀ c ∈ l, c < 256) ∧ l.length ≤ 1100000) :
    Calls Tryz.prog 26 #[v, ls] w fun e w' => ∃ y u, e = .returned (.tuple #[y, u]) ∧ DeskI w' y (sayV d L).1 ∧ w'.ownsRow w.heap.size 9 1 u (sayV d L).2.length ((sayV d L).2.map txt) ∧ Below w.heap.size w w' := by
  obtain ⟨x, p, rfl, hx, hp⟩ := hv
  by_cases h : deskB d = true ∧ L.length ≤ 40
  · unfold sayV
    rw [if_pos h, sayL_len]
    exact specSay_in x p ls d L w hx hp h.1 h.2 hls hby
  · unfold sayV
    rw [if_neg h]
    refine specSay_no x p ls d L w hx hp hs ?_ hls hn
    cases hb : deskB d with
    | false => exact .inl rfl
    | true =>
      right
      rcases Nat.lt_or_ge 40 L.length with h1 | h1
      · exact h1
      · exact absurd ⟨hb, h1⟩ h
end Go.Proofs.YtiaaefapbcjgmaaGreatDoor
namespace Go.Proofs.YtiaaefapbcjgmaaGreatDoor
open Go Go.RowKit
attribute [local go_sem] Oper.semAt_some

set_option maxRecDepth 100000 in
set_option maxHeartbeats 1000000 in
theorem szStringS_in (v : Value) (L : List (List Nat)) (left : Int) (w : World) (hv : LinesI w v L) (hn : L.length ≤ 9223372036854775807) (hs : ∀ l ∈ L, l.length ≤ 9223372036854775807) (h0 : 0 ≤ left) (h1 : left ≤ 1048576) :
    Calls Tryz.prog 34 #[v, .int .i64 left] w fun e w' => ∃ r : Int, e = .returned (.int .i64 r) ∧ w' = w ∧ (0 ≤ r → r ≤ left ∧ L.length ≤ 1048576 ∧ ∀ l ∈ L, l.length ≤ 1048576) := by
  obtain ⟨la, lc, rfl, hlr⟩ := hv
  obtain ⟨N, hN⟩ : ∃ N, L.length = N := ⟨_, rfl⟩
  rw [hN] at hn hlr ⊢
  have hw0 : IntKind.i64.wrap (left - (N : Int)) = left - (N : Int) := IntWalk.i64_in _ (by omega)
  by_cases hl : left - (N : Int) < 0
  · go_enter Tryz.func34, Tryz.ntmps34
    go_wp2
    go_ret
    exact ⟨_, rfl, rfl, fun h => by omega⟩
  · go_enter Tryz.func34, Tryz.ntmps34
    go_wp2
    go_loopw [1, 5] (fun lv i wr => wr = w ∧ ∃ (k : Nat) (r : Int), k ≤ N ∧ i = .int .i64 k ∧ lv = .int .i64 r ∧ 0 ≤ r ∧ r ≤ left ∧ ∀ j, j < k → (L.getD j []).length ≤ 1048576) (fun _ i _ => N - (intOf i).toNat)
    case atStart => exact ⟨rfl, 0, _, Nat.zero_le _, rfl, rfl, by omega, by omega, fun j hj => by omega⟩
    case round =>
      obtain ⟨rfl, k, r, hk, rfl, rfl, hr0, hr1, hall⟩ := hrel
      by_cases hlt : k < N
      · have hki : (k : Int) < (N : Int) := by omega
        obtain ⟨g, o, rfl, hg, hc⟩ := hlr (by omega)
        have e1 := hc k hlt
        have hm := hs (L.getD k []) (by rw [List.getD, List.getElem?_eq_getElem (by omega)]; exact List.getElem_mem _)
        obtain ⟨l, hl0⟩ : ∃ l, L.getD k [] = l := ⟨_, rfl⟩
        rw [hl0] at e1 hm
        unfold txt at e1
        have hsz := str_size l
        obtain ⟨S, hS⟩ : ∃ S, str l = S := ⟨_, rfl⟩
        rw [hS] at e1 hsz
        have hwr : IntKind.i64.wrap (r - (S.size : Int)) = r - (S.size : Int) := IntWalk.i64_in _ (by omega)
        by_cases hneg : r - (S.size : Int) < 0
        · clear hc hlr hS
          go_wp2
          go_ret
          exact ⟨_, rfl, rfl, fun h => by omega⟩
        · clear hc hlr hS
          go_wp2
          go_roundw
          case rel =>
            refine ⟨trivial, k + 1, r - (l.length : Int), by omega, by go_num, rfl, by omega, by omega, fun j hj => ?_⟩
            rcases Nat.lt_or_ge j k with h | h
            · exact hall j h
            · obtain rfl : j = k := by omega
              rw [hl0]; omega
          case measure => simp [intOf]; omega
      · obtain rfl : k = N := by omega
        have hki : ¬ (k : Int) < (k : Int) := by omega
        clear hlr
        go_wp2
        go_ret
        refine ⟨_, rfl, rfl, fun h => ⟨by omega, by omega, fun l hl => ?_⟩⟩
        obtain ⟨j, hj, e⟩ := List.getElem_of_mem hl
        have := hall j (by omega)
        rw [List.getD, List.getElem?_eq_getElem hj] at this
        simpa [e] using this

set_option maxRecDepth 100000 in
set_option maxHeartbeats 1000000 in
theorem toStringS_in (v : Value) (L : List (List Nat)) (w : World) (hv : LinesI w v L) (hn : L.length ≤ 1100000) :
    Calls Tryz.prog 35 #[v] w fun e w' => ∃ g, e = .returned (.slice (some ⟨g, 0, none⟩) L.length L.length) ∧ w.heap.size ≤ g ∧ TxA w' g L.length (fun i => L.getD i []) ∧ Below w.heap.size w w' := by
  obtain ⟨la, lc, rfl, hlr⟩ := hv
  obtain ⟨N, hN⟩ : ∃ N, L.length = N := ⟨_, rfl⟩
  rw [hN] at hn hlr ⊢
  refine (callsIn_wide (n := 9)).1 ?_
  refine callsIn_of_wp Tryz.func35 rfl trivial ?_ rfl
  simp only [Tryz.ntmps35, List.size_toArray, List.length_cons, List.length_nil, Nat.reduceAdd, Nat.reduceSub, Array.replicate_succ, Array.replicate_zero, List.push_toArray, List.append_toArray, List.nil_append, List.cons_append]
  gi_wp2_with (refine make_texts _ rfl _ _ rfl N N N rfl rfl rfl rfl (by omega) ?_; intro w1 hT hg1)
  have hB1 : Below w.heap.size w w1 := ⟨hg1.os, hg1.tape, hg1.output, hg1.size, fun k hk => hg1.block k hk (by simp)⟩
  obtain ⟨g, hgs⟩ : ∃ g, w.heap.size = g := ⟨_, rfl⟩
  rw [hgs] at hT ⊢
  gi_loopw [4] (fun i wr => ∃ k : Nat, k ≤ N ∧ i = .int .i64 k ∧ Below w.heap.size w wr ∧ TxA wr g N (fun i => if i < k then L.getD i [] else [])) (fun i _ => N - (intOf i).toNat)
  case atStart => exact ⟨0, Nat.zero_le _, rfl, hB1, hT.congr fun i hi => by rw [if_neg (by omega)]⟩
  case round =>
    obtain ⟨k, hk, rfl, hB, hTx⟩ := hrel
    clear hT hg1 hB1
    by_cases hlt : k < N
    · have hki : (k : Int) < (N : Int) := by omega
      obtain ⟨gl, o, rfl, hgl, hc⟩ := hlr (by omega)
      have e1 := (hB.cell (p := ⟨gl, o + k, none⟩) hgl).trans (hc k hlt)
      obtain ⟨l, hl0⟩ : ∃ l, L.getD k [] = l := ⟨_, rfl⟩
      rw [hl0] at e1
      unfold txt at e1
      obtain ⟨S, hS⟩ : ∃ S, str l = S := ⟨_, rfl⟩
      have hSt : txt l = .string S := by unfold txt; rw [hS]
      rw [hS] at e1
      have t0 := hTx.cell (i := k) hlt
      have t1 := hTx.frozen k
      have fin : Below w.heap.size w (wr.setCell ⟨g, k, none⟩ (.string S)) ∧ TxA (wr.setCell ⟨g, k, none⟩ (.string S)) g N (fun i => if i < k + 1 then L.getD i [] else []) := by
        refine ⟨hB.setCell (p := ⟨g, k, none⟩) (by show w.heap.size ≤ g; omega) _, ?_⟩
        rw [← hSt]
        refine (hTx.set k l).congr fun i hi => ?_
        by_cases e : i = k
        · rw [if_pos e, if_pos (by omega), e, hl0]
        · rw [if_neg e]
          by_cases e2 : i < k
          · rw [if_pos e2, if_pos (by omega)]
          · rw [if_neg e2, if_neg (by omega)]
      have finh := hide fin
      clear fin hc hlr hTx hl0 hSt hS hgs
      gi_wp2
      go_roundw
      case rel => exact ⟨k + 1, by omega, by go_num, finh.out.1, finh.out.2⟩
      case measure => simp [intOf]; omega
    · obtain rfl : k = N := by omega
      have hki : ¬ (k : Int) < (k : Int) := by omega
      have hfin := hide (hTx.congr (f' := fun i => L.getD i []) fun i hi => by rw [if_pos hi])
      have hle : w.heap.size ≤ g := by omega
      clear hlr hTx hgs
      gi_wp2
      go_ret
      exact ⟨g, rfl, hle, hfin.out, hB⟩
end Go.Proofs.YtiaaefapbcjgmaaGreatDoor
namespace Go.Proofs.YtiaaefapbcjgmaaGreatDoor
open Go Go.RowKit

set_option maxHeartbeats 400000 in
theorem eqStringS_big (v u : Value) (L : List (List Nat)) (w : World) (hn : L.length ≤ 1100000) (hv : Texts w v L) (hu : Texts w u L) :
    Calls Tryz.prog 36 #[v, u] w fun e w' => e = .returned (.bool true) ∧ Below w.heap.size w w' := by
  obtain ⟨a, cap, rfl, hc⟩ := hv
  obtain ⟨b, cap2, rfl, hd⟩ := hu
  go_enter Tryz.func36, Tryz.ntmps36
  go_wp2
  go_loopw [5] (fun i wr => ∃ k : Nat, k ≤ L.length ∧ i = .int .i64 k ∧ Below w.heap.size w wr) (fun i _ => L.length - (intOf i).toNat)
  case atStart => exact ⟨0, Nat.zero_le _, rfl, Below.refl _ _⟩
  case round =>
    obtain ⟨k, hk, rfl, hB⟩ := hrel
    by_cases hlt : k < L.length
    · obtain ⟨g, rfl, hg, hcc⟩ := hc (by omega)
      obtain ⟨g2, rfl, hg2, hdd⟩ := hd (by omega)
      have h1 := (hB.cell (p := ⟨g, k, none⟩) (by exact hg)).trans (hcc k _ (List.getElem?_eq_getElem hlt))
      have h2 := (hB.cell (p := ⟨g2, k, none⟩) (by exact hg2)).trans (hdd k _ (List.getElem?_eq_getElem hlt))
      unfold txt at h1 h2
      generalize str L[k] = Z at *
      clear hc hd hcc hdd
      go_wp2
      go_region
      all_goals
        go_wp2
        go_roundw
        case rel => exact ⟨k + 1, by omega, by go_num, hB.drew⟩
        case measure => simp [intOf]; omega
    · obtain rfl : k = L.length := by omega
      clear hc hd
      go_wp2
      go_ret
      exact ⟨rfl, hB⟩

set_option maxHeartbeats 1000000 in
/-- markStringS: it writes marks into the cells, and hands back the next number. -/
theorem markTexts_big (g cap n : Nat) (f : Nat → ByteArray) (w : World) (hn : n ≤ 1100000) (hr : TextAt w g n f) (m : Nat) (hm1 : 1 ≤ m) (hm : m ≤ 4000000) :
    Calls Tryz.prog 37 #[.slice (some ⟨g, 0, none⟩) n cap, .int .i64 m] w fun e w' => e = .returned (.int .i64 ((m + n : Nat) : Int)) ∧ TextAt w' g n (fun i => markT (m + i)) ∧ w.grownBy w' (some g) := by
  go_enter Tryz.func37, Tryz.ntmps37
  go_wp2
  go_loopw [1, 5] (fun q i wr => ∃ k : Nat, k ≤ n ∧ i = .int .i64 k ∧ q = .int .i64 ((m : Int) + k) ∧ TextAt wr g n (fun i => if i < k then markT (m + i) else f i) ∧ w.grownBy wr (some g)) (fun _ i _ => n - (intOf i).toNat)
  case atStart => exact ⟨0, Nat.zero_le _, rfl, by simp, hr.congr (fun i _ => by rw [if_neg (by omega)]), grownBy_refl _ _⟩
  case round =>
    obtain ⟨k, hk, rfl, rfl, hrow, hg⟩ := hrel
    by_cases hlt : k < n
    · have hM : ∀ w : World, Calls Tryz.prog 85 #[.int .i64 ((m : Int) + k)] w fun e w' => e = .returned (.string (markT (m + k))) ∧ Below w.heap.size w w' := fun w => by
        have h := markText_in (m + k) (by omega) (by omega) w
        rwa [show ((m + k : Nat) : Int) = (m : Int) + k by omega] at h
      obtain ⟨Z, hZ⟩ : ∃ Z, markT (m + k) = Z := ⟨_, rfl⟩
      rw [hZ] at hM
      have hZ' := hide hZ
      have hki : (k : Int) < (n : Int) := by omega
      clear hZ hr
      go_wp2_with (go_at_call 85; (with_reducible refine (hM _).mono ?_); rintro e w2 ⟨rfl, hB2⟩; have hrow2 := hrow.of_block (hB2.block g hrow.lt); have hc := hrow2.cell (i := k) hlt; have hf := hrow2.frozen k)
      go_roundw
      case rel =>
        refine ⟨k + 1, by omega, by go_num, by go_num, ((hrow2.set (p := k) Z).congr fun i hi => ?_), grownBy_set (grownBy_more hg hB2) _ _⟩
        by_cases e : i = k
        · subst e; rw [if_pos rfl, if_pos (by omega), hZ'.out]
        · rw [if_neg e]
          by_cases e2 : i < k
          · rw [if_pos e2, if_pos (by omega)]
          · rw [if_neg e2, if_neg (by omega)]
      case measure => simp [intOf]; omega
    · obtain rfl : k = n := by omega
      have hki : ¬ (k : Int) < (k : Int) := by omega
      go_wp2
      go_ret
      exact ⟨ret_int (by omega), hrow.congr (fun i hi => by rw [if_pos hi]), hg⟩

set_option maxHeartbeats 1000000 in
/-- heldStringS: where the cells hold the marks it hands back the next number. -/
theorem heldTexts_big (g cap n : Nat) (w : World) (hn : n ≤ 1100000) (m : Nat) (hm1 : 1 ≤ m) (hm : m ≤ 4000000) (hr : TextAt w g n (fun i => markT (m + i))) :
    Calls Tryz.prog 38 #[.slice (some ⟨g, 0, none⟩) n cap, .int .i64 m] w fun e w' => e = .returned (.int .i64 ((m + n : Nat) : Int)) ∧ Below w.heap.size w w' := by
  have hB0 := Below.refl w.heap.size w
  go_enter Tryz.func38, Tryz.ntmps38
  go_wp2
  go_loopw [1, 5] (fun q i wr => ∃ k : Nat, k ≤ n ∧ i = .int .i64 k ∧ q = .int .i64 ((m : Int) + k) ∧ Below w.heap.size w wr) (fun _ i _ => n - (intOf i).toNat)
  case atStart => exact ⟨0, Nat.zero_le _, rfl, by simp, hB0⟩
  case round =>
    obtain ⟨k, hk, rfl, rfl, hB⟩ := hrel
    by_cases hlt : k < n
    · have hM : ∀ w : World, Calls Tryz.prog 85 #[.int .i64 ((m : Int) + k)] w fun e w' => e = .returned (.string (markT (m + k))) ∧ Below w.heap.size w w' := fun w => by
        have h := markText_in (m + k) (by omega) (by omega) w
        rwa [show ((m + k : Nat) : Int) = (m : Int) + k by omega] at h
      have hc1 := fun q : After w => (hr.of_block (q.ok.block g hr.lt)).cell (i := k) hlt
      obtain ⟨Z, hZ⟩ : ∃ Z, markT (m + k) = Z := ⟨_, rfl⟩
      simp only [hZ] at hM hc1
      have hki : (k : Int) < (n : Int) := by omega
      clear hZ hr
      go_wp2
      refine wp_region_below w (by kernel_rfl) (by kernel_rfl) hB ?_
      repeat (go_big_quiet_step ((go_at_call 85; with_reducible exact after_of (hM _))))
      refine wpQuiet_nil ?_
      rintro _ ⟨nq, rfl⟩
      clear hc1 hM
      go_wp2
      go_roundw
      case rel => exact ⟨k + 1, by omega, by go_num, by go_num, nq.ok⟩
      case measure => simp [intOf]; omega
    · obtain rfl : k = n := by omega
      have hki : ¬ (k : Int) < (k : Int) := by omega
      go_wp2
      go_ret
      exact ⟨ret_int (by omega), hB⟩

theorem markTexts_nil (a : Option Addr) (c m : Nat) (W : World) : Calls Tryz.prog 37 #[.slice a 0 c, .int .i64 m] W fun e w' => e = .returned (.int .i64 m) ∧ w' = W := by
  go_enter Tryz.func37, Tryz.ntmps37
  go_wp2
  go_loopw [1, 5] (fun q i wr => wr = W ∧ q = .int .i64 m ∧ i = .int .i64 0) (fun _ _ _ => 0)
  case atStart => exact ⟨rfl, rfl, rfl⟩
  case round =>
    obtain ⟨rfl, rfl, rfl⟩ := hrel
    go_wp2
    go_ret
    exact ⟨rfl, rfl⟩

theorem heldTexts_nil (a : Option Addr) (c m : Nat) (W : World) : Calls Tryz.prog 38 #[.slice a 0 c, .int .i64 m] W fun e w' => e = .returned (.int .i64 m) ∧ w' = W := by
  go_enter Tryz.func38, Tryz.ntmps38
  go_wp2
  go_loopw [1, 5] (fun q i wr => wr = W ∧ q = .int .i64 m ∧ i = .int .i64 0) (fun _ _ _ => 0)
  case atStart => exact ⟨rfl, rfl, rfl⟩
  case round =>
    obtain ⟨rfl, rfl, rfl⟩ := hrel
    go_wp2
    go_ret
    exact ⟨rfl, rfl⟩

/-- Marks over texts change no block but theirs. -/
theorem markTextsA {W : World} {base lim : Nat} {r : Value} {L : List (List Nat)} (h : W.ownsRow base 9 1 r L.length (L.map txt)) (hl : ∀ g, r.ownBlock = some g → g < lim) (hn : L.length ≤ 1100000) (m : Nat) (h1 : 1 ≤ m) (hm : m ≤ 4000000) :
    Calls Tryz.prog 37 #[r, .int .i64 m] W fun e w' => e = .returned (.int .i64 ((m + L.length : Nat) : Int)) ∧ Between base lim W w' := by
  by_cases h0 : 0 < L.length
  · obtain ⟨g, cap, rfl, hb, hT⟩ := TextAt.of_owns h h0
    have hg := hl g rfl
    exact (markTexts_big g cap L.length _ W hn hT m h1 hm).mono fun e w' ⟨e1, _, h3⟩ => ⟨e1, h3.os, h3.tape, h3.output, h3.size, fun k hk ho => h3.block k hk (fun e => by injection e with e; omega)⟩
  · obtain ⟨a, c, rfl⟩ := own_shape h
    rw [show L.length = 0 by omega]
    exact (markTexts_nil a c m W).mono fun e w' ⟨h1, h2⟩ => ⟨h1, h2 ▸ Between.refl _ _ _⟩

/-- n texts, marked from m on. -/
def MarkedT (w : World) (v : Value) (n m : Nat) : Prop := (n = 0 ∧ ∃ a c, v = .slice a 0 c) ∨ ∃ g cap, v = .slice (some ⟨g, 0, none⟩) n cap ∧ TextAt w g n (fun i => markT (m + i))

theorem MarkedT.below {w w' : World} {v : Value} {n m : Nat} (h : MarkedT w v n m) (hB : Below w.heap.size w w') : MarkedT w' v n m := by
  rcases h with h | ⟨g, cap, e, hT⟩
  · exact .inl h
  · exact .inr ⟨g, cap, e, hT.of_block (hB.block g hT.lt)⟩

theorem markTextsG {W : World} {base lim : Nat} {r : Value} {L : List (List Nat)} (h : W.ownsRow base 9 1 r L.length (L.map txt)) (hl : L.length = 0 ∨ ∀ g, r.ownBlock = some g → g < lim) (hn : L.length ≤ 1100000) (m : Nat) (h1 : 1 ≤ m) (hm : m ≤ 4000000) :
    Calls Tryz.prog 37 #[r, .int .i64 m] W fun e w' => e = .returned (.int .i64 ((m + L.length : Nat) : Int)) ∧ MarkedT w' r L.length m ∧ Between base lim W w' := by
  by_cases h0 : 0 < L.length
  · obtain ⟨g, cap, rfl, hb, hT⟩ := TextAt.of_owns h h0
    have hg := (hl.resolve_left (by omega)) g rfl
    exact (markTexts_big g cap L.length _ W hn hT m h1 hm).mono fun e w' ⟨e1, h2, h3⟩ => ⟨e1, .inr ⟨g, cap, rfl, h2⟩, h3.os, h3.tape, h3.output, h3.size, fun k hk ho => h3.block k hk (fun e => by injection e with e; omega)⟩
  · obtain ⟨a, c, rfl⟩ := own_shape h
    rw [show L.length = 0 by omega]
    exact (markTexts_nil a c m W).mono fun e w' ⟨h1, h2⟩ => ⟨h1, .inl ⟨rfl, a, c, rfl⟩, h2 ▸ Between.refl _ _ _⟩

theorem heldTextsG {w : World} {v : Value} {n m : Nat} (h : MarkedT w v n m) (hn : n ≤ 1100000) (h1 : 1 ≤ m) (hm : m ≤ 4000000) :
    Calls Tryz.prog 38 #[v, .int .i64 m] w fun e w' => e = .returned (.int .i64 ((m + n : Nat) : Int)) ∧ Below w.heap.size w w' := by
  rcases h with ⟨rfl, a, c, rfl⟩ | ⟨g, cap, rfl, hT⟩
  · exact (heldTexts_nil a c m w).mono fun e w' ⟨e1, e2⟩ => ⟨e1, e2 ▸ Below.refl _ _⟩
  · exact heldTexts_big g cap n w hn m h1 hm hT
end Go.Proofs.YtiaaefapbcjgmaaGreatDoor
namespace Go.Proofs.YtiaaefapbcjgmaaGreatDoor
open Go Go.RowKit
attribute [local go_sem] Oper.semAt_some

theorem sayV_rows2 (d : Dk) (L : List (List Nat)) : RowsOk (sayV d L).1 := by
  unfold sayV
  split
  · rename_i h
    exact RowsOk.of (sayL_desk L d h.1)
  · exact rowsOk_none

theorem sayV_len2 (d : Dk) (L : List (List Nat)) : (sayV d L).2.length ≤ 41 := by
  unfold sayV
  split
  · rw [sayL_len]; omega
  · simp

theorem OwnDk.lo_le {W : World} {base : Nat} {v : Value} {d : Dk} (h : OwnDk W base v d) : base ≤ W.heap.size := by
  obtain ⟨mid, x, p, rfl, h2, h3, _⟩ := h
  omega

theorem own_betweenLow {W W' : World} {base base' lim' n size : Nat} {e : TypeId} {v : Value} {xs : List Value} (h : W.ownsRow base e size v n xs) (hB : Between base' lim' W W') (hl : ∀ g, v.ownBlock = some g → g < base') : W'.ownsRow base e size v n xs := by
  refine ⟨h.1, ?_⟩
  rcases h.2 with h2 | ⟨g, cap, cur, e1, hb, hg, h3⟩
  · exact .inl h2
  · exact .inr ⟨g, cap, cur, e1, hb, (hB.block g (Array.getElem?_eq_some_iff.1 hg).1 (.inl (hl g (by rw [e1]; rfl)))).trans hg, h3⟩

theorem markTextsH {W : World} {base lim : Nat} {a : Option Addr} {c : Nat} {L : List (List Nat)} (h : L.length = 0 ∨ (W.ownsRow base 9 1 (.slice a L.length c) L.length (L.map txt) ∧ ∀ g, Value.ownBlock (.slice a L.length c) = some g → g < lim)) (hn : L.length ≤ 1100000) (m : Nat) (h1 : 1 ≤ m) (hm : m ≤ 4000000) :
    Calls Tryz.prog 37 #[.slice a L.length c, .int .i64 m] W fun e w' => e = .returned (.int .i64 ((m + L.length : Nat) : Int)) ∧ MarkedT w' (.slice a L.length c) L.length m ∧ Between base lim W w' := by
  rcases h with h0 | ⟨h, hl⟩
  · rw [h0]
    exact (markTexts_nil a c m W).mono fun e w' ⟨e1, e2⟩ => ⟨e1, .inl ⟨rfl, a, c, rfl⟩, e2 ▸ Between.refl _ _ _⟩
  · exact markTextsG h (.inr hl) hn m h1 hm

theorem toStringS_own (W0 : World) (v : Value) (L : List (List Nat)) (w : World) (h : LinesI W0 v L) (hB : Below W0.heap.size W0 w) (hl : L.length ≤ 1100000) :
    Calls Tryz.prog 35 #[v] w fun e w' => ∃ r, e = .returned r ∧ w'.ownsRow w.heap.size 9 1 r L.length (L.map txt) ∧ Below w.heap.size w w' :=
  (toStringS_in v L w (h.below hB) hl).mono fun _ _ ⟨_, h1, h2, h3, h4⟩ => ⟨_, h1, h3.own h2 hl rfl (fun _ _ => rfl), h4⟩

set_option maxRecDepth 100000 in
set_option maxHeartbeats 4000000 in
theorem exactDeskSay (v ls : Value) (d : Dk) (L : List (List Nat)) (w : World) (hv : ArgD w v d) (hn1 : d.1.length ≤ 9223372036854775807) (hn : d.2.length ≤ 9223372036854775807) (hln : ∀ j, (d.2.getD j []).length ≤ 9223372036854775807) (hls : LinesI w ls L) (hf : ∀ l ∈ L, ∀ c ∈ l, c < 256) (hLn : L.length ≤ 9223372036854775807) (hl2 : ∀ l ∈ L, l.length ≤ 9223372036854775807) (hE : Env w) :
    Calls Tryz.prog 7 #[v, ls] w fun e w' => e = .returned (.bool true) ∧ Below w.heap.size w w' := by
  obtain ⟨va, vb, vc, ve, hform⟩ := hv.form
  obtain ⟨x, p, rfl, hx, hp⟩ := id hv
  injection hform with hform
  simp at hform
  obtain ⟨rfl, rfl⟩ := hform
  obtain ⟨la, lc, rfl, _⟩ := id hls
  have hB := (Below.refl _ w).alloc (Nat.le_refl _) (.cells #[.slice va d.1.length vb, .slice vc d.2.length ve] 54)
  have k0 := World.alloc_heap_new w (.cells #[.slice va d.1.length vb, .slice vc d.2.length ve] 54)
  obtain ⟨wb, hwb⟩ : ∃ wb, w.alloc (.cells #[.slice va d.1.length vb, .slice vc d.2.length ve] 54) = wb := ⟨_, rfl⟩
  rw [hwb] at hB k0
  have hz := szDesk_in _ d 1048576 wb (hv.below hB) hn1 hn hln (Nat.le_refl _)
  obtain ⟨c0, c1, _, _⟩ := row_at k0
  have l0 := (Array.getElem?_eq_some_iff.1 k0).1
  have hv' := hide hv
  have hls' := hide hls
  have hf' := hide hf
  have hEh := hide hE
  have hl2h := hide hl2
  clear hv hx hp hn1 hn hln hls hf hE hl2
  refine (callsIn_wide (n := 9)).1 ?_
  refine callsIn_of_wp Tryz.func7 rfl trivial ?_ rfl
  simp only [Tryz.ntmps7, List.size_toArray, List.length_cons, List.length_nil, Nat.reduceAdd, Nat.reduceSub, Array.replicate_succ, Array.replicate_zero, List.push_toArray, List.append_toArray, List.nil_append, List.cons_append]
  gi_wp2_with fail
  refine ⟨trivial, ?_⟩
  gi_at_call 29
  refine (callsIn_wide.2 hz).mono ?_
  rintro e W2 ⟨rfl | ⟨q, rfl, hq⟩, hB2⟩
  · gi_wp2
    go_ret
    exact ⟨rfl, hB.trans (hB2.mono hB.size)⟩
  · have hq0 : ¬ (q : Int) < 0 := by omega
    have hq1 : q ≤ 1048576 := by omega
    have s1 : d.1.length ≤ 1048576 := by omega
    have s2 : d.2.length ≤ 1048576 := by omega
    have s3 : ∀ j, j < d.2.length → (d.2.getD j []).length ≤ 1048576 := fun j hj => by
      have := acc_each (fun j => (d.2.getD j []).length) d.2.length j hj
      exact Nat.le_trans this (by omega)
    have s4 : DkS d := ⟨by omega, by omega, fun j => by
      by_cases hj : j < d.2.length
      · have := s3 j hj; omega
      · rw [List.getD, List.getElem?_eq_none (by omega)]; simp⟩
    have s5 : accN (fun j => (d.2.getD j []).length) d.2.length ≤ 1048576 := by omega
    have hzl := szStringS_in (.slice la L.length lc) L q W2 (hls'.out.below (hB.trans (hB2.mono hB.size))) hLn hl2h.out (by omega) (by omega)
    clear hz hq hLn
    gi_wp2_with fail
    refine ⟨trivial, ?_⟩
    gi_at_call 34
    refine (callsIn_wide.2 hzl).mono ?_
    rintro e W2' ⟨r, rfl, hW2, hr⟩
    have hW3 := hW2.symm
    subst hW3
    clear hW2
    by_cases hr0 : r < 0
    · gi_wp2
      go_ret
      exact ⟨rfl, hB.trans (hB2.mono hB.size)⟩
    obtain ⟨_, hL2, hlb⟩ := hr (by omega)
    have hT := fun V (hV : Below w.heap.size w V) => toDeskA_in w _ d V hv'.out hV s1 s2 s3
    have hTL := fun V (hV : Below w.heap.size w V) => toStringS_own w _ L V hls'.out hV (by omega)
    have hby : ∀ l ∈ L, (∀ c ∈ l, c < 256) ∧ l.length ≤ 1100000 := fun l hl => ⟨hf'.out l hl, by have := hlb l hl; omega⟩
    have hEV := fun V (hV : Below w.heap.size w V) => hEh.out.below hV
    have hRo := sayV_rows2 d L
    have hTl := sayV_len2 d L
    have hSp := fun V y z (hy : DeskI V y d) (hz : LinesI V z L) => specSay y z d L V hy s4 hz (by omega) hby
    have hIm := fun V y z (hy : DeskI V y d) (hz : LinesI V z L) (hE : Env V) => implSayS y z d L V hy s4 hz (by omega) hby hE
    obtain ⟨⟨D, T⟩, hD⟩ : ∃ r, sayV d L = r := ⟨_, rfl⟩
    rw [hD] at hRo hSp hIm hTl
    simp only at hRo hSp hIm hTl
    obtain ⟨hsz, hr0', hr1, hr2, hacc⟩ := hRo.facts
    obtain ⟨hDr, hDs, hDn, hDm⟩ := hRo
    clear hD hzl hby hr hlb
    have hBw := hB
    have hm2 := hB2
    have hAt : ∀ V, Below wb.heap.size wb V → Below w.heap.size w V ∧ (V.cell? ⟨w.heap.size, 0, none⟩ = some (.slice va d.1.length vb) ∧ V.cell? ⟨w.heap.size, 1, none⟩ = some (.slice vc d.2.length ve)) := fun V hV => by
      obtain ⟨a0, a1, _, _⟩ := row_at ((hV.block _ l0).trans k0)
      exact ⟨hBw.trans (hV.mono hBw.size), a0, a1⟩
    have hAth := hide hAt
    have hTh := hide hT
    have hTLh := hide hTL
    have hSph := hide hSp
    have hEVh := hide hEV
    have hImh := hide hIm
    clear hB hB2 c0 c1 hAt k0 l0 hT hTL hSp hIm hEV
    have hbW2 := hm2
    obtain ⟨dW2, a0, a1⟩ := hAth.out W2 hbW2
    gi_wp2_with fail
    refine ⟨trivial, ?_⟩
    gi_at_call 30
    refine (callsIn_wide.2 (hTh.out _ dW2)).mono ?_
    rintro e w3 ⟨y3, rfl, oy3, b3⟩
    have hbw3 := hbW2.trans (b3.mono hbW2.size)
    obtain ⟨dw3, a0, a1⟩ := hAth.out w3 hbw3
    gi_wp2_with fail
    refine ⟨trivial, ?_⟩
    gi_at_call 35
    refine (callsIn_wide.2 (hTLh.out _ dw3)).mono ?_
    rintro e w4 ⟨z4, rfl, hz4, b4⟩
    have hbw4 := hbw3.trans (b4.mono hbw3.size)
    have hdi4 := oy3.deskI.below b4
    have hzi4 := LinesI.of (Texts.of_owns hz4)
    gi_wp2_with fail
    refine ⟨trivial, ?_⟩
    gi_at_call 26
    refine (callsIn_wide.2 (hSph.out _ _ _ hdi4 hzi4)).mono ?_
    rintro e w5 ⟨y5, u5, rfl, hy5, hu5, b5⟩
    have hq5 := Texts.of_owns hu5
    obtain ⟨qa, qc, rfl⟩ := own_shape hu5
    clear hu5
    have hbw5 := hbw4.trans (b5.mono hbw4.size)
    obtain ⟨yx, yp, rfl, hyx, hyp⟩ := id hy5
    obtain ⟨m1, m2, rfl⟩ := hyx.shape
    obtain ⟨m3, m4, rfl, _⟩ := id hyp
    obtain ⟨dw5, a0, a1⟩ := hAth.out w5 hbw5
    clear oy3 b3 hz4 b4 hdi4 hzi4 b5 hyx hyp a0 a1 hbW2 hbw3 hbw4 dW2 dw3
    have hbwm0 := hbw5.alloc hbw5.size (.cells #[.slice m1 D.1.length m2, .slice m3 D.2.length m4] 31)
    obtain ⟨_, a0, a1⟩ := hAth.out _ hbwm0
    have ba := (Below.refl _ w5).alloc (Nat.le_refl _) (.cells #[.slice m1 D.1.length m2, .slice m3 D.2.length m4] 31)
    have ka := World.alloc_heap_new w5 (.cells #[.slice m1 D.1.length m2, .slice m3 D.2.length m4] 31)
    have za := World.size_alloc w5 (.cells #[.slice m1 D.1.length m2, .slice m3 D.2.length m4] 31)
    gi_wp2_with fail
    obtain ⟨wm, hwn⟩ : ∃ wn, w5.alloc (.cells #[.slice m1 D.1.length m2, .slice m3 D.2.length m4] 31) = wn := ⟨_, rfl⟩
    rw [hwn] at ba ka za ⊢
    clear hwn
    have km := ka
    have hmod := hy5.below ba
    have hqm := hq5.below ba
    have hmm := hbw5.trans (ba.mono hbw5.size)
    have dm := (hAth.out wm hmm).1
    have lm := (Array.getElem?_eq_some_iff.1 km).1
    have hms := hmm.size
    obtain ⟨bm, hbm⟩ : ∃ bm, w5.heap.size = bm := ⟨_, rfl⟩
    rw [hbm] at km lm ⊢
    clear ba ka za hy5 hq5 hbw5 hbwm0 dw5 hbm hm2
    refine ⟨trivial, ?_⟩
    gi_at_call 30
    refine (callsIn_wide.2 (hTh.out _ dm)).mono ?_
    rintro e w6 ⟨y6, rfl, ox6, b6⟩
    have dx6 := dm.trans (b6.mono dm.size)
    obtain ⟨x1, x2, x3, x4, rfl⟩ := ox6.form
    have ba := (Below.refl _ w6).alloc (Nat.le_refl _) (.cells #[.slice x1 d.1.length x2, .slice x3 d.2.length x4] 31)
    have ka := World.alloc_heap_new w6 (.cells #[.slice x1 d.1.length x2, .slice x3 d.2.length x4] 31)
    have za := World.size_alloc w6 (.cells #[.slice x1 d.1.length x2, .slice x3 d.2.length x4] 31)
    gi_wp2_with fail
    obtain ⟨w7, hwn⟩ : ∃ wn, w6.alloc (.cells #[.slice x1 d.1.length x2, .slice x3 d.2.length x4] 31) = wn := ⟨_, rfl⟩
    rw [hwn] at ba ka za ⊢
    clear hwn
    have kx7 := ka
    have hm7 : Below wm.heap.size wm w7 := b6.trans (ba.mono b6.size)
    have ox7 := ox6.below ba
    have z67 : w6.heap.size + 1 = w7.heap.size := za.symm
    have dw7 := dx6.trans (ba.mono dx6.size)
    obtain ⟨bx, hbx⟩ : ∃ bx, w6.heap.size = bx := ⟨_, rfl⟩
    rw [hbx] at kx7 ox7 z67 ⊢
    have z67a : bx + 1 ≤ w7.heap.size := by omega
    have z67b := hm7.size
    clear ka ba za z67 b6 ox6 dx6 hbx
    refine ⟨trivial, ?_⟩
    gi_at_call 35
    refine (callsIn_wide.2 (hTLh.out _ dw7)).mono ?_
    rintro e w8 ⟨r8, rfl, hr8, b8⟩
    obtain ⟨ra, rc, rfl⟩ := own_shape hr8
    have hrl : ∀ g, Value.ownBlock (.slice ra L.length rc) = some g → g < w8.heap.size := fun g e => (hr8.lt g e).2
    have hm8 := hm7.trans (b8.mono hm7.size)
    have ox8 := ox7.below b8
    have kx8 := (b8.block _ (Array.getElem?_eq_some_iff.1 kx7).1).trans kx7
    have hri8 := LinesI.of (Texts.of_owns hr8)
    have hE8 := hEVh.out _ (dm.trans (hm8.mono dm.size))
    have z8 := b8.size
    obtain ⟨x5, x6, _, _⟩ := row_at kx8
    clear b8 ox7 kx7 hm7 dw7
    gi_wp2_with fail
    refine ⟨trivial, ?_⟩
    gi_at_call 25
    refine (callsIn_wide.2 (hImh.out _ _ _ ox8.deskI hri8 hE8)).mono ?_
    rintro e w9 ⟨y9, u9, bs, rfl, hbs, og9, hu9, hsep, b9⟩
    obtain ⟨ua, uc, rfl⟩ := own_shape hu9
    have hbs9 : bs ≤ w9.heap.size := og9.lo_le
    obtain ⟨g1, g2, g3, g4, rfl⟩ := og9.form
    obtain ⟨mid, og9⟩ := OwnD.of og9 hr0'
    have hm9 := hm8.trans (b9.mono hm8.size)
    have ox9 := ox8.below b9
    have kx9 := (b9.block _ (Array.getElem?_eq_some_iff.1 kx8).1).trans kx8
    have hr9 := own_belowN hr8 b9
    have z9 := b9.size
    clear b9 ox8 kx8 hm8 hri8 hr8 x5 x6 hE8
    have bg0 := (Below.refl _ w9).alloc (Nat.le_refl _) (.cells #[.slice g1 D.1.length g2, .slice g3 D.2.length g4] 31)
    have kg10 := World.alloc_heap_new w9 (.cells #[.slice g1 D.1.length g2, .slice g3 D.2.length g4] 31)
    obtain ⟨w10, hw10⟩ : ∃ wn, w9.alloc (.cells #[.slice g1 D.1.length g2, .slice g3 D.2.length g4] 31) = wn := ⟨_, rfl⟩
    rw [hw10] at bg0 kg10
    have hm10 := hm9.trans (bg0.mono hm9.size)
    have og10 := og9.below bg0
    have ox10 := ox9.below bg0
    have kx10 := (bg0.block _ (Array.getElem?_eq_some_iff.1 kx9).1).trans kx9
    have hr10 := own_belowN hr9 bg0
    have hu10 := own_belowN hu9 bg0
    have lg10 := (Array.getElem?_eq_some_iff.1 kg10).1
    obtain ⟨e0, e1, _, _⟩ := row_at kg10
    obtain ⟨m5, m6, _, _⟩ := row_at ((hm10.block _ lm).trans km)
    clear bg0 og9 ox9 kx9 hr9 hm9 hu9
    gi_wp2_with fail
    refine ⟨trivial, ?_⟩
    gi_at_call 31
    refine (callsIn_wide.2 (eqDesk_in _ _ D _ hsz og10.deskI (hmod.below hm10))).mono ?_
    rintro e w12a ⟨rfl, b12a⟩
    have hm12a := hm10.trans (b12a.mono hm10.size)
    have og12a := og10.below b12a
    have ox12a := ox10.below b12a
    have kg12a := (b12a.block _ lg10).trans kg10
    have kx12a := (b12a.block _ (Array.getElem?_eq_some_iff.1 kx10).1).trans kx10
    have hr12a := own_belowN hr10 b12a
    have hu12a := own_belowN hu10 b12a
    have z12a := b12a.size
    clear og10 ox10 kg10 kx10 hr10 hu10 hm10 e0 e1 m5 m6 b12a
    gi_wp2_with fail
    refine ⟨trivial, ?_⟩
    gi_at_call 36
    refine (callsIn_wide.2 (eqStringS_big _ _ T _ (by omega) (Texts.of_owns hu12a) (hqm.below hm12a))).mono ?_
    rintro e w12 ⟨rfl, b12⟩
    have hm12 := hm12a.trans (b12.mono hm12a.size)
    have og12 := og12a.below b12
    have ox12 := ox12a.below b12
    have kg12 := (b12.block _ (Array.getElem?_eq_some_iff.1 kg12a).1).trans kg12a
    have kx12 := (b12.block _ (Array.getElem?_eq_some_iff.1 kx12a).1).trans kx12a
    have hr12 := own_belowN hr12a b12
    have hu12 := own_belowN hu12a b12
    have z12 := Nat.le_trans z12a b12.size
    clear hm12a og12a ox12a kg12a kx12a hr12a hu12a z12a
    obtain ⟨bg, hbg⟩ : ∃ bg, w9.heap.size = bg := ⟨_, rfl⟩
    rw [hbg] at kg12 og12 z9
    clear b12
    gi_wp2
    skip
    refine wpIn_region_put 3 [(some 55, 0), (some 56, 1), (some 57, 2)] (by kernel_rfl) (by kernel_rfl) (by kernel_rfl) (by decide) (by rfl) (by decide)
      (fun i v V => match i with | 0 => v = .agg #[.slice x1 d.1.length x2, .slice x3 d.2.length x4] | 1 => v = .agg #[.slice va d.1.length vb, .slice vc d.2.length ve] | 2 => DeskI V v d | _ => True)
      (fun i v V V' h hb => match i, h with | 0, h => h | 1, h => h | 2, h => h.below hb | (_ + 3), _ => trivial)
      ?step ?tail
    case step =>
      rintro i oo s V hi ho hV hd Q' hQ
      have hVb := hmm.trans ((hm12.trans (hV.mono hm12.size)).mono hmm.size)
      obtain ⟨hVw, a0, a1⟩ := hAth.out V hVb
      have hT8 := hTh.out V hVw
      obtain ⟨x5, x6, _, _⟩ := row_at ((hV.block _ (Array.getElem?_eq_some_iff.1 kx12).1).trans kx12)
      rcases (show i = 0 ∨ i = 1 ∨ i = 2 by omega) with rfl | rfl | rfl
      all_goals
        simp at ho
        subst ho
        simp only [putsOf, Act.put, List.setIfInBounds_toArray, List.set_cons_succ, List.set_cons_zero] at hQ ⊢
        have hQ' := hide hQ
        clear hQ
      · clear hd
        gi_wp2
        exact hQ'.out _ _ (Below.refl _ _) rfl
      · clear hd
        gi_wp2
        exact hQ'.out _ _ (Below.refl _ _) rfl
      · have e1 : s 1 = .agg #[.slice va d.1.length vb, .slice vc d.2.length ve] := hd 1 (by kernel_rfl)
        clear hd
        gi_wp2_with (refine ⟨trivial, ?_⟩; gi_at_call 30; go_loud (refine (callsIn_wide.2 hT8).mono ?_; rintro e W9 ⟨x9, rfl, hx9, hB9⟩))
        have hr := hQ'.out
        simp only [e1] at hr ⊢
        exact hr _ _ hB9 hx9.deskI
    case tail =>
      rintro s w13 hV hd
      have e1 : s 0 = .agg #[.slice x1 d.1.length x2, .slice x3 d.2.length x4] := hd 0 (by omega)
      have f2 : DeskI w13 (s 2) d := hd 2 (by omega)
      clear hd
      have hm13 := hm12.trans (hV.mono hm12.size)
      have og13 := og12.below hV
      have ox13 := ox12.below hV
      have kg13 := (hV.block _ (Array.getElem?_eq_some_iff.1 kg12).1).trans kg12
      have kx13 := (hV.block _ (Array.getElem?_eq_some_iff.1 kx12).1).trans kx12
      have hr13 := own_belowN hr12 hV
      have hu13 := own_belowN hu12 hV
      have z13 := hV.size
      have hE := eqDesk_in _ (s 2) d w13 ⟨by omega, by omega, fun j hj => by have := s3 j hj; omega⟩ ox13.deskI f2
      clear hm12 og12 ox12 kg12 kx12 hr12 hu12 hV
      simp only [putsOf, Act.put, List.setIfInBounds_toArray, List.set_cons_succ, List.set_cons_zero]
      simp only [List.drop_succ_cons, List.drop_zero]
      gi_wp2_with fail
      refine ⟨trivial, ?_⟩
      gi_at_call 31
      refine (callsIn_wide.2 (hE)).mono ?_
      rintro e w14 ⟨rfl, b14⟩
      have hm14 := hm13.trans (b14.mono hm13.size)
      have og14 := og13.below b14
      have ox14 := ox13.below b14
      have kg14 := (b14.block _ (Array.getElem?_eq_some_iff.1 kg13).1).trans kg13
      have kx14 := (b14.block _ (Array.getElem?_eq_some_iff.1 kx13).1).trans kx13
      have hr14 := own_belowN hr13 b14
      have hu14 := own_belowN hu13 b14
      have z14 := b14.size
      have dw14 := (hAth.out _ (hmm.trans (hm14.mono hmm.size))).1
      clear hm13 og13 ox13 kg13 kx13 hr13 hu13 b14 hE f2
      gi_wp2_with fail
      refine ⟨trivial, ?_⟩
      gi_at_call 35
      refine (callsIn_wide.2 (hTLh.out _ dw14)).mono ?_
      rintro e w15 ⟨r15, rfl, hn15, b15⟩
      have hd15 := Texts.of_owns hn15
      have hr15 := own_belowN hr14 b15
      have hu15 := own_belowN hu14 b15
      have hE := eqStringS_big _ _ L w15 (by omega) (Texts.of_owns hr15) hd15
      have hm15 := hm14.trans (b15.mono hm14.size)
      have og15 := og14.below b15
      have ox15 := ox14.below b15
      have kg15 := (b15.block _ (Array.getElem?_eq_some_iff.1 kg14).1).trans kg14
      have kx15 := (b15.block _ (Array.getElem?_eq_some_iff.1 kx14).1).trans kx14
      have z15 := b15.size
      clear hm14 og14 ox14 kg14 kx14 hr14 hu14 b15 hn15 dw14 hd15
      gi_wp2_with fail
      refine ⟨trivial, ?_⟩
      gi_at_call 36
      refine (callsIn_wide.2 (hE)).mono ?_
      rintro e w16 ⟨rfl, b16⟩
      have hm16 := hm15.trans (b16.mono hm15.size)
      have og16 := og15.below b16
      have ox16 := ox15.below b16
      have kg16 := (b16.block _ (Array.getElem?_eq_some_iff.1 kg15).1).trans kg15
      have kx16 := (b16.block _ (Array.getElem?_eq_some_iff.1 kx15).1).trans kx15
      have hr16 := own_belowN hr15 b16
      have hu16 := own_belowN hu15 b16
      have z16 := b16.size
      obtain ⟨x5, x6, _, _⟩ := row_at kx16
      have lg16 := (Array.getElem?_eq_some_iff.1 kg16).1
      clear hm15 og15 ox15 kg15 kx15 hr15 hu15 b16 hE
      gi_wp2_with fail
      refine ⟨trivial, ?_⟩
      gi_at_call 32
      refine (callsIn_wide.2 (markA_in ox16 s1 s2 s5 1 (by omega))).mono ?_
      rintro e w19 ⟨rfl, hx19⟩
      have hm19 := hx19.below hm16 (by omega) hm16.size
      have og19 := og16.between hx19 (.inr (by omega))
      have kg19 := (hx19.block _ lg16 (.inr (by omega))).trans kg16
      have lg19 := (Array.getElem?_eq_some_iff.1 kg19).1
      have hr19 := own_between hr16 hx19 (by omega)
      have hu19 := own_between hu16 hx19 (by omega)
      have z19 := hx19.size
      obtain ⟨K, hK⟩ : ∃ K, 1 + d.1.length + accN (fun j => (d.2.getD j []).length) d.2.length = K := ⟨_, rfl⟩
      rw [hK]
      have hKb : K ≤ 3000000 := by omega
      clear hm16 og16 ox16 kg16 kx16 hr16 hu16 hx19 lg16 x5 x6
      gi_wp2_with fail
      refine ⟨trivial, ?_⟩
      gi_at_call 37
      refine (callsIn_wide.2 (markTextsA hr19 hrl (by omega) K (by omega) (by omega))).mono ?_
      rintro e w20 ⟨rfl, hx20⟩
      have hk1 : ¬ ((K + L.length : Nat) : Int) < 0 := by omega
      have hm20 := hx20.below hm19 (by omega) hm19.size
      have og20 := og19.between hx20 (.inr (by omega))
      have hu20 := own_between hu19 hx20 (by omega)
      have kg20 := (hx20.block _ lg19 (.inr (by omega))).trans kg19
      have z20 := hx20.size
      obtain ⟨e0, e1', _, _⟩ := row_at kg20
      obtain ⟨m5, m6, _, _⟩ := row_at ((hm20.block _ lm).trans km)
      clear hm19 og19 kg19 hr19 hu19 hx20 hrl
      gi_wp2_with fail
      refine ⟨trivial, ?_⟩
      gi_at_call 31
      refine (callsIn_wide.2 (eqDesk_in _ _ D _ hsz og20.deskI (hmod.below hm20))).mono ?_
      rintro e w21a ⟨rfl, b21a⟩
      have hm21a := hm20.trans (b21a.mono hm20.size)
      have og21a := og20.below b21a
      have hu21a := own_belowN hu20 b21a
      have kg21a := (b21a.block _ (Array.getElem?_eq_some_iff.1 kg20).1).trans kg20
      have z21a := b21a.size
      clear og20 hm20 kg20 hu20 b21a m5 m6
      gi_wp2_with fail
      refine ⟨trivial, ?_⟩
      gi_at_call 36
      refine (callsIn_wide.2 (eqStringS_big _ _ T _ (by omega) (Texts.of_owns hu21a) (hqm.below hm21a))).mono ?_
      rintro e w21 ⟨rfl, b21⟩
      have hm21 := hm21a.trans (b21.mono hm21a.size)
      have og21 := og21a.below b21
      have hu21 := own_belowN hu21a b21
      have kg21 := (b21.block _ (Array.getElem?_eq_some_iff.1 kg21a).1).trans kg21a
      have lg21 := (Array.getElem?_eq_some_iff.1 kg21).1
      obtain ⟨e0, e1', _, _⟩ := row_at kg21
      have z21 := Nat.le_trans z21a b21.size
      clear og21a hm21a kg21a hu21a b21 z21a
      gi_wp2_with fail
      refine ⟨trivial, ?_⟩
      gi_at_call 32
      refine (callsIn_wide.2 (markDesk_in og21 (by omega) hr1 hr2 1 (by omega))).mono ?_
      rintro e w24 ⟨rfl, om24, hx24⟩
      have hm24 := hx24.below hm21 (by omega) hm21.size
      have hu24 := hsep.imp id fun hs => And.intro (own_betweenLow hu21 hx24 hs) hs
      have kg24 := (hx24.block _ lg21 (.inr (Nat.le_refl _))).trans kg21
      have lg24 := (Array.getElem?_eq_some_iff.1 kg24).1
      have z24 := hx24.size
      clear og21 hm21 kg21 hx24 hu21 lg21
      obtain ⟨M, hM⟩ : ∃ M, 1 + D.1.length + accN (fun j => (D.2.getD j []).length) D.2.length = M := ⟨_, rfl⟩
      rw [hM]
      have hMb : M ≤ 1000000 := by omega
      have hM1 : 1 ≤ M := by omega
      have hMT := markTextsH hu24 (by omega) M hM1 (by omega)
      clear hu24
      gi_wp2_with fail
      refine ⟨trivial, ?_⟩
      gi_at_call 37
      refine (callsIn_wide.2 hMT).mono ?_
      rintro e w25 ⟨rfl, hmt25, hx25⟩
      have hm25 := hx25.below hm24 (by omega) hm24.size
      have om25 := om24.between hx25 (.inr (Nat.le_refl _))
      have kg25 := (hx25.block _ lg24 (.inr (by omega))).trans kg24
      obtain ⟨e0, e1', _, _⟩ := row_at kg25
      have z25 := hx25.size
      have hq1' : ¬ ((M : Nat) : Int) < 0 := by omega
      have hq2' : ¬ ((M + T.length : Nat) : Int) < 0 := by omega
      clear om24 hm24 kg24 hx25 hMT lg24
      gi_wp2_with fail
      refine ⟨trivial, ?_⟩
      gi_at_call 33
      refine (callsIn_wide.2 (heldDesk_in 1 om25 (by omega) hr1 hr2 (by omega))).mono ?_
      rintro e w26a ⟨rfl, b26a⟩
      rw [hM]
      have hm26a := hm25.trans (b26a.mono hm25.size)
      have om26a := om25.below b26a
      have kg26a := (b26a.block _ (Array.getElem?_eq_some_iff.1 kg25).1).trans kg25
      have hmt26a := hmt25.below b26a
      have z26a := b26a.size
      clear om25 hm25 kg25 hmt25 b26a e0 e1'
      gi_wp2_with fail
      refine ⟨trivial, ?_⟩
      gi_at_call 38
      refine (callsIn_wide.2 (heldTextsG hmt26a (by omega) hM1 (by omega))).mono ?_
      rintro e w26 ⟨rfl, b26⟩
      have hm26 := hm26a.trans (b26.mono hm26a.size)
      have om26 := om26a.below b26
      have kg26 := (b26.block _ (Array.getElem?_eq_some_iff.1 kg26a).1).trans kg26a
      have hmt26 := hmt26a.below b26
      have z26 := b26.size
      have hb26 := hmm.trans (hm26.mono hmm.size)
      obtain ⟨dw26, a0, a1⟩ := hAth.out w26 hb26
      clear om26a hm26a kg26a hmt26a b26
      gi_wp2_with fail
      refine ⟨trivial, ?_⟩
      gi_at_call 30
      refine (callsIn_wide.2 (hTh.out _ dw26)).mono ?_
      rintro e w27 ⟨y27, rfl, oy27, b27⟩
      have hm27 := hm26.trans (b27.mono hm26.size)
      have om27 := om26.below b27
      have hmt27 := hmt26.below b27
      have kg27 := (b27.block _ (Array.getElem?_eq_some_iff.1 kg26).1).trans kg26
      have hb27 := hmm.trans (hm27.mono hmm.size)
      obtain ⟨dw27, _, _⟩ := hAth.out w27 hb27
      clear om26 hm26 kg26 hmt26 hb26 a0 a1
      gi_wp2_with fail
      refine ⟨trivial, ?_⟩
      gi_at_call 35
      refine (callsIn_wide.2 (hTLh.out _ dw27)).mono ?_
      rintro e w28 ⟨z28, rfl, hz28, b28⟩
      have hm28 := hm27.trans (b28.mono hm27.size)
      have om28 := om27.below b28
      have hmt28 := hmt27.below b28
      have kg28 := (b28.block _ (Array.getElem?_eq_some_iff.1 kg27).1).trans kg27
      have hdi := oy27.deskI.below b28
      have hzi := LinesI.of (Texts.of_owns hz28)
      have hE28 := hEVh.out _ (dm.trans (hm28.mono dm.size))
      clear om27 hm27 kg27 hmt27 b27 b28 hz28 oy27 hb27
      gi_wp2_with fail
      refine ⟨trivial, ?_⟩
      gi_at_call 25
      refine (callsIn_wide.2 (hImh.out _ _ _ hdi hzi hE28)).mono ?_
      rintro e w29 ⟨y29, u29, bs29, rfl, _, hh, hu29, _, b29⟩
      have ht29 := Texts.of_owns hu29
      obtain ⟨ta, tc, rfl⟩ := own_shape hu29
      clear hu29 hE28
      have hm29 := hm28.trans (b29.mono hm28.size)
      have om29 := om28.below b29
      have hmt29 := hmt28.below b29
      have kg29 := (b29.block _ (Array.getElem?_eq_some_iff.1 kg28).1).trans kg28
      have hh29 := hh.deskI
      obtain ⟨h1, h2, h3, h4, rfl⟩ := hh.form
      have bh0 := (Below.refl _ w29).alloc (Nat.le_refl _) (.cells #[.slice h1 D.1.length h2, .slice h3 D.2.length h4] 31)
      have kh := World.alloc_heap_new w29 (.cells #[.slice h1 D.1.length h2, .slice h3 D.2.length h4] 31)
      obtain ⟨w30, hw30⟩ : ∃ wn, w29.alloc (.cells #[.slice h1 D.1.length h2, .slice h3 D.2.length h4] 31) = wn := ⟨_, rfl⟩
      rw [hw30] at bh0 kh
      have hm30 := hm29.trans (bh0.mono hm29.size)
      have om30 := om29.below bh0
      have hmt30 := hmt29.below bh0
      have ht30 := ht29.below bh0
      have kg30 := (bh0.block _ (Array.getElem?_eq_some_iff.1 kg29).1).trans kg29
      have hh30 := hh29.below bh0
      obtain ⟨e0, e1, _, _⟩ := row_at kh
      obtain ⟨m5, m6, _, _⟩ := row_at ((hm30.block _ lm).trans km)
      clear om28 hm28 kg28 hmt28 hdi hzi hh b29 hm29 om29 kg29 hmt29 hh29 ht29 bh0
      gi_wp2_with fail
      refine ⟨trivial, ?_⟩
      gi_at_call 31
      refine (callsIn_wide.2 (eqDesk_in _ _ D _ hsz hh30 (hmod.below hm30))).mono ?_
      rintro e w31 ⟨rfl, b31⟩
      have hm31 := hm30.trans (b31.mono hm30.size)
      have om31 := om30.below b31
      have hmt31 := hmt30.below b31
      have kg31 := (b31.block _ (Array.getElem?_eq_some_iff.1 kg30).1).trans kg30
      have ht31 := ht30.below b31
      clear om30 hm30 kg30 hmt30 ht30 b31 m5 m6 hh30
      gi_wp2_with fail
      refine ⟨trivial, ?_⟩
      gi_at_call 36
      refine (callsIn_wide.2 (eqStringS_big _ _ T _ (by omega) ht31 (hqm.below hm31))).mono ?_
      rintro e w32 ⟨rfl, b32⟩
      have hm32 := hm31.trans (b32.mono hm31.size)
      have om32 := om31.below b32
      have hmt32 := hmt31.below b32
      have kg32 := (b32.block _ (Array.getElem?_eq_some_iff.1 kg31).1).trans kg31
      obtain ⟨e0, e1, _, _⟩ := row_at kg32
      clear om31 hm31 kg31 hmt31 ht31 b32
      gi_wp2_with fail
      refine ⟨trivial, ?_⟩
      gi_at_call 33
      refine (callsIn_wide.2 (heldDesk_in 1 om32 (by omega) hr1 hr2 (by omega))).mono ?_
      rintro e w34 ⟨rfl, b34⟩
      rw [hM]
      have hm34 := hm32.trans (b34.mono hm32.size)
      have hmt34 := hmt32.below b34
      clear om32 hm32 kg32 hmt32 b34 e0 e1
      gi_wp2_with fail
      refine ⟨trivial, ?_⟩
      gi_at_call 38
      refine (callsIn_wide.2 (heldTextsG hmt34 (by omega) hM1 (by omega))).mono ?_
      rintro e w35 ⟨rfl, b35⟩
      have hm35 := hm34.trans (b35.mono hm34.size)
      have hmb := hmm.trans (hm35.mono hmm.size)
      have hmw := hBw.trans (hmb.mono hBw.size)
      gi_wp2
      go_ret
      exact ⟨rfl, hmw⟩

theorem exactDeskSay' (v : Value) (d : Dk) (ls : Value) (L : List (List Nat)) (w : World) (hv : ArgD w v d) (hn1 : d.1.length ≤ 9223372036854775807) (hn : d.2.length ≤ 9223372036854775807) (hln : ∀ j, (d.2.getD j []).length ≤ 9223372036854775807) (hls : LinesI w ls L) (hf : ∀ l ∈ L, ∀ c ∈ l, c < 256) (hLn : L.length ≤ 9223372036854775807) (hl2 : ∀ l ∈ L, l.length ≤ 9223372036854775807) (hE : Env w) :
    Calls Tryz.prog 7 #[v, ls] w fun e w' => e = .returned (.bool true) ∧ Below w.heap.size w w' := exactDeskSay v ls d L w hv hn1 hn hln hls hf hLn hl2 hE
end Go.Proofs.YtiaaefapbcjgmaaGreatDoor
namespace Go.Proofs.YtiaaefapbcjgmaaGreatDoor
open Go Go.RowKit
variable {H : Type} {enc : TypeId × Value → H}

theorem returnsInHanded_of_change_and_shaped {a : Assume} {C : Checked} {os : Os} {f : FuncId} {fn : Func} {s : ChangeSpec} {conds : List PathCond} {apart fresh handsOn again : Bool} {X : World → Array Value → Prop}
    (hX : ∀ (w w' : World) (args : Array Value), w.heap = w'.heap → X w args → X w' args)
    (own : ownKnob C.prog.godebug = none) (started : os.Started) (noInit : C.prog.inits.idxOf? f = none) (hfn : C.prog.funcs[f]? = some fn)
    (witness : ∃ (w : World) (tape : Tape) (i : Input), w.os = os ∧ (w.forCall tape i).Shaped C.prog ∧ i.vars = [] ∧ Input.okWide C.prog (w.forCall tape i) .any w.heap.size f i ∧
      ((s.pre enc C.prog fn conds apart (w.forCall tape i).memory i.args ∧ X (w.forCall tape i).memory i.args) ∧ sizedMet enc C.prog fn (OpenSpec.ofChange s) apart (w.forCall tape i).memory i.args) ∧ a.holds C.prog (lone (Frame.enter C.prog f i.args .normal) [] (w.forCall tape i)))
    (contract : ∀ (W : World) (base : Nat) (args : Array Value) (ds gs : List (DataW H)) (before : List MemPlace),
      (∀ (j : Nat) t v, fn.params[j]? = some t → args[j]? = some v → Value.okWide C.prog W .any base t v) →
      DataW.Whole enc C.prog fn.params.toList s.vars apart W args.toList ds gs before →
      conds.all (PathCond.test C.prog ⟨fn.params.toList, ds, s.plain.varTypes C.prog, gs⟩) = true →
      W.ShapedOpen C.prog → X W args →
      a.holds C.prog (lone (Frame.enter C.prog f args .normal) [] W) →
      Calls C.prog f args W fun e W' => ∃ v, e = .returned v ∧ s.post enc C.prog fn apart fresh handsOn again W args v W') :
    ReturnsInHanded a C os f .any (fun w args => (s.pre enc C.prog fn conds apart w args ∧ X w args) ∧ sizedMet enc C.prog fn (OpenSpec.ofChange s) apart w args) (s.post enc C.prog fn apart fresh handsOn again) := by
  refine returnsInHanded_of_calls own started noInit witness ?_
  intro w tape i _ hsh _ hok hpre hholds
  obtain ⟨_, _, _, fn', hfn', _, _, _, _, hval⟩ := hok
  have e : fn' = fn := Option.some.inj (hfn'.symm.trans hfn)
  subst e
  obtain ⟨⟨⟨ds, gs, before, hw, hc⟩, hx⟩, hz⟩ := hpre
  have hw' := DataW.Whole.of_heap (w' := w.forCall tape i) (by rfl) hw
  refine (contract (w.forCall tape i) w.heap.size i.args ds gs before hval hw' hc hsh (hX _ _ _ (by rfl) hx) hholds).mono fun e W' ⟨v, he, hp⟩ => ?_
  subst he
  exact ChangeSpec.post_blind hp
end Go.Proofs.YtiaaefapbcjgmaaGreatDoor
namespace Go.Proofs.YtiaaefapbcjgmaaGreatDoor
open Go Go.RowKit

def laid7 : List (String × DataW Unit) := [("math/bits.deBruijn32tab", Rows.laid_math_bits_deBruijn32tab), ("math/bits.deBruijn64tab", Rows.laid_math_bits_deBruijn64tab), ("internal/strconv.uint64pow10", Rows.laid_internal_strconv_uint64pow10), ("unicode/utf8.acceptRanges", Rows.laid_unicode_utf8_acceptRanges), ("strconv.ErrRange", Rows.laid_strconv_ErrRange), ("strconv.ErrSyntax", Rows.laid_strconv_ErrSyntax), ("unicode/utf8.first", Rows.laid_unicode_utf8_first)]

theorem errStar : "*" ++ "errors.errorString" = "*errors.errorString" := by decide

theorem errRow (u : TypeId) (h : Tryz.prog.typeName? 3 u = some "*errors.errorString") : u = 226 :=
  typeName_ptr_named (nm := "errors.errorString") (by rw [errStar]; kernel_rfl) (by kernel_rfl) (by decide) u (by rw [errStar]; exact h)

theorem env_of_laid {W : World} (hsh : W.ShapedOpen Tryz.prog) (hL : laidMet Tryz.prog laid7 W) : Env W := by
  have h3 : laidMet Tryz.prog (("internal/strconv.uint64pow10", Lib.tabData .u64 Lib.pow10Tab) :: _) W := hL.tail.tail
  have h5 := h3.tail.tail
  have h6 := h5.tail
  obtain ⟨a0, s0, hv0, _, _, _⟩ := laid_sentinel (te := 228) h5 (g := Tryz.atoiA_ren.g 16) (by kernel_rfl) (ti := 89) (by kernel_rfl) Tryz.underlying89 errRow Tryz.underlying226 Tryz.underlying228 rfl rfl Tryz.underlying9 (by kernel_rfl) (by kernel_rfl)
  obtain ⟨a1, s1, hv1, _, _, _⟩ := laid_sentinel (te := 228) h6 (g := Tryz.atoiA_ren.g 15) (by kernel_rfl) (ti := 89) (by kernel_rfl) Tryz.underlying89 errRow Tryz.underlying226 Tryz.underlying228 rfl rfl Tryz.underlying9 (by kernel_rfl) (by kernel_rfl)
  have k1 := World.var?_cell (g := Tryz.atoiA_ren.g 15) (by kernel_rfl) hv1 0
  have k0 := World.var?_cell (g := Tryz.atoiA_ren.g 16) (by kernel_rfl) hv0 0
  simp only [List.getElem?_toArray, List.getElem?_cons_zero] at k0 k1
  have hp := Lib.tabIs_of_head (g := Tryz.itoaA_ren.g 17) (t := 201) (e := 162) (n := 20) (by kernel_rfl) (by kernel_rfl) Tryz.underlying201 Tryz.underlying162 (by kernel_rfl) (by kernel_rfl) h3
  exact ⟨Tryz.splitA.s1_3 W hsh, hp, ⟨_, k1, .inr ⟨_, _, rfl⟩⟩, ⟨_, k0, .inr ⟨_, _, rfl⟩⟩⟩
end Go.Proofs.YtiaaefapbcjgmaaGreatDoor
namespace Go.Proofs.YtiaaefapbcjgmaaGreatDoor
open Go.RowKit Go.ChangeShapes Go.WideShapes Go.Deep

set_option maxRecDepth 100000 in
theorem open_row {H : Type} {enc : TypeId × Value → H} {W : World} {base : Nat} {spare : Nat → Bool} {held : Bool} {fuel : Nat} {u : Value} {x : DataW H × List MemPlace}
    (h : DataW.trod enc Tryz.prog W base spare held fuel 28 [u] = some x) : ∃ xs : List Int, ArgI W u xs ∧ xs.length ≤ 9223372036854775807 := by
  rcases open_ints Tryz.underlying28 Tryz.underlying3 (by kernel_rfl) h with ⟨hcs, _⟩ | ⟨a, len, cap, zs, hcs, _, hl, hm, hz, _, hcell, _⟩
  · injection hcs with e
    subst e
    exact ⟨[], .inl ⟨none, 0, rfl, rfl⟩, by simp⟩
  · injection hcs with e
    subst e
    have hlz : len ≤ zs.length := by rw [hz]; split <;> omega
    have hlen : (zs.take len).length = len := by simp; omega
    refine ⟨zs.take len, ?_, by rw [hlen]; unfold maxLen at hm; omega⟩
    by_cases h0 : len = 0
    · subst h0; exact .inl ⟨_, _, rfl, by simp⟩
    · obtain ⟨b, off, spot⟩ := a
      have h1 := hcell 0 (by omega)
      have hs : spot = none := by simpa [Addr.add] using World.cell?_spot h1
      subst hs
      have hb : b < W.heap.size := by
        have := World.block_lt_of_cell? W _ h1
        simpa [Addr.add] using this
      refine .inr ⟨b, off, cap, by rw [hlen], hb, fun i hi => ?_⟩
      have h2 := hcell i (by omega)
      have hadd : (⟨b, off, none⟩ : Addr).add i = ⟨b, off + i, none⟩ := by unfold Addr.add; split <;> simp_all
      rw [hadd] at h2
      rw [h2, List.getD, List.getD, List.getElem?_take, if_pos (by omega)]

set_option maxRecDepth 100000 in
theorem open_desk {H : Type} {enc : TypeId × Value → H} {W : World} {r : Reach} {b0 base : Nat} {spare : Nat → Bool} {held : Bool} {v : Value} {d : DataW H} {p : List MemPlace}
    (hv : Value.okWide Tryz.prog W r b0 54 v) (h : DataW.Trod enc Tryz.prog W base spare held 54 v d p) :
    ∃ D : Dk, ArgD W v D ∧ D.1.length ≤ 9223372036854775807 ∧ D.2.length ≤ 9223372036854775807 ∧ ∀ j, (D.2.getD j []).length ≤ 9223372036854775807 := by
  obtain ⟨u0, u1, y0, y1, n, rfl, _, _, t0, t1⟩ := Go.Joins.open_agg2 Tryz.underlying54 (by kernel_rfl) (by kernel_rfl) hv h
  obtain ⟨xs, hx, hxl⟩ := open_row t0
  rcases open_slice1 Tryz.underlying29 (by kernel_rfl) t1 with ⟨hcs, _⟩ | ⟨a, len, cap, m, n', V, D, Pl, hcs, _, hl, hm, hmm, _, hi⟩
  · injection hcs with e
    subst e
    exact ⟨(xs, []), ⟨_, _, rfl, hx, none, 0, rfl, fun h => absurd h (Nat.lt_irrefl 0)⟩, hxl, by simp, fun j => by simp⟩
  · injection hcs with e
    subst e
    have hml : len ≤ m := by rw [hmm]; split <;> omega
    have hex : ∀ i, i < len → ∃ row : List Int, ArgI W (V i) row ∧ row.length ≤ 9223372036854775807 := fun i him => open_row (hi i (by omega)).2
    have hch : ∃ f : Nat → List Int, (∀ i, i < len → ArgI W (V i) (f i)) ∧ ∀ i, i < len → (f i).length ≤ 9223372036854775807 :=
      ⟨fun i => if h : i < len then Classical.choose (hex i h) else [], fun i h => by dsimp only; rw [dif_pos h]; exact (Classical.choose_spec (hex i h)).1, fun i h => by dsimp only; rw [dif_pos h]; exact (Classical.choose_spec (hex i h)).2⟩
    obtain ⟨f, hf1, hf2⟩ := hch
    have hget : ∀ k, k < len → ((List.range len).map f).getD k [] = f k := fun k hk => by rw [List.getD, List.getElem?_map, List.getElem?_range hk]; rfl
    refine ⟨(xs, (List.range len).map f), ⟨_, _, rfl, hx, some a, cap, by simp, fun h0 => ?_⟩, hxl, by simp; unfold maxLen at hm; omega, fun j => ?_⟩
    · have h0 : 0 < len := by simpa using h0
      obtain ⟨b, off, spot⟩ := a
      have h1 := (hi 0 (by omega)).1
      have hs : spot = none := by simpa [Addr.add] using World.cell?_spot h1
      subst hs
      have hb : b < W.heap.size := by
        have := World.block_lt_of_cell? W _ h1
        simpa [Addr.add] using this
      refine ⟨b, off, rfl, hb, fun k hk => ?_⟩
      have hk : k < len := by simpa using hk
      have h2 := (hi k (by omega)).1
      have hadd : (⟨b, off, none⟩ : Addr).add k = ⟨b, off + k, none⟩ := by unfold Addr.add; split <;> simp_all
      rw [hadd] at h2
      rw [hget k hk]
      exact ⟨V k, h2, hf1 k hk⟩
    · by_cases hj : j < len
      · show ((List.range len).map f |>.getD j []).length ≤ _
        rw [hget j hj]; exact hf2 j hj
      · show ((List.range len).map f |>.getD j []).length ≤ _
        rw [List.getD, List.getElem?_eq_none (by simp; omega)]; simp
end Go.Proofs.YtiaaefapbcjgmaaGreatDoor
namespace Go.Proofs.YtiaaefapbcjgmaaGreatDoor
open Go.RowKit Go.ChangeShapes Go.WideShapes Go.Deep

set_option maxRecDepth 100000 in
theorem open_texts {H : Type} {enc : TypeId × Value → H} {W : World} {base : Nat} {spare : Nat → Bool} {held : Bool} {a : Option Addr} {len cap : Nat} {d : DataW H} {p : List MemPlace}
    (h : DataW.Trod enc Tryz.prog W base spare held 48 (.slice a len cap) d p) : ∃ L : List (List Nat), LinesI W (.slice a len cap) L ∧ (∀ l ∈ L, ∀ c ∈ l, c < 256) ∧ L.length ≤ 9223372036854775807 ∧ ∀ l ∈ L, l.length ≤ 9223372036854775807 := by
  obtain ⟨fuel, hf⟩ := h
  rcases open_slice Tryz.underlying48 hf with ⟨hcs, _⟩ | ⟨a', len', cap', m, n, D, Pl, hcs, hb, hl, hm, hmm, hx, hi⟩
  · simp [Value.cells] at hcs
    obtain ⟨rfl, rfl, rfl⟩ := hcs
    exact ⟨[], ⟨none, 0, rfl, fun h => absurd h (by simp)⟩, by simp, by simp, by simp⟩
  · simp [Value.cells] at hcs
    obtain ⟨rfl, rfl, rfl⟩ := hcs
    have h1 : Tryz.prog.cellsOf 9 = 1 := by kernel_rfl
    have hml : len ≤ m := by rw [hmm]; split <;> omega
    have key : ∀ i, i < len → ∃ l : List Nat, (∀ c ∈ l, c < 256) ∧ l.length ≤ maxLen ∧ W.cell? (a'.add (i * 1)) = some (txt l) := fun i him => by
      obtain ⟨cs', hc, ht⟩ := hi i (by omega)
      rw [h1] at hc
      obtain ⟨_, hcl, hat⟩ := World.cells?_some hc
      obtain ⟨S, hS, _, hsz⟩ := DataW.trod_string Tryz.underlying9 ht
      subst hS
      obtain ⟨l, rfl, hl2, _⟩ := str_of S
      have q0 := hat 0 (by simp)
      rw [str_size] at hsz
      exact ⟨l, hl2, hsz, by simpa [Addr.add, txt] using q0⟩
    have hex : ∃ f : Nat → List Nat, ∀ i, i < len → (∀ c ∈ f i, c < 256) ∧ (f i).length ≤ maxLen ∧ W.cell? (a'.add (i * 1)) = some (txt (f i)) :=
      ⟨fun i => if h : i < len then Classical.choose (key i h) else [], fun i h => by dsimp only; rw [dif_pos h]; exact Classical.choose_spec (key i h)⟩
    obtain ⟨f, hfs⟩ := hex
    have hget : ∀ k, k < len → ((List.range len).map f).getD k [] = f k := fun k hk => by rw [List.getD, List.getElem?_map, List.getElem?_range hk]; rfl
    refine ⟨(List.range len).map f, ⟨some a', cap, by simp, fun h0 => ?_⟩, fun x hx => ?_, by simp; unfold maxLen at hm; omega, fun x hx => ?_⟩
    · have h0 : 0 < len := by simpa using h0
      obtain ⟨b, off, spot⟩ := a'
      have hc0 := (hfs 0 h0).2.2
      have hs : spot = none := by simpa [Addr.add] using World.cell?_spot hc0
      subst hs
      have hbl : b < W.heap.size := by
        have := World.block_lt_of_cell? W _ hc0
        simpa [Addr.add] using this
      refine ⟨b, off, rfl, hbl, fun k hk => ?_⟩
      have hk : k < len := by simpa using hk
      obtain ⟨_, _, g1⟩ := hfs k hk
      have ha : ∀ o j, (⟨b, o, none⟩ : Addr).add j = ⟨b, o + j, none⟩ := fun o j => by unfold Addr.add; split <;> simp_all
      rw [hget k hk]
      rw [ha, Nat.mul_one] at g1
      exact g1
    · obtain ⟨i, hi2, rfl⟩ := List.mem_map.1 hx
      exact (hfs i (List.mem_range.1 hi2)).1
    · obtain ⟨i, hi2, rfl⟩ := List.mem_map.1 hx
      have := (hfs i (List.mem_range.1 hi2)).2.1
      unfold maxLen at this
      omega
end Go.Proofs.YtiaaefapbcjgmaaGreatDoor
