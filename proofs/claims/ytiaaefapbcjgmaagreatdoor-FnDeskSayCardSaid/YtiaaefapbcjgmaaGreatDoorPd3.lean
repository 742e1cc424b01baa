/-
 Parts of the proofs, laid together: Draw12a, Draw12b, Draw12c, Draw12e, Draw12g, Draw12h, Draw12i, DrawBig3, DrawL12, DrawPrime, I12Z, Impl12d, Impl12t, L12Y, L12Z, LawKit14, MadeRd, Reader2, RegMade, RegMadeP, S12Y, Sels, Spec12r.
-/
import Derived.WalkKit
import Derived.Laws.Concat
import Derived.Laws.Strings2
import Derived.OrdersIn
import Derived.TacticsIn
import Derived.Test.YtiaaefapbcjgmaaGreatDoorProg
import Derived.OwnWalkIn
import Derived.Deep.RegionLaw
import Derived.RangeFuncBox
import Derived.Laws.DeepStrings4
import Derived.Laws.Cover1
import Derived.Maps.AppendAt
import Derived.WalkSpells
import Derived.RangeFuncNested
import Derived.RangeFuncBound
import Derived.RangeFuncCalls
import Derived.RangeFuncLeaves
import Derived.BigRegion
import Derived.Shelf.Abstract
import Derived.Shelf.RegionOpen
import Derived.TacticsInMore
import Derived.LoopNIn
import Derived.LoopIn
import Derived.Deep.QuietTactic
import Derived.BigQuiet
import Derived.Below
import Derived.Laws.BytesString
import Derived.Deep.RegionWith
import Derived.DeepKeys5
import Derived.Maps.Keyed
import Derived.Deep.DeepCutAuto
import Derived.Laws.AppendOwnNone
import Derived.Lib.AtoiAll
import Derived.Lib.AtoiAllCases
import Derived.Lib.ItoaNum
import Derived.Lib.ItoaMem
import Derived.Lib.SplitLaws
import Derived.ControlIn
import Derived.Laws.CopyOwn
import Derived.StillTailTactics
import Derived.Maps.OwnSet
import Derived.Laws.Bits64
import Derived.Laws.Bits64b
import Derived.Lib.AppendZeros
import Derived.Lib.AppendZerosOnto
import Derived.Test.YtiaaefapbcjgmaaGreatDoorPd0
import Derived.Test.YtiaaefapbcjgmaaGreatDoorPd1
import Derived.Test.YtiaaefapbcjgmaaGreatDoorPd2
namespace Go.Proofs.YtiaaefapbcjgmaaGreatDoor
section
open Go.RowKit Go.Shelf
attribute [local go_sem] Oper.semAt_some
set_option maxRecDepth 100000 in
set_option maxHeartbeats 2000000 in
theorem implDo_none (x p : Value) (d : Dk) (k n : Int) (w : World) (hX : Dx w x p d k n) (h5 : k = 5 ∧ n = 0) (h0 : d.2.length = 0) : Calls Tryz.prog 54 #[.agg #[x, p], dV k n] w fun e w' =>
 ∃ y, e = .returned (.tuple #[y, .bool (doV d k n).2]) ∧ OwnDk w' w.heap.size y (doV d k n).1 ∧ Below w.heap.size w w' := by
 obtain ⟨rfl, rfl⟩ := h5
 rw [doV_same hX.desk (by omega) (.inl rfl)]
 obtain ⟨hx, hp, hb, hAf, hKp⟩ := hX
 obtain ⟨hd1, hd2, hd3⟩ := deskB_is.1 hb
 have hl := sideB_len hd2
 have hD := Do1.new w x p 5 0
 obtain ⟨W1, hW1⟩ : ∃ W1, ((w.alloc (.cells #[x, p] 31)).alloc (.cells #[.int .i64 5, .int .i64 0] 39)).alloc (.cells #[.slice none 0 0, .slice none 0 0] 31) = W1 := ⟨_, rfl⟩
 rw [hW1] at hD
 have hOK := implDeskOk (.agg #[x, p]) d W1 ⟨x, p, rfl, hx.below hD.below, hp.below hD.below⟩ ⟨by omega, by omega, fun j => by
  by_cases hj : j < d.2.length
  · have := sideB_len (hd1 (d.2.getD j []) (by rw [List.getD, eG9 hj]; exact List.getElem_mem hj)); omega
  · rw [List.getD, List.getElem?_eq_none (by omega)]; simp⟩
 rw [hb] at hOK
 have q5 := fun V => equal_deed (k := 5) (n := 0) (by constructor <;> omega) (by constructor <;> omega) (k' := 5) (n' := 0) (by constructor <;> omega) (by constructor <;> omega) V
 have e5 : decide ((5 : Int) = 5 ∧ (0 : Int) = 0) = true := by decide
 rw [e5] at q5
 obtain ⟨row, past⟩ := d
 simp only at *
 have hM : madeV row 5 0 = [] := rfl
 rw [hM] at hAf
 obtain rfl : past = [] := List.length_eq_zero_iff.1 h0
 clear hM e5 h0
 obtain ⟨ap, cp, rfl, _⟩ := id hp
 obtain ⟨ax, cx, rfl⟩ := hx.shape
 obtain ⟨a0, a1, _, _⟩ := row_at hD.desk
 unfold dV at hAf ⊢
 simp only [List.length_nil] at hOK hW1 hD hAf hKp a0 a1 ⊢
 go_enter Tryz.func54, Tryz.ntmps54
 go_wp2_with (first
  | (go_at_call 23; go_loud (refine hOK.mono ?_; clear hOK; rintro e W2 ⟨rfl, hB2⟩; have hD2 := hD.more hB2; obtain ⟨a0, a1, _, _⟩ := row_at hD2.desk; obtain ⟨c0, c1, _, _⟩ := row_at hD2.deed; clear hD hB2))
  | (go_at_call 98; refine (hAf _ hD2).mono ?_; clear hAf; go_loud (rintro e W3 ⟨r, rfl, hr, hB3⟩; have hD3 := hD2.more hB3; obtain ⟨a0, a1, _, _⟩ := row_at hD3.desk; obtain ⟨ar, cr, rfl⟩ := hr.shape; clear hD2 hB3))
  | (go_at_call 52; fail))
 go_at_call 52
 refine (hKp _ hD3).mono ?_
 rintro e W5 ⟨y, rfl, hy, hB5⟩
 obtain ⟨y1, y2, y3, y4, rfl⟩ := hy.form
 obtain ⟨hres, hown, hBl⟩ := hD3.result hy hB5
 obtain ⟨r0, r1, g0, g1⟩ := row_at hres
 have hres' := hide (desk_set hres (.slice y1 row.length y2) (.slice y3 0 y4))
 have hown' := hide hown
 clear hy hB5 hown
 go_wp2
 exact bodyPost_ret (results_desk2 rfl _ _ (w.heap.size + 2) _ _ rfl hres'.out) rfl ⟨_, rfl, hown'.out, hBl⟩
set_option maxRecDepth 100000 in
set_option maxHeartbeats 2000000 in
theorem implDo_empty (x p : Value) (d : Dk) (k n : Int) (w : World) (hX : Dx w x p d k n) (hk : Fits k) (hn : Fits n) (h5 : ¬ (k = 5 ∧ n = 0)) (hM : madeV d.1 k n = []) : Calls Tryz.prog 54 #[.agg #[x, p], dV k n] w fun e w' =>
 ∃ y, e = .returned (.tuple #[y, .bool (doV d k n).2]) ∧ OwnDk w' w.heap.size y (doV d k n).1 ∧ Below w.heap.size w w' := by
 rw [doV_same hX.desk (fun h => h5 ⟨h.1, h.2.1⟩) (.inl hM)]
 obtain ⟨hx, hp, hb, hAf, hKp⟩ := hX
 obtain ⟨hd1, hd2, hd3⟩ := deskB_is.1 hb
 have hl := sideB_len hd2
 have hD := Do1.new w x p k n
 obtain ⟨W1, hW1⟩ : ∃ W1, ((w.alloc (.cells #[x, p] 31)).alloc (.cells #[.int .i64 k, .int .i64 n] 39)).alloc (.cells #[.slice none 0 0, .slice none 0 0] 31) = W1 := ⟨_, rfl⟩
 rw [hW1] at hD
 have hOK := implDeskOk (.agg #[x, p]) d W1 ⟨x, p, rfl, hx.below hD.below, hp.below hD.below⟩ ⟨by omega, by omega, fun j => by
  by_cases hj : j < d.2.length
  · have := sideB_len (hd1 (d.2.getD j []) (by rw [List.getD, eG9 hj]; exact List.getElem_mem hj)); omega
  · rw [List.getD, List.getElem?_eq_none (by omega)]; simp⟩
 rw [hb] at hOK
 have q5 := fun V => equal_deed hk hn (k' := 5) (n' := 0) (by constructor <;> omega) (by constructor <;> omega) V
 rw [decide_eq_false h5] at q5
 obtain ⟨row, past⟩ := d
 simp only at *
 rw [hM] at hAf
 clear hM h5
 obtain ⟨ap, cp, rfl, _⟩ := id hp
 obtain ⟨ax, cx, rfl⟩ := hx.shape
 obtain ⟨a0, a1, _, _⟩ := row_at hD.desk
 unfold dV at hAf ⊢
 go_enter Tryz.func54, Tryz.ntmps54
 go_wp2_with (first
  | (go_at_call 23; go_loud (refine hOK.mono ?_; clear hOK; rintro e W2 ⟨rfl, hB2⟩; have hD2 := hD.more hB2; obtain ⟨a0, a1, _, _⟩ := row_at hD2.desk; obtain ⟨c0, c1, _, _⟩ := row_at hD2.deed; clear hD hB2))
  | (go_at_call 98; refine (hAf _ hD2).mono ?_; clear hAf; go_loud (rintro e W3 ⟨r, rfl, hr, hB3⟩; have hD3 := hD2.more hB3; obtain ⟨a0, a1, _, _⟩ := row_at hD3.desk; obtain ⟨ar, cr, rfl⟩ := hr.shape; clear hD2 hB3))
  | (go_at_call 52; fail))
 all_goals
  go_at_call 52
  refine (hKp _ hD3).mono ?_
  rintro e W5 ⟨y, rfl, hy, hB5⟩
  obtain ⟨y1, y2, y3, y4, rfl⟩ := hy.form
  obtain ⟨hres, hown, hBl⟩ := hD3.result hy hB5
  obtain ⟨r0, r1, g0, g1⟩ := row_at hres
  have hres' := hide (desk_set hres (.slice y1 row.length y2) (.slice y3 past.length y4))
  have hown' := hide hown
  clear hy hB5 hown
  go_wp2
  exact bodyPost_ret (results_desk2 rfl _ _ (w.heap.size + 2) _ _ rfl hres'.out) rfl ⟨_, rfl, hown'.out, hBl⟩
set_option maxRecDepth 100000 in
set_option maxHeartbeats 2000000 in
theorem implDo_same (x p : Value) (d : Dk) (k n : Int) (w : World) (hX : Dx w x p d k n) (hk : Fits k) (hn : Fits n) (h5 : ¬ (k = 5 ∧ n = 0)) (hM : madeV d.1 k n = d.1) : Calls Tryz.prog 54 #[.agg #[x, p], dV k n] w fun e w' =>
 ∃ y, e = .returned (.tuple #[y, .bool (doV d k n).2]) ∧ OwnDk w' w.heap.size y (doV d k n).1 ∧ Below w.heap.size w w' := by
 rw [doV_same hX.desk (fun h => h5 ⟨h.1, h.2.1⟩) (.inr hM)]
 obtain ⟨hx, hp, hb, hAf, hKp⟩ := hX
 obtain ⟨hd1, hd2, hd3⟩ := deskB_is.1 hb
 have hl := sideB_len hd2
 have hD := Do1.new w x p k n
 obtain ⟨W1, hW1⟩ : ∃ W1, ((w.alloc (.cells #[x, p] 31)).alloc (.cells #[.int .i64 k, .int .i64 n] 39)).alloc (.cells #[.slice none 0 0, .slice none 0 0] 31) = W1 := ⟨_, rfl⟩
 rw [hW1] at hD
 have hOK := implDeskOk (.agg #[x, p]) d W1 ⟨x, p, rfl, hx.below hD.below, hp.below hD.below⟩ ⟨by omega, by omega, fun j => by
  by_cases hj : j < d.2.length
  · have := sideB_len (hd1 (d.2.getD j []) (by rw [List.getD, eG9 hj]; exact List.getElem_mem hj)); omega
  · rw [List.getD, List.getElem?_eq_none (by omega)]; simp⟩
 rw [hb] at hOK
 have q5 := fun V => equal_deed hk hn (k' := 5) (n' := 0) (by constructor <;> omega) (by constructor <;> omega) V
 rw [decide_eq_false h5] at q5
 obtain ⟨row, past⟩ := d
 simp only at *
 rw [hM] at hAf
 have hEq := fun (V : World) (r : Value) (hV : Do1 w x p k n V) (hr : Ints V r row) => equal_in r x row row V hr (hx.below hV.below) (by omega)
 rw [decide_eq_true (rfl : row = row)] at hEq
 have hrow : ¬ (row = []) := fun e => by rw [e] at hl; simp at hl
 clear hM h5
 obtain ⟨ap, cp, rfl, _⟩ := id hp
 obtain ⟨ax, cx, rfl⟩ := hx.shape
 obtain ⟨a0, a1, _, _⟩ := row_at hD.desk
 unfold dV at hAf ⊢
 go_enter Tryz.func54, Tryz.ntmps54
 go_wp2_with (first
  | (go_at_call 23; go_loud (refine hOK.mono ?_; clear hOK; rintro e W2 ⟨rfl, hB2⟩; have hD2 := hD.more hB2; obtain ⟨a0, a1, _, _⟩ := row_at hD2.desk; obtain ⟨c0, c1, _, _⟩ := row_at hD2.deed; clear hD hB2))
  | (go_at_call 98; refine (hAf _ hD2).mono ?_; clear hAf; go_loud (rintro e W3 ⟨r, rfl, hr, hB3⟩; have hD3 := hD2.more hB3; obtain ⟨a0, a1, _, _⟩ := row_at hD3.desk; obtain ⟨ar, cr, rfl⟩ := hr.shape; clear hD2 hB3))
  | (go_at_call 99; go_loud (refine (hEq _ _ hD3 hr).mono ?_; rintro e W4 ⟨rfl, hB4⟩; have hD4 := hD3.more hB4; obtain ⟨a0, a1, _, _⟩ := row_at hD4.desk; clear hD3 hB4))
  | (go_at_call 52; fail))
 all_goals
  go_at_call 52
  refine (hKp _ hD4).mono ?_
  rintro e W5 ⟨y, rfl, hy, hB5⟩
  obtain ⟨y1, y2, y3, y4, rfl⟩ := hy.form
  obtain ⟨hres, hown, hBl⟩ := hD4.result hy hB5
  obtain ⟨r0, r1, g0, g1⟩ := row_at hres
  have hres' := hide (desk_set hres (.slice y1 row.length y2) (.slice y3 past.length y4))
  have hown' := hide hown
  clear hy hB5 hown
  go_wp2
  exact bodyPost_ret (results_desk2 rfl _ _ (w.heap.size + 2) _ _ rfl hres'.out) rfl ⟨_, rfl, hown'.out, hBl⟩
set_option maxRecDepth 100000 in
set_option maxHeartbeats 2000000 in
theorem implDo_made (x p : Value) (d : Dk) (k n : Int) (w : World) (hX : Dx w x p d k n) (hk : Fits k) (hn : Fits n) (h5 : ¬ (k = 5 ∧ n = 0)) (h0 : madeV d.1 k n ≠ []) (hM : madeV d.1 k n ≠ d.1) : Calls Tryz.prog 54 #[.agg #[x, p], dV k n] w fun e w' =>
 ∃ y, e = .returned (.tuple #[y, .bool (doV d k n).2]) ∧ OwnDk w' w.heap.size y (doV d k n).1 ∧ Below w.heap.size w w' := by
 rw [doV_made hX.desk (fun h => h5 ⟨h.1, h.2.1⟩) (fun h => h.elim h0 hM), ← pastV_last (deskB_is.1 hX.desk).2.2]
 obtain ⟨hx, hp, hb, hAf, hKp⟩ := hX
 obtain ⟨hd1, hd2, hd3⟩ := deskB_is.1 hb
 have hl := sideB_len hd2
 have hD := Do1.new w x p k n
 obtain ⟨W1, hW1⟩ : ∃ W1, ((w.alloc (.cells #[x, p] 31)).alloc (.cells #[.int .i64 k, .int .i64 n] 39)).alloc (.cells #[.slice none 0 0, .slice none 0 0] 31) = W1 := ⟨_, rfl⟩
 rw [hW1] at hD
 have hOK := implDeskOk (.agg #[x, p]) d W1 ⟨x, p, rfl, hx.below hD.below, hp.below hD.below⟩ ⟨by omega, by omega, fun j => by
  by_cases hj : j < d.2.length
  · have := sideB_len (hd1 (d.2.getD j []) (by rw [List.getD, eG9 hj]; exact List.getElem_mem hj)); omega
  · rw [List.getD, List.getElem?_eq_none (by omega)]; simp⟩
 rw [hb] at hOK
 have q5 := fun V => equal_deed hk hn (k' := 5) (n' := 0) (by constructor <;> omega) (by constructor <;> omega) V
 rw [decide_eq_false h5] at q5
 obtain ⟨row, past⟩ := d
 simp only at *
 have hms := made_side hd2 k n h0
 have hml := sideB_len hms
 have hEq := fun (V : World) (r : Value) (hV : Do1 w x p k n V) (hr : Ints V r (madeV row k n)) => equal_in r x (madeV row k n) row V hr (hx.below hV.below) (by omega)
 rw [decide_eq_false hM] at hEq
 generalize madeV row k n = M at *
 have hrow : ¬ (M = []) := h0
 have hlst := fun j (hj : j < (past ++ [row]).length) => (by
  by_cases e : j < past.length
  · rw [List.getD, List.getElem?_append_left e]
    have := sideB_len (hd1 (past.getD j []) (by rw [List.getD, eG9 e]; exact List.getElem_mem e))
    rwa [List.getD] at this
  · have : j = past.length := by simp at hj; omega
    subst this
    rw [List.getD, List.getElem?_append_right (Nat.le_refl _), Nat.sub_self]
    exact hl : 1 ≤ ((past ++ [row]).getD j []).length ∧ ((past ++ [row]).getD j []).length ≤ 12)
 have hlst' := hide hlst
 have hpp := hide hp
 clear h0 hM h5 hms hKp hlst hd1
 obtain ⟨ap, cp, rfl, _⟩ := id hp
 obtain ⟨ax, cx, rfl⟩ := hx.shape
 obtain ⟨a0, a1, _, _⟩ := row_at hD.desk
 unfold dV at hAf ⊢
 go_enter Tryz.func54, Tryz.ntmps54
 go_wp2_with (first
  | (go_at_call 23; go_loud (refine hOK.mono ?_; clear hOK; rintro e W2 ⟨rfl, hB2⟩; have hD2 := hD.more hB2; obtain ⟨a0, a1, _, _⟩ := row_at hD2.desk; obtain ⟨c0, c1, _, _⟩ := row_at hD2.deed; clear hD hB2))
  | (go_at_call 98; refine (hAf _ hD2).mono ?_; clear hAf; go_loud (rintro e W3 ⟨r, rfl, hr, hB3⟩; have hD3 := hD2.more hB3; obtain ⟨a0, a1, _, _⟩ := row_at hD3.desk; obtain ⟨ar, cr, rfl⟩ := hr.shape; clear hD2 hB3))
  | (go_at_call 99; go_loud (refine (hEq _ _ hD3 hr).mono ?_; rintro e W4 ⟨rfl, hB4⟩; have hr4 := hr.below hB4; have hD4 := hD3.more hB4; obtain ⟨a0, a1, _, _⟩ := row_at hD4.desk; clear hD3 hB4 hr hEq))
  | (go_at_call 100; fail)
  | (go_at_call 52; fail))
 obtain ⟨b0, b1, b2⟩ := build_two W4 (.slice ax row.length cx) (.slice ap past.length cp)
 have hBb : Below W4.heap.size W4 ((W4.alloc (.cells #[.slice ax row.length cx] 28)).alloc (.cells #[.slice ap past.length cp, .slice (some ⟨W4.heap.size, 0, none⟩) 1 1] 29)) := ((Below.refl _ W4).alloc (Nat.le_refl _) _).alloc (by rw [World.size_alloc]; omega) _
 go_at_call 100
 generalize (W4.alloc (.cells #[.slice ax row.length cx] 28)).alloc (.cells #[.slice ap past.length cp, .slice (some ⟨W4.heap.size, 0, none⟩) 1 1] 29) = W5 at *
 have hD5 := hD4.more hBb
 refine (concat_in _ ap past.length cp _ (.slice ax row.length cx) past row W5 b0 b1 b2 (hx.below hD5.below) (hpp.out.below hD5.below) hd3).mono ?_
 rintro e W6 ⟨G, cc, rfl, hcc, hG1, hG2, hcells, hB6⟩
 have hD6 := hD5.more hB6
 have hr6 := (hr4.below hBb).below hB6
 have hlen : (past ++ [row]).length = past.length + 1 := by simp
 have hDO := deskOf_last (.slice ar M.length cr) M (past ++ [row]) G cc W6 hr6 hml.1 hml.2 (by omega) (by omega) hG2 (fun j hj => hcells j (by omega)) hlst'.out
 rw [hlen] at hDO
 clear hcells hB6 hG1 b0 b1 b2 hBb hD4 hD5 hr4 hr6
 go_wp2_with (go_at_call 52; refine hDO.mono ?_; clear hDO; go_loud (rintro e W7 ⟨y, rfl, hy, hB7⟩; obtain ⟨y1, y2, y3, y4, rfl⟩ := hy.form; obtain ⟨hres, hown, hBl⟩ := hD6.result hy hB7; obtain ⟨r0, r1, g0, g1⟩ := row_at hres; have hres' := hide (desk_set hres (.slice y1 M.length y2) (.slice y3 (lastR (past ++ [row])).length y4)); have hown' := hide hown; clear hy hB7 hown))
 exact bodyPost_ret (results_desk2 rfl _ _ (w.heap.size + 2) _ _ rfl hres'.out) rfl ⟨_, rfl, hown'.out, hBl⟩
theorem OwnDk.cap {W : World} {base : Nat} {v : Value} {d : Dk} (h : OwnDk W base v d) : CapP v := by
 obtain ⟨mid, x, p, rfl, _, _, _, us, hl, ho, _⟩ := h
 intro x' a n c e
 injection e with e
 simp at e
 obtain ⟨rfl, rfl⟩ := e
 rcases ho.2 with ⟨e, _⟩ | ⟨b, cap, cur, e, _, _, hc, _⟩
 · injection e with _ e2 e3; omega
 · injection e with _ e2 e3; omega
theorem take_getD {α : Type} (l : List α) (d : α) {L j : Nat} (h : j < L) : (l.take L).getD j d = l.getD j d := by
 rw [List.getD, List.getD, List.getElem?_take, if_pos h]
set_option maxRecDepth 100000 in
set_option maxHeartbeats 2000000 in
theorem implDo_back (x p : Value) (d : Dk) (w : World) (hX : Dx w x p d 5 0) (hcap : CapP (.agg #[x, p])) (L : Nat) (hL : d.2.length = L + 1) : Calls Tryz.prog 54 #[.agg #[x, p], dV 5 0] w fun e w' =>
 ∃ y, e = .returned (.tuple #[y, .bool (doV d 5 0).2]) ∧ OwnDk w' w.heap.size y (doV d 5 0).1 ∧ Below w.heap.size w w' := by
 rw [doV_back hX.desk (by omega)]
 obtain ⟨hx, hp, hb, _, _⟩ := hX
 obtain ⟨hd1, hd2, hd3⟩ := deskB_is.1 hb
 have hl := sideB_len hd2
 have hD := Do1.new w x p 5 0
 obtain ⟨W1, hW1⟩ : ∃ W1, ((w.alloc (.cells #[x, p] 31)).alloc (.cells #[.int .i64 5, .int .i64 0] 39)).alloc (.cells #[.slice none 0 0, .slice none 0 0] 31) = W1 := ⟨_, rfl⟩
 rw [hW1] at hD
 have hOK := implDeskOk (.agg #[x, p]) d W1 ⟨x, p, rfl, hx.below hD.below, hp.below hD.below⟩ ⟨by omega, by omega, fun j => by
  by_cases hj : j < d.2.length
  · have := sideB_len (hd1 (d.2.getD j []) (by rw [List.getD, eG9 hj]; exact List.getElem_mem hj)); omega
  · rw [List.getD, List.getElem?_eq_none (by omega)]; simp⟩
 rw [hb] at hOK
 have q5 := fun V => equal_deed (k := 5) (n := 0) (by constructor <;> omega) (by constructor <;> omega) (k' := 5) (n' := 0) (by constructor <;> omega) (by constructor <;> omega) V
 have e5 : decide ((5 : Int) = 5 ∧ (0 : Int) = 0) = true := by decide
 rw [e5] at q5
 obtain ⟨row, past⟩ := d
 simp only at hd1 hd2 hd3 hl hx hp hL hOK ⊢
 obtain ⟨ap, cp, rfl, hrows⟩ := hp
 have hcp := hcap _ _ _ _ rfl
 obtain ⟨G, o, rfl, hG, hc⟩ := hrows (by omega)
 obtain ⟨ul, hul, hui⟩ := hc L (by omega)
 have hpst : pstV past = past.getD L [] := by unfold pstV; rw [hL]; rfl
 rw [hpst]
 have hsl := sideB_len (hd1 (past.getD L []) (by rw [List.getD, eG9 (by omega)]; exact List.getElem_mem _))
 have hBk : ∀ V, Below w.heap.size w V → Calls Tryz.prog 52 #[ul, .slice (some ⟨G, o, none⟩) L cp] V fun e w' => ∃ y, e = .returned y ∧ OwnDk w' V.heap.size y (past.getD L [], past.take L) ∧ Below V.heap.size V w' := fun V hV => by
  have htl : (past.take L).length = L := by rw [List.length_take]; omega
  have h := deskOf_in ul (.slice (some ⟨G, o, none⟩) (past.take L).length cp) (past.getD L []) (past.take L) V (hui.below hV) hsl.1 hsl.2 ⟨_, cp, rfl, fun _ => ⟨G, o, rfl, lL9 hG hV.size, fun j hj => by
   rw [htl] at hj
   rw [take_getD _ _ hj]
   obtain ⟨u, h1, h2⟩ := hc j (by omega)
   exact ⟨u, (hV.cell (p := ⟨G, o + j, none⟩) hG).trans h1, h2.below hV⟩⟩⟩ (by omega) (fun j hj => by
   rw [htl] at hj
   rw [take_getD _ _ hj]
   exact sideB_len (hd1 _ (by rw [List.getD, eG9 (by omega)]; exact List.getElem_mem _)))
  rw [htl] at h
  exact h
 have hLt : past.length - 1 = L := by omega
 rw [hLt]
 rw [hL] at hW1 hOK hD ⊢
 obtain ⟨al, cl, rfl⟩ := hui.shape
 obtain ⟨ax, cx, rfl⟩ := hx.shape
 generalize (past.getD L [], past.take L) = D at *
 generalize (past.getD L []).length = ll at *
 obtain ⟨a0, a1, _, _⟩ := row_at hD.desk
 have hLi : (((L + 1 : Nat) : Int)) = (L : Int) + 1 := by omega
 have hLb : L ≤ 8 := by omega
 have hLc : L ≤ cp := by omega
 have hLg : (L : Int) ≥ 0 := by omega
 clear hcap hcp hc hui hrows hx hsl hd1 hd2 e5 hLt hb hl hL hd3
 unfold dV
 refine (cW9 (n := 9)).1 ?_
 refine callsIn_of_wp Tryz.func54 rfl trivial ?_ rfl
 simp only [Tryz.ntmps54, List.size_toArray, List.length_cons, List.length_nil, Nat.reduceAdd, Nat.reduceSub, Array.replicate_succ, Array.replicate_zero, List.push_toArray, List.append_toArray, List.nil_append, List.cons_append]
 gi_wp2_with (refine ⟨trivial, ?_⟩; gi_at_call 23; go_loud (refine (cW9.2 hOK).mono ?_; clear hOK; rintro e W2 ⟨rfl, hB2⟩; have hD2 := hD.more hB2; obtain ⟨a0, a1, _, _⟩ := row_at hD2.desk; obtain ⟨c0, c1, _, _⟩ := row_at hD2.deed; clear hD hB2))
 refine wpIn_region_kinds 9 (by kernel_rfl) (by kernel_rfl) (by kernel_rfl) (by decide)
  (fun s => { tmps := #[.agg #[.slice ax row.length cx, .slice (some ⟨G, o, none⟩) (L + 1) cp], .agg #[.int .i64 5, .int .i64 0], .pointer (some ⟨w.heap.size, 0, none⟩), .pointer (some ⟨w.heap.size + 1, 0, none⟩), .pointer (some ⟨w.heap.size + 1 + 1, 0, none⟩), .bool false, .int .i64 L, undef, .agg #[.slice ax row.length cx, .slice (some ⟨G, o, none⟩) (L + 1) cp], .bool true, .bool false, undef, .pointer (some ⟨w.heap.size, 1, none⟩), .slice (some ⟨G, o, none⟩) (L + 1) cp, .int .i64 ((L : Int) + 1), .int .i64 L, .agg #[.int .i64 5, .int .i64 0], .agg #[.int .i64 5, .int .i64 0], .bool true, .bool true, .int .i64 L, .bool true, .bool true, s 0, s 1, s 2, s 3, s 4, s 5, s 6, s 7, s 8, undef, undef, undef, undef, undef, undef, undef, undef, undef, undef, undef, undef, undef, undef, undef, undef, undef, undef, undef, undef, undef, undef, undef, undef, undef, undef, undef, undef], defers := [] })
  [.val (.pointer (some ⟨w.heap.size, 1, none⟩)), .val (.slice (some ⟨G, o, none⟩) (L + 1) cp), .val (.int .i64 L), .val (.pointer (some ⟨G, o + L, none⟩)), .val (.slice al ll cl), .val (.pointer (some ⟨w.heap.size, 1, none⟩)), .val (.slice (some ⟨G, o, none⟩) (L + 1) cp), .val (.int .i64 L), .val (.slice (some ⟨G, o, none⟩) L cp)]
  ⟨fun _ => undef, rfl⟩ ?put ?step ?tail
 case put =>
  intro i o s v hi ho
  rcases (show i = 0 ∨ i = 1 ∨ i = 2 ∨ i = 3 ∨ i = 4 ∨ i = 5 ∨ i = 6 ∨ i = 7 ∨ i = 8 by omega) with rfl | rfl | rfl | rfl | rfl | rfl | rfl | rfl | rfl
  all_goals
   simp at ho
   subst ho
   simp [Act.put]
 case step =>
  rintro i oo s V hi ho hV hd Q' hQ
  rcases (show i = 0 ∨ i = 1 ∨ i = 2 ∨ i = 3 ∨ i = 4 ∨ i = 5 ∨ i = 6 ∨ i = 7 ∨ i = 8 by omega) with rfl | rfl | rfl | rfl | rfl | rfl | rfl | rfl | rfl
  all_goals
   simp at ho
   subst ho
   simp [Act.put] at hQ
   have hQ' := hide hQ
   clear hQ
  case inl =>
   clear hd hV
   gi_wp2
   all_goals first | exact hQ'.out _ _ (Below.refl _ _) rfl | (have hr := hQ'.out; (first | rw [e1, e2] at hr | rw [e1] at hr); exact hr _ _ (Below.refl _ _) rfl)
  case inr.inl =>
   have e1 : s 0 = .pointer (some ⟨w.heap.size, 1, none⟩) := hd 0 (by kernel_rfl)
   obtain ⟨a0, a1, _, _⟩ := row_at (hD2.more hV).desk
   clear hd hV
   gi_wp2
   all_goals first | exact hQ'.out _ _ (Below.refl _ _) rfl | (have hr := hQ'.out; (first | rw [e1, e2] at hr | rw [e1] at hr); exact hr _ _ (Below.refl _ _) rfl)
  case inr.inr.inl =>
   clear hd hV
   gi_wp2
   all_goals first | exact hQ'.out _ _ (Below.refl _ _) rfl | (have hr := hQ'.out; (first | rw [e1, e2] at hr | rw [e1] at hr); exact hr _ _ (Below.refl _ _) rfl)
  case inr.inr.inr.inl =>
   have e1 : s 1 = .slice (some ⟨G, o, none⟩) (L + 1) cp := hd 1 (by kernel_rfl)
   have e2 : s 2 = .int .i64 L := hd 2 (by kernel_rfl)
   clear hd hV
   gi_wp2
   all_goals first | exact hQ'.out _ _ (Below.refl _ _) rfl | (have hr := hQ'.out; (first | rw [e1, e2] at hr | rw [e1] at hr); exact hr _ _ (Below.refl _ _) rfl)
  case inr.inr.inr.inr.inl =>
   have e1 : s 3 = .pointer (some ⟨G, o + L, none⟩) := hd 3 (by kernel_rfl)
   have hcc := ((hD2.more hV).below.cell (p := ⟨G, o + L, none⟩) hG).trans hul
   clear hd hV
   gi_wp2
   all_goals first | exact hQ'.out _ _ (Below.refl _ _) rfl | (have hr := hQ'.out; (first | rw [e1, e2] at hr | rw [e1] at hr); exact hr _ _ (Below.refl _ _) rfl)
  case inr.inr.inr.inr.inr.inl =>
   clear hd hV
   gi_wp2
   all_goals first | exact hQ'.out _ _ (Below.refl _ _) rfl | (have hr := hQ'.out; (first | rw [e1, e2] at hr | rw [e1] at hr); exact hr _ _ (Below.refl _ _) rfl)
  case inr.inr.inr.inr.inr.inr.inl =>
   have e1 : s 5 = .pointer (some ⟨w.heap.size, 1, none⟩) := hd 5 (by kernel_rfl)
   obtain ⟨a0, a1, _, _⟩ := row_at (hD2.more hV).desk
   clear hd hV
   gi_wp2
   all_goals first | exact hQ'.out _ _ (Below.refl _ _) rfl | (have hr := hQ'.out; (first | rw [e1, e2] at hr | rw [e1] at hr); exact hr _ _ (Below.refl _ _) rfl)
  case inr.inr.inr.inr.inr.inr.inr.inl =>
   clear hd hV
   gi_wp2
   all_goals first | exact hQ'.out _ _ (Below.refl _ _) rfl | (have hr := hQ'.out; (first | rw [e1, e2] at hr | rw [e1] at hr); exact hr _ _ (Below.refl _ _) rfl)
  case inr.inr.inr.inr.inr.inr.inr.inr =>
   have e1 : s 6 = .slice (some ⟨G, o, none⟩) (L + 1) cp := hd 6 (by kernel_rfl)
   have e2 : s 7 = .int .i64 L := hd 7 (by kernel_rfl)
   clear hd hV
   gi_wp2
   all_goals first | exact hQ'.out _ _ (Below.refl _ _) rfl | (have hr := hQ'.out; (first | rw [e1, e2] at hr | rw [e1] at hr); exact hr _ _ (Below.refl _ _) rfl)
 case tail =>
  rintro s V hV hd
  have e4 : s 4 = .slice al ll cl := hd 4 (by omega)
  have e8 : s 8 = .slice (some ⟨G, o, none⟩) L cp := hd 8 (by omega)
  clear hd
  have hDV := hD2.more hV
  have hB := hBk V hDV.below
  simp only [List.drop_succ_cons, List.drop_zero]
  gi_wp2_with (refine ⟨trivial, ?_⟩; gi_at_call 52; go_loud (refine (cW9.2 hB).mono ?_; clear hB; rintro e W5 ⟨y, rfl, hy, hB5⟩; obtain ⟨y1, y2, y3, y4, rfl⟩ := hy.form; obtain ⟨hres, hown, hBl⟩ := hDV.result hy hB5; obtain ⟨r0, r1, g0, g1⟩ := row_at hres; have hres' := hide (desk_set hres (.slice y1 D.1.length y2) (.slice y3 D.2.length y4)); have hown' := hide hown; clear hy hB5 hown))
  exact bodyPost_ret (results_desk2 rfl _ _ (w.heap.size + 2) _ _ rfl hres'.out) rfl ⟨_, rfl, hown'.out, hBl⟩
end
section
open Go.RowKit
theorem implDo (v : Value) (d : Dk) (k n : Int) (w : World) (hv : DeskI w v d) (hcap : CapP v) (hs : DkS d) (hk : Fits k) (hn : Fits n) : Calls Tryz.prog 54 #[v, dV k n] w fun e w' =>
 ∃ y, e = .returned (.tuple #[y, .bool (doV d k n).2]) ∧ OwnDk w' w.heap.size y (doV d k n).1 ∧ Below w.heap.size w w' := by
 cases hb : deskB d with
 | false => exact implDo_no v d k n w hv hs hb
 | true =>
   obtain ⟨x, p, rfl, hx, hp⟩ := hv
   have hX := Dx.new k n hx hp hb
   by_cases h5 : k = 5 ∧ n = 0
   · by_cases h0 : d.2.length = 0
     · exact implDo_none x p d k n w hX h5 h0
     · obtain ⟨rfl, rfl⟩ := h5
       exact implDo_back x p d w hX hcap (d.2.length - 1) (by omega)
   · by_cases h0 : madeV d.1 k n = []
     · exact implDo_empty x p d k n w hX hk hn h5 h0
     · by_cases h1 : madeV d.1 k n = d.1
       · exact implDo_same x p d k n w hX hk hn h5 h1
       · exact implDo_made x p d k n w hX hk hn h5 h0 h1
def ArgP (W0 : World) (v : Value) (rows : List (List Int)) : Prop :=
 ∃ a c, v = .slice a rows.length c ∧ (0 < rows.length → ∃ G o, a = some ⟨G, o, none⟩ ∧ G < W0.heap.size ∧ ∀ j, j < rows.length → ∃ u, W0.cell? ⟨G, o + j, none⟩ = some u ∧ ArgI W0 u (rows.getD j []))
def ArgD (W0 : World) (v : Value) (d : Dk) : Prop := ∃ x p, v = .agg #[x, p] ∧ ArgI W0 x d.1 ∧ ArgP W0 p d.2
theorem ArgI.form {W : World} {v : Value} {xs : List Int} (h : ArgI W v xs) : ∃ a c, v = .slice a xs.length c := by
 rcases h with ⟨a, c, rfl, rfl⟩ | ⟨b, o, c, rfl, _⟩
 · exact ⟨a, c, rfl⟩
 · exact ⟨_, c, rfl⟩
theorem ArgI.below {W W' : World} {v : Value} {xs : List Int} (h : ArgI W v xs) (hB : Below W.heap.size W W') : ArgI W' v xs := by
 rcases h with h2 | ⟨b, of, cap, e2, hb, hcc⟩
 · exact .inl h2
 · exact .inr ⟨b, of, cap, e2, lL9 hb hB.size, fun i hi => (hB.cell (p := ⟨b, of + i, .none⟩) hb).trans (hcc i hi)⟩
theorem ArgP.below {W W' : World} {v : Value} {rows : List (List Int)} (h : ArgP W v rows) (hB : Below W.heap.size W W') : ArgP W' v rows := by
 obtain ⟨a, c, e, h⟩ := h
 refine ⟨a, c, e, fun h0 => ?_⟩
 obtain ⟨G, o, e1, hG, hc⟩ := h h0
 refine ⟨G, o, e1, lL9 hG hB.size, fun j hj => ?_⟩
 obtain ⟨u, h1, h2⟩ := hc j hj
 exact ⟨u, (hB.cell (p := ⟨G, o + j, .none⟩) hG).trans h1, h2.below hB⟩
theorem ArgD.below {W W' : World} {v : Value} {d : Dk} (h : ArgD W v d) (hB : Below W.heap.size W W') : ArgD W' v d := by
 obtain ⟨x, p, rfl, h1, h2⟩ := h
 exact ⟨x, p, rfl, h1.below hB, h2.below hB⟩
theorem ArgD.form {W : World} {v : Value} {d : Dk} (h : ArgD W v d) : ∃ a b c e, v = .agg #[.slice a d.1.length b, .slice c d.2.length e] := by
 obtain ⟨x, p, rfl, h1, a, c, rfl, _⟩ := h
 obtain ⟨x1, x2, rfl⟩ := h1.form
 exact ⟨_, _, _, _, rfl⟩
def OwnQ (W : World) (base : Nat) (v : Value) (rows : List (List Int)) : Prop :=
 ∃ us : List Value, us.length = rows.length ∧ W.ownsRow base 28 1 v us.length us ∧ (∀ j, j < rows.length → W.ownsRow base 3 1 (us.getD j undef) (rows.getD j []).length ((rows.getD j []).map (Value.int .i64))) ∧
   ∀ i j, i < j → j < rows.length → (us.getD i undef).ownBlock = .none ∨ (us.getD i undef).ownBlock ≠ (us.getD j undef).ownBlock
theorem OwnQ.ownSS {W : World} {base : Nat} {v : Value} {rows : List (List Int)} (h : OwnQ W base v rows) : OwnSS W base v rows := by
 obtain ⟨us, h1, h2, h3, _⟩ := h
 exact ⟨us, h1, h2, h3⟩
theorem OwnQ.old {W W' : World} {base b : Nat} {v : Value} {rows : List (List Int)} (h : OwnQ W base v rows) (hb : b < base) (hg : W.grownBy W' (some b)) : OwnQ W' base v rows := by
 obtain ⟨us, l, o, r, ne⟩ := h
 exact ⟨us, l, own_kept o hg (own_old o hb), fun j hj => own_kept (r j hj) hg (own_old (r j hj) hb), ne⟩
theorem OwnQ.down {W : World} {base base' : Nat} {v : Value} {rows : List (List Int)} (h : OwnQ W base v rows) (hb : base' ≤ base) : OwnQ W base' v rows := by
 obtain ⟨us, l, o, r, ne⟩ := h
 exact ⟨us, l, own_from o hb, fun j hj => own_from (r j hj) hb, ne⟩
theorem OwnQ.below {W W' : World} {base : Nat} {v : Value} {rows : List (List Int)} (h : OwnQ W base v rows) (hB : Below W.heap.size W W') : OwnQ W' base v rows := by
 obtain ⟨us, l, o, r, ne⟩ := h
 exact ⟨us, l, own_below o hB, fun j hj => own_below (r j hj) hB, ne⟩
end
section
open Go.RowKit
attribute [local go_sem] Oper.semAt_some
theorem desk_agg {W : World} {x p : Value} {d : Dk} {base : Nat} (hx : W.ownsRow base 3 1 x d.1.length (d.1.map (Value.int .i64))) (hp : OwnQ W base p d.2) : DeskI W (.agg #[x, p]) d := ⟨x, p, rfl, Ints.of_owns hx, hp.ownSS.past⟩
end
section
open Go.RowKit
theorem own_shape {w : World} {base n size : Nat} {e : TypeId} {v : Value} {xs : List Value} (h : w.ownsRow base e size v n xs) : ∃ a c, v = .slice a n c := by
 rcases h.2 with ⟨rfl, hn⟩ | ⟨g, cap, cur, rfl, _⟩
 · exact ⟨_, 0, by rw [hn]⟩
 · exact ⟨_, _, rfl⟩
theorem DeedsI.none (w : World) (a : Option Addr) (c : Nat) : DeedsI w (.slice a 0 c) [] := ⟨a, c, rfl, fun h => absurd h (Nat.lt_irrefl 0)⟩
theorem DeedsI.grown {w w' : World} {v : Value} {L : List (Int × Int)} {g : Nat} (h : DeedsI w v L) (hg : w.grownBy w' (some g)) (hne : v.ownBlock ≠ some g) : DeedsI w' v L := by
 obtain ⟨a, c, rfl, h⟩ := h
 refine ⟨a, c, rfl, fun h0 => ?_⟩
 obtain ⟨b, o, rfl, hb, hc⟩ := h h0
 have hbg : b ≠ g := fun e => hne (by rw [e]; rfl)
 exact ⟨b, o, rfl, lL9 hb hg.size, fun k hk => ⟨hg.cell (hc k hk).1 (by simp; exact hbg), hg.cell (hc k hk).2 (by simp; exact hbg)⟩⟩
end
section
open Go Go.RowKit
attribute [local go_sem] Oper.semAt_some
theorem row_atD {W : World} {b : Nat} {x y : Value} {t : TypeId} (h : W.heap[b]? = some (.cells #[x, y] t (0, 0))) : W.cell? ⟨b, 0, none⟩ = some x ∧ W.cell? ⟨b, 1, none⟩ = some y ∧ W.frozen? ⟨b, 0, none⟩ = false ∧ W.frozen? ⟨b, 1, none⟩ = false :=
 ⟨by unfold World.cell?; rw [h]; rfl, by unfold World.cell?; rw [h]; rfl, by unfold World.frozen?; rw [h]; rfl, by unfold World.frozen?; rw [h]; rfl⟩
theorem grownBy_setAtD (W : World) (b i : Nat) (v : Value) : W.grownBy (W.setCell ⟨b, i, none⟩ v) (some b) :=
 ⟨rfl, rfl, rfl, (KeepsWalks.setCell W _ v).size, fun k _ hk => Below.heap_setCell _ _ _ k (fun e => hk (by rw [e]))⟩
theorem odd_zero (w : World) (R : Nat) : Calls Tryz.prog 49 #[.pointer (some ⟨R, 0, none⟩), .int .i64 0] w fun e w' => e = .returned (.bool false) ∧ w = w' := by
 go_enter Tryz.func49, Tryz.ntmps49
 go_wp2
 go_ret
 exact ⟨rfl, rfl⟩
set_option maxHeartbeats 2000000 in
theorem l20Side0_in (W0 : World) (R len cap p : Nat) (a : Option Addr) (w : World) (hb : Bytes W0 a len) (h : Rd W0 R a len cap w p) (hp : p ≤ 800000) :
 Calls Tryz.prog 87 #[.pointer (some ⟨R, 0, none⟩), .int .i64 0] w fun e w' => ∃ (v : Value) (xs : List Int), e = .returned v ∧ w'.ownsRow w.heap.size 3 1 v xs.length (xs.map (Value.int .i64)) ∧ 1 ≤ xs.length ∧ xs.length ≤ 12 ∧ ∃ p', p' ≤ p + 13 ∧ Rd W0 R a len cap w' p' ∧ w.grownBy w' (some R) := by
 have hRw : R < w.heap.size := (gE9.1 h.2.2).1
 have hW0R := h.2.1
 go_enter Tryz.func87, Tryz.ntmps87
 go_wp2_with fail
 go_at_call 42
 refine (pick_in W0 R len cap _ a _ _ hb (h.alloc _) (by omega)).mono ?_
 rintro e w2 ⟨x, rfl, hx0, _, hx1, hR2, hgr2, _⟩
 replace hx1 := hx1 (by omega)
 have hg0 : w.grownBy w2 (some R) := (World.grownBy_alloc w _ _).trans hgr2
 have hs2 := hgr2.size
 obtain ⟨N, rfl⟩ : ∃ N : Nat, x = N := ⟨x.toNat, by omega⟩
 have hmade : (w.alloc (.cells #[] 3)).ownsRow w.heap.size 3 1 (.slice (some ⟨w.heap.size, 0, none⟩) 0 0) 0 [] := World.ownsRow_made _ _ _ (Nat.le_refl _) (by decide) rfl
 go_wp2
 go_loopw [5, 6] (fun out n wr => ∃ (j : Nat) (zs : List Int), j ≤ N + 1 ∧ n = .int .i64 ((N : Int) + 1 - (j : Nat)) ∧ zs.length = j ∧ wr.ownsRow w.heap.size 3 1 out zs.length (zs.map (Value.int .i64)) ∧ w.grownBy wr (some R) ∧ Rd W0 R a len cap wr (p + 1 + j)) (fun _ n _ => (intOf n).toNat)
 case atStart => exact ⟨0, [], by omega, by go_num, rfl, hmade.kept hgr2 (.inr (by simp [Value.ownBlock]; omega)), hg0, hR2⟩
 case round =>
  obtain ⟨j, zs, hj, rfl, hz, hown, hgr, hR⟩ := hrel
  by_cases hjn : j ≤ N
  · have hc : (0 : Int) < (N : Int) + 1 - (j : Int) := by omega
    have hw1 : IntKind.i64.wrap ((N : Int) + 1 - (j : Int) - 1) = (N : Int) + 1 - (j : Int) - 1 := IntWalk.i64_in _ (by omega)
    have hs := hgr.size
    go_wp2_with (first
     | (go_at_call 42; refine (pick_in W0 R len cap _ a _ _ hb hR (by omega)).mono ?_; rintro e w3 ⟨x, rfl, _, _, _, hR3, hgr3, _⟩; have hown3 := hown.kept hgr3 (.inr (fun e => by have := hown.lt R e; omega)); have hs3 := hgr3.size)
     | (at_builtin; refine append_one rfl _ _ rfl w.heap.size _ _ _ rfl hown3 rfl (by omega) (by omega) ?_; intro v' w4 hown4 hgr4))
    all_goals
     have hgr4' : (w3.alloc (.cells #[.int .i64 x] 3)).grownBy w4 u5.ownBlock := hgr4
     go_roundw
     case rel =>
      have hbl : ∀ k, u5.ownBlock = some k → w.heap.size ≤ k := fun k e => (hown.lt k e).1
      refine ⟨j + 1, zs ++ [x], by omega, by go_num, by simp [hz], by simpa using hown4, ?_, ?_⟩
      · exact ((hgr.trans hgr3).andThen (World.grownBy_alloc _ _ none) (fun _ e => by cases e)).andThen hgr4' (fun k e => .inl (hbl k e))
      · rw [show p + 1 + (j + 1) = p + 1 + j + 1 by omega]
        exact (hR3.alloc _).kept hgr4' (fun e => by have := hbl R e.symm; omega) (fun k e => by have := hbl k e; omega)
     case measure => simp [intOf]; omega
  · obtain rfl : j = N + 1 := by omega
    have hc : ¬ (0 : Int) < (N : Int) + 1 - (((N + 1 : Nat)) : Int) := by omega
    have hl12 : zs.length ≤ 12 := by omega
    have hl1 : 1 ≤ zs.length := by omega
    go_wp2_with fail
    go_at_call 49
    refine (odd_zero wr R).mono ?_
    rintro e w3 ⟨rfl, rfl⟩
    go_wp2
    go_ret
    exact ⟨_, zs, rfl, hown, hl1, hl12, _, (by omega : p + 1 + (N + 1) ≤ p + 13), hR, hgr⟩
theorem pickF_in (W0 : World) (R len cap p : Nat) (a : Option Addr) (n : Int) (w : World) (hb : Bytes W0 a len) (h : Rd W0 R a len cap w p) (hp : p ≤ 1000000) :
 Calls Tryz.prog 42 #[.pointer (some ⟨R, 0, none⟩), .int .i64 n] w fun e w' => ∃ x : Int, e = .returned (.int .i64 x) ∧ 0 ≤ x ∧ (n ≤ 1000 → x ≤ 1000) ∧ Rd W0 R a len cap w' (p + 1) ∧ w.grownBy w' (some R) :=
 (pick_in W0 R len cap p a n w hb h hp).mono fun e w' ⟨x, h1, h2, h3, h4, h5, h6, _⟩ => ⟨x, h1, h2, fun hn => by
  by_cases hh : n < 1
  · rw [h3 hh]; omega
  · have := h4 (by omega); omega, h5, h6⟩
theorem Rd.lt {W0 w : World} {R len cap p : Nat} {a : Option Addr} (h : Rd W0 R a len cap w p) : R < w.heap.size := (gE9.1 h.2.2).1
def kindsL : List Int := [0, 0, 1, 1, 2, 3, 4, 5]
theorem kinds_in (i : Nat) : 0 ≤ kindsL.getD i 0 ∧ kindsL.getD i 0 ≤ 5 := by
 match i with
 | 0 => decide
 | 1 => decide
 | 2 => decide
 | 3 => decide
 | 4 => decide
 | 5 => decide
 | 6 => decide
 | 7 => decide
 | (n + 8) => simp [kindsL]
theorem quo59 (x : Nat) (h : x < 60) : ∃ y : Nat, y ≤ 1 ∧ Int.tdiv (x : Int) 59 = (y : Int) := ⟨x / 59, by omega, by rw [Int.tdiv_eq_ediv_of_nonneg (by omega)]; rfl⟩
structure Dd (W0 : World) (R len cap : Nat) (a : Option Addr) (w : World) (b : Nat) (k n : Int) (V : World) (q : Nat) : Prop where
 rd : Rd W0 R a len cap V q
 gr : w.grownBy V (some R)
 box : V.heap[b]? = some (.cells #[.int .i64 k, .int .i64 n] 39 (0, 0))
 res : V.heap[w.heap.size]? = some (.cells #[.int .i64 0, .int .i64 0] 39 (0, 0))
 lo : w.heap.size + 1 ≤ b
 rw_ : R < w.heap.size
theorem Dd.move {W0 : World} {R len cap : Nat} {a : Option Addr} {w : World} {b : Nat} {k n : Int} {V V' : World} {q q' : Nat} (h : Dd W0 R len cap a w b k n V q) (h1 : Rd W0 R a len cap V' q') (h2 : V.grownBy V' (some R)) : Dd W0 R len cap a w b k n V' q' := by
 have h3 := h.lo
 have h4 := h.rw_
 exact ⟨h1, h.gr.trans h2, (h2.block b (gE9.1 h.box).1 (fun e => by injection e with e; omega)).trans h.box, (h2.block _ (gE9.1 h.res).1 (fun e => by injection e with e; omega)).trans h.res, h3, h4⟩
theorem Dd.set1 {W0 : World} {R len cap : Nat} {a : Option Addr} {w : World} {b : Nat} {k n : Int} {V : World} {q : Nat} (h : Dd W0 R len cap a w b k n V q) (x : Int) : Dd W0 R len cap a w b k x (V.setCell ⟨b, 1, .none⟩ (.int .i64 x)) q := by
 have h3 := h.lo
 have h4 := h.rw_
 have h5 := h.rd.2.1
 have g := grownBy_setAtD V b 1 (.int .i64 x)
 exact ⟨h.rd.kept g (fun e => by injection e with e; omega) (fun k e => by injection e with e; omega), h.gr.andThen g (fun k e => .inl (by injection e with e; omega)), set_cells h.box 1 _, (g.block _ (gE9.1 h.res).1 (fun e => by injection e with e; omega)).trans h.res, h3, h4⟩
theorem Dd.done {W0 : World} {R len cap : Nat} {a : Option Addr} {w : World} {b : Nat} {k n : Int} {V : World} {q : Nat} (h : Dd W0 R len cap a w b k n V q) :
 ((V.setCell ⟨w.heap.size, 0, .none⟩ (.int .i64 k)).setCell ⟨w.heap.size, 1, .none⟩ (.int .i64 n)).heap[w.heap.size]? = some (.cells #[.int .i64 k, .int .i64 n] 39 (0, 0)) ∧
 Rd W0 R a len cap ((V.setCell ⟨w.heap.size, 0, .none⟩ (.int .i64 k)).setCell ⟨w.heap.size, 1, .none⟩ (.int .i64 n)) q ∧ w.grownBy ((V.setCell ⟨w.heap.size, 0, .none⟩ (.int .i64 k)).setCell ⟨w.heap.size, 1, .none⟩ (.int .i64 n)) (some R) := by
 have h4 := h.rw_
 have h5 := h.rd.2.1
 have g := grownBy_setAtD V w.heap.size 0 (.int .i64 k)
 have g2 := grownBy_setAtD (V.setCell ⟨w.heap.size, 0, .none⟩ (.int .i64 k)) w.heap.size 1 (.int .i64 n)
 exact ⟨set_cells (set_cells h.res 0 _) 1 _, (h.rd.kept g (fun e => by injection e with e; omega) (fun k e => by injection e with e; omega)).kept g2 (fun e => by injection e with e; omega) (fun k e => by injection e with e; omega),
  (h.gr.andThen g (fun k e => .inl (by injection e with e; omega))).andThen g2 (fun k e => .inl (by injection e with e; omega))⟩
theorem grown_cell12 {W W' : World} {R g : Nat} (h : W.grownBy W' (some R)) (h1 : g < W.heap.size) (h2 : g ≠ R) (i : Nat) : W'.cell? ⟨g, i, none⟩ = W.cell? ⟨g, i, none⟩ := by
 unfold World.cell?
 rw [h.block g h1 (fun e => h2 (by injection e))]
set_option maxRecDepth 100000 in
set_option maxHeartbeats 4000000 in
theorem l20Deed_in (W0 : World) (R len cap p : Nat) (a : Option Addr) (w : World) (hb : Bytes W0 a len) (h : Rd W0 R a len cap w p) (hp : p ≤ 800000) (rv : Option Addr) (rn rc : Nat) (hrn : rn ≤ 13) :
 Calls Tryz.prog 94 #[.pointer (some ⟨R, 0, none⟩), .slice rv rn rc] w fun e w' => (∃ k n, Fits k ∧ Fits n ∧ e = .returned (dV k n)) ∧ ∃ p', p' ≤ p + 30 ∧ Rd W0 R a len cap w' p' ∧ w.grownBy w' (some R) := by
 have hRw := h.lt
 have hW0R := h.2.1
 refine (cW9 (n := 9)).1 ?_
 refine callsIn_of_wp Tryz.func94 rfl trivial ?_ rfl
 simp only [Tryz.ntmps94, List.size_toArray, List.length_cons, List.length_nil, Nat.reduceAdd, Nat.reduceSub, Array.replicate_succ, Array.replicate_zero, List.push_toArray, List.append_toArray, List.nil_append, List.cons_append]
 have hg1 : w.grownBy (w.alloc (.cells #[.int .i64 0, .int .i64 0] 39)) (some R) := World.grownBy_alloc w _ _
 have k1 := aN9 w (.cells #[.int .i64 0, .int .i64 0] 39)
 have hR1 := h.alloc (.cells #[.int .i64 0, .int .i64 0] 39)
 have z1 := World.size_alloc w (.cells #[.int .i64 0, .int .i64 0] 39)
 obtain ⟨w1, hw1⟩ : ∃ w1, w.alloc (.cells #[.int .i64 0, .int .i64 0] 39) = w1 := ⟨_, rfl⟩
 rw [hw1] at hg1 k1 hR1 z1
 have z1' : w.heap.size + 1 ≤ w1.heap.size := by omega
 clear z1
 gi_wp2
 refine wpIn_region_rd W0 R len cap p a 1 12 [(some 6, 0), (some 7, 1), (some 8, 2), (some 9, 3), (some 10, 4), (some 11, 5), (some 12, 6), (some 13, 7), (some 14, 8), (some 15, 9), (some 16, 10), (some 5, 11)] (by omega) (by kernel_rfl) (by kernel_rfl) (by kernel_rfl) (by decide) (by decide) (by rfl) (by decide) hR1
  (fun i v V => match i with | 0 => ∃ g, v = .slice (some ⟨g, 0, none⟩) 8 8 ∧ g ≠ R ∧ g < V.heap.size ∧ ∀ j, j < 8 → V.cell? ⟨g, j, none⟩ = some (.int .i64 (kindsL.getD j 0)) | 1 => v = .pointer (some ⟨R, 0, none⟩) | 2 => ∃ x : Nat, x < 8 ∧ v = .int .i64 x | 3 => ∃ g j, v = .pointer (some ⟨g, j, none⟩) ∧ g ≠ R ∧ g < V.heap.size ∧ ∃ z : Int, 0 ≤ z ∧ z ≤ 5 ∧ V.cell? ⟨g, j, none⟩ = some (.int .i64 z) | 4 => ∃ z : Int, 0 ≤ z ∧ z ≤ 5 ∧ v = .int .i64 z | 5 => v = .pointer (some ⟨R, 0, none⟩) | 6 => ∃ x : Nat, x < 60 ∧ v = .int .i64 x | 7 => ∃ x : Nat, x ≤ 1 ∧ v = .int .i64 x | 8 => ∃ z : Int, 0 ≤ z ∧ z ≤ 6 ∧ v = .int .i64 z | 9 => ∃ z : Int, 0 ≤ z ∧ z ≤ 11 ∧ v = .int .i64 z | 10 => ∃ z : Int, 0 ≤ z ∧ z ≤ 11 ∧ v = .agg #[.int .i64 z, .int .i64 0] | 11 => ∃ b, v = .pointer (some ⟨b, 0, none⟩) ∧ w1.heap.size ≤ b ∧ V.heap[b]? = some (.cells #[.int .i64 0, .int .i64 0] 39 (0, 0)) | _ => True)
  (fun i v V V' h hg => match i, h with | 0, h => (by obtain ⟨g, h1, h2, h3, h4⟩ := h; exact ⟨g, h1, h2, lL9 h3 hg.size, fun j hj => (grown_cell12 hg h3 h2 j).trans (h4 j hj)⟩) | 1, h => h | 2, h => h | 3, h => (by obtain ⟨g, j, h1, h2, h3, z, h4, h5, h6⟩ := h; exact ⟨g, j, h1, h2, lL9 h3 hg.size, z, h4, h5, (grown_cell12 hg h3 h2 j).trans h6⟩) | 4, h => h | 5, h => h | 6, h => h | 7, h => h | 8, h => h | 9, h => h | 10, h => h | 11, h => (by obtain ⟨b, h1, h2, h3⟩ := h; exact ⟨b, h1, h2, (hg.block b (gE9.1 h3).1 (fun e => by injection e with e; omega)).trans h3⟩) | (_ + 12), _ => trivial)
  ?step ?tail
 case step =>
  rintro i oo s V q hi ho hqb hRV hgV hd Q' hQ
  rcases (show i = 0 ∨ i = 1 ∨ i = 2 ∨ i = 3 ∨ i = 4 ∨ i = 5 ∨ i = 6 ∨ i = 7 ∨ i = 8 ∨ i = 9 ∨ i = 10 ∨ i = 11 by omega) with rfl | rfl | rfl | rfl | rfl | rfl | rfl | rfl | rfl | rfl | rfl | rfl
  all_goals
   simp at ho
   subst ho
   simp only [putsOf, Act.put, List.setIfInBounds_toArray, List.set_cons_succ, List.set_cons_zero] at hQ ⊢
   have hQ' := hide hQ
   clear hQ
  · clear hd
    have hk := aN9 V (.cells #[.int .i64 0, .int .i64 0, .int .i64 1, .int .i64 1, .int .i64 2, .int .i64 3, .int .i64 4, .int .i64 5] 3)
    have zV := hRV.lt
    have zV2 := World.size_alloc V (.cells #[.int .i64 0, .int .i64 0, .int .i64 1, .int .i64 1, .int .i64 2, .int .i64 3, .int .i64 4, .int .i64 5] 3)
    gi_wp2
    have hr := hQ'.out
    refine hr _ _ q (by omega) (hRV.alloc _) (World.grownBy_alloc _ _ _) ⟨V.heap.size, rfl, by omega, by rw [World.size_alloc]; omega, fun j hj => ?_⟩
    rw [World.cell?_alloc_at _ _ _ _ rfl]
    rcases (show j = 0 ∨ j = 1 ∨ j = 2 ∨ j = 3 ∨ j = 4 ∨ j = 5 ∨ j = 6 ∨ j = 7 by omega) with rfl | rfl | rfl | rfl | rfl | rfl | rfl | rfl <;> rfl
  · clear hd
    gi_wp2
    have hr := hQ'.out
    exact hr _ _ q (by omega) hRV (grownBy_refl _ _) rfl
  · have e1 : s 1 = .pointer (some ⟨R, 0, none⟩) := hd 1 (by kernel_rfl)
    clear hd
    gi_wp2_with (refine ⟨trivial, ?_⟩; gi_at_call 42; go_loud (refine (cW9.2 (pick_in W0 R len cap q a 8 V hb hRV (by omega))).mono ?_; rintro e V9 ⟨x, rfl, hx0, _, hx1, hR9, hg9, _⟩))
    have hx := hx1 (by omega)
    obtain ⟨y, rfl⟩ : ∃ y : Nat, x = y := ⟨x.toNat, by omega⟩
    have hr := hQ'.out
    simp only [e1] at hr ⊢
    exact hr _ _ (q + 1) (by omega) hR9 hg9 ⟨y, by omega, rfl⟩
  · obtain ⟨g, e1, h2, h3, h4⟩ : ∃ g, s 0 = .slice (some ⟨g, 0, none⟩) 8 8 ∧ g ≠ R ∧ g < V.heap.size ∧ ∀ j, j < 8 → V.cell? ⟨g, j, none⟩ = some (.int .i64 (kindsL.getD j 0)) := hd 0 (by kernel_rfl)
    obtain ⟨y, hy, e2⟩ : ∃ x : Nat, x < 8 ∧ s 2 = .int .i64 x := hd 2 (by kernel_rfl)
    clear hd
    have hyi : (y : Int) < 8 := by omega
    have hc := h4 y hy
    have hkz := kinds_in y
    obtain ⟨z, hz⟩ : ∃ z, kindsL.getD y 0 = z := ⟨_, rfl⟩
    rw [hz] at hc hkz
    clear h4 hz
    gi_wp2
    have hr := hQ'.out
    simp only [e1, e2] at hr ⊢
    exact hr _ _ q (by omega) hRV (grownBy_refl _ _) ⟨g, _, rfl, h2, h3, z, hkz.1, hkz.2, by simpa using hc⟩
  · obtain ⟨g, j, e1, h2, h3, z, h4, h5, h6⟩ : ∃ g j, s 3 = .pointer (some ⟨g, j, none⟩) ∧ g ≠ R ∧ g < V.heap.size ∧ ∃ z : Int, 0 ≤ z ∧ z ≤ 5 ∧ V.cell? ⟨g, j, none⟩ = some (.int .i64 z) := hd 3 (by kernel_rfl)
    clear hd
    gi_wp2
    have hr := hQ'.out
    simp only [e1] at hr ⊢
    exact hr _ _ q (by omega) hRV (grownBy_refl _ _) ⟨z, h4, h5, rfl⟩
  · clear hd
    gi_wp2
    have hr := hQ'.out
    exact hr _ _ q (by omega) hRV (grownBy_refl _ _) rfl
  · have e1 : s 5 = .pointer (some ⟨R, 0, none⟩) := hd 5 (by kernel_rfl)
    clear hd
    gi_wp2_with (refine ⟨trivial, ?_⟩; gi_at_call 42; go_loud (refine (cW9.2 (pick_in W0 R len cap q a 60 V hb hRV (by omega))).mono ?_; rintro e V9 ⟨x, rfl, hx0, _, hx1, hR9, hg9, _⟩))
    have hx := hx1 (by omega)
    obtain ⟨y, rfl⟩ : ∃ y : Nat, x = y := ⟨x.toNat, by omega⟩
    have hr := hQ'.out
    simp only [e1] at hr ⊢
    exact hr _ _ (q + 1) (by omega) hR9 hg9 ⟨y, by omega, rfl⟩
  · obtain ⟨x, hx, e1⟩ : ∃ x : Nat, x < 60 ∧ s 6 = .int .i64 x := hd 6 (by kernel_rfl)
    clear hd
    obtain ⟨y, hy, hq⟩ := quo59 x hx
    have hw : IntKind.i64.wrap (y : Int) = y := IntWalk.i64_in _ (by omega)
    gi_wp2
    have hr := hQ'.out
    simp only [e1] at hr ⊢
    exact hr _ _ q (by omega) hRV (grownBy_refl _ _) ⟨y, hy, rfl⟩
  · obtain ⟨x, hx, e1⟩ : ∃ x : Nat, x ≤ 1 ∧ s 7 = .int .i64 x := hd 7 (by kernel_rfl)
    clear hd
    have hw : IntKind.i64.wrap ((x : Int) * 6) = (x : Int) * 6 := IntWalk.i64_in _ (by omega)
    gi_wp2
    have hr := hQ'.out
    simp only [e1] at hr ⊢
    exact hr _ _ q (by omega) hRV (grownBy_refl _ _) ⟨(x : Int) * 6, by omega, by omega, rfl⟩
  · obtain ⟨x, hx0, hx1, e1⟩ : ∃ z : Int, 0 ≤ z ∧ z ≤ 5 ∧ s 4 = .int .i64 z := hd 4 (by kernel_rfl)
    obtain ⟨y, hy0, hy1, e2⟩ : ∃ z : Int, 0 ≤ z ∧ z ≤ 6 ∧ s 8 = .int .i64 z := hd 8 (by kernel_rfl)
    clear hd
    have hw : IntKind.i64.wrap (x + y) = x + y := IntWalk.i64_in _ (by omega)
    gi_wp2
    have hr := hQ'.out
    simp only [e1, e2] at hr ⊢
    exact hr _ _ q (by omega) hRV (grownBy_refl _ _) ⟨x + y, by omega, by omega, rfl⟩
  · obtain ⟨x, hx0, hx1, e1⟩ : ∃ z : Int, 0 ≤ z ∧ z ≤ 11 ∧ s 9 = .int .i64 z := hd 9 (by kernel_rfl)
    clear hd
    gi_wp2
    have hr := hQ'.out
    simp only [e1] at hr ⊢
    exact hr _ _ q (by omega) hRV (grownBy_refl _ _) ⟨x, hx0, hx1, rfl⟩
  · clear hd
    have zg := hgV.size
    gi_wp2
    have hr := hQ'.out
    exact hr _ _ q (by omega) (hRV.alloc _) (World.grownBy_alloc _ _ _) ⟨V.heap.size, rfl, zg, aN9 V _⟩
 case tail =>
  rintro s V q hqb hRV hgV hd
  replace hqb : q ≤ p + 13 := hqb
  obtain ⟨k, hk0, hk1, f10⟩ : ∃ z : Int, 0 ≤ z ∧ z ≤ 11 ∧ s 10 = .agg #[.int .i64 z, .int .i64 0] := hd 10 (by omega)
  obtain ⟨b, f11, hb11, kb⟩ : ∃ b, s 11 = .pointer (some ⟨b, 0, none⟩) ∧ w1.heap.size ≤ b ∧ V.heap[b]? = some (.cells #[.int .i64 0, .int .i64 0] 39 (0, 0)) := hd 11 (by omega)
  clear hd
  have zb := (gE9.1 kb).1
  obtain ⟨e0, e1, g0, g1⟩ := row_atD kb
  have hgw := hg1.trans hgV
  have hr1 := (hgV.block _ (gE9.1 k1).1 (fun e => by injection e with e; omega)).trans k1
  have gs := grownBy_setAtD V b 0 (.int .i64 k)
  have gs2 := grownBy_setAtD (V.setCell ⟨b, 0, none⟩ (.int .i64 k)) b 1 (.int .i64 0)
  have hD : Dd W0 R len cap a w b k 0 ((V.setCell ⟨b, 0, none⟩ (.int .i64 k)).setCell ⟨b, 1, none⟩ (.int .i64 0)) q := ⟨(hRV.kept gs (fun e => by injection e with e; omega) (fun k e => by injection e with e; omega)).kept gs2 (fun e => by injection e with e; omega) (fun k e => by injection e with e; omega), (hgw.andThen gs (fun k e => .inl (by injection e with e; omega))).andThen gs2 (fun k e => .inl (by injection e with e; omega)), set_cells (set_cells kb 0 _) 1 _, (gs2.block _ (lL9 (gE9.1 hr1).1 gs.size) (fun e => by injection e with e; omega)).trans ((gs.block _ (gE9.1 hr1).1 (fun e => by injection e with e; omega)).trans hr1), by omega, hRw⟩
  clear gs gs2 hr1 hgw hgV hRV kb k1 hg1 hR1 hw1
  simp only [putsOf, Act.put, List.setIfInBounds_toArray, List.set_cons_succ, List.set_cons_zero]
  simp only [List.drop_succ_cons, List.drop_zero]
  rcases (show k = 0 ∨ k = 1 ∨ 2 ≤ k by omega) with rfl | rfl | hk2
  · obtain ⟨c0, c1, f0, f1⟩ := row_atD hD.box
    obtain ⟨r0, r1, t0, t1⟩ := row_atD hD.res
    gi_wp2_with fail
    all_goals
     refine ⟨trivial, ?_⟩
     gi_at_call 42
     refine (cW9.2 (pickF_in W0 R len cap _ a _ _ hb hD.rd (by omega))).mono ?_
     rintro e V2 ⟨x, rfl, hx0, hx1, hR2, hg2⟩
     replace hx1 := hx1 (by omega)
     have h2' := hD.move hR2 hg2
     clear hR2 hg2
     obtain ⟨c0, c1, f0, f1⟩ := row_atD h2'.box
     obtain ⟨r0, r1, t0, t1⟩ := row_atD h2'.res
     have h4 := h2'.set1 x
     have hy : 0 ≤ x ∧ x ≤ 1000 := ⟨hx0, hx1⟩
     clear h2'
     have hO := odd_any W0 R len cap _ a 40 _ hb h4.rd (by omega) (by omega) (by omega)
     gi_wp2_with fail
     refine ⟨trivial, ?_⟩
     gi_at_call 49
     refine (cW9.2 hO).mono ?_
     rintro e V3 ⟨bo, rfl, hR3, hg3⟩
     have h3 := h4.move hR3 hg3
     clear hR3 hg3 hO
     obtain ⟨c0, c1, f0, f1⟩ := row_atD h3.box
     obtain ⟨r0, r1, t0, t1⟩ := row_atD h3.res
     have hd3 := hide h3.done
     cases bo with
     | false =>
       gi_wp2
       (try simp only [Exit.inBlock, Exit.then])
       exact bodyPost_ret (results_cell_row rfl _ _ w.heap.size _ #[.int .i64 0, .int .i64 x] (0, 0) _ rfl hd3.out.1 Tryz.underlying39 rfl (by kernel_rfl)) rfl ⟨⟨0, x, by unfold Fits; omega, by unfold Fits; omega, rfl⟩, _, by omega, hd3.out.2⟩
     | true =>
       clear hd3
       have hA4 := World.grownBy_alloc V3 (.cells #[.int .i64 (-1), .int .i64 2, .int .i64 12, .int .i64 100] 3) (some R)
       have h3a := h3.move (h3.rd.alloc _) hA4
       have z3 := h3.rd.lt
       have l4 := World.size_alloc V3 (.cells #[.int .i64 (-1), .int .i64 2, .int .i64 12, .int .i64 100] 3)
       have hlit : ∀ i : Nat, i < 4 → ∃ z : Int, -1 ≤ z ∧ z ≤ 100 ∧ (V3.alloc (.cells #[.int .i64 (-1), .int .i64 2, .int .i64 12, .int .i64 100] 3)).cell? ⟨V3.heap.size, i, none⟩ = some (.int .i64 z) := fun i hi => by
        rw [World.cell?_alloc_at _ _ _ _ rfl]
        rcases (show i = 0 ∨ i = 1 ∨ i = 2 ∨ i = 3 by omega) with rfl | rfl | rfl | rfl
        · exact ⟨-1, by omega, by omega, rfl⟩
        · exact ⟨2, by omega, by omega, rfl⟩
        · exact ⟨12, by omega, by omega, rfl⟩
        · exact ⟨100, by omega, by omega, rfl⟩
       have hlith := hide hlit
       clear hlit
       gi_wp2_with fail
       refine ⟨trivial, ?_⟩
       gi_at_call 42
       refine (cW9.2 (pick_in W0 R len cap _ a _ _ hb h3a.rd (by omega))).mono ?_
       rintro e V4 ⟨y, rfl, hy0, _, hy1, hR4, hg4, _⟩
       have hy2 := hy1 (by omega)
       obtain ⟨j, rfl⟩ : ∃ j : Nat, y = j := ⟨y.toNat, by omega⟩
       have hji : (j : Int) < 4 := by omega
       obtain ⟨z, hz0, hz1, hc⟩ := hlith.out j (by omega)
       have hc4 := (grown_cell12 hg4 (by omega) (by omega) j).trans hc
       have h5 := h3a.move hR4 hg4
       have h6 := h5.set1 z
       clear hc hlith hR4 hg4 hA4 l4 hy1
       obtain ⟨c0, c1, f0, f1⟩ := row_atD h5.box
       obtain ⟨r0, r1, t0, t1⟩ := row_atD h5.res
       have hd6 := hide h6.done
       obtain ⟨c0', c1', f0', f1'⟩ := row_atD h6.box
       obtain ⟨r0', r1', t0', t1'⟩ := row_atD h6.res
       gi_wp2
       (try simp only [Exit.inBlock, Exit.then])
       exact bodyPost_ret (results_cell_row rfl _ _ w.heap.size _ #[.int .i64 0, .int .i64 z] (0, 0) _ rfl hd6.out.1 Tryz.underlying39 rfl (by kernel_rfl)) rfl ⟨⟨0, z, by unfold Fits; omega, by unfold Fits; omega, rfl⟩, _, by omega, hd6.out.2⟩
  · obtain ⟨c0, c1, f0, f1⟩ := row_atD hD.box
    obtain ⟨r0, r1, t0, t1⟩ := row_atD hD.res
    gi_wp2_with fail
    all_goals
     refine ⟨trivial, ?_⟩
     gi_at_call 42
     refine (cW9.2 (pickF_in W0 R len cap _ a _ _ hb hD.rd (by omega))).mono ?_
     rintro e V2 ⟨x, rfl, hx0, hx1, hR2, hg2⟩
     replace hx1 := hx1 (by omega)
     have h2' := hD.move hR2 hg2
     clear hR2 hg2
     obtain ⟨c0, c1, f0, f1⟩ := row_atD h2'.box
     obtain ⟨r0, r1, t0, t1⟩ := row_atD h2'.res
     have h4 := h2'.set1 x
     have hy : 0 ≤ x ∧ x ≤ 1000 := ⟨hx0, hx1⟩
     clear h2'
     have hO := odd_any W0 R len cap _ a 40 _ hb h4.rd (by omega) (by omega) (by omega)
     gi_wp2_with fail
     refine ⟨trivial, ?_⟩
     gi_at_call 49
     refine (cW9.2 hO).mono ?_
     rintro e V3 ⟨bo, rfl, hR3, hg3⟩
     have h3 := h4.move hR3 hg3
     clear hR3 hg3 hO
     obtain ⟨c0, c1, f0, f1⟩ := row_atD h3.box
     obtain ⟨r0, r1, t0, t1⟩ := row_atD h3.res
     have hd3 := hide h3.done
     cases bo with
     | false =>
       gi_wp2
       (try simp only [Exit.inBlock, Exit.then])
       exact bodyPost_ret (results_cell_row rfl _ _ w.heap.size _ #[.int .i64 1, .int .i64 x] (0, 0) _ rfl hd3.out.1 Tryz.underlying39 rfl (by kernel_rfl)) rfl ⟨⟨1, x, by unfold Fits; omega, by unfold Fits; omega, rfl⟩, _, by omega, hd3.out.2⟩
     | true =>
       clear hd3
       have hA4 := World.grownBy_alloc V3 (.cells #[.int .i64 (-1), .int .i64 2, .int .i64 12, .int .i64 100] 3) (some R)
       have h3a := h3.move (h3.rd.alloc _) hA4
       have z3 := h3.rd.lt
       have l4 := World.size_alloc V3 (.cells #[.int .i64 (-1), .int .i64 2, .int .i64 12, .int .i64 100] 3)
       have hlit : ∀ i : Nat, i < 4 → ∃ z : Int, -1 ≤ z ∧ z ≤ 100 ∧ (V3.alloc (.cells #[.int .i64 (-1), .int .i64 2, .int .i64 12, .int .i64 100] 3)).cell? ⟨V3.heap.size, i, none⟩ = some (.int .i64 z) := fun i hi => by
        rw [World.cell?_alloc_at _ _ _ _ rfl]
        rcases (show i = 0 ∨ i = 1 ∨ i = 2 ∨ i = 3 by omega) with rfl | rfl | rfl | rfl
        · exact ⟨-1, by omega, by omega, rfl⟩
        · exact ⟨2, by omega, by omega, rfl⟩
        · exact ⟨12, by omega, by omega, rfl⟩
        · exact ⟨100, by omega, by omega, rfl⟩
       have hlith := hide hlit
       clear hlit
       gi_wp2_with fail
       refine ⟨trivial, ?_⟩
       gi_at_call 42
       refine (cW9.2 (pick_in W0 R len cap _ a _ _ hb h3a.rd (by omega))).mono ?_
       rintro e V4 ⟨y, rfl, hy0, _, hy1, hR4, hg4, _⟩
       have hy2 := hy1 (by omega)
       obtain ⟨j, rfl⟩ : ∃ j : Nat, y = j := ⟨y.toNat, by omega⟩
       have hji : (j : Int) < 4 := by omega
       obtain ⟨z, hz0, hz1, hc⟩ := hlith.out j (by omega)
       have hc4 := (grown_cell12 hg4 (by omega) (by omega) j).trans hc
       have h5 := h3a.move hR4 hg4
       have h6 := h5.set1 z
       clear hc hlith hR4 hg4 hA4 l4 hy1
       obtain ⟨c0, c1, f0, f1⟩ := row_atD h5.box
       obtain ⟨r0, r1, t0, t1⟩ := row_atD h5.res
       have hd6 := hide h6.done
       obtain ⟨c0', c1', f0', f1'⟩ := row_atD h6.box
       obtain ⟨r0', r1', t0', t1'⟩ := row_atD h6.res
       gi_wp2
       (try simp only [Exit.inBlock, Exit.then])
       exact bodyPost_ret (results_cell_row rfl _ _ w.heap.size _ #[.int .i64 1, .int .i64 z] (0, 0) _ rfl hd6.out.1 Tryz.underlying39 rfl (by kernel_rfl)) rfl ⟨⟨1, z, by unfold Fits; omega, by unfold Fits; omega, rfl⟩, _, by omega, hd6.out.2⟩
  · have hk0' : (k == 0) = false := by simp; omega
    have hk1' : (k == 1) = false := by simp; omega
    obtain ⟨c0, c1, f0, f1⟩ := row_atD hD.box
    obtain ⟨r0, r1, t0, t1⟩ := row_atD hD.res
    have hO := odd_any W0 R len cap _ a 40 _ hb hD.rd (by omega) (by omega) (by omega)
    gi_wp2_with fail
    refine ⟨trivial, ?_⟩
    gi_at_call 49
    refine (cW9.2 hO).mono ?_
    rintro e V3 ⟨bo, rfl, hR3, hg3⟩
    have h3 := hD.move hR3 hg3
    clear hR3 hg3 hO
    obtain ⟨c0, c1, f0, f1⟩ := row_atD h3.box
    obtain ⟨r0, r1, t0, t1⟩ := row_atD h3.res
    have hd3 := hide h3.done
    cases bo with
    | false =>
      gi_wp2
      (try simp only [Exit.inBlock, Exit.then])
      exact bodyPost_ret (results_cell_row rfl _ _ w.heap.size _ #[.int .i64 k, .int .i64 0] (0, 0) _ rfl hd3.out.1 Tryz.underlying39 rfl (by kernel_rfl)) rfl ⟨⟨k, 0, by unfold Fits; omega, by unfold Fits; omega, rfl⟩, _, by omega, hd3.out.2⟩
    | true =>
      clear hd3
      have hA4 := World.grownBy_alloc V3 (.cells #[.int .i64 (-1), .int .i64 2, .int .i64 12, .int .i64 100] 3) (some R)
      have h3a := h3.move (h3.rd.alloc _) hA4
      have z3 := h3.rd.lt
      have l4 := World.size_alloc V3 (.cells #[.int .i64 (-1), .int .i64 2, .int .i64 12, .int .i64 100] 3)
      have hlit : ∀ i : Nat, i < 4 → ∃ z : Int, -1 ≤ z ∧ z ≤ 100 ∧ (V3.alloc (.cells #[.int .i64 (-1), .int .i64 2, .int .i64 12, .int .i64 100] 3)).cell? ⟨V3.heap.size, i, none⟩ = some (.int .i64 z) := fun i hi => by
       rw [World.cell?_alloc_at _ _ _ _ rfl]
       rcases (show i = 0 ∨ i = 1 ∨ i = 2 ∨ i = 3 by omega) with rfl | rfl | rfl | rfl
       · exact ⟨-1, by omega, by omega, rfl⟩
       · exact ⟨2, by omega, by omega, rfl⟩
       · exact ⟨12, by omega, by omega, rfl⟩
       · exact ⟨100, by omega, by omega, rfl⟩
      have hlith := hide hlit
      clear hlit
      gi_wp2_with fail
      refine ⟨trivial, ?_⟩
      gi_at_call 42
      refine (cW9.2 (pick_in W0 R len cap _ a _ _ hb h3a.rd (by omega))).mono ?_
      rintro e V4 ⟨y, rfl, hy0, _, hy1, hR4, hg4, _⟩
      have hy2 := hy1 (by omega)
      obtain ⟨j, rfl⟩ : ∃ j : Nat, y = j := ⟨y.toNat, by omega⟩
      have hji : (j : Int) < 4 := by omega
      obtain ⟨z, hz0, hz1, hc⟩ := hlith.out j (by omega)
      have hc4 := (grown_cell12 hg4 (by omega) (by omega) j).trans hc
      have h5 := h3a.move hR4 hg4
      have h6 := h5.set1 z
      clear hc hlith hR4 hg4 hA4 l4 hy1
      obtain ⟨c0, c1, f0, f1⟩ := row_atD h5.box
      obtain ⟨r0, r1, t0, t1⟩ := row_atD h5.res
      have hd6 := hide h6.done
      obtain ⟨c0', c1', f0', f1'⟩ := row_atD h6.box
      obtain ⟨r0', r1', t0', t1'⟩ := row_atD h6.res
      gi_wp2
      (try simp only [Exit.inBlock, Exit.then])
      exact bodyPost_ret (results_cell_row rfl _ _ w.heap.size _ #[.int .i64 k, .int .i64 z] (0, 0) _ rfl hd6.out.1 Tryz.underlying39 rfl (by kernel_rfl)) rfl ⟨⟨k, z, by unfold Fits; omega, by unfold Fits; omega, rfl⟩, _, by omega, hd6.out.2⟩
def TxtLe (m : Nat) (v : Value) : Prop := ∃ l : List Nat, v = .string (str l) ∧ (∀ x ∈ l, x < 256) ∧ l.length ≤ m
theorem app_le {m n t : Nat} {v u : Value} (hv : TxtLe m v) (hu : TxtLe n u) (ht : m + n ≤ t) (_hs : t ≤ 100000) :
 ∃ A, v = .string A ∧ A.size ≤ m ∧ ∃ C, u = .string C ∧ (C.size ≤ n ∧ A.size + C.size ≤ t ∧ TxtLe t (.string (A ++ C))) := by
 obtain ⟨a, rfl, ha, hb⟩ := hv
 obtain ⟨c, rfl, hc, hd⟩ := hu
 refine ⟨_, rfl, by rw [str_size]; exact hb, _, rfl, by rw [str_size]; exact hd, by rw [str_size, str_size]; omega, a ++ c, by rw [str_app], fun x hx => ?_, by rw [List.length_append]; omega⟩
 rcases List.mem_append.1 hx with h | h
 · exact ha x h
 · exact hc x h
theorem rd_belowD {W0 w w' : World} {R len cap p : Nat} {a : Option Addr} (h : Rd W0 R a len cap w p) (hB : Below w.heap.size w w') : Rd W0 R a len cap w' p :=
 ⟨h.1.trans (hB.mono h.1.size), h.2.1, (hB.block R (gE9.1 h.2.2).1).trans h.2.2⟩
theorem below_grownW {W V : World} (h : Below W.heap.size W V) : W.grownBy V none := ⟨h.os, h.tape, h.output, h.size, fun k hk _ => h.block k hk⟩
theorem Rd.keptO {W0 w w' : World} {R len cap p : Nat} {a : Option Addr} {row : Option Nat} (h : Rd W0 R a len cap w p) (hg : w.grownBy w' row) (hrow : ∀ k, row = some k → R < k) : Rd W0 R a len cap w' p :=
 h.kept hg (fun e => by have := hrow R e.symm; omega) (fun k e => by have := hrow k e; have := h.2.1; omega)
end
section
open Go.RowKit
def sel4 (i : Nat) (a b c d : Int) : Int := if i = 0 then a else if i = 1 then b else if i = 2 then c else d
theorem sel4_at {i : Nat} (hi : i < 4) (a b c d : Int) : (#[.int .i64 a, .int .i64 b, .int .i64 c, .int .i64 d] : Array Value)[i]? = some (.int .i64 (sel4 i a b c d)) := by
 match i, hi with
 | 0, _ => rfl
 | 1, _ => rfl
 | 2, _ => rfl
 | 3, _ => rfl
theorem sel4_cell {i : Nat} (hi : i < 4) (W : World) (a b c d : Int) : (W.alloc (.cells #[.int .i64 a, .int .i64 b, .int .i64 c, .int .i64 d] 3)).cell? ⟨W.heap.size, i, none⟩ = some (.int .i64 (sel4 i a b c d)) := by
 rw [World.cell?_alloc_at _ _ _ _ rfl]; exact sel4_at hi a b c d
theorem sel4_fits {i : Nat} {a b c d : Int} (ha : Fits a) (hb : Fits b) (hc : Fits c) (hd : Fits d) : Fits (sel4 i a b c d) := by
 unfold sel4; split
 · exact ha
 · split
   · exact hb
   · split
     · exact hc
     · exact hd
inductive Kn where
 | rd | fit | rng (n : Nat) | pair | lit (n : Nat) | adr | val (v : Value) | any
def Kn.holds (R : Nat) (v : Value) (W : World) : Kn → Prop
 | .rd => v = .pointer (some ⟨R, 0, none⟩)
 | .fit => ∃ x : Int, Fits x ∧ v = .int .i64 x
 | .rng n => ∃ x : Nat, x < n ∧ v = .int .i64 x
 | .pair => ∃ x y : Int, Fits x ∧ Fits y ∧ v = .tuple #[.int .i64 x, .int .i64 y]
 | .lit n => ∃ g, v = .slice (some ⟨g, 0, none⟩) n n ∧ g ≠ R ∧ g < W.heap.size ∧ ∀ i, i < n → ∃ x : Int, Fits x ∧ W.cell? ⟨g, i, none⟩ = some (.int .i64 x)
 | .adr => ∃ g i, v = .pointer (some ⟨g, i, none⟩) ∧ g ≠ R ∧ g < W.heap.size ∧ ∃ x : Int, Fits x ∧ W.cell? ⟨g, i, none⟩ = some (.int .i64 x)
 | .val u => v = u
 | .any => True
theorem grown_cell2 {W W' : World} {R g : Nat} (h : W.grownBy W' (some R)) (h1 : g < W.heap.size) (h2 : g ≠ R) (i : Nat) : W'.cell? ⟨g, i, none⟩ = W.cell? ⟨g, i, none⟩ := by
 unfold World.cell?
 rw [h.block g h1 (fun e => h2 (by injection e))]
theorem Kn.mono {R : Nat} {v : Value} {W W' : World} (k : Kn) (h : k.holds R v W) (hg : W.grownBy W' (some R)) : k.holds R v W' := by
 cases k with
 | rd => exact h
 | fit => exact h
 | rng n => exact h
 | pair => exact h
 | lit n =>
   obtain ⟨g, h1, h2, h3, h4⟩ := h
   refine ⟨g, h1, h2, lL9 h3 hg.size, fun i hi => ?_⟩
   obtain ⟨x, h5, h6⟩ := h4 i hi
   exact ⟨x, h5, (grown_cell2 hg h3 h2 i).trans h6⟩
 | adr =>
   obtain ⟨g, i, h1, h2, h3, x, h5, h6⟩ := h
   exact ⟨g, i, h1, h2, lL9 h3 hg.size, x, h5, (grown_cell2 hg h3 h2 i).trans h6⟩
 | val u => exact h
 | any => trivial
def knAt (ks : List Kn) (k : Nat) : Kn := (ks[k]?).getD .any
theorem wp_region_reader2 {id : Nat} {ops : Array Oper} {Q : Exit → Act → World → Prop} {act : Act} {w : World} (W0 : World) (R len cap p : Nat) (a : Option Addr) (K : Nat) (hK : K ≤ 200) (hm : Tryz.prog.follows .mixedOrders = true) (hb : backB ops = true) (hsz : ops.size ≤ 100)
 (hR : Rd W0 R a len cap w p) (fr : (Nat → Value) → Act) (ks : List Kn)
 (h0 : ∃ s, act = fr s) (hput : ∀ i o s v, ops[i]? = some o → (fr s).put o.dst v = fr (fun j => if j = i then v else s j))
 (hstep : ∀ i o s W q, q ≤ p + 20000 → ops[i]? = some o → Rd W0 R a len cap W q → (∀ k, (o.after.any fun e => Region.binds .any e && e.on == k) = true → (knAt ks k).holds R (s k) W) → ∀ Q' : Exit → Act → World → Prop,
  (∀ v W' q', q' ≤ q + K → Rd W0 R a len cap W' q' → W.grownBy W' (some R) → (knAt ks i).holds R v W' → Q' .normal ((fr s).put o.dst v) W') → wpListIn Fence.wide 9 Tryz.prog ops Q' [o] (fr s) W)
 (hfin : ∀ s W q, q ≤ p + K * ops.size → Rd W0 R a len cap W q → w.grownBy W (some R) → (∀ k, k < ops.size → (knAt ks k).holds R (s k) W) → Q .normal (fr s) W) : (Code.region id ops true).wp Tryz.prog Q act w := by
 refine wp_region_pred hm hb fr (fun c W => c ≤ ops.size ∧ w.grownBy W (some R) ∧ ∃ q, q ≤ p + K * c ∧ Rd W0 R a len cap W q) (fun W W' => W.grownBy W' (some R)) (fun k v W => (knAt ks k).holds R v W) h0 hput ⟨Nat.zero_le _, grownBy_drew (grownBy_refl _ _), p, by omega, hR.drew⟩ (fun k v W W' h hg => Kn.mono _ h hg) ?_ ?_
 · rintro i o s W c hc ho ⟨_, hgw, q, hq, hRW⟩ hd Q' hQ'
   have h1 : K * c ≤ 200 * 100 := Nat.mul_le_mul hK (by omega)
   exact hstep i o s W q (by omega) ho hRW hd Q' (fun v W' q' hq' h1 h2 h3 => hQ' v W' ⟨by omega, hgw.trans h2, q', by rw [Nat.mul_succ]; omega, h1⟩ h2 h3)
 · rintro s W ⟨c, hc, hgw, q, hq, hRW⟩ hall
   have : K * c ≤ K * ops.size := Nat.mul_le_mul_left K hc
   exact hfin s W q (by omega) hRW hgw hall
theorem Rd.up {W0 w : World} {R len cap p q : Nat} {a : Option Addr} (h : Rd W0 R a len cap w p) (e : p = q) : Rd W0 R a len cap w q := e ▸ h
theorem bits_fits2 (o : BinOp) (x y : Int) : Fits (bits o .i64 x y) := by
 unfold bits
 exact wrap_fits _
def Moved (W0 : World) (R : Nat) (a : Option Addr) (len cap p K : Nat) (w w' : World) : Prop := ∃ q, q ≤ p + K ∧ Rd W0 R a len cap w' q ∧ w.grownBy w' (some R)
set_option maxHeartbeats 4000000 in
set_option maxRecDepth 100000 in
theorem l20Big2 (W0 : World) (R len cap p : Nat) (a : Option Addr) (w : World) (hb : Bytes W0 a len) (h : Rd W0 R a len cap w p) (hp : p ≤ 900000) :
 Calls Tryz.prog 105 #[.pointer (some ⟨R, 0, none⟩)] w fun e w' => Int1 e ∧ Moved W0 R a len cap p 40 w w' := by
 go_enter Tryz.func105, Tryz.ntmps105
 go_upto_region 1 with fail
 refine wp_region_reader2 W0 R len cap p a 1 (by decide) (by kernel_rfl) (by kernel_rfl) (by decide) h
  (fun s => { tmps := #[.pointer (some ⟨R, 0, none⟩), undef, .int .i64 0, s 29, s 0, s 1, s 2, s 3, s 4, s 5, s 6, s 7, s 8, s 9, s 10, s 11, s 12, s 13, s 14, s 15, s 16, s 17, s 18, s 19, s 20, s 21, s 22, s 23, s 24, s 25, s 26, s 27, s 28, undef, undef, undef, undef, undef, undef, undef, undef, undef, undef, undef], defers := [] })
  [.rd, .fit, .rd, .fit, .fit, .rd, .fit, .fit, .rd, .fit, .fit, .rd, .fit, .fit, .fit, .rd, .fit, .fit, .rd, .rng 28, .fit, .rd, .fit, .fit, .lit 4, .rd, .rng 4, .adr, .fit, .fit] ?h0 ?put ?step ?fin
 case h0 => exact ⟨fun k => undef, by simp⟩
 case put =>
  intro i o s v ho
  have hi : i < 30 := (gE9.1 ho).1
  rcases (show i = 0 ∨ i = 1 ∨ i = 2 ∨ i = 3 ∨ i = 4 ∨ i = 5 ∨ i = 6 ∨ i = 7 ∨ i = 8 ∨ i = 9 ∨ i = 10 ∨ i = 11 ∨ i = 12 ∨ i = 13 ∨ i = 14 ∨ i = 15 ∨ i = 16 ∨ i = 17 ∨ i = 18 ∨ i = 19 ∨ i = 20 ∨ i = 21 ∨ i = 22 ∨ i = 23 ∨ i = 24 ∨ i = 25 ∨ i = 26 ∨ i = 27 ∨ i = 28 ∨ i = 29 by omega) with rfl | rfl | rfl | rfl | rfl | rfl | rfl | rfl | rfl | rfl | rfl | rfl | rfl | rfl | rfl | rfl | rfl | rfl | rfl | rfl | rfl | rfl | rfl | rfl | rfl | rfl | rfl | rfl | rfl | rfl
  all_goals
   simp at ho
   subst ho
   simp [Act.put]
 case step =>
  intro i o s W q hq ho hRW hd Q' hQ'
  have hi : i < 30 := (gE9.1 ho).1
  rcases (show i = 0 ∨ i = 1 ∨ i = 2 ∨ i = 3 ∨ i = 4 ∨ i = 5 ∨ i = 6 ∨ i = 7 ∨ i = 8 ∨ i = 9 ∨ i = 10 ∨ i = 11 ∨ i = 12 ∨ i = 13 ∨ i = 14 ∨ i = 15 ∨ i = 16 ∨ i = 17 ∨ i = 18 ∨ i = 19 ∨ i = 20 ∨ i = 21 ∨ i = 22 ∨ i = 23 ∨ i = 24 ∨ i = 25 ∨ i = 26 ∨ i = 27 ∨ i = 28 ∨ i = 29 by omega) with rfl | rfl | rfl | rfl | rfl | rfl | rfl | rfl | rfl | rfl | rfl | rfl | rfl | rfl | rfl | rfl | rfl | rfl | rfl | rfl | rfl | rfl | rfl | rfl | rfl | rfl | rfl | rfl | rfl | rfl
  all_goals
   simp at ho
   subst ho
   simp [Act.put] at hQ'
   have hQ := hide hQ'
   clear hQ'
  case inl =>
   gi_wp2
   exact hQ.out _ W q (by omega) hRW (grownBy_refl _ _) rfl
  case inr.inl =>
   have e1 : s 0 = .pointer (some ⟨R, 0, none⟩) := hd 0 (by kernel_rfl)
   gi_wp2_with (refine ⟨trivial, ?_⟩; gi_at_call 42; refine (cW9.2 (pick_in W0 R len cap _ a (40) _ hb hRW (by omega))).mono ?_; rintro e W' ⟨x, rfl, hx0, hx2, hx1, hrd, hgr, _⟩)
   have hr := hQ.out
   try simp only [e1] at hr
   exact hr _ W' _ (by omega) hrd hgr ⟨x, by unfold Fits; omega, rfl⟩
  case inr.inr.inl =>
   gi_wp2
   exact hQ.out _ W q (by omega) hRW (grownBy_refl _ _) rfl
  case inr.inr.inr.inl =>
   have e1 : s 2 = .pointer (some ⟨R, 0, none⟩) := hd 2 (by kernel_rfl)
   gi_wp2_with (refine ⟨trivial, ?_⟩; gi_at_call 42; refine (cW9.2 (pick_in W0 R len cap _ a (256) _ hb hRW (by omega))).mono ?_; rintro e W' ⟨x, rfl, hx0, hx2, hx1, hrd, hgr, _⟩)
   have hr := hQ.out
   try simp only [e1] at hr
   exact hr _ W' _ (by omega) hrd hgr ⟨x, by unfold Fits; omega, rfl⟩
  case inr.inr.inr.inr.inl =>
   obtain ⟨x, hx, ex⟩ : ∃ x : Int, Fits x ∧ s 3 = .int .i64 x := hd 3 (by kernel_rfl)
   gi_wp2
   have hr := hQ.out
   try simp only [ex] at hr
   exact hr _ W q (by omega) hRW (grownBy_refl _ _) ⟨_, (by first | exact wrap_fits _ | exact wrap64_fits _ | exact bits_fits2 _ _ _ | (unfold Fits; omega)), rfl⟩
  case inr.inr.inr.inr.inr.inl =>
   gi_wp2
   exact hQ.out _ W q (by omega) hRW (grownBy_refl _ _) rfl
  case inr.inr.inr.inr.inr.inr.inl =>
   have e1 : s 5 = .pointer (some ⟨R, 0, none⟩) := hd 5 (by kernel_rfl)
   gi_wp2_with (refine ⟨trivial, ?_⟩; gi_at_call 42; refine (cW9.2 (pick_in W0 R len cap _ a (256) _ hb hRW (by omega))).mono ?_; rintro e W' ⟨x, rfl, hx0, hx2, hx1, hrd, hgr, _⟩)
   have hr := hQ.out
   try simp only [e1] at hr
   exact hr _ W' _ (by omega) hrd hgr ⟨x, by unfold Fits; omega, rfl⟩
  case inr.inr.inr.inr.inr.inr.inr.inl =>
   obtain ⟨x, hx, ex⟩ : ∃ x : Int, Fits x ∧ s 4 = .int .i64 x := hd 4 (by kernel_rfl)
   obtain ⟨y, hy, ey⟩ : ∃ x : Int, Fits x ∧ s 6 = .int .i64 x := hd 6 (by kernel_rfl)
   gi_wp2
   have hr := hQ.out
   try simp only [ex, ey] at hr
   exact hr _ W q (by omega) hRW (grownBy_refl _ _) ⟨_, (by first | exact wrap_fits _ | exact wrap64_fits _ | exact bits_fits2 _ _ _ | (unfold Fits; omega)), rfl⟩
  case inr.inr.inr.inr.inr.inr.inr.inr.inl =>
   gi_wp2
   exact hQ.out _ W q (by omega) hRW (grownBy_refl _ _) rfl
  case inr.inr.inr.inr.inr.inr.inr.inr.inr.inl =>
   have e1 : s 8 = .pointer (some ⟨R, 0, none⟩) := hd 8 (by kernel_rfl)
   gi_wp2_with (refine ⟨trivial, ?_⟩; gi_at_call 42; refine (cW9.2 (pick_in W0 R len cap _ a (250) _ hb hRW (by omega))).mono ?_; rintro e W' ⟨x, rfl, hx0, hx2, hx1, hrd, hgr, _⟩)
   have hr := hQ.out
   try simp only [e1] at hr
   exact hr _ W' _ (by omega) hrd hgr ⟨x, by unfold Fits; omega, rfl⟩
  case inr.inr.inr.inr.inr.inr.inr.inr.inr.inr.inl =>
   obtain ⟨x, hx, ex⟩ : ∃ x : Int, Fits x ∧ s 9 = .int .i64 x := hd 9 (by kernel_rfl)
   gi_wp2
   have hr := hQ.out
   try simp only [ex] at hr
   exact hr _ W q (by omega) hRW (grownBy_refl _ _) ⟨_, (by first | exact wrap_fits _ | exact wrap64_fits _ | exact bits_fits2 _ _ _ | (unfold Fits; omega)), rfl⟩
  case inr.inr.inr.inr.inr.inr.inr.inr.inr.inr.inr.inl =>
   gi_wp2
   exact hQ.out _ W q (by omega) hRW (grownBy_refl _ _) rfl
  case inr.inr.inr.inr.inr.inr.inr.inr.inr.inr.inr.inr.inl =>
   have e1 : s 11 = .pointer (some ⟨R, 0, none⟩) := hd 11 (by kernel_rfl)
   gi_wp2_with (refine ⟨trivial, ?_⟩; gi_at_call 42; refine (cW9.2 (pick_in W0 R len cap _ a (250) _ hb hRW (by omega))).mono ?_; rintro e W' ⟨x, rfl, hx0, hx2, hx1, hrd, hgr, _⟩)
   have hr := hQ.out
   try simp only [e1] at hr
   exact hr _ W' _ (by omega) hrd hgr ⟨x, by unfold Fits; omega, rfl⟩
  case inr.inr.inr.inr.inr.inr.inr.inr.inr.inr.inr.inr.inr.inl =>
   obtain ⟨x, hx, ex⟩ : ∃ x : Int, Fits x ∧ s 12 = .int .i64 x := hd 12 (by kernel_rfl)
   gi_wp2
   have hr := hQ.out
   try simp only [ex] at hr
   exact hr _ W q (by omega) hRW (grownBy_refl _ _) ⟨_, (by first | exact wrap_fits _ | exact wrap64_fits _ | exact bits_fits2 _ _ _ | (unfold Fits; omega)), rfl⟩
  case inr.inr.inr.inr.inr.inr.inr.inr.inr.inr.inr.inr.inr.inr.inl =>
   obtain ⟨x, hx, ex⟩ : ∃ x : Int, Fits x ∧ s 10 = .int .i64 x := hd 10 (by kernel_rfl)
   obtain ⟨y, hy, ey⟩ : ∃ x : Int, Fits x ∧ s 13 = .int .i64 x := hd 13 (by kernel_rfl)
   gi_wp2
   have hr := hQ.out
   try simp only [ex, ey] at hr
   exact hr _ W q (by omega) hRW (grownBy_refl _ _) ⟨_, (by first | exact wrap_fits _ | exact wrap64_fits _ | exact bits_fits2 _ _ _ | (unfold Fits; omega)), rfl⟩
  case inr.inr.inr.inr.inr.inr.inr.inr.inr.inr.inr.inr.inr.inr.inr.inl =>
   gi_wp2
   exact hQ.out _ W q (by omega) hRW (grownBy_refl _ _) rfl
  case inr.inr.inr.inr.inr.inr.inr.inr.inr.inr.inr.inr.inr.inr.inr.inr.inl =>
   have e1 : s 15 = .pointer (some ⟨R, 0, none⟩) := hd 15 (by kernel_rfl)
   gi_wp2_with (refine ⟨trivial, ?_⟩; gi_at_call 42; refine (cW9.2 (pick_in W0 R len cap _ a (250) _ hb hRW (by omega))).mono ?_; rintro e W' ⟨x, rfl, hx0, hx2, hx1, hrd, hgr, _⟩)
   have hr := hQ.out
   try simp only [e1] at hr
   exact hr _ W' _ (by omega) hrd hgr ⟨x, by unfold Fits; omega, rfl⟩
  case inr.inr.inr.inr.inr.inr.inr.inr.inr.inr.inr.inr.inr.inr.inr.inr.inr.inl =>
   obtain ⟨x, hx, ex⟩ : ∃ x : Int, Fits x ∧ s 14 = .int .i64 x := hd 14 (by kernel_rfl)
   obtain ⟨y, hy, ey⟩ : ∃ x : Int, Fits x ∧ s 16 = .int .i64 x := hd 16 (by kernel_rfl)
   gi_wp2
   have hr := hQ.out
   try simp only [ex, ey] at hr
   exact hr _ W q (by omega) hRW (grownBy_refl _ _) ⟨_, (by first | exact wrap_fits _ | exact wrap64_fits _ | exact bits_fits2 _ _ _ | (unfold Fits; omega)), rfl⟩
  case inr.inr.inr.inr.inr.inr.inr.inr.inr.inr.inr.inr.inr.inr.inr.inr.inr.inr.inl =>
   gi_wp2
   exact hQ.out _ W q (by omega) hRW (grownBy_refl _ _) rfl
  case inr.inr.inr.inr.inr.inr.inr.inr.inr.inr.inr.inr.inr.inr.inr.inr.inr.inr.inr.inl =>
   have e1 : s 18 = .pointer (some ⟨R, 0, none⟩) := hd 18 (by kernel_rfl)
   gi_wp2_with (refine ⟨trivial, ?_⟩; gi_at_call 42; refine (cW9.2 (pick_in W0 R len cap _ a (28) _ hb hRW (by omega))).mono ?_; rintro e W' ⟨x, rfl, hx0, hx2, hx1, hrd, hgr, _⟩)
   replace hx1 := hx1 (by omega)
   obtain ⟨y, rfl⟩ : ∃ y : Nat, x = y := ⟨x.toNat, by omega⟩
   have hr := hQ.out
   try simp only [e1] at hr
   exact hr _ W' _ (by omega) hrd hgr ⟨y, by omega, rfl⟩
  case inr.inr.inr.inr.inr.inr.inr.inr.inr.inr.inr.inr.inr.inr.inr.inr.inr.inr.inr.inr.inl =>
   obtain ⟨y, hy, ey⟩ : ∃ x : Nat, x < 28 ∧ s 19 = .int .i64 x := hd 19 (by kernel_rfl)
   have hyi : (0 : Int) ≤ (y : Int) := by omega
   gi_wp2
   have hr := hQ.out
   try simp only [ey] at hr
   exact hr _ W q (by omega) hRW (grownBy_refl _ _) ⟨_, (by first | exact wrap_fits _ | exact wrap64_fits _ | exact bits_fits2 _ _ _ | (unfold Fits; omega)), rfl⟩
  case inr.inr.inr.inr.inr.inr.inr.inr.inr.inr.inr.inr.inr.inr.inr.inr.inr.inr.inr.inr.inr.inl =>
   gi_wp2
   exact hQ.out _ W q (by omega) hRW (grownBy_refl _ _) rfl
  case inr.inr.inr.inr.inr.inr.inr.inr.inr.inr.inr.inr.inr.inr.inr.inr.inr.inr.inr.inr.inr.inr.inl =>
   have e1 : s 21 = .pointer (some ⟨R, 0, none⟩) := hd 21 (by kernel_rfl)
   gi_wp2_with (refine ⟨trivial, ?_⟩; gi_at_call 42; refine (cW9.2 (pick_in W0 R len cap _ a (2) _ hb hRW (by omega))).mono ?_; rintro e W' ⟨x, rfl, hx0, hx2, hx1, hrd, hgr, _⟩)
   have hr := hQ.out
   try simp only [e1] at hr
   exact hr _ W' _ (by omega) hrd hgr ⟨x, by unfold Fits; omega, rfl⟩
  case inr.inr.inr.inr.inr.inr.inr.inr.inr.inr.inr.inr.inr.inr.inr.inr.inr.inr.inr.inr.inr.inr.inr.inl =>
   obtain ⟨x, hx, ex⟩ : ∃ x : Int, Fits x ∧ s 20 = .int .i64 x := hd 20 (by kernel_rfl)
   obtain ⟨y, hy, ey⟩ : ∃ x : Int, Fits x ∧ s 22 = .int .i64 x := hd 22 (by kernel_rfl)
   gi_wp2
   have hr := hQ.out
   try simp only [ex, ey] at hr
   exact hr _ W q (by omega) hRW (grownBy_refl _ _) ⟨_, (by first | exact wrap_fits _ | exact wrap64_fits _ | exact bits_fits2 _ _ _ | (unfold Fits; omega)), rfl⟩
  case inr.inr.inr.inr.inr.inr.inr.inr.inr.inr.inr.inr.inr.inr.inr.inr.inr.inr.inr.inr.inr.inr.inr.inr.inl =>
   obtain ⟨x0, hx0, ex0⟩ : ∃ x : Int, Fits x ∧ s 1 = .int .i64 x := hd 1 (by kernel_rfl)
   obtain ⟨x1, hx1, ex1⟩ : ∃ x : Int, Fits x ∧ s 7 = .int .i64 x := hd 7 (by kernel_rfl)
   obtain ⟨x2, hx2, ex2⟩ : ∃ x : Int, Fits x ∧ s 17 = .int .i64 x := hd 17 (by kernel_rfl)
   obtain ⟨x3, hx3, ex3⟩ : ∃ x : Int, Fits x ∧ s 23 = .int .i64 x := hd 23 (by kernel_rfl)
   have hne := hRW.ne
   gi_wp2
   have hr := hQ.out
   try simp only [ex0, ex1, ex2, ex3] at hr
   exact hr _ _ q (by omega) (hRW.alloc _) (World.grownBy_alloc _ _ _) ⟨W.heap.size, rfl, fun e => by rw [hne] at e; exact e, by simp, fun i hi => ⟨_, sel4_fits hx0 hx1 hx2 hx3, sel4_cell hi W x0 x1 x2 x3⟩⟩
  case inr.inr.inr.inr.inr.inr.inr.inr.inr.inr.inr.inr.inr.inr.inr.inr.inr.inr.inr.inr.inr.inr.inr.inr.inr.inl =>
   gi_wp2
   exact hQ.out _ W q (by omega) hRW (grownBy_refl _ _) rfl
  case inr.inr.inr.inr.inr.inr.inr.inr.inr.inr.inr.inr.inr.inr.inr.inr.inr.inr.inr.inr.inr.inr.inr.inr.inr.inr.inl =>
   have e1 : s 25 = .pointer (some ⟨R, 0, none⟩) := hd 25 (by kernel_rfl)
   gi_wp2_with (refine ⟨trivial, ?_⟩; gi_at_call 42; refine (cW9.2 (pick_in W0 R len cap _ a (4) _ hb hRW (by omega))).mono ?_; rintro e W' ⟨x, rfl, hx0, hx2, hx1, hrd, hgr, _⟩)
   replace hx1 := hx1 (by omega)
   obtain ⟨y, rfl⟩ : ∃ y : Nat, x = y := ⟨x.toNat, by omega⟩
   have hr := hQ.out
   try simp only [e1] at hr
   exact hr _ W' _ (by omega) hrd hgr ⟨y, by omega, rfl⟩
  case inr.inr.inr.inr.inr.inr.inr.inr.inr.inr.inr.inr.inr.inr.inr.inr.inr.inr.inr.inr.inr.inr.inr.inr.inr.inr.inr.inl =>
   obtain ⟨g, e1, g1, g2, g3⟩ : ∃ g, s 24 = .slice (some ⟨g, 0, none⟩) 4 4 ∧ g ≠ R ∧ g < W.heap.size ∧ ∀ i, i < 4 → ∃ x : Int, Fits x ∧ W.cell? ⟨g, i, none⟩ = some (.int .i64 x) := hd 24 (by kernel_rfl)
   obtain ⟨y, hy, e2⟩ : ∃ x : Nat, x < 4 ∧ s 26 = .int .i64 x := hd 26 (by kernel_rfl)
   have hg := g3 y (by omega)
   clear g3
   have hyi : (y : Int) < 4 := by omega
   gi_wp2
   have hr := hQ.out
   try simp only [e1, e2] at hr
   exact hr _ W q (by omega) hRW (grownBy_refl _ _) ⟨g, y, rfl, g1, g2, hg⟩
  case inr.inr.inr.inr.inr.inr.inr.inr.inr.inr.inr.inr.inr.inr.inr.inr.inr.inr.inr.inr.inr.inr.inr.inr.inr.inr.inr.inr.inl =>
   obtain ⟨g, y, e1, _, _, x, hx, hc⟩ : ∃ g i, s 27 = .pointer (some ⟨g, i, none⟩) ∧ g ≠ R ∧ g < W.heap.size ∧ ∃ x : Int, Fits x ∧ W.cell? ⟨g, i, none⟩ = some (.int .i64 x) := hd 27 (by kernel_rfl)
   gi_wp2
   have hr := hQ.out
   try simp only [e1] at hr
   exact hr _ W q (by omega) hRW (grownBy_refl _ _) ⟨x, hx, rfl⟩
  case inr.inr.inr.inr.inr.inr.inr.inr.inr.inr.inr.inr.inr.inr.inr.inr.inr.inr.inr.inr.inr.inr.inr.inr.inr.inr.inr.inr.inr =>
   obtain ⟨x, hx, ex⟩ : ∃ x : Int, Fits x ∧ s 28 = .int .i64 x := hd 28 (by kernel_rfl)
   gi_wp2
   have hr := hQ.out
   try simp only [ex] at hr
   exact hr _ W q (by omega) hRW (grownBy_refl _ _) ⟨_, hx, rfl⟩
 case fin =>
  rintro s W q hq hRW hgW hall
  obtain ⟨x, hx, ex⟩ : ∃ x : Int, Fits x ∧ s 29 = .int .i64 x := hall 29 (by decide)
  have hq' : q ≤ p + 30 := by have := hq; exact this
  clear hq
  rw [ex]
  go_wp2_with (go_at_call 42; (with_reducible refine (pick_in W0 R len cap _ a _ _ hb (by assumption) (by omega)).mono ?_); rintro e w' ⟨x2, rfl, hx0, _, hx1, hrd, hgr, hon⟩; clear hx0 hx1 hon; replace hgW := hgW.trans hgr; clear hgr)
  all_goals
   go_ret
   refine ⟨⟨_, by first | exact wrap_fits _ | exact wrap64_fits _, rfl⟩, _, ?_, by assumption, hgW⟩
   omega
end
section
open Go Go.RowKit
attribute [local go_sem] Oper.semAt_some
inductive LK where
 | ptr
 | num (n : Nat)
 | fit
 | nat
 | sl (n : Nat)
 | ad
 | tx (m : Nat)
 | any
def LK.ok (R : Nat) (V : World) (v : Value) : LK → Prop
 | .ptr => v = .pointer (some ⟨R, 0, none⟩)
 | .num n => ∃ x : Nat, x < n ∧ v = .int .i64 x
 | .fit => ∃ x : Int, Fits x ∧ v = .int .i64 x
 | .nat => ∃ x : Nat, x ≤ 9223372036854775807 ∧ v = .int .i64 x
 | .sl n => ∃ g, v = .slice (some ⟨g, 0, none⟩) n n ∧ g ≠ R ∧ g < V.heap.size ∧ ∀ j, j < n → ∃ z, TxtLe 8 z ∧ V.cell? ⟨g, j, none⟩ = some z
 | .ad => ∃ g j, v = .pointer (some ⟨g, j, none⟩) ∧ g ≠ R ∧ g < V.heap.size ∧ ∃ z, TxtLe 8 z ∧ V.cell? ⟨g, j, none⟩ = some z
 | .tx m => TxtLe m v
 | .any => True
theorem LK.kept {R : Nat} {V V' : World} {v : Value} {k : LK} (h : k.ok R V v) (hg : V.grownBy V' (some R)) : k.ok R V' v := by
 cases k with
 | ptr => exact h
 | num n => exact h
 | fit => exact h
 | nat => exact h
 | sl n =>
   obtain ⟨g, h1, h2, h3, h4⟩ := h
   exact ⟨g, h1, h2, lL9 h3 hg.size, fun j hj => by obtain ⟨z, z1, z2⟩ := h4 j hj; exact ⟨z, z1, (grown_cell12 hg h3 h2 j).trans z2⟩⟩
 | ad =>
   obtain ⟨g, j, h1, h2, h3, z, h4, h6⟩ := h
   exact ⟨g, j, h1, h2, lL9 h3 hg.size, z, h4, (grown_cell12 hg h3 h2 j).trans h6⟩
 | tx m => exact h
 | any => trivial
theorem grown_any {V V' : World} (h : V.grownBy V' none) (R : Nat) : V.grownBy V' (some R) := ⟨h.os, h.tape, h.output, h.size, fun k hk _ => h.block k hk (by simp)⟩
theorem txt_num (n : Nat) : TxtLe 22 (.string (str (decF 20 n))) := ⟨_, rfl, fun x hx => by have := dec_byte 20 n x hx; omega, by have := decF_len 20 n; omega⟩
theorem txt_one : TxtLe 1 (.string ⟨#[32]⟩) := ⟨[32], by kernel_rfl, by decide, by decide⟩
theorem num_in (n : Nat) (h : n ≤ 9223372036854775807) (w : World) : Calls Tryz.prog 67 #[.int .i64 n] w fun e w' => ∃ S, e = .returned (.string S) ∧ TxtLe 22 (.string S) ∧ Below w.heap.size w w' :=
 (specNumF 20 n (Nat.lt_of_le_of_lt h (by decide)) h (by omega) w).mono fun _ _ ⟨h1, h2⟩ => ⟨_, h1, txt_num n, h2⟩
theorem texts_cells (V : World) (L : List ByteArray) (h : ∀ S ∈ L, TxtLe 8 (.string S)) : ∀ j, j < L.length → ∃ z, TxtLe 8 z ∧ (V.alloc (.cells ((L.map Value.string).toArray) 9)).cell? ⟨V.heap.size, j, none⟩ = some z := fun j hj => by
 have hb := aN9 V (.cells ((L.map Value.string).toArray) 9)
 refine ⟨.string (L[j]), h _ (List.getElem_mem hj), ?_⟩
 unfold World.cell?
 rw [hb]
 simp [hj]
theorem txt_le {m n : Nat} {v : Value} (h : TxtLe m v) (hl : m ≤ n) : TxtLe n v := by
 obtain ⟨l, h1, h2, h3⟩ := h
 exact ⟨l, h1, h2, by omega⟩
set_option maxRecDepth 100000 in
set_option maxHeartbeats 8000000 in
theorem l20Line_in (W0 : World) (R len cap p : Nat) (a : Option Addr) (w : World) (hb : Bytes W0 a len) (h : Rd W0 R a len cap w p) (hp : p ≤ 700000) (rv : Option Addr) (rn rc : Nat) (hrn : rn ≤ 13) :
 Calls Tryz.prog 64 #[.pointer (some ⟨R, 0, none⟩), .slice rv rn rc] w fun e w' => (∃ v, e = .returned v ∧ TxtLe 80 v) ∧ ∃ p', p' ≤ p + 900 ∧ Rd W0 R a len cap w' p' ∧ w.grownBy w' (some R) := by
 have hRw := h.lt
 have hW0R := h.2.1
 refine (cW9 (n := 9)).1 ?_
 refine callsIn_of_wp Tryz.func64 rfl trivial ?_ rfl
 simp only [Tryz.ntmps64, List.size_toArray, List.length_cons, List.length_nil, Nat.reduceAdd, Nat.reduceSub, Array.replicate_succ, Array.replicate_zero, List.push_toArray, List.append_toArray, List.nil_append, List.cons_append]
 gi_wp2_with fail
 refine ⟨trivial, ?_⟩
 gi_at_call 42
 refine (cW9.2 (pick_in W0 R len cap p a _ w hb h (by omega))).mono ?_
 rintro e w1 ⟨x, rfl, hx0, _, hx1, hR1, hg1, _⟩
 have hx2 := hx1 (by omega)
 clear hx1 h
 rcases (show x = 0 ∨ x = 1 ∨ x = 2 ∨ x = 3 ∨ x = 4 ∨ 5 ≤ x by omega) with rfl | rfl | rfl | rfl | rfl | hk
 · clear hx0 hx2
   have hcs := fun j (hj : j < 5) => (by
    have h := aN9 w1 (.cells #[.string ⟨#[114, 111, 119]⟩, .string ⟨#[111, 110, 101, 115]⟩, .string ⟨#[108, 97, 115, 116]⟩, .string ⟨#[101, 110, 100]⟩, .string ⟨#[98, 97, 108, 97, 110, 99, 101, 100]⟩] 9)
    rcases (show j = 0 ∨ j = 1 ∨ j = 2 ∨ j = 3 ∨ j = 4 by omega) with rfl | rfl | rfl | rfl | rfl
    · exact ⟨_, ⟨[114, 111, 119], by kernel_rfl, by decide, by decide⟩, by unfold World.cell?; rw [h]; rfl⟩
    · exact ⟨_, ⟨[111, 110, 101, 115], by kernel_rfl, by decide, by decide⟩, by unfold World.cell?; rw [h]; rfl⟩
    · exact ⟨_, ⟨[108, 97, 115, 116], by kernel_rfl, by decide, by decide⟩, by unfold World.cell?; rw [h]; rfl⟩
    · exact ⟨_, ⟨[101, 110, 100], by kernel_rfl, by decide, by decide⟩, by unfold World.cell?; rw [h]; rfl⟩
    · exact ⟨_, ⟨[98, 97, 108, 97, 110, 99, 101, 100], by kernel_rfl, by decide, by decide⟩, by unfold World.cell?; rw [h]; rfl⟩
    : ∃ z, TxtLe 80 z ∧ (w1.alloc (.cells #[.string ⟨#[114, 111, 119]⟩, .string ⟨#[111, 110, 101, 115]⟩, .string ⟨#[108, 97, 115, 116]⟩, .string ⟨#[101, 110, 100]⟩, .string ⟨#[98, 97, 108, 97, 110, 99, 101, 100]⟩] 9)).cell? ⟨w1.heap.size, j, none⟩ = some z)
   have hRa := hR1.alloc (.cells #[.string ⟨#[114, 111, 119]⟩, .string ⟨#[111, 110, 101, 115]⟩, .string ⟨#[108, 97, 115, 116]⟩, .string ⟨#[101, 110, 100]⟩, .string ⟨#[98, 97, 108, 97, 110, 99, 101, 100]⟩] 9)
   have hga : w1.grownBy (w1.alloc (.cells #[.string ⟨#[114, 111, 119]⟩, .string ⟨#[111, 110, 101, 115]⟩, .string ⟨#[108, 97, 115, 116]⟩, .string ⟨#[101, 110, 100]⟩, .string ⟨#[98, 97, 108, 97, 110, 99, 101, 100]⟩] 9)) (some R) := World.grownBy_alloc _ _ _
   have zR := hR1.lt
   have zA := World.size_alloc w1 (.cells #[.string ⟨#[114, 111, 119]⟩, .string ⟨#[111, 110, 101, 115]⟩, .string ⟨#[108, 97, 115, 116]⟩, .string ⟨#[101, 110, 100]⟩, .string ⟨#[98, 97, 108, 97, 110, 99, 101, 100]⟩] 9)
   obtain ⟨g, hgE⟩ : ∃ g, w1.heap.size = g := ⟨_, rfl⟩
   rw [hgE] at hcs zR zA
   obtain ⟨wa, hwa⟩ : ∃ wa, w1.alloc (.cells #[.string ⟨#[114, 111, 119]⟩, .string ⟨#[111, 110, 101, 115]⟩, .string ⟨#[108, 97, 115, 116]⟩, .string ⟨#[101, 110, 100]⟩, .string ⟨#[98, 97, 108, 97, 110, 99, 101, 100]⟩] 9) = wa := ⟨_, rfl⟩
   rw [hwa] at hcs hRa hga zA
   have hga1 : g < wa.heap.size := by omega
   clear zA
   gi_wp2_with fail
   refine ⟨trivial, ?_⟩
   gi_at_call 42
   refine (cW9.2 (pick_in W0 R len cap (p + 1) a _ wa hb hRa (by omega))).mono ?_
   rintro e w2 ⟨x, rfl, hx0, _, hx1, hR2, hg2, _⟩
   have hx2 := hx1 (by omega)
   obtain ⟨y, rfl⟩ : ∃ y : Nat, x = y := ⟨x.toNat, by omega⟩
   have hyi : (y : Int) < 5 := by omega
   obtain ⟨z, hz, hc⟩ := hcs y (by omega)
   have hc2 := (grown_cell12 hg2 hga1 (by omega) y).trans hc
   obtain ⟨zl, rfl, _⟩ := id hz
   have hgf := (hg1.trans hga).trans hg2
   clear hcs hc hwa hx1
   gi_wp2
   go_ret
   exact ⟨⟨_, rfl, hz⟩, p + 1 + 1, by omega, hR2, hgf⟩
 · clear hx0 hx2
   have hcs := fun j (hj : j < 5) => (by
    have h := aN9 w1 (.cells #[.string ⟨#[114, 111, 119]⟩, .string ⟨#[111, 110, 101, 115]⟩, .string ⟨#[108, 97, 115, 116]⟩, .string ⟨#[101, 110, 100]⟩, .string ⟨#[98, 97, 108, 97, 110, 99, 101, 100]⟩] 9)
    rcases (show j = 0 ∨ j = 1 ∨ j = 2 ∨ j = 3 ∨ j = 4 by omega) with rfl | rfl | rfl | rfl | rfl
    · exact ⟨_, ⟨[114, 111, 119], by kernel_rfl, by decide, by decide⟩, by unfold World.cell?; rw [h]; rfl⟩
    · exact ⟨_, ⟨[111, 110, 101, 115], by kernel_rfl, by decide, by decide⟩, by unfold World.cell?; rw [h]; rfl⟩
    · exact ⟨_, ⟨[108, 97, 115, 116], by kernel_rfl, by decide, by decide⟩, by unfold World.cell?; rw [h]; rfl⟩
    · exact ⟨_, ⟨[101, 110, 100], by kernel_rfl, by decide, by decide⟩, by unfold World.cell?; rw [h]; rfl⟩
    · exact ⟨_, ⟨[98, 97, 108, 97, 110, 99, 101, 100], by kernel_rfl, by decide, by decide⟩, by unfold World.cell?; rw [h]; rfl⟩
    : ∃ z, TxtLe 80 z ∧ (w1.alloc (.cells #[.string ⟨#[114, 111, 119]⟩, .string ⟨#[111, 110, 101, 115]⟩, .string ⟨#[108, 97, 115, 116]⟩, .string ⟨#[101, 110, 100]⟩, .string ⟨#[98, 97, 108, 97, 110, 99, 101, 100]⟩] 9)).cell? ⟨w1.heap.size, j, none⟩ = some z)
   have hRa := hR1.alloc (.cells #[.string ⟨#[114, 111, 119]⟩, .string ⟨#[111, 110, 101, 115]⟩, .string ⟨#[108, 97, 115, 116]⟩, .string ⟨#[101, 110, 100]⟩, .string ⟨#[98, 97, 108, 97, 110, 99, 101, 100]⟩] 9)
   have hga : w1.grownBy (w1.alloc (.cells #[.string ⟨#[114, 111, 119]⟩, .string ⟨#[111, 110, 101, 115]⟩, .string ⟨#[108, 97, 115, 116]⟩, .string ⟨#[101, 110, 100]⟩, .string ⟨#[98, 97, 108, 97, 110, 99, 101, 100]⟩] 9)) (some R) := World.grownBy_alloc _ _ _
   have zR := hR1.lt
   have zA := World.size_alloc w1 (.cells #[.string ⟨#[114, 111, 119]⟩, .string ⟨#[111, 110, 101, 115]⟩, .string ⟨#[108, 97, 115, 116]⟩, .string ⟨#[101, 110, 100]⟩, .string ⟨#[98, 97, 108, 97, 110, 99, 101, 100]⟩] 9)
   obtain ⟨g, hgE⟩ : ∃ g, w1.heap.size = g := ⟨_, rfl⟩
   rw [hgE] at hcs zR zA
   obtain ⟨wa, hwa⟩ : ∃ wa, w1.alloc (.cells #[.string ⟨#[114, 111, 119]⟩, .string ⟨#[111, 110, 101, 115]⟩, .string ⟨#[108, 97, 115, 116]⟩, .string ⟨#[101, 110, 100]⟩, .string ⟨#[98, 97, 108, 97, 110, 99, 101, 100]⟩] 9) = wa := ⟨_, rfl⟩
   rw [hwa] at hcs hRa hga zA
   have hga1 : g < wa.heap.size := by omega
   clear zA
   gi_wp2_with fail
   refine ⟨trivial, ?_⟩
   gi_at_call 42
   refine (cW9.2 (pick_in W0 R len cap (p + 1) a _ wa hb hRa (by omega))).mono ?_
   rintro e w2 ⟨x, rfl, hx0, _, hx1, hR2, hg2, _⟩
   have hx2 := hx1 (by omega)
   obtain ⟨y, rfl⟩ : ∃ y : Nat, x = y := ⟨x.toNat, by omega⟩
   have hyi : (y : Int) < 5 := by omega
   obtain ⟨z, hz, hc⟩ := hcs y (by omega)
   have hc2 := (grown_cell12 hg2 hga1 (by omega) y).trans hc
   obtain ⟨zl, rfl, _⟩ := id hz
   have hgf := (hg1.trans hga).trans hg2
   clear hcs hc hwa hx1
   gi_wp2
   go_ret
   exact ⟨⟨_, rfl, hz⟩, p + 1 + 1, by omega, hR2, hgf⟩
 · clear hx0 hx2
   have hcs := fun j (hj : j < 13) => (by
    have h := aN9 w1 (.cells #[.string ⟨#[]⟩, .string ⟨#[102, 108, 105, 112]⟩, .string ⟨#[102, 108, 105, 112, 32, 120]⟩, .string ⟨#[112, 117, 116, 32, 50]⟩, .string ⟨#[99, 101, 108, 108, 32, 52]⟩, .string ⟨#[99, 101, 108, 108, 32, 52, 32, 120]⟩, .string ⟨#[108, 101, 102, 116, 32, 52, 32, 50]⟩, .string ⟨#[119, 97, 121, 115, 32, 51, 49]⟩, .string ⟨#[115, 104, 97, 114, 101, 100, 32, 49]⟩, .string ⟨#[107, 101, 112, 116, 32, 53, 32, 52]⟩, .string ⟨#[32, 114, 111, 119]⟩, .string ⟨#[117, 110, 100, 101, 114, 32, 48]⟩, .string ⟨#[99, 101, 108, 108, 32, 48, 52, 32, 50]⟩] 9)
    rcases (show j = 0 ∨ j = 1 ∨ j = 2 ∨ j = 3 ∨ j = 4 ∨ j = 5 ∨ j = 6 ∨ j = 7 ∨ j = 8 ∨ j = 9 ∨ j = 10 ∨ j = 11 ∨ j = 12 by omega) with rfl | rfl | rfl | rfl | rfl | rfl | rfl | rfl | rfl | rfl | rfl | rfl | rfl
    · exact ⟨_, ⟨[], by kernel_rfl, by decide, by decide⟩, by unfold World.cell?; rw [h]; rfl⟩
    · exact ⟨_, ⟨[102, 108, 105, 112], by kernel_rfl, by decide, by decide⟩, by unfold World.cell?; rw [h]; rfl⟩
    · exact ⟨_, ⟨[102, 108, 105, 112, 32, 120], by kernel_rfl, by decide, by decide⟩, by unfold World.cell?; rw [h]; rfl⟩
    · exact ⟨_, ⟨[112, 117, 116, 32, 50], by kernel_rfl, by decide, by decide⟩, by unfold World.cell?; rw [h]; rfl⟩
    · exact ⟨_, ⟨[99, 101, 108, 108, 32, 52], by kernel_rfl, by decide, by decide⟩, by unfold World.cell?; rw [h]; rfl⟩
    · exact ⟨_, ⟨[99, 101, 108, 108, 32, 52, 32, 120], by kernel_rfl, by decide, by decide⟩, by unfold World.cell?; rw [h]; rfl⟩
    · exact ⟨_, ⟨[108, 101, 102, 116, 32, 52, 32, 50], by kernel_rfl, by decide, by decide⟩, by unfold World.cell?; rw [h]; rfl⟩
    · exact ⟨_, ⟨[119, 97, 121, 115, 32, 51, 49], by kernel_rfl, by decide, by decide⟩, by unfold World.cell?; rw [h]; rfl⟩
    · exact ⟨_, ⟨[115, 104, 97, 114, 101, 100, 32, 49], by kernel_rfl, by decide, by decide⟩, by unfold World.cell?; rw [h]; rfl⟩
    · exact ⟨_, ⟨[107, 101, 112, 116, 32, 53, 32, 52], by kernel_rfl, by decide, by decide⟩, by unfold World.cell?; rw [h]; rfl⟩
    · exact ⟨_, ⟨[32, 114, 111, 119], by kernel_rfl, by decide, by decide⟩, by unfold World.cell?; rw [h]; rfl⟩
    · exact ⟨_, ⟨[117, 110, 100, 101, 114, 32, 48], by kernel_rfl, by decide, by decide⟩, by unfold World.cell?; rw [h]; rfl⟩
    · exact ⟨_, ⟨[99, 101, 108, 108, 32, 48, 52, 32, 50], by kernel_rfl, by decide, by decide⟩, by unfold World.cell?; rw [h]; rfl⟩
    : ∃ z, TxtLe 80 z ∧ (w1.alloc (.cells #[.string ⟨#[]⟩, .string ⟨#[102, 108, 105, 112]⟩, .string ⟨#[102, 108, 105, 112, 32, 120]⟩, .string ⟨#[112, 117, 116, 32, 50]⟩, .string ⟨#[99, 101, 108, 108, 32, 52]⟩, .string ⟨#[99, 101, 108, 108, 32, 52, 32, 120]⟩, .string ⟨#[108, 101, 102, 116, 32, 52, 32, 50]⟩, .string ⟨#[119, 97, 121, 115, 32, 51, 49]⟩, .string ⟨#[115, 104, 97, 114, 101, 100, 32, 49]⟩, .string ⟨#[107, 101, 112, 116, 32, 53, 32, 52]⟩, .string ⟨#[32, 114, 111, 119]⟩, .string ⟨#[117, 110, 100, 101, 114, 32, 48]⟩, .string ⟨#[99, 101, 108, 108, 32, 48, 52, 32, 50]⟩] 9)).cell? ⟨w1.heap.size, j, none⟩ = some z)
   have hRa := hR1.alloc (.cells #[.string ⟨#[]⟩, .string ⟨#[102, 108, 105, 112]⟩, .string ⟨#[102, 108, 105, 112, 32, 120]⟩, .string ⟨#[112, 117, 116, 32, 50]⟩, .string ⟨#[99, 101, 108, 108, 32, 52]⟩, .string ⟨#[99, 101, 108, 108, 32, 52, 32, 120]⟩, .string ⟨#[108, 101, 102, 116, 32, 52, 32, 50]⟩, .string ⟨#[119, 97, 121, 115, 32, 51, 49]⟩, .string ⟨#[115, 104, 97, 114, 101, 100, 32, 49]⟩, .string ⟨#[107, 101, 112, 116, 32, 53, 32, 52]⟩, .string ⟨#[32, 114, 111, 119]⟩, .string ⟨#[117, 110, 100, 101, 114, 32, 48]⟩, .string ⟨#[99, 101, 108, 108, 32, 48, 52, 32, 50]⟩] 9)
   have hga : w1.grownBy (w1.alloc (.cells #[.string ⟨#[]⟩, .string ⟨#[102, 108, 105, 112]⟩, .string ⟨#[102, 108, 105, 112, 32, 120]⟩, .string ⟨#[112, 117, 116, 32, 50]⟩, .string ⟨#[99, 101, 108, 108, 32, 52]⟩, .string ⟨#[99, 101, 108, 108, 32, 52, 32, 120]⟩, .string ⟨#[108, 101, 102, 116, 32, 52, 32, 50]⟩, .string ⟨#[119, 97, 121, 115, 32, 51, 49]⟩, .string ⟨#[115, 104, 97, 114, 101, 100, 32, 49]⟩, .string ⟨#[107, 101, 112, 116, 32, 53, 32, 52]⟩, .string ⟨#[32, 114, 111, 119]⟩, .string ⟨#[117, 110, 100, 101, 114, 32, 48]⟩, .string ⟨#[99, 101, 108, 108, 32, 48, 52, 32, 50]⟩] 9)) (some R) := World.grownBy_alloc _ _ _
   have zR := hR1.lt
   have zA := World.size_alloc w1 (.cells #[.string ⟨#[]⟩, .string ⟨#[102, 108, 105, 112]⟩, .string ⟨#[102, 108, 105, 112, 32, 120]⟩, .string ⟨#[112, 117, 116, 32, 50]⟩, .string ⟨#[99, 101, 108, 108, 32, 52]⟩, .string ⟨#[99, 101, 108, 108, 32, 52, 32, 120]⟩, .string ⟨#[108, 101, 102, 116, 32, 52, 32, 50]⟩, .string ⟨#[119, 97, 121, 115, 32, 51, 49]⟩, .string ⟨#[115, 104, 97, 114, 101, 100, 32, 49]⟩, .string ⟨#[107, 101, 112, 116, 32, 53, 32, 52]⟩, .string ⟨#[32, 114, 111, 119]⟩, .string ⟨#[117, 110, 100, 101, 114, 32, 48]⟩, .string ⟨#[99, 101, 108, 108, 32, 48, 52, 32, 50]⟩] 9)
   obtain ⟨g, hgE⟩ : ∃ g, w1.heap.size = g := ⟨_, rfl⟩
   rw [hgE] at hcs zR zA
   obtain ⟨wa, hwa⟩ : ∃ wa, w1.alloc (.cells #[.string ⟨#[]⟩, .string ⟨#[102, 108, 105, 112]⟩, .string ⟨#[102, 108, 105, 112, 32, 120]⟩, .string ⟨#[112, 117, 116, 32, 50]⟩, .string ⟨#[99, 101, 108, 108, 32, 52]⟩, .string ⟨#[99, 101, 108, 108, 32, 52, 32, 120]⟩, .string ⟨#[108, 101, 102, 116, 32, 52, 32, 50]⟩, .string ⟨#[119, 97, 121, 115, 32, 51, 49]⟩, .string ⟨#[115, 104, 97, 114, 101, 100, 32, 49]⟩, .string ⟨#[107, 101, 112, 116, 32, 53, 32, 52]⟩, .string ⟨#[32, 114, 111, 119]⟩, .string ⟨#[117, 110, 100, 101, 114, 32, 48]⟩, .string ⟨#[99, 101, 108, 108, 32, 48, 52, 32, 50]⟩] 9) = wa := ⟨_, rfl⟩
   rw [hwa] at hcs hRa hga zA
   have hga1 : g < wa.heap.size := by omega
   clear zA
   gi_wp2_with fail
   refine ⟨trivial, ?_⟩
   gi_at_call 42
   refine (cW9.2 (pick_in W0 R len cap (p + 1) a _ wa hb hRa (by omega))).mono ?_
   rintro e w2 ⟨x, rfl, hx0, _, hx1, hR2, hg2, _⟩
   have hx2 := hx1 (by omega)
   obtain ⟨y, rfl⟩ : ∃ y : Nat, x = y := ⟨x.toNat, by omega⟩
   have hyi : (y : Int) < 13 := by omega
   obtain ⟨z, hz, hc⟩ := hcs y (by omega)
   have hc2 := (grown_cell12 hg2 hga1 (by omega) y).trans hc
   obtain ⟨zl, rfl, _⟩ := id hz
   have hgf := (hg1.trans hga).trans hg2
   clear hcs hc hwa hx1
   gi_wp2
   go_ret
   exact ⟨⟨_, rfl, hz⟩, p + 1 + 1, by omega, hR2, hgf⟩
 · clear hx0 hx2
   gi_wp2
   refine wpIn_region_rd W0 R len cap (p + 1) a 40 20 [(some 24, 0), (some 25, 1), (some 26, 2), (some 27, 3), (some 28, 4), (some 29, 5), (some 30, 6), (some 31, 7), (some 32, 8), (some 33, 9), (some 34, 10), (some 35, 11), (some 36, 12), (some 37, 13), (some 38, 14), (some 39, 15), (some 40, 16), (some 41, 17), (some 42, 18), (some 43, 19)] (by omega) (by kernel_rfl) (by kernel_rfl) (by kernel_rfl) (by decide) (by decide) (by rfl) (by decide) hR1
    (fun i v V => (([.sl 3, .ptr, .num 3, .ad, .tx 8, .ptr, .num 62, .tx 22, .tx 30, .tx 31, .ptr, .num 30, .tx 22, .tx 53, .sl 2, .ptr, .num 2, .ad, .tx 8, .tx 61] : List LK).getD i .any).ok R V v)
    (fun i v V V' h hg => @LK.kept R V V' v _ h hg)
    ?step ?tail
   case step =>
    rintro i oo s V q hi ho hqb hRV hgV hd Q' hQ
    rcases (show i = 0 ∨ i = 1 ∨ i = 2 ∨ i = 3 ∨ i = 4 ∨ i = 5 ∨ i = 6 ∨ i = 7 ∨ i = 8 ∨ i = 9 ∨ i = 10 ∨ i = 11 ∨ i = 12 ∨ i = 13 ∨ i = 14 ∨ i = 15 ∨ i = 16 ∨ i = 17 ∨ i = 18 ∨ i = 19 by omega) with rfl | rfl | rfl | rfl | rfl | rfl | rfl | rfl | rfl | rfl | rfl | rfl | rfl | rfl | rfl | rfl | rfl | rfl | rfl | rfl
    all_goals
     simp at ho
     subst ho
     simp only [putsOf, Act.put, List.setIfInBounds_toArray, List.set_cons_succ, List.set_cons_zero] at hQ ⊢
     have hQ' := hide hQ
     clear hQ
    · clear hd
      have zV := hRV.lt
      have hcs := texts_cells V [⟨#[99, 101, 108, 108, 32]⟩, ⟨#[107, 101, 112, 116, 32]⟩, ⟨#[99, 97, 114, 114, 105, 101, 115, 32]⟩] (by intro S hS; simp at hS; rcases hS with rfl | rfl | rfl; exact ⟨[99, 101, 108, 108, 32], by kernel_rfl, by decide, by decide⟩; exact ⟨[107, 101, 112, 116, 32], by kernel_rfl, by decide, by decide⟩; exact ⟨[99, 97, 114, 114, 105, 101, 115, 32], by kernel_rfl, by decide, by decide⟩)
      have hsz := World.size_alloc V (.cells #[.string ⟨#[99, 101, 108, 108, 32]⟩, .string ⟨#[107, 101, 112, 116, 32]⟩, .string ⟨#[99, 97, 114, 114, 105, 101, 115, 32]⟩] 9)
      gi_wp2
      have hr := hQ'.out
      exact hr _ _ q (by omega) (hRV.alloc _) (World.grownBy_alloc _ _ _) ⟨V.heap.size, rfl, by omega, by rw [World.size_alloc]; omega, fun j hj => by simpa using hcs j hj⟩
    · clear hd
      gi_wp2
      have hr := hQ'.out
      exact hr _ _ q (by omega) hRV (grownBy_refl _ _) rfl
    · have e1 : LK.ok R V (s 1) .ptr := hd 1 (by kernel_rfl)
      replace e1 : s 1 = .pointer (some ⟨R, 0, none⟩) := e1
      clear hd
      gi_wp2_with (refine ⟨trivial, ?_⟩; gi_at_call 42; go_loud (refine (cW9.2 (pick_in W0 R len cap q a _ V hb hRV (by omega))).mono ?_; rintro e V9 ⟨x, rfl, hx0, _, hx1, hR9, hg9, _⟩))
      have hx := hx1 (by omega)
      obtain ⟨y, rfl⟩ : ∃ y : Nat, x = y := ⟨x.toNat, by omega⟩
      have hr := hQ'.out
      simp only [e1] at hr ⊢
      exact hr _ _ (q + 1) (by omega) hR9 hg9 ⟨y, by omega, rfl⟩
    · obtain ⟨g, e1, h2, h3, h4⟩ : LK.ok R V (s 0) (.sl 3) := hd 0 (by kernel_rfl)
      obtain ⟨y, hy, e2⟩ : LK.ok R V (s 2) (.num 3) := hd 2 (by kernel_rfl)
      clear hd
      have hyi : (y : Int) < 3 := by omega
      obtain ⟨z, hz, hc⟩ := h4 y hy
      clear h4
      gi_wp2
      have hr := hQ'.out
      simp only [e1, e2] at hr ⊢
      exact hr _ _ q (by omega) hRV (grownBy_refl _ _) ⟨g, _, rfl, h2, h3, z, hz, by simpa using hc⟩
    · obtain ⟨g, j, e1, h2, h3, z, h4, h6⟩ : LK.ok R V (s 3) .ad := hd 3 (by kernel_rfl)
      clear hd
      obtain ⟨lz, rfl, _⟩ := id h4
      gi_wp2
      have hr := hQ'.out
      simp only [e1] at hr ⊢
      exact hr _ _ q (by omega) hRV (grownBy_refl _ _) h4
    · clear hd
      gi_wp2
      have hr := hQ'.out
      exact hr _ _ q (by omega) hRV (grownBy_refl _ _) rfl
    · have e1 : LK.ok R V (s 5) .ptr := hd 5 (by kernel_rfl)
      replace e1 : s 5 = .pointer (some ⟨R, 0, none⟩) := e1
      clear hd
      gi_wp2_with (refine ⟨trivial, ?_⟩; gi_at_call 42; go_loud (refine (cW9.2 (pick_in W0 R len cap q a _ V hb hRV (by omega))).mono ?_; rintro e V9 ⟨x, rfl, hx0, _, hx1, hR9, hg9, _⟩))
      have hx := hx1 (by omega)
      obtain ⟨y, rfl⟩ : ∃ y : Nat, x = y := ⟨x.toNat, by omega⟩
      have hr := hQ'.out
      simp only [e1] at hr ⊢
      exact hr _ _ (q + 1) (by omega) hR9 hg9 ⟨y, by omega, rfl⟩
    · obtain ⟨y, hy, e1⟩ : LK.ok R V (s 6) (.num 62) := hd 6 (by kernel_rfl)
      clear hd
      have hN := num_in y (by omega) V
      gi_wp2_with (refine ⟨trivial, ?_⟩; gi_at_call 67; go_loud (refine (cW9.2 hN).mono ?_; rintro e V9 ⟨S, rfl, hS, hB9⟩))
      have hr := hQ'.out
      simp only [e1] at hr ⊢
      exact hr _ _ q (by omega) (rd_belowD hRV hB9) (grown_any (below_grownW hB9) R) hS
    · have hA : TxtLe 8 (s 4) := hd 4 (by kernel_rfl)
      have hC : TxtLe 22 (s 7) := hd 7 (by kernel_rfl)
      clear hd
      obtain ⟨A, eA, zA, zC⟩ := app_le hA hC (show _ ≤ 30 by omega) (by omega)
      obtain ⟨C, eC, hAC⟩ := zC
      gi_wp2
      have hr := hQ'.out
      simp only [eA, eC] at hr ⊢
      exact hr _ _ q (by omega) hRV (grownBy_refl _ _) hAC.2.2
    · have hA : TxtLe 30 (s 8) := hd 8 (by kernel_rfl)
      clear hd
      obtain ⟨A, eA, zA, zC⟩ := app_le hA txt_one (show _ ≤ 31 by omega) (by omega)
      obtain ⟨C, eC, hAC⟩ := zC
      simp only [Value.string.injEq] at eC
      subst eC
      gi_wp2
      have hr := hQ'.out
      simp only [eA] at hr ⊢
      exact hr _ _ q (by omega) hRV (grownBy_refl _ _) hAC.2.2
    · clear hd
      gi_wp2
      have hr := hQ'.out
      exact hr _ _ q (by omega) hRV (grownBy_refl _ _) rfl
    · have e1 : LK.ok R V (s 10) .ptr := hd 10 (by kernel_rfl)
      replace e1 : s 10 = .pointer (some ⟨R, 0, none⟩) := e1
      clear hd
      gi_wp2_with (refine ⟨trivial, ?_⟩; gi_at_call 42; go_loud (refine (cW9.2 (pick_in W0 R len cap q a _ V hb hRV (by omega))).mono ?_; rintro e V9 ⟨x, rfl, hx0, _, hx1, hR9, hg9, _⟩))
      have hx := hx1 (by omega)
      obtain ⟨y, rfl⟩ : ∃ y : Nat, x = y := ⟨x.toNat, by omega⟩
      have hr := hQ'.out
      simp only [e1] at hr ⊢
      exact hr _ _ (q + 1) (by omega) hR9 hg9 ⟨y, by omega, rfl⟩
    · obtain ⟨y, hy, e1⟩ : LK.ok R V (s 11) (.num 30) := hd 11 (by kernel_rfl)
      clear hd
      have hN := num_in y (by omega) V
      gi_wp2_with (refine ⟨trivial, ?_⟩; gi_at_call 67; go_loud (refine (cW9.2 hN).mono ?_; rintro e V9 ⟨S, rfl, hS, hB9⟩))
      have hr := hQ'.out
      simp only [e1] at hr ⊢
      exact hr _ _ q (by omega) (rd_belowD hRV hB9) (grown_any (below_grownW hB9) R) hS
    · have hA : TxtLe 31 (s 9) := hd 9 (by kernel_rfl)
      have hC : TxtLe 22 (s 12) := hd 12 (by kernel_rfl)
      clear hd
      obtain ⟨A, eA, zA, zC⟩ := app_le hA hC (show _ ≤ 53 by omega) (by omega)
      obtain ⟨C, eC, hAC⟩ := zC
      gi_wp2
      have hr := hQ'.out
      simp only [eA, eC] at hr ⊢
      exact hr _ _ q (by omega) hRV (grownBy_refl _ _) hAC.2.2
    · clear hd
      have zV := hRV.lt
      have hcs := texts_cells V [⟨#[]⟩, ⟨#[32, 50]⟩] (by intro S hS; simp at hS; rcases hS with rfl | rfl; exact ⟨[], by kernel_rfl, by decide, by decide⟩; exact ⟨[32, 50], by kernel_rfl, by decide, by decide⟩)
      have hsz := World.size_alloc V (.cells #[.string ⟨#[]⟩, .string ⟨#[32, 50]⟩] 9)
      gi_wp2
      have hr := hQ'.out
      exact hr _ _ q (by omega) (hRV.alloc _) (World.grownBy_alloc _ _ _) ⟨V.heap.size, rfl, by omega, by rw [World.size_alloc]; omega, fun j hj => by simpa using hcs j hj⟩
    · clear hd
      gi_wp2
      have hr := hQ'.out
      exact hr _ _ q (by omega) hRV (grownBy_refl _ _) rfl
    · have e1 : LK.ok R V (s 15) .ptr := hd 15 (by kernel_rfl)
      replace e1 : s 15 = .pointer (some ⟨R, 0, none⟩) := e1
      clear hd
      gi_wp2_with (refine ⟨trivial, ?_⟩; gi_at_call 42; go_loud (refine (cW9.2 (pick_in W0 R len cap q a _ V hb hRV (by omega))).mono ?_; rintro e V9 ⟨x, rfl, hx0, _, hx1, hR9, hg9, _⟩))
      have hx := hx1 (by omega)
      obtain ⟨y, rfl⟩ : ∃ y : Nat, x = y := ⟨x.toNat, by omega⟩
      have hr := hQ'.out
      simp only [e1] at hr ⊢
      exact hr _ _ (q + 1) (by omega) hR9 hg9 ⟨y, by omega, rfl⟩
    · obtain ⟨g, e1, h2, h3, h4⟩ : LK.ok R V (s 14) (.sl 2) := hd 14 (by kernel_rfl)
      obtain ⟨y, hy, e2⟩ : LK.ok R V (s 16) (.num 2) := hd 16 (by kernel_rfl)
      clear hd
      have hyi : (y : Int) < 2 := by omega
      obtain ⟨z, hz, hc⟩ := h4 y hy
      clear h4
      gi_wp2
      have hr := hQ'.out
      simp only [e1, e2] at hr ⊢
      exact hr _ _ q (by omega) hRV (grownBy_refl _ _) ⟨g, _, rfl, h2, h3, z, hz, by simpa using hc⟩
    · obtain ⟨g, j, e1, h2, h3, z, h4, h6⟩ : LK.ok R V (s 17) .ad := hd 17 (by kernel_rfl)
      clear hd
      obtain ⟨lz, rfl, _⟩ := id h4
      gi_wp2
      have hr := hQ'.out
      simp only [e1] at hr ⊢
      exact hr _ _ q (by omega) hRV (grownBy_refl _ _) h4
    · have hA : TxtLe 53 (s 13) := hd 13 (by kernel_rfl)
      have hC : TxtLe 8 (s 18) := hd 18 (by kernel_rfl)
      clear hd
      obtain ⟨A, eA, zA, zC⟩ := app_le hA hC (show _ ≤ 61 by omega) (by omega)
      obtain ⟨C, eC, hAC⟩ := zC
      gi_wp2
      have hr := hQ'.out
      simp only [eA, eC] at hr ⊢
      exact hr _ _ q (by omega) hRV (grownBy_refl _ _) hAC.2.2
   case tail =>
    rintro s V q hqb hRV hgV hd
    replace hqb : q ≤ p + 1 + 40 * 21 := hqb
    have hT : TxtLe 80 (s 19) := txt_le (show TxtLe _ (s 19) from hd 19 (by omega)) (by omega)
    clear hd
    have hgw := hg1.trans hgV
    simp only [putsOf, Act.put, List.setIfInBounds_toArray, List.set_cons_succ, List.set_cons_zero]
    simp only [List.drop_succ_cons, List.drop_zero]
    generalize s 19 = z at *
    gi_wp2
    go_ret
    exact ⟨⟨_, rfl, hT⟩, q, by omega, hRV, hgw⟩
 · clear hx0 hx2
   gi_wp2
   refine wpIn_region_rd W0 R len cap (p + 1) a 40 20 [(some 46, 0), (some 47, 1), (some 48, 2), (some 49, 3), (some 50, 4), (some 51, 5), (some 52, 6), (some 53, 7), (some 54, 8), (some 55, 9), (some 56, 10), (some 57, 11), (some 58, 12), (some 59, 13), (some 60, 14), (some 61, 15), (some 62, 16), (some 63, 17), (some 64, 18), (some 65, 19)] (by omega) (by kernel_rfl) (by kernel_rfl) (by kernel_rfl) (by decide) (by decide) (by rfl) (by decide) hR1
    (fun i v V => (([.sl 3, .ptr, .num 3, .ad, .tx 8, .ptr, .fit, .nat, .tx 22, .tx 30, .tx 31, .ptr, .num 200, .tx 22, .tx 53, .tx 54, .ptr, .num 14, .tx 22, .tx 76] : List LK).getD i .any).ok R V v)
    (fun i v V V' h hg => @LK.kept R V V' v _ h hg)
    ?step ?tail
   case step =>
    rintro i oo s V q hi ho hqb hRV hgV hd Q' hQ
    rcases (show i = 0 ∨ i = 1 ∨ i = 2 ∨ i = 3 ∨ i = 4 ∨ i = 5 ∨ i = 6 ∨ i = 7 ∨ i = 8 ∨ i = 9 ∨ i = 10 ∨ i = 11 ∨ i = 12 ∨ i = 13 ∨ i = 14 ∨ i = 15 ∨ i = 16 ∨ i = 17 ∨ i = 18 ∨ i = 19 by omega) with rfl | rfl | rfl | rfl | rfl | rfl | rfl | rfl | rfl | rfl | rfl | rfl | rfl | rfl | rfl | rfl | rfl | rfl | rfl | rfl
    all_goals
     simp at ho
     subst ho
     simp only [putsOf, Act.put, List.setIfInBounds_toArray, List.set_cons_succ, List.set_cons_zero] at hQ ⊢
     have hQ' := hide hQ
     clear hQ
    · clear hd
      have zV := hRV.lt
      have hcs := texts_cells V [⟨#[108, 101, 102, 116, 32]⟩, ⟨#[111, 102, 116, 101, 110, 32]⟩, ⟨#[99, 97, 114, 114, 105, 101, 115, 32]⟩] (by intro S hS; simp at hS; rcases hS with rfl | rfl | rfl; exact ⟨[108, 101, 102, 116, 32], by kernel_rfl, by decide, by decide⟩; exact ⟨[111, 102, 116, 101, 110, 32], by kernel_rfl, by decide, by decide⟩; exact ⟨[99, 97, 114, 114, 105, 101, 115, 32], by kernel_rfl, by decide, by decide⟩)
      have hsz := World.size_alloc V (.cells #[.string ⟨#[108, 101, 102, 116, 32]⟩, .string ⟨#[111, 102, 116, 101, 110, 32]⟩, .string ⟨#[99, 97, 114, 114, 105, 101, 115, 32]⟩] 9)
      gi_wp2
      have hr := hQ'.out
      exact hr _ _ q (by omega) (hRV.alloc _) (World.grownBy_alloc _ _ _) ⟨V.heap.size, rfl, by omega, by rw [World.size_alloc]; omega, fun j hj => by simpa using hcs j hj⟩
    · clear hd
      gi_wp2
      have hr := hQ'.out
      exact hr _ _ q (by omega) hRV (grownBy_refl _ _) rfl
    · have e1 : LK.ok R V (s 1) .ptr := hd 1 (by kernel_rfl)
      replace e1 : s 1 = .pointer (some ⟨R, 0, none⟩) := e1
      clear hd
      gi_wp2_with (refine ⟨trivial, ?_⟩; gi_at_call 42; go_loud (refine (cW9.2 (pick_in W0 R len cap q a _ V hb hRV (by omega))).mono ?_; rintro e V9 ⟨x, rfl, hx0, _, hx1, hR9, hg9, _⟩))
      have hx := hx1 (by omega)
      obtain ⟨y, rfl⟩ : ∃ y : Nat, x = y := ⟨x.toNat, by omega⟩
      have hr := hQ'.out
      simp only [e1] at hr ⊢
      exact hr _ _ (q + 1) (by omega) hR9 hg9 ⟨y, by omega, rfl⟩
    · obtain ⟨g, e1, h2, h3, h4⟩ : LK.ok R V (s 0) (.sl 3) := hd 0 (by kernel_rfl)
      obtain ⟨y, hy, e2⟩ : LK.ok R V (s 2) (.num 3) := hd 2 (by kernel_rfl)
      clear hd
      have hyi : (y : Int) < 3 := by omega
      obtain ⟨z, hz, hc⟩ := h4 y hy
      clear h4
      gi_wp2
      have hr := hQ'.out
      simp only [e1, e2] at hr ⊢
      exact hr _ _ q (by omega) hRV (grownBy_refl _ _) ⟨g, _, rfl, h2, h3, z, hz, by simpa using hc⟩
    · obtain ⟨g, j, e1, h2, h3, z, h4, h6⟩ : LK.ok R V (s 3) .ad := hd 3 (by kernel_rfl)
      clear hd
      obtain ⟨lz, rfl, _⟩ := id h4
      gi_wp2
      have hr := hQ'.out
      simp only [e1] at hr ⊢
      exact hr _ _ q (by omega) hRV (grownBy_refl _ _) h4
    · clear hd
      gi_wp2
      have hr := hQ'.out
      exact hr _ _ q (by omega) hRV (grownBy_refl _ _) rfl
    · have e1 : LK.ok R V (s 5) .ptr := hd 5 (by kernel_rfl)
      replace e1 : s 5 = .pointer (some ⟨R, 0, none⟩) := e1
      clear hd
      gi_wp2_with (refine ⟨trivial, ?_⟩; gi_at_call 105; go_loud (refine (cW9.2 (l20Big2 W0 R len cap q a V hb hRV (by omega))).mono ?_; rintro e V9 ⟨⟨x, hx, rfl⟩, q9, hq9, hR9, hg9⟩))
      have hr := hQ'.out
      simp only [e1] at hr ⊢
      exact hr _ _ q9 (by omega) hR9 hg9 ⟨x, hx, rfl⟩
    · obtain ⟨x, hx, e1⟩ : LK.ok R V (s 6) .fit := hd 6 (by kernel_rfl)
      clear hd
      unfold Fits at hx
      by_cases hx0 : x < 0
      · have hm : max x 0 = 0 := by omega
        have hx1 : ¬ 0 ≤ x := by omega
        gi_wp2
        have hr := hQ'.out
        simp only [e1] at hr ⊢
        exact hr _ _ q (by omega) hRV (grownBy_refl _ _) ⟨0, by omega, by simp⟩
      · obtain ⟨y, rfl⟩ : ∃ y : Nat, x = y := ⟨x.toNat, by omega⟩
        have hm : max (y : Int) 0 = y := by omega
        gi_wp2
        have hr := hQ'.out
        simp only [e1] at hr ⊢
        exact hr _ _ q (by omega) hRV (grownBy_refl _ _) ⟨y, by omega, by simp⟩
    · obtain ⟨y, hy, e1⟩ : LK.ok R V (s 7) (.nat) := hd 7 (by kernel_rfl)
      clear hd
      have hN := num_in y (by omega) V
      gi_wp2_with (refine ⟨trivial, ?_⟩; gi_at_call 67; go_loud (refine (cW9.2 hN).mono ?_; rintro e V9 ⟨S, rfl, hS, hB9⟩))
      have hr := hQ'.out
      simp only [e1] at hr ⊢
      exact hr _ _ q (by omega) (rd_belowD hRV hB9) (grown_any (below_grownW hB9) R) hS
    · have hA : TxtLe 8 (s 4) := hd 4 (by kernel_rfl)
      have hC : TxtLe 22 (s 8) := hd 8 (by kernel_rfl)
      clear hd
      obtain ⟨A, eA, zA, zC⟩ := app_le hA hC (show _ ≤ 30 by omega) (by omega)
      obtain ⟨C, eC, hAC⟩ := zC
      gi_wp2
      have hr := hQ'.out
      simp only [eA, eC] at hr ⊢
      exact hr _ _ q (by omega) hRV (grownBy_refl _ _) hAC.2.2
    · have hA : TxtLe 30 (s 9) := hd 9 (by kernel_rfl)
      clear hd
      obtain ⟨A, eA, zA, zC⟩ := app_le hA txt_one (show _ ≤ 31 by omega) (by omega)
      obtain ⟨C, eC, hAC⟩ := zC
      simp only [Value.string.injEq] at eC
      subst eC
      gi_wp2
      have hr := hQ'.out
      simp only [eA] at hr ⊢
      exact hr _ _ q (by omega) hRV (grownBy_refl _ _) hAC.2.2
    · clear hd
      gi_wp2
      have hr := hQ'.out
      exact hr _ _ q (by omega) hRV (grownBy_refl _ _) rfl
    · have e1 : LK.ok R V (s 11) .ptr := hd 11 (by kernel_rfl)
      replace e1 : s 11 = .pointer (some ⟨R, 0, none⟩) := e1
      clear hd
      gi_wp2_with (refine ⟨trivial, ?_⟩; gi_at_call 42; go_loud (refine (cW9.2 (pick_in W0 R len cap q a _ V hb hRV (by omega))).mono ?_; rintro e V9 ⟨x, rfl, hx0, _, hx1, hR9, hg9, _⟩))
      have hx := hx1 (by omega)
      obtain ⟨y, rfl⟩ : ∃ y : Nat, x = y := ⟨x.toNat, by omega⟩
      have hr := hQ'.out
      simp only [e1] at hr ⊢
      exact hr _ _ (q + 1) (by omega) hR9 hg9 ⟨y, by omega, rfl⟩
    · obtain ⟨y, hy, e1⟩ : LK.ok R V (s 12) (.num 200) := hd 12 (by kernel_rfl)
      clear hd
      have hN := num_in y (by omega) V
      gi_wp2_with (refine ⟨trivial, ?_⟩; gi_at_call 67; go_loud (refine (cW9.2 hN).mono ?_; rintro e V9 ⟨S, rfl, hS, hB9⟩))
      have hr := hQ'.out
      simp only [e1] at hr ⊢
      exact hr _ _ q (by omega) (rd_belowD hRV hB9) (grown_any (below_grownW hB9) R) hS
    · have hA : TxtLe 31 (s 10) := hd 10 (by kernel_rfl)
      have hC : TxtLe 22 (s 13) := hd 13 (by kernel_rfl)
      clear hd
      obtain ⟨A, eA, zA, zC⟩ := app_le hA hC (show _ ≤ 53 by omega) (by omega)
      obtain ⟨C, eC, hAC⟩ := zC
      gi_wp2
      have hr := hQ'.out
      simp only [eA, eC] at hr ⊢
      exact hr _ _ q (by omega) hRV (grownBy_refl _ _) hAC.2.2
    · have hA : TxtLe 53 (s 14) := hd 14 (by kernel_rfl)
      clear hd
      obtain ⟨A, eA, zA, zC⟩ := app_le hA txt_one (show _ ≤ 54 by omega) (by omega)
      obtain ⟨C, eC, hAC⟩ := zC
      simp only [Value.string.injEq] at eC
      subst eC
      gi_wp2
      have hr := hQ'.out
      simp only [eA] at hr ⊢
      exact hr _ _ q (by omega) hRV (grownBy_refl _ _) hAC.2.2
    · clear hd
      gi_wp2
      have hr := hQ'.out
      exact hr _ _ q (by omega) hRV (grownBy_refl _ _) rfl
    · have e1 : LK.ok R V (s 16) .ptr := hd 16 (by kernel_rfl)
      replace e1 : s 16 = .pointer (some ⟨R, 0, none⟩) := e1
      clear hd
      gi_wp2_with (refine ⟨trivial, ?_⟩; gi_at_call 42; go_loud (refine (cW9.2 (pick_in W0 R len cap q a _ V hb hRV (by omega))).mono ?_; rintro e V9 ⟨x, rfl, hx0, _, hx1, hR9, hg9, _⟩))
      have hx := hx1 (by omega)
      obtain ⟨y, rfl⟩ : ∃ y : Nat, x = y := ⟨x.toNat, by omega⟩
      have hr := hQ'.out
      simp only [e1] at hr ⊢
      exact hr _ _ (q + 1) (by omega) hR9 hg9 ⟨y, by omega, rfl⟩
    · obtain ⟨y, hy, e1⟩ : LK.ok R V (s 17) (.num 14) := hd 17 (by kernel_rfl)
      clear hd
      have hN := num_in y (by omega) V
      gi_wp2_with (refine ⟨trivial, ?_⟩; gi_at_call 67; go_loud (refine (cW9.2 hN).mono ?_; rintro e V9 ⟨S, rfl, hS, hB9⟩))
      have hr := hQ'.out
      simp only [e1] at hr ⊢
      exact hr _ _ q (by omega) (rd_belowD hRV hB9) (grown_any (below_grownW hB9) R) hS
    · have hA : TxtLe 54 (s 15) := hd 15 (by kernel_rfl)
      have hC : TxtLe 22 (s 18) := hd 18 (by kernel_rfl)
      clear hd
      obtain ⟨A, eA, zA, zC⟩ := app_le hA hC (show _ ≤ 76 by omega) (by omega)
      obtain ⟨C, eC, hAC⟩ := zC
      gi_wp2
      have hr := hQ'.out
      simp only [eA, eC] at hr ⊢
      exact hr _ _ q (by omega) hRV (grownBy_refl _ _) hAC.2.2
   case tail =>
    rintro s V q hqb hRV hgV hd
    replace hqb : q ≤ p + 1 + 40 * 21 := hqb
    have hT : TxtLe 80 (s 19) := txt_le (show TxtLe _ (s 19) from hd 19 (by omega)) (by omega)
    clear hd
    have hgw := hg1.trans hgV
    simp only [putsOf, Act.put, List.setIfInBounds_toArray, List.set_cons_succ, List.set_cons_zero]
    simp only [List.drop_succ_cons, List.drop_zero]
    generalize s 19 = z at *
    gi_wp2
    go_ret
    exact ⟨⟨_, rfl, hT⟩, q, by omega, hRV, hgw⟩
 · have b0 : (x == 0) = false := by rw [beq_eq_false_iff_ne]; omega
   have b1 : (x == 1) = false := by rw [beq_eq_false_iff_ne]; omega
   have b2 : (x == 2) = false := by rw [beq_eq_false_iff_ne]; omega
   have b3 : (x == 3) = false := by rw [beq_eq_false_iff_ne]; omega
   have b4 : (x == 4) = false := by rw [beq_eq_false_iff_ne]; omega
   gi_wp2_with fail
   refine ⟨trivial, ?_⟩
   gi_at_call 94
   refine (cW9.2 (l20Deed_in W0 R len cap (p + 1) a w1 hb hR1 (by omega) rv rn rc hrn)).mono ?_
   rintro e w2 ⟨⟨dk, dn, hdk, hdn, rfl⟩, q2, hq2, hR2, hg2⟩
   have hT := specDeedText dk dn hdk hdn w2
   have hz : TxtLe 80 (.string (str (deedT dk dn))) := ⟨_, rfl, fun x hx => (deed_byte dk dn x hx).1, by have := deed_len dk dn; omega⟩
   unfold dV at *
   obtain ⟨S, hS⟩ : ∃ S, str (deedT dk dn) = S := ⟨_, rfl⟩
   rw [hS] at hT hz
   clear hS
   gi_wp2_with fail
   refine ⟨trivial, ?_⟩
   gi_at_call 86
   refine (cW9.2 hT).mono ?_
   rintro e w3 ⟨rfl, hB3⟩
   have hR3 := rd_belowD hR2 hB3
   have hgf := (hg1.trans hg2).trans (grown_any (below_grownW hB3) R)
   gi_wp2
   go_ret
   exact ⟨⟨_, rfl, hz⟩, q2, by omega, hR3, hgf⟩
end
section
open Go.RowKit Go.BigFrame
set_option maxRecDepth 100000 in
set_option maxHeartbeats 1000000 in
theorem sameRowsP_in (v u : Value) (rows : List (List Int)) (w : World) (hn : rows.length ≤ 1000000) (hlen : ∀ j, j < rows.length → (rows.getD j []).length ≤ 1000000) (hv : PastI w v rows) (hu : PastI w u rows) :
 Calls Tryz.prog 62 #[v, u] w fun e w' => e = .returned (.bool true) ∧ Below w.heap.size w w' := by
 obtain ⟨a, c, rfl, hv⟩ := hv
 obtain ⟨a', c', rfl, hu⟩ := hu
 obtain ⟨n, hn'⟩ : ∃ n, rows.length = n := ⟨_, rfl⟩
 rw [hn'] at hn hlen hv hu ⊢
 clear hn'
 go_enter Tryz.func62, Tryz.ntmps62
 go_wp2
 go_loopw [5] (fun i wr => ∃ k : Nat, k ≤ n ∧ i = .int .i64 k ∧ Below w.heap.size w wr) (fun i _ => n - (intOf i).toNat)
 case atStart => exact ⟨0, Nat.zero_le _, rfl, Below.refl _ _⟩
 case round =>
  obtain ⟨k, hk, rfl, hB⟩ := hrel
  by_cases hlt : k < n
  · obtain ⟨G, o, rfl, hG, hr⟩ := hv (by omega)
    obtain ⟨G', o', rfl, hG', hr'⟩ := hu (by omega)
    obtain ⟨x, hx1, hx2⟩ := hr k hlt
    obtain ⟨y, hy1, hy2⟩ := hr' k hlt
    have hlk := hlen k hlt
    have h3 : ∀ m : After w, Calls Tryz.prog 28 #[x, y] m.now fun e w' => e = .returned (.bool true) ∧ Below m.now.heap.size m.now w' := fun m => sameInts_in x y _ m.now (by omega) (hx2.below m.ok) (hy2.below m.ok)
    obtain ⟨ax, cx, rfl⟩ := hx2.shape
    obtain ⟨ay, cy, rfl⟩ := hy2.shape
    have h1 : ∀ m : After w, m.now.cell? ⟨G, o + k, none⟩ = some (.slice ax (rows.getD k []).length cx) := fun m => (m.ok.cell (p := ⟨G, o + k, none⟩) hG).trans hx1
    have h2 : ∀ m : After w, m.now.cell? ⟨G', o' + k, none⟩ = some (.slice ay (rows.getD k []).length cy) := fun m => (m.ok.cell (p := ⟨G', o' + k, none⟩) hG').trans hy1
    have hki : (k : Int) < (n : Int) := by omega
    generalize (rows.getD k []).length = l at *
    clear hr hr' hx1 hx2 hy1 hy2 hlen hv hu
    go_wp2
    refine wp_region_below w (by kernel_rfl) (by kernel_rfl) hB ?_
    repeat (go_big_quiet_step ((go_at_call 28; with_reducible exact after_of (h3 _))))
    refine wpQuiet_nil ?_
    rintro _ ⟨nq, rfl⟩
    clear h1 h2 h3
    go_wp2
    go_roundw
    case rel => exact ⟨k + 1, by omega, by go_num, nq.ok⟩
    case measure => simp [intOf]; omega
  · obtain rfl : k = n := by omega
    clear hv hu hlen
    go_wp2
    go_ret
    exact ⟨rfl, hB⟩
set_option maxRecDepth 100000 in
set_option maxHeartbeats 1000000 in
theorem sameDesk_in (v u : Value) (d : Dk) (w : World) (hs : d.1.length ≤ 1000000 ∧ d.2.length ≤ 1000000 ∧ ∀ j, j < d.2.length → (d.2.getD j []).length ≤ 1000000) (hv : DeskI w v d) (hu : DeskI w u d) : Calls Tryz.prog 18 #[v, u] w fun e w' => e = .returned (.bool true) ∧ Below w.heap.size w w' := by
 obtain ⟨x, p, rfl, hx, hp⟩ := hv
 obtain ⟨y, q, rfl, hy, hq⟩ := hu
 have hB : Below w.heap.size w ((w.alloc (.cells #[x, p] 31)).alloc (.cells #[y, q] 31)) := ((Below.refl _ w).alloc (Nat.le_refl _) _).alloc (by rw [World.size_alloc]; omega) _
 have k1 := aN9 (w.alloc (.cells #[x, p] 31)) (.cells #[y, q] 31)
 rw [World.size_alloc] at k1
 have k0 : ((w.alloc (.cells #[x, p] 31)).alloc (.cells #[y, q] 31)).heap[w.heap.size]? = some (.cells #[x, p] 31 (0, 0)) := (Below.heap_alloc _ _ _ (by rw [World.size_alloc]; omega)).trans (aN9 w _)
 obtain ⟨W0, hW0⟩ : ∃ W0, (w.alloc (.cells #[x, p] 31)).alloc (.cells #[y, q] 31) = W0 := ⟨_, rfl⟩
 rw [hW0] at hB k0 k1
 have l0 := (gE9.1 k0).1
 have l1 := (gE9.1 k1).1
 have hI := sameInts_in x y d.1 W0 (by omega) (hx.below hB) (hy.below hB)
 have hR := fun V (hV : Below W0.heap.size W0 V) => sameRowsP_in p q d.2 V hs.2.1 hs.2.2 ((hp.below hB).below hV) ((hq.below hB).below hV)
 obtain ⟨xa, xc, rfl⟩ := hx.shape
 obtain ⟨ya, yc, rfl⟩ := hy.shape
 obtain ⟨pa, pc, rfl, _⟩ := hp
 obtain ⟨qa, qc, rfl, _⟩ := hq
 obtain ⟨c0, c1, _, _⟩ := row_at k0
 obtain ⟨e0, e1, _, _⟩ := row_at k1
 clear hx hy hs
 go_enter Tryz.func18, Tryz.ntmps18
 go_wp2_with (first
  | (go_at_call 28; go_loud (refine hI.mono ?_; clear hI; rintro e w2 ⟨rfl, hB2⟩; obtain ⟨c0, c1, _, _⟩ := row_at ((hB2.block _ l0).trans k0); obtain ⟨e0, e1, _, _⟩ := row_at ((hB2.block _ l1).trans k1)))
  | (go_at_call 62; go_loud (refine (hR _ hB2).mono ?_; clear hR; rintro e w3 ⟨rfl, hB3⟩)))
 go_ret
 exact ⟨rfl, hB.trans ((hB2.trans (hB3.mono hB2.size)).mono hB.size)⟩
theorem noDesk_in (v : Value) (w : World) (hv : DeskI w v ([], [])) : Calls Tryz.prog 22 #[v] w fun e w' => e = .returned (.bool true) ∧ Below w.heap.size w w' := by
 obtain ⟨x, p, rfl, hx, hp⟩ := hv
 have hB : Below w.heap.size w (w.alloc (.cells #[x, p] 31)) := (Below.refl _ w).alloc (Nat.le_refl _) _
 have k0 := aN9 w (.cells #[x, p] 31)
 have hD : ∀ W, DeskI W (.agg #[.slice none 0 0, .slice none 0 0]) ([], []) := fun W => ⟨_, _, rfl, .inl ⟨_, _, rfl, rfl⟩, none, 0, rfl, fun h => absurd h (Nat.lt_irrefl 0)⟩
 have hS := sameDesk_in (.agg #[x, p]) (.agg #[.slice none 0 0, .slice none 0 0]) ([], []) _ ⟨by simp, by simp, fun j hj => by simp at hj⟩ ⟨x, p, rfl, hx.below hB, hp.below hB⟩ (hD _)
 obtain ⟨xa, xc, rfl⟩ := hx.shape
 obtain ⟨pa, pc, rfl, _⟩ := hp
 simp only [List.length_nil] at *
 obtain ⟨W0, hW0⟩ : ∃ W0, w.alloc (.cells #[.slice xa 0 xc, .slice pa 0 pc] 31) = W0 := ⟨_, rfl⟩
 rw [hW0] at hB k0 hS
 obtain ⟨c0, c1, _, _⟩ := row_at k0
 clear hx
 go_enter Tryz.func22, Tryz.ntmps22
 go_wp2_with (go_at_call 18; refine hS.mono ?_; rintro e w2 ⟨rfl, hB2⟩)
 go_ret
 exact ⟨rfl, hB.trans (hB2.mono hB.size)⟩
end
section
open Go.RowKit
theorem OwnG.of_own {W : World} {base : Nat} {v : Value} {rows : List (List Int)} (h : OwnRows W base v rows) (h1 : ∀ j, j < rows.length → 0 < (rows.getD j []).length) :
    OwnG W base W.heap.size v rows.length (fun j => (rows.getD j []).length) (fun j i => (rows.getD j []).getD i 0) := by
  obtain ⟨us, hl, hv, hr, hne⟩ := h
  by_cases h0 : 0 < rows.length
  · right
    rcases hv.2 with ⟨_, hn⟩ | ⟨G, cap, cur, rfl, hb, hg, hrest⟩
    · omega
    · have hex : ∀ j, ∃ b cb, j < rows.length → us.getD j undef = .slice (some ⟨b, 0, .none⟩) (rows.getD j []).length cb ∧ base ≤ b ∧ RowAt W b (rows.getD j []).length (fun i => (rows.getD j []).getD i 0) := fun j => by
        by_cases hj : j < rows.length
        · obtain ⟨b, cb, e1, e2, e3⟩ := RowAt.of_owns (hr j hj) (h1 j hj)
          exact ⟨b, cb, fun _ => ⟨e1, e2, e3⟩⟩
        · exact ⟨0, 0, fun h => absurd h hj⟩
      have hch : ∃ b cb : Nat → Nat, ∀ j, j < rows.length → us.getD j undef = .slice (some ⟨b j, 0, .none⟩) (rows.getD j []).length (cb j) ∧ base ≤ b j ∧ RowAt W (b j) (rows.getD j []).length (fun i => (rows.getD j []).getD i 0) :=
        ⟨fun j => Classical.choose (hex j), fun j => Classical.choose (Classical.choose_spec (hex j)), fun j hj => Classical.choose_spec (Classical.choose_spec (hex j)) hj⟩
      obtain ⟨b, cb, hbc⟩ := hch
      have hGs : G < W.heap.size := (gE9.1 hg).1
      refine ⟨G, cap, b, cb, by rw [hl], ⟨⟨hb, hGs, hGs⟩, fun j hj => ?_, fun j hj => ⟨(hbc j hj).2.1, (hbc j hj).2.2.lt, fun e => ?_⟩, fun j hj => (hbc j hj).2.2, fun i j hij hj e => ?_⟩⟩
      · rw [hv.cellAt j (by omega), ← (hbc j hj).1, List.getD, eG9 (by omega)]; rfl
      · rcases own_apart (hr j hj) hv with h3 | h3
        · rw [(hbc j hj).1] at h3; simp [Value.ownBlock] at h3
        · rw [(hbc j hj).1] at h3; simp [Value.ownBlock, e] at h3
      · have h3 := hne i j hij hj
        rw [(hbc i (by omega)).1, (hbc j hj).1] at h3
        simp [Value.ownBlock, e] at h3
  · left
    refine ⟨by omega, ?_⟩
    rcases hv.2 with ⟨rfl, hn⟩ | ⟨g, cap, cur, rfl, _⟩
    · exact ⟨_, _, rfl⟩
    · exact ⟨_, _, by rw [show us.length = 0 by omega]⟩
def OwnD (W : World) (base mid lim : Nat) (v : Value) (n : Nat) (f : Nat → Int) (m : Nat) (L : Nat → Nat) (F : Nat → Nat → Int) : Prop :=
 ∃ x p, v = .agg #[x, p] ∧ base ≤ mid ∧ mid ≤ lim ∧ lim ≤ W.heap.size ∧ OwnI W base mid x n f ∧ OwnG W mid lim p m L F
theorem OwnD.of {W : World} {base : Nat} {v : Value} {d : Dk} (h : OwnDk W base v d) (h1 : ∀ j, j < d.2.length → 0 < (d.2.getD j []).length) :
 ∃ mid, OwnD W base mid W.heap.size v d.1.length (fun i => d.1.getD i 0) d.2.length (fun j => (d.2.getD j []).length) (fun j i => (d.2.getD j []).getD i 0) := by
 obtain ⟨mid, x, p, rfl, h2, h3, h4, h5⟩ := h
 exact ⟨mid, x, p, rfl, h2, h3, Nat.le_refl _, h4, OwnG.of_own h5 h1⟩
theorem OwnD.below {W W' : World} {base mid lim n m : Nat} {v : Value} {f : Nat → Int} {L : Nat → Nat} {F : Nat → Nat → Int} (h : OwnD W base mid lim v n f m L F) (hB : Below W.heap.size W W') : OwnD W' base mid lim v n f m L F := by
 obtain ⟨x, p, rfl, h2, h3, h4, h5, h6⟩ := h
 exact ⟨x, p, rfl, h2, h3, lT9 h4 hB.size, h5.below hB, h6.below hB⟩
theorem OwnD.between {W W' : World} {base mid lim n m base' lim' : Nat} {v : Value} {f : Nat → Int} {L : Nat → Nat} {F : Nat → Nat → Int} (h : OwnD W base mid lim v n f m L F) (hB : Between base' lim' W W') (hr : lim ≤ base' ∨ lim' ≤ base) : OwnD W' base mid lim v n f m L F := by
 obtain ⟨x, p, rfl, h2, h3, h4, h5, h6⟩ := h
 exact ⟨x, p, rfl, h2, h3, lT9 h4 hB.size, h5.between hB (by omega), h6.between hB (by omega)⟩
theorem OwnD.deskI {W : World} {base mid lim : Nat} {v : Value} {d : Dk} (h : OwnD W base mid lim v d.1.length (fun i => d.1.getD i 0) d.2.length (fun j => (d.2.getD j []).length) (fun j i => (d.2.getD j []).getD i 0)) : DeskI W v d := by
 obtain ⟨x, p, rfl, _, _, _, h5, h6⟩ := h
 exact ⟨x, p, rfl, h5.ints, (OwnG.rowsI h6).past⟩
theorem OwnD.form {W : World} {base mid lim n m : Nat} {v : Value} {f : Nat → Int} {L : Nat → Nat} {F : Nat → Nat → Int} (h : OwnD W base mid lim v n f m L F) : ∃ a b c e, v = .agg #[.slice a n b, .slice c m e] := by
 obtain ⟨x, p, rfl, _, _, _, h5, h6⟩ := h
 rcases h5 with ⟨rfl, a, b, rfl⟩ | ⟨g, cap, rfl, _⟩
 · rcases h6 with ⟨rfl, c, e, rfl⟩ | ⟨G, cap, b', cb, rfl, _⟩
   · exact ⟨a, b, c, e, rfl⟩
   · exact ⟨a, b, _, _, rfl⟩
 · rcases h6 with ⟨rfl, c, e, rfl⟩ | ⟨G, cap', b', cb, rfl, _⟩
   · exact ⟨_, _, c, e, rfl⟩
   · exact ⟨_, _, _, _, rfl⟩
def OwnQL (W : World) (base lim : Nat) (v : Value) (rows : List (List Int)) : Prop :=
 ∃ us : List Value, us.length = rows.length ∧ W.ownsRow base 28 1 v us.length us ∧ (∀ j, j < rows.length → W.ownsRow base 3 1 (us.getD j undef) (rows.getD j []).length ((rows.getD j []).map (Value.int .i64))) ∧
   (∀ i j, i < j → j < rows.length → (us.getD i undef).ownBlock = .none ∨ (us.getD i undef).ownBlock ≠ (us.getD j undef).ownBlock) ∧ ∀ j, j < rows.length → ∀ g, (us.getD j undef).ownBlock = some g → g < lim
theorem OwnQL.of {W : World} {base : Nat} {v : Value} {rows : List (List Int)} (h : OwnQ W base v rows) : OwnQL W base W.heap.size v rows := by
 obtain ⟨us, l, o, r, ne⟩ := h
 exact ⟨us, l, o, r, ne, fun j hj g e => ((r j hj).lt g e).2⟩
theorem OwnQL.ownQ {W : World} {base lim : Nat} {v : Value} {rows : List (List Int)} (h : OwnQL W base lim v rows) : OwnQ W base v rows := by
 obtain ⟨us, l, o, r, ne, _⟩ := h
 exact ⟨us, l, o, r, ne⟩
theorem OwnQL.old {W W' : World} {base lim b : Nat} {v : Value} {rows : List (List Int)} (h : OwnQL W base lim v rows) (hb : b < base) (hg : W.grownBy W' (some b)) : OwnQL W' base lim v rows := by
 obtain ⟨us, l, o, r, ne, hl⟩ := h
 exact ⟨us, l, own_kept o hg (own_old o hb), fun j hj => own_kept (r j hj) hg (own_old (r j hj) hb), ne, hl⟩
theorem OwnQL.below {W W' : World} {base lim : Nat} {v : Value} {rows : List (List Int)} (h : OwnQL W base lim v rows) (hB : Below W.heap.size W W') : OwnQL W' base lim v rows := by
 obtain ⟨us, l, o, r, ne, hl⟩ := h
 exact ⟨us, l, own_below o hB, fun j hj => own_below (r j hj) hB, ne, hl⟩
def OwnA (W : World) (base lim : Nat) (v : Value) (d : Dk) : Prop :=
 ∃ mid x p, v = .agg #[x, p] ∧ base ≤ mid ∧ mid ≤ lim ∧ lim ≤ W.heap.size ∧ W.ownsRow base 3 1 x d.1.length (d.1.map (Value.int .i64)) ∧ (∀ g, x.ownBlock = some g → g < mid) ∧ OwnQL W mid lim p d.2
theorem OwnA.deskI {W : World} {base lim : Nat} {v : Value} {d : Dk} (h : OwnA W base lim v d) : DeskI W v d := by
 obtain ⟨mid, x, p, rfl, hm, _, _, h1, _, h2⟩ := h
 exact desk_agg h1 (h2.ownQ.down hm)
theorem OwnA.below {W W' : World} {base lim : Nat} {v : Value} {d : Dk} (h : OwnA W base lim v d) (hB : Below W.heap.size W W') : OwnA W' base lim v d := by
 obtain ⟨mid, x, p, rfl, h0, h1, h2, h3, h4, h5⟩ := h
 exact ⟨mid, x, p, rfl, h0, h1, lT9 h2 hB.size, own_below h3 hB, h4, h5.below hB⟩
theorem OwnA.cap {W : World} {base lim : Nat} {v : Value} {d : Dk} (h : OwnA W base lim v d) : CapP v := by
 obtain ⟨mid, x, p, rfl, _, _, _, _, _, us, _, ho, _⟩ := h
 obtain ⟨a, c, rfl⟩ := own_form ho
 refine CapP.of ?_
 rcases ho.2 with ⟨e, h0⟩ | ⟨b, cap, cur, e, _, _, hc, _⟩
 · injection e with _ e2 e3; omega
 · injection e with _ e2 e3; omega
theorem OwnA.form {W : World} {base lim : Nat} {v : Value} {d : Dk} (h : OwnA W base lim v d) : ∃ a b c e, v = .agg #[.slice a d.1.length b, .slice c d.2.length e] := by
 obtain ⟨mid, x, p, rfl, _, _, _, h1, _, h2⟩ := h
 obtain ⟨a, b, rfl⟩ := own_form h1
 obtain ⟨c, e, rfl⟩ := h2.ownQ.ownSS.form
 exact ⟨_, _, _, _, rfl⟩
def IntB (W : World) (k : Nat) : Prop := ∃ cur, W.heap[k]? = some (.cells cur 3 (0, 0))
structure BetI (base lim : Nat) (W W' : World) : Prop where
 os : W'.os = W.os
 tape : W'.tape = W.tape
 output : W'.output = W.output
 size : W.heap.size ≤ W'.heap.size
 block : ∀ k, k < W.heap.size → (k < base ∨ lim ≤ k ∨ ¬ IntB W k) → W'.heap[k]? = W.heap[k]?
theorem BetI.refl (base lim : Nat) (W : World) : BetI base lim W W := ⟨rfl, rfl, rfl, Nat.le_refl _, fun _ _ _ => rfl⟩
theorem BetI.row {base lim : Nat} {W W' W2 : World} {g : Nat} (h : BetI base lim W W') (hg : W'.grownBy W2 (some g)) (hb : base ≤ g ∧ g < lim) (hi : IntB W g) : BetI base lim W W2 :=
 ⟨hg.os.trans h.os, hg.tape.trans h.tape, hg.output.trans h.output, lT9 h.size hg.size, fun k hk ho => (hg.block k (lL9 hk h.size) (fun e => by
  injection e with e
  subst e
  rcases ho with ho | ho | ho
  · omega
  · omega
  · exact ho hi)).trans (h.block k hk ho)⟩
end
section
open Go.RowKit Go.Shelf
attribute [local go_sem] Oper.semAt_some
set_option maxRecDepth 100000 in
set_option maxHeartbeats 2000000 in
theorem specDo_none (x p : Value) (d : Dk) (k n : Int) (w : World) (hx : Ints w x d.1) (hp : PastI w p d.2) (hb : deskB d = true) (hk : Fits k) (hn : Fits n) (h5 : k = 5 ∧ n = 0) (h0 : d.2.length = 0) : Calls Tryz.prog 66 #[.agg #[x, p], dV k n] w fun e w' =>
 ∃ y, e = .returned (.tuple #[y, .bool (doV d k n).2]) ∧ DeskI w' y (doV d k n).1 ∧ (CapN w.heap.size y ∧ (d.2.length < 8 → PastO w' w.heap.size y (doV d k n).1.2)) ∧ Below w.heap.size w w' := by
 obtain ⟨rfl, rfl⟩ := h5
 rw [doV_same hb (by omega) (.inl rfl)]
 obtain ⟨hd1, hd2, hd3⟩ := deskB_is.1 hb
 have hl := sideB_len hd2
 have hD := Do1.new w x p 5 0
 obtain ⟨W1, hW1⟩ : ∃ W1, ((w.alloc (.cells #[x, p] 31)).alloc (.cells #[.int .i64 5, .int .i64 0] 39)).alloc (.cells #[.slice none 0 0, .slice none 0 0] 31) = W1 := ⟨_, rfl⟩
 rw [hW1] at hD
 have hOK := specDeskOk (.agg #[x, p]) d W1 ⟨x, p, rfl, hx.below hD.below, hp.below hD.below⟩ ⟨by omega, by omega, fun j => by
  by_cases hj : j < d.2.length
  · have := sideB_len (hd1 (d.2.getD j []) (by rw [List.getD, eG9 hj]; exact List.getElem_mem hj)); omega
  · rw [List.getD, List.getElem?_eq_none (by omega)]; simp⟩
 rw [hb] at hOK
 have hCp := fun V (hV : Do1 w x p 5 0 V) => specCopy x p d V (hx.below hV.below) (hp.below hV.below) hb
 have hMd := fun V (hV : Do1 w x p 5 0 V) => specMade x d.1 5 0 V (hx.below hV.below) hd2 hk hn
 have q5 := fun V => equal_deed (k := 5) (n := 0) (by constructor <;> omega) (by constructor <;> omega) (k' := 5) (n' := 0) (by constructor <;> omega) (by constructor <;> omega) V
 have e5 : decide ((5 : Int) = 5 ∧ (0 : Int) = 0) = true := by decide
 rw [e5] at q5
 obtain ⟨row, past⟩ := d
 simp only at hd1 hd2 hd3 hl hx hp hCp hMd hOK ⊢
 have hM : madeV row 5 0 = [] := rfl
 rw [hM] at hMd
 obtain rfl : past = [] := List.length_eq_zero_iff.1 h0
 clear hM e5 h0
 obtain ⟨ap, cp, rfl, _⟩ := id hp
 obtain ⟨ax, cx, rfl⟩ := hx.shape
 obtain ⟨a0, a1, _, _⟩ := row_at hD.desk
 unfold dV at hMd ⊢
 simp only [List.length_nil] at hOK hW1 hD hMd hCp a0 a1 ⊢
 go_enter Tryz.func66, Tryz.ntmps66
 go_wp2_with (first
  | (go_at_call 13; go_loud (refine hOK.mono ?_; clear hOK; rintro e W2 ⟨rfl, hB2⟩; have hD2 := hD.more hB2; obtain ⟨a0, a1, _, _⟩ := row_at hD2.desk; clear hD hB2))
  | (go_at_call 65; go_loud (refine (hCp _ hD2).mono ?_; clear hCp; rintro e W3 ⟨y, q, rfl, hy, hq, hB3⟩; have hE := do2_new (d := (row, [])) hD2 hy hq hB3; obtain ⟨ay, cy, rfl⟩ := own_form hy; obtain ⟨aq, cq, eq0⟩ := hq.form; simp only [List.length_nil] at eq0; subst eq0; obtain ⟨a0, a1, _, _⟩ := row_at hE.one.desk; obtain ⟨c0, c1, _, _⟩ := row_at hE.one.deed; clear hD2 hB3 hy hq; obtain ⟨W4, hW4⟩ : ∃ W4, W3.alloc (.cells #[.slice ay row.length cy, .slice aq 0 cq] 31) = W4 := ⟨_, rfl⟩; rw [hW4] at hE a0 a1 c0 c1; obtain ⟨e0, e1, f0, f1⟩ := row_at hE.out))
  | (go_at_call 106; go_loud (refine (hMd _ hE.one).mono ?_; clear hMd; rintro e W5 ⟨r, rfl, hr, hB5, hrf⟩; have hqb := do2_block hE; have hrlo : ∀ g, r.ownBlock = some g → w.heap.size ≤ g := (fun g e => lT9 hE.one.below.size (hrf g e)); have hF := hE.more hB5; obtain ⟨a0, a1, _, _⟩ := row_at hF.one.desk; obtain ⟨ar, cr, rfl⟩ := hr.shape; obtain ⟨e0, e1, f0, f1⟩ := row_at hF.out; obtain ⟨r0, r1, g0, g1⟩ := row_at hF.one.res; clear hE hB5))
  | (go_at_call 107; fail))
 have hE2 := hF
 obtain ⟨hown, hBl, hpo, hap⟩ := hE2.result
 have hres := hide (desk_set hE2.one.res (.slice ay row.length cy) (.slice aq 0 cq))
 have hcap : 0 ≤ cq := by obtain ⟨us, _, ho, _⟩ := hE2.past; exact own_cap ho
 have hcn : ∀ g o t, aq = some ⟨g, o, t⟩ → w.heap.size ≤ g := fun g o t e => by
  subst e
  obtain ⟨us, _, ho, _⟩ := hE2.past
  have := (ho.lt g rfl).1
  omega
 clear hE2
 exact bodyPost_ret (results_desk2 rfl _ _ (w.heap.size + 2) _ _ rfl hres.out) rfl ⟨_, rfl, hown, ⟨CapN.of hcap hcn, fun _ => ⟨_, _, rfl, hpo, hap⟩⟩, hBl⟩
set_option maxRecDepth 100000 in
set_option maxHeartbeats 2000000 in
theorem specDo_empty (x p : Value) (d : Dk) (k n : Int) (w : World) (hx : Ints w x d.1) (hp : PastI w p d.2) (hb : deskB d = true) (hk : Fits k) (hn : Fits n) (h5 : ¬ (k = 5 ∧ n = 0)) (hM : madeV d.1 k n = []) : Calls Tryz.prog 66 #[.agg #[x, p], dV k n] w fun e w' =>
 ∃ y, e = .returned (.tuple #[y, .bool (doV d k n).2]) ∧ DeskI w' y (doV d k n).1 ∧ (CapN w.heap.size y ∧ (d.2.length < 8 → PastO w' w.heap.size y (doV d k n).1.2)) ∧ Below w.heap.size w w' := by
 rw [doV_same hb (fun h => h5 ⟨h.1, h.2.1⟩) (.inl hM)]
 obtain ⟨hd1, hd2, hd3⟩ := deskB_is.1 hb
 have hl := sideB_len hd2
 have hD := Do1.new w x p k n
 obtain ⟨W1, hW1⟩ : ∃ W1, ((w.alloc (.cells #[x, p] 31)).alloc (.cells #[.int .i64 k, .int .i64 n] 39)).alloc (.cells #[.slice none 0 0, .slice none 0 0] 31) = W1 := ⟨_, rfl⟩
 rw [hW1] at hD
 have hOK := specDeskOk (.agg #[x, p]) d W1 ⟨x, p, rfl, hx.below hD.below, hp.below hD.below⟩ ⟨by omega, by omega, fun j => by
  by_cases hj : j < d.2.length
  · have := sideB_len (hd1 (d.2.getD j []) (by rw [List.getD, eG9 hj]; exact List.getElem_mem hj)); omega
  · rw [List.getD, List.getElem?_eq_none (by omega)]; simp⟩
 rw [hb] at hOK
 have hCp := fun V (hV : Do1 w x p k n V) => specCopy x p d V (hx.below hV.below) (hp.below hV.below) hb
 have hMd := fun V (hV : Do1 w x p k n V) => specMade x d.1 k n V (hx.below hV.below) hd2 hk hn
 have q5 := fun V => equal_deed hk hn (k' := 5) (n' := 0) (by constructor <;> omega) (by constructor <;> omega) V
 rw [decide_eq_false h5] at q5
 obtain ⟨row, past⟩ := d
 simp only at hd1 hd2 hd3 hl hx hp hCp hMd hOK ⊢
 rw [hM] at hMd
 clear hM h5
 obtain ⟨ap, cp, rfl, _⟩ := id hp
 obtain ⟨ax, cx, rfl⟩ := hx.shape
 obtain ⟨a0, a1, _, _⟩ := row_at hD.desk
 unfold dV at hMd ⊢
 go_enter Tryz.func66, Tryz.ntmps66
 go_wp2_with (first
  | (go_at_call 13; go_loud (refine hOK.mono ?_; clear hOK; rintro e W2 ⟨rfl, hB2⟩; have hD2 := hD.more hB2; obtain ⟨a0, a1, _, _⟩ := row_at hD2.desk; clear hD hB2))
  | (go_at_call 65; go_loud (refine (hCp _ hD2).mono ?_; clear hCp; rintro e W3 ⟨y, q, rfl, hy, hq, hB3⟩; have hE := do2_new (d := (row, past)) hD2 hy hq hB3; obtain ⟨ay, cy, rfl⟩ := own_form hy; obtain ⟨aq, cq, rfl⟩ := hq.form; obtain ⟨a0, a1, _, _⟩ := row_at hE.one.desk; obtain ⟨c0, c1, _, _⟩ := row_at hE.one.deed; clear hD2 hB3 hy hq; obtain ⟨W4, hW4⟩ : ∃ W4, W3.alloc (.cells #[.slice ay row.length cy, .slice aq past.length cq] 31) = W4 := ⟨_, rfl⟩; rw [hW4] at hE a0 a1 c0 c1; obtain ⟨e0, e1, f0, f1⟩ := row_at hE.out))
  | (go_at_call 106; go_loud (refine (hMd _ hE.one).mono ?_; clear hMd; rintro e W5 ⟨r, rfl, hr, hB5, hrf⟩; have hqb := do2_block hE; have hrlo : ∀ g, r.ownBlock = some g → w.heap.size ≤ g := (fun g e => lT9 hE.one.below.size (hrf g e)); have hF := hE.more hB5; obtain ⟨a0, a1, _, _⟩ := row_at hF.one.desk; obtain ⟨ar, cr, rfl⟩ := hr.shape; obtain ⟨e0, e1, f0, f1⟩ := row_at hF.out; obtain ⟨r0, r1, g0, g1⟩ := row_at hF.one.res; clear hE hB5))
  | (go_at_call 107; fail))
 have hE2 := hF
 obtain ⟨hown, hBl, hpo, hap⟩ := hE2.result
 have hres := hide (desk_set hE2.one.res (.slice ay row.length cy) (.slice aq past.length cq))
 have hcap : past.length ≤ cq := by obtain ⟨us, _, ho, _⟩ := hE2.past; exact own_cap ho
 have hcn : ∀ g o t, aq = some ⟨g, o, t⟩ → w.heap.size ≤ g := fun g o t e => by
  subst e
  obtain ⟨us, _, ho, _⟩ := hE2.past
  have := (ho.lt g rfl).1
  omega
 clear hE2
 exact bodyPost_ret (results_desk2 rfl _ _ (w.heap.size + 2) _ _ rfl hres.out) rfl ⟨_, rfl, hown, ⟨CapN.of hcap hcn, fun _ => ⟨_, _, rfl, hpo, hap⟩⟩, hBl⟩
set_option maxRecDepth 100000 in
set_option maxHeartbeats 2000000 in
theorem specDo_same (x p : Value) (d : Dk) (k n : Int) (w : World) (hx : Ints w x d.1) (hp : PastI w p d.2) (hb : deskB d = true) (hk : Fits k) (hn : Fits n) (h5 : ¬ (k = 5 ∧ n = 0)) (hM : madeV d.1 k n = d.1) : Calls Tryz.prog 66 #[.agg #[x, p], dV k n] w fun e w' =>
 ∃ y, e = .returned (.tuple #[y, .bool (doV d k n).2]) ∧ DeskI w' y (doV d k n).1 ∧ (CapN w.heap.size y ∧ (d.2.length < 8 → PastO w' w.heap.size y (doV d k n).1.2)) ∧ Below w.heap.size w w' := by
 rw [doV_same hb (fun h => h5 ⟨h.1, h.2.1⟩) (.inr hM)]
 obtain ⟨hd1, hd2, hd3⟩ := deskB_is.1 hb
 have hl := sideB_len hd2
 have hD := Do1.new w x p k n
 obtain ⟨W1, hW1⟩ : ∃ W1, ((w.alloc (.cells #[x, p] 31)).alloc (.cells #[.int .i64 k, .int .i64 n] 39)).alloc (.cells #[.slice none 0 0, .slice none 0 0] 31) = W1 := ⟨_, rfl⟩
 rw [hW1] at hD
 have hOK := specDeskOk (.agg #[x, p]) d W1 ⟨x, p, rfl, hx.below hD.below, hp.below hD.below⟩ ⟨by omega, by omega, fun j => by
  by_cases hj : j < d.2.length
  · have := sideB_len (hd1 (d.2.getD j []) (by rw [List.getD, eG9 hj]; exact List.getElem_mem hj)); omega
  · rw [List.getD, List.getElem?_eq_none (by omega)]; simp⟩
 rw [hb] at hOK
 have hCp := fun V (hV : Do1 w x p k n V) => specCopy x p d V (hx.below hV.below) (hp.below hV.below) hb
 have hMd := fun V (hV : Do1 w x p k n V) => specMade x d.1 k n V (hx.below hV.below) hd2 hk hn
 have q5 := fun V => equal_deed hk hn (k' := 5) (n' := 0) (by constructor <;> omega) (by constructor <;> omega) V
 rw [decide_eq_false h5] at q5
 obtain ⟨row, past⟩ := d
 simp only at hd1 hd2 hd3 hl hx hp hCp hMd hOK ⊢
 rw [hM] at hMd
 have hEq := fun (V : World) (r : Value) (hV : Do1 w x p k n V) (hr : Ints V r row) => specSame r x row row V hr (hx.below hV.below) (by omega)
 rw [decide_eq_true (rfl : row = row)] at hEq
 have hrow : ¬ (row = []) := fun e => by rw [e] at hl; simp at hl
 clear hM h5
 obtain ⟨ap, cp, rfl, _⟩ := id hp
 obtain ⟨ax, cx, rfl⟩ := hx.shape
 obtain ⟨a0, a1, _, _⟩ := row_at hD.desk
 unfold dV at hMd ⊢
 go_enter Tryz.func66, Tryz.ntmps66
 go_wp2_with (first
  | (go_at_call 13; go_loud (refine hOK.mono ?_; clear hOK; rintro e W2 ⟨rfl, hB2⟩; have hD2 := hD.more hB2; obtain ⟨a0, a1, _, _⟩ := row_at hD2.desk; clear hD hB2))
  | (go_at_call 65; go_loud (refine (hCp _ hD2).mono ?_; clear hCp; rintro e W3 ⟨y, q, rfl, hy, hq, hB3⟩; have hE := do2_new (d := (row, past)) hD2 hy hq hB3; obtain ⟨ay, cy, rfl⟩ := own_form hy; obtain ⟨aq, cq, rfl⟩ := hq.form; obtain ⟨a0, a1, _, _⟩ := row_at hE.one.desk; obtain ⟨c0, c1, _, _⟩ := row_at hE.one.deed; clear hD2 hB3 hy hq; obtain ⟨W4, hW4⟩ : ∃ W4, W3.alloc (.cells #[.slice ay row.length cy, .slice aq past.length cq] 31) = W4 := ⟨_, rfl⟩; rw [hW4] at hE a0 a1 c0 c1; obtain ⟨e0, e1, f0, f1⟩ := row_at hE.out))
  | (go_at_call 106; go_loud (refine (hMd _ hE.one).mono ?_; clear hMd; rintro e W5 ⟨r, rfl, hr, hB5, hrf⟩; have hqb := do2_block hE; have hrlo : ∀ g, r.ownBlock = some g → w.heap.size ≤ g := (fun g e => lT9 hE.one.below.size (hrf g e)); have hF := hE.more hB5; obtain ⟨a0, a1, _, _⟩ := row_at hF.one.desk; obtain ⟨ar, cr, rfl⟩ := hr.shape; obtain ⟨e0, e1, f0, f1⟩ := row_at hF.out; obtain ⟨r0, r1, g0, g1⟩ := row_at hF.one.res; clear hE hB5))
  | (go_at_call 107; go_loud (refine (hEq _ _ hF.one hr).mono ?_; clear hEq; rintro e W6 ⟨rfl, hB6⟩; have hr6 := hr.below hB6; have hG := hF.more hB6; obtain ⟨a0, a1, _, _⟩ := row_at hG.one.desk; obtain ⟨e0, e1, f0, f1⟩ := row_at hG.out; obtain ⟨r0, r1, g0, g1⟩ := row_at hG.one.res; clear hF hB6 hr)))
 have hE2 := hG
 obtain ⟨hown, hBl, hpo, hap⟩ := hE2.result
 have hres := hide (desk_set hE2.one.res (.slice ay row.length cy) (.slice aq past.length cq))
 have hcap : past.length ≤ cq := by obtain ⟨us, _, ho, _⟩ := hE2.past; exact own_cap ho
 have hcn : ∀ g o t, aq = some ⟨g, o, t⟩ → w.heap.size ≤ g := fun g o t e => by
  subst e
  obtain ⟨us, _, ho, _⟩ := hE2.past
  have := (ho.lt g rfl).1
  omega
 clear hE2
 exact bodyPost_ret (results_desk2 rfl _ _ (w.heap.size + 2) _ _ rfl hres.out) rfl ⟨_, rfl, hown, ⟨CapN.of hcap hcn, fun _ => ⟨_, _, rfl, hpo, hap⟩⟩, hBl⟩
set_option maxRecDepth 100000 in
set_option maxHeartbeats 2000000 in
theorem specDo_made (x p : Value) (d : Dk) (k n : Int) (w : World) (hx : Ints w x d.1) (hp : PastI w p d.2) (hb : deskB d = true) (hk : Fits k) (hn : Fits n) (h5 : ¬ (k = 5 ∧ n = 0)) (h0 : madeV d.1 k n ≠ []) (hM : madeV d.1 k n ≠ d.1) (h8 : d.2.length < 8) : Calls Tryz.prog 66 #[.agg #[x, p], dV k n] w fun e w' =>
 ∃ y, e = .returned (.tuple #[y, .bool (doV d k n).2]) ∧ DeskI w' y (doV d k n).1 ∧ (CapN w.heap.size y ∧ (d.2.length < 8 → PastO w' w.heap.size y (doV d k n).1.2)) ∧ Below w.heap.size w w' := by
 rw [doV_made hb (fun h => h5 ⟨h.1, h.2.1⟩) (fun h => h.elim h0 hM), show pastV d.2 d.1 = d.2 ++ [d.1] by unfold pastV; rw [if_pos h8]]
 obtain ⟨hd1, hd2, hd3⟩ := deskB_is.1 hb
 have hl := sideB_len hd2
 have hD := Do1.new w x p k n
 obtain ⟨W1, hW1⟩ : ∃ W1, ((w.alloc (.cells #[x, p] 31)).alloc (.cells #[.int .i64 k, .int .i64 n] 39)).alloc (.cells #[.slice none 0 0, .slice none 0 0] 31) = W1 := ⟨_, rfl⟩
 rw [hW1] at hD
 have hOK := specDeskOk (.agg #[x, p]) d W1 ⟨x, p, rfl, hx.below hD.below, hp.below hD.below⟩ ⟨by omega, by omega, fun j => by
  by_cases hj : j < d.2.length
  · have := sideB_len (hd1 (d.2.getD j []) (by rw [List.getD, eG9 hj]; exact List.getElem_mem hj)); omega
  · rw [List.getD, List.getElem?_eq_none (by omega)]; simp⟩
 rw [hb] at hOK
 have hCp := fun V (hV : Do1 w x p k n V) => specCopy x p d V (hx.below hV.below) (hp.below hV.below) hb
 have hMd := fun V (hV : Do1 w x p k n V) => specMade x d.1 k n V (hx.below hV.below) hd2 hk hn
 have q5 := fun V => equal_deed hk hn (k' := 5) (n' := 0) (by constructor <;> omega) (by constructor <;> omega) V
 rw [decide_eq_false h5] at q5
 obtain ⟨row, past⟩ := d
 simp only at hd1 hd2 hd3 hl hx hp hCp hMd hOK ⊢
 have hml := sideB_len (made_side hd2 k n h0)
 have hEq := fun (V : World) (r : Value) (hV : Do1 w x p k n V) (hr : Ints V r (madeV row k n)) => specSame r x (madeV row k n) row V hr (hx.below hV.below) (by omega)
 rw [decide_eq_false hM] at hEq
 generalize madeV row k n = M at *
 have hrow : ¬ (M = []) := h0
 clear h0 hM h5 hd1
 obtain ⟨ap, cp, rfl, _⟩ := id hp
 obtain ⟨ax, cx, rfl⟩ := hx.shape
 obtain ⟨a0, a1, _, _⟩ := row_at hD.desk
 unfold dV at hMd ⊢
 go_enter Tryz.func66, Tryz.ntmps66
 go_wp2_with (first
  | (go_at_call 13; go_loud (refine hOK.mono ?_; clear hOK; rintro e W2 ⟨rfl, hB2⟩; have hD2 := hD.more hB2; obtain ⟨a0, a1, _, _⟩ := row_at hD2.desk; clear hD hB2))
  | (go_at_call 65; go_loud (refine (hCp _ hD2).mono ?_; clear hCp; rintro e W3 ⟨y, q, rfl, hy, hq, hB3⟩; have hE := do2_new (d := (row, past)) hD2 hy hq hB3; obtain ⟨ay, cy, rfl⟩ := own_form hy; obtain ⟨aq, cq, rfl⟩ := hq.form; obtain ⟨a0, a1, _, _⟩ := row_at hE.one.desk; obtain ⟨c0, c1, _, _⟩ := row_at hE.one.deed; clear hD2 hB3 hy hq; obtain ⟨W4, hW4⟩ : ∃ W4, W3.alloc (.cells #[.slice ay row.length cy, .slice aq past.length cq] 31) = W4 := ⟨_, rfl⟩; rw [hW4] at hE a0 a1 c0 c1; obtain ⟨e0, e1, f0, f1⟩ := row_at hE.out))
  | (go_at_call 106; go_loud (refine (hMd _ hE.one).mono ?_; clear hMd; rintro e W5 ⟨r, rfl, hr, hB5, hrf⟩; have hqb := do2_block hE; have hrlo : ∀ g, r.ownBlock = some g → w.heap.size ≤ g := (fun g e => lT9 hE.one.below.size (hrf g e)); have hF := hE.more hB5; obtain ⟨a0, a1, _, _⟩ := row_at hF.one.desk; obtain ⟨ar, cr, rfl⟩ := hr.shape; obtain ⟨e0, e1, f0, f1⟩ := row_at hF.out; obtain ⟨r0, r1, g0, g1⟩ := row_at hF.one.res; clear hE hB5))
  | (go_at_call 107; go_loud (refine (hEq _ _ hF.one hr).mono ?_; clear hEq; rintro e W6 ⟨rfl, hB6⟩; have hr6 := hr.below hB6; have hG := hF.more hB6; obtain ⟨a0, a1, _, _⟩ := row_at hG.one.desk; obtain ⟨e0, e1, f0, f1⟩ := row_at hG.out; obtain ⟨r0, r1, g0, g1⟩ := row_at hG.one.res; obtain ⟨us, hul, huo, hur⟩ := hG.past; simp only at hul; have hq6 := (Boxed.new W6 28 (.slice ay row.length cy)).cell; have hb7 := (Below.refl _ W6).alloc (Nat.le_refl _) (.cells #[.slice ay row.length cy] 28); have huo7 := own_below huo hb7; have hG7 := hG.more hb7; have hr7 := hr6.below hb7; have hsz7 := hG7.one.size; have hlt7 := hG7.lt; obtain ⟨W7, hW7⟩ : ∃ W7, W6.alloc (.cells #[.slice ay row.length cy] 28) = W7 := ⟨_, rfl⟩; rw [hW7] at hq6 huo7 hG7 hr7 hsz7 hb7; have hur7 := fun j (hj : j < past.length) => own_below (hur j hj) hb7; clear hF hB6 hr))
  | (at_builtin; go_loud (refine append_slice12 rfl _ _ rfl rfl (w.heap.size + 3) _ us.length us rfl huo7 W6.heap.size rfl hq6 (by omega) (by omega) ?_); intro v8 w8 how8 hg8; go_loud (have hF8 := hG7.append hul huo7 hur7 how8 hg8 hr7 hrf hqb; obtain ⟨a8, c8, rfl⟩ := own_form how8; obtain ⟨k0, k1, k2, k3⟩ := row_at hF8.out; obtain ⟨s0, s1, t0, t1⟩ := row_at hF8.res; have hcap8 := own_cap how8; have hcn8 := (fun g h => (how8.lt g h).1); rw [hul] at hcap8 hF8 ⊢; have hF9 := hide hF8; clear hF8 how8 hg8 hG7 huo7 hur7 hur huo hG)))
 have hF10 := (hF9.out.set1 (.slice a8 (past.length + 1) c8)).set0 (.slice ar M.length cr)
 obtain ⟨hown, hBl⟩ := hF10.result (z := .slice a8 (past.length + 1) c8) (fun _ h => h)
 have hpo := hF10.own2 (z := .slice a8 (past.length + 1) c8)
 have hres := desk_set hF10.res (.slice ar M.length cr) (.slice a8 (past.length + 1) c8)
 exact bodyPost_ret (results_desk2 rfl _ _ (w.heap.size + 2) _ _ rfl hres) rfl ⟨_, rfl, hown, ⟨CapN.of hcap8 (fun g o t e => by subst e; have := hcn8 g rfl; omega), fun _ => ⟨_, _, rfl, hpo, fun g e => ⟨hrlo g e, ints_ownSS hF10.ints (List.length_pos_iff.2 hrow) hF10.own (by simp) g e⟩⟩⟩, hBl⟩
set_option maxRecDepth 100000 in
set_option maxHeartbeats 2000000 in
theorem specDo_full (x p : Value) (d : Dk) (k n : Int) (w : World) (hx : Ints w x d.1) (hp : PastI w p d.2) (hb : deskB d = true) (hk : Fits k) (hn : Fits n) (h5 : ¬ (k = 5 ∧ n = 0)) (h0 : madeV d.1 k n ≠ []) (hM : madeV d.1 k n ≠ d.1) (h8 : d.2.length = 8) : Calls Tryz.prog 66 #[.agg #[x, p], dV k n] w fun e w' =>
 ∃ y, e = .returned (.tuple #[y, .bool (doV d k n).2]) ∧ DeskI w' y (doV d k n).1 ∧ (CapN w.heap.size y ∧ (d.2.length < 8 → PastO w' w.heap.size y (doV d k n).1.2)) ∧ Below w.heap.size w w' := by
 rw [doV_made hb (fun h => h5 ⟨h.1, h.2.1⟩) (fun h => h.elim h0 hM), show pastV d.2 d.1 = (d.2 ++ [d.1]).tail by unfold pastV; rw [if_neg (by omega)]]
 obtain ⟨hd1, hd2, hd3⟩ := deskB_is.1 hb
 have hl := sideB_len hd2
 have hD := Do1.new w x p k n
 obtain ⟨W1, hW1⟩ : ∃ W1, ((w.alloc (.cells #[x, p] 31)).alloc (.cells #[.int .i64 k, .int .i64 n] 39)).alloc (.cells #[.slice none 0 0, .slice none 0 0] 31) = W1 := ⟨_, rfl⟩
 rw [hW1] at hD
 have hOK := specDeskOk (.agg #[x, p]) d W1 ⟨x, p, rfl, hx.below hD.below, hp.below hD.below⟩ ⟨by omega, by omega, fun j => by
  by_cases hj : j < d.2.length
  · have := sideB_len (hd1 (d.2.getD j []) (by rw [List.getD, eG9 hj]; exact List.getElem_mem hj)); omega
  · rw [List.getD, List.getElem?_eq_none (by omega)]; simp⟩
 rw [hb] at hOK
 have hCp := fun V (hV : Do1 w x p k n V) => specCopy x p d V (hx.below hV.below) (hp.below hV.below) hb
 have hMd := fun V (hV : Do1 w x p k n V) => specMade x d.1 k n V (hx.below hV.below) hd2 hk hn
 have q5 := fun V => equal_deed hk hn (k' := 5) (n' := 0) (by constructor <;> omega) (by constructor <;> omega) V
 rw [decide_eq_false h5] at q5
 obtain ⟨row, past⟩ := d
 simp only at hd1 hd2 hd3 hl hx hp hCp hMd hOK ⊢
 have hml := sideB_len (made_side hd2 k n h0)
 have hEq := fun (V : World) (r : Value) (hV : Do1 w x p k n V) (hr : Ints V r (madeV row k n)) => specSame r x (madeV row k n) row V hr (hx.below hV.below) (by omega)
 rw [decide_eq_false hM] at hEq
 generalize madeV row k n = M at *
 have hrow : ¬ (M = []) := h0
 clear h0 hM h5 hd1
 have h8' : past.length = 8 := h8
 have hgt : (past.length : Int) + 1 > 8 := by omega
 have hgn : 8 ≤ past.length := by omega
 clear h8 h8'
 obtain ⟨ap, cp, rfl, _⟩ := id hp
 obtain ⟨ax, cx, rfl⟩ := hx.shape
 obtain ⟨a0, a1, _, _⟩ := row_at hD.desk
 unfold dV at hMd ⊢
 go_enter Tryz.func66, Tryz.ntmps66
 go_wp2_with (first
  | (go_at_call 13; go_loud (refine hOK.mono ?_; clear hOK; rintro e W2 ⟨rfl, hB2⟩; have hD2 := hD.more hB2; obtain ⟨a0, a1, _, _⟩ := row_at hD2.desk; clear hD hB2))
  | (go_at_call 65; go_loud (refine (hCp _ hD2).mono ?_; clear hCp; rintro e W3 ⟨y, q, rfl, hy, hq, hB3⟩; have hE := do2_new (d := (row, past)) hD2 hy hq hB3; obtain ⟨ay, cy, rfl⟩ := own_form hy; obtain ⟨aq, cq, rfl⟩ := hq.form; obtain ⟨a0, a1, _, _⟩ := row_at hE.one.desk; obtain ⟨c0, c1, _, _⟩ := row_at hE.one.deed; clear hD2 hB3 hy hq; obtain ⟨W4, hW4⟩ : ∃ W4, W3.alloc (.cells #[.slice ay row.length cy, .slice aq past.length cq] 31) = W4 := ⟨_, rfl⟩; rw [hW4] at hE a0 a1 c0 c1; obtain ⟨e0, e1, f0, f1⟩ := row_at hE.out))
  | (go_at_call 106; go_loud (refine (hMd _ hE.one).mono ?_; clear hMd; rintro e W5 ⟨r, rfl, hr, hB5, hrf⟩; have hqb := do2_block hE; have hrlo : ∀ g, r.ownBlock = some g → w.heap.size ≤ g := (fun g e => lT9 hE.one.below.size (hrf g e)); have hF := hE.more hB5; obtain ⟨a0, a1, _, _⟩ := row_at hF.one.desk; obtain ⟨ar, cr, rfl⟩ := hr.shape; obtain ⟨e0, e1, f0, f1⟩ := row_at hF.out; obtain ⟨r0, r1, g0, g1⟩ := row_at hF.one.res; clear hE hB5))
  | (go_at_call 107; go_loud (refine (hEq _ _ hF.one hr).mono ?_; clear hEq; rintro e W6 ⟨rfl, hB6⟩; have hr6 := hr.below hB6; have hG := hF.more hB6; obtain ⟨a0, a1, _, _⟩ := row_at hG.one.desk; obtain ⟨e0, e1, f0, f1⟩ := row_at hG.out; obtain ⟨r0, r1, g0, g1⟩ := row_at hG.one.res; obtain ⟨us, hul, huo, hur⟩ := hG.past; simp only at hul; have hq6 := (Boxed.new W6 28 (.slice ay row.length cy)).cell; have hb7 := (Below.refl _ W6).alloc (Nat.le_refl _) (.cells #[.slice ay row.length cy] 28); have huo7 := own_below huo hb7; have hG7 := hG.more hb7; have hr7 := hr6.below hb7; have hsz7 := hG7.one.size; have hlt7 := hG7.lt; obtain ⟨W7, hW7⟩ : ∃ W7, W6.alloc (.cells #[.slice ay row.length cy] 28) = W7 := ⟨_, rfl⟩; rw [hW7] at hq6 huo7 hG7 hr7 hsz7 hb7; have hur7 := fun j (hj : j < past.length) => own_below (hur j hj) hb7; clear hF hB6 hr))
  | (at_builtin; go_loud (refine append_slice12 rfl _ _ rfl rfl (w.heap.size + 3) _ us.length us rfl huo7 W6.heap.size rfl hq6 (by omega) (by omega) ?_); intro v8 w8 how8 hg8; go_loud (have hF8 := hG7.append hul huo7 hur7 how8 hg8 hr7 hrf hqb; obtain ⟨G8, c8, rfl⟩ := own_some how8 (Nat.succ_pos _); obtain ⟨k0, k1, k2, k3⟩ := row_at hF8.out; obtain ⟨s0, s1, t0, t1⟩ := row_at hF8.res; have hcap8 := own_cap how8; have hcn8 := (fun g h => (how8.lt g h).1); rw [hul] at hcap8 hF8 ⊢; have hc81 : ¬ c8 = 1 := (fun e => (by rw [e] at hcap8; omega)); have hF9 := hide hF8; clear hF8 how8 hg8 hG7 huo7 hur7 hur huo hG)))
 have hF10 := ((hF9.out.set1 (.slice (some ⟨G8, 0, none⟩) (past.length + 1) c8)).set1 (.slice (some ⟨G8, 1, none⟩) past.length (c8 - 1))).set0 (.slice ar M.length cr)
 obtain ⟨hown, hBl⟩ := hF10.result (z := .slice (some ⟨G8, 1, none⟩) past.length (c8 - 1)) (fun _ h => past_tail h)
 have hres := desk_set hF10.res (.slice ar M.length cr) (.slice (some ⟨G8, 1, none⟩) past.length (c8 - 1))
 exact bodyPost_ret (results_desk2 rfl _ _ (w.heap.size + 2) _ _ rfl hres) rfl ⟨_, rfl, hown, ⟨CapN.of (by omega) (fun g o t e => by injection e with e; injection e with e _; subst e; exact lT9 (Nat.le_add_right _ 3) (hcn8 G8 rfl)), fun h => absurd (show past.length < 8 from h) (by omega)⟩, hBl⟩
theorem past_take {W : World} {G o L c : Nat} {rows : List (List Int)} (h : PastI W (.slice (some ⟨G, o, none⟩) (L + 1) c) rows) : PastI W (.slice (some ⟨G, o, none⟩) L c) (rows.take L) := by
 obtain ⟨a, c', e, hr⟩ := h
 injection e with e1 e2 e3
 subst e1
 have hl : (rows.take L).length = L := by rw [List.length_take]; omega
 refine ⟨some ⟨G, o, none⟩, c, by rw [hl], fun h0 => ?_⟩
 obtain ⟨G', o', e, hG, hc⟩ := hr (by omega)
 injection e with e
 injection e with e4 e5
 subst e4 e5
 refine ⟨G, o, rfl, hG, fun j hj => ?_⟩
 rw [hl] at hj
 obtain ⟨u, h1, h2⟩ := hc j (by omega)
 refine ⟨u, h1, ?_⟩
 rw [List.getD, List.getElem?_take, if_pos hj]
 exact h2
set_option maxRecDepth 100000 in
set_option maxHeartbeats 2000000 in
theorem specDo_back (x p : Value) (d : Dk) (k n : Int) (w : World) (hx : Ints w x d.1) (hp : PastI w p d.2) (hb : deskB d = true) (hk : Fits k) (hn : Fits n) (h5 : k = 5 ∧ n = 0) (L : Nat) (hL : d.2.length = L + 1) : Calls Tryz.prog 66 #[.agg #[x, p], dV k n] w fun e w' =>
 ∃ y, e = .returned (.tuple #[y, .bool (doV d k n).2]) ∧ DeskI w' y (doV d k n).1 ∧ (CapN w.heap.size y ∧ (d.2.length < 8 → PastO w' w.heap.size y (doV d k n).1.2)) ∧ Below w.heap.size w w' := by
 obtain ⟨rfl, rfl⟩ := h5
 rw [doV_back hb (by omega)]
 obtain ⟨hd1, hd2, hd3⟩ := deskB_is.1 hb
 have hl := sideB_len hd2
 have hD := Do1.new w x p 5 0
 obtain ⟨W1, hW1⟩ : ∃ W1, ((w.alloc (.cells #[x, p] 31)).alloc (.cells #[.int .i64 5, .int .i64 0] 39)).alloc (.cells #[.slice none 0 0, .slice none 0 0] 31) = W1 := ⟨_, rfl⟩
 rw [hW1] at hD
 have hOK := specDeskOk (.agg #[x, p]) d W1 ⟨x, p, rfl, hx.below hD.below, hp.below hD.below⟩ ⟨by omega, by omega, fun j => by
  by_cases hj : j < d.2.length
  · have := sideB_len (hd1 (d.2.getD j []) (by rw [List.getD, eG9 hj]; exact List.getElem_mem hj)); omega
  · rw [List.getD, List.getElem?_eq_none (by omega)]; simp⟩
 rw [hb] at hOK
 have hCp := fun V (hV : Do1 w x p 5 0 V) => specCopy x p d V (hx.below hV.below) (hp.below hV.below) hb
 have hMd := fun V (hV : Do1 w x p 5 0 V) => specMade x d.1 5 0 V (hx.below hV.below) hd2 hk hn
 have q5 := fun V => equal_deed (k := 5) (n := 0) (by constructor <;> omega) (by constructor <;> omega) (k' := 5) (n' := 0) (by constructor <;> omega) (by constructor <;> omega) V
 have e5 : decide ((5 : Int) = 5 ∧ (0 : Int) = 0) = true := by decide
 rw [e5] at q5
 obtain ⟨row, past⟩ := d
 simp only at hd1 hd2 hd3 hl hx hp hCp hMd hOK ⊢
 have hpst : pstV past = past.getD L [] := by unfold pstV; rw [show past.length = L + 1 from hL]; rfl
 have hLt : past.length - 1 = L := by rw [show past.length = L + 1 from hL]; rfl
 rw [hpst, hLt]
 obtain ⟨R, hRR⟩ : ∃ R, past.getD L [] = R := ⟨_, rfl⟩
 rw [hRR]
 have hRh := hide hRR
 have hR1 : 0 < R.length := by
  rw [← hRR]
  have hLl : L < past.length := by rw [show past.length = L + 1 from hL]; omega
  exact (sideB_len (hd1 (past.getD L []) (by rw [List.getD, eG9 hLl]; exact List.getElem_mem hLl))).1
 clear hRR
 have hL' : past.length = L + 1 := hL
 have hL0 : 0 < past.length := by omega
 have hLlt : L < past.length := by omega
 have hLb : L ≤ 8 := by omega
 have hhL := hide hL'
 clear e5 hpst hLt hd1 hd2 hMd
 obtain ⟨ap, cp, ep, _⟩ := id hp
 rw [hL'] at ep
 subst ep
 obtain ⟨ax, cx, rfl⟩ := hx.shape
 obtain ⟨a0, a1, _, _⟩ := row_at hD.desk
 unfold dV
 clear hL hL' hl hd3
 go_enter Tryz.func66, Tryz.ntmps66
 go_wp2_with (first
  | (go_at_call 13; go_loud (refine hOK.mono ?_; clear hOK; rintro e W2 ⟨rfl, hB2⟩; have hD2 := hD.more hB2; obtain ⟨a0, a1, _, _⟩ := row_at hD2.desk; clear hD hB2))
  | (go_at_call 65; go_loud (refine (hCp _ hD2).mono ?_; clear hCp; rintro e W3 ⟨y, q, rfl, hy, hq, hB3⟩; have hE := do2_new (d := (row, past)) hD2 hy hq hB3; obtain ⟨ay, cy, rfl⟩ := own_form hy; obtain ⟨gq, cq, eq0, hgq, hcq⟩ := hq.read2 hL0; obtain ⟨uL, hul, huL, huo⟩ := hcq L hLlt; have hallo : ∀ g, uL.ownBlock = some g → w.heap.size ≤ g := (fun g e => lT9 hD2.below.size (huo.lt g e).1); clear huo; rw [hRh.out] at huL; obtain ⟨al, cl, rfl⟩ := huL.shape; rw [hhL.out] at eq0; subst eq0; have hcnb := hD2.below.size; have hcp0 := own_cap (Classical.choose_spec hq).2.1; have hcn0 := lT9 hcnb ((Classical.choose_spec hq).2.1.lt gq rfl).1; have hcp1 : L ≤ cq := (by omega); obtain ⟨a0, a1, _, _⟩ := row_at hE.one.desk; obtain ⟨c0, c1, _, _⟩ := row_at hE.one.deed; clear hD2 hB3 hy hq; have hba := (Below.refl _ W3).alloc (Nat.le_refl _) (.cells #[.slice ay row.length cy, .slice (some ⟨gq, 0, none⟩) (L + 1) cq] 31); have hul4 := (hba.cell (p := ⟨gq, L, none⟩) hgq).trans hul; have huL4 := huL.below hba; obtain ⟨W4, hW4⟩ : ∃ W4, W3.alloc (.cells #[.slice ay row.length cy, .slice (some ⟨gq, 0, none⟩) (L + 1) cq] 31) = W4 := ⟨_, rfl⟩; rw [hW4] at hE a0 a1 c0 c1 hul4 huL4; obtain ⟨e0, e1, f0, f1⟩ := row_at hE.out; obtain ⟨r0, r1, g0, g1⟩ := row_at hE.one.res; have hF : Fin12 w W3.heap.size _ _ (.slice al R.length cl) R _ past W4 := ⟨hE.one.below, hE.lt, hE.out, hE.one.res, hE.past, huL4⟩; have hF10 := hide ((hF.set0 (.slice al R.length cl)).set1 (.slice (some ⟨gq, 0, none⟩) L cq)); have hgb : ¬ gq = W3.heap.size := (Nat.ne_of_lt hgq); have hlt0 := hE.lt; clear hF hE hcq huL hul huL4 hba hcp0 hgq))
  | (go_at_call 106; go_loud (refine (hMd _ hE.one).mono ?_; clear hMd; rintro e W5 ⟨r, rfl, hr, hB5, hrf⟩; have hqb := do2_block hE; have hrlo : ∀ g, r.ownBlock = some g → w.heap.size ≤ g := (fun g e => lT9 hE.one.below.size (hrf g e)); have hF := hE.more hB5; obtain ⟨a0, a1, _, _⟩ := row_at hF.one.desk; obtain ⟨ar, cr, rfl⟩ := hr.shape; obtain ⟨e0, e1, f0, f1⟩ := row_at hF.out; obtain ⟨r0, r1, g0, g1⟩ := row_at hF.one.res; clear hE hB5))
  | (go_at_call 106; fail))
 obtain ⟨hown, hBl⟩ := hF10.out.result (z := .slice (some ⟨gq, 0, none⟩) L cq) (fun _ h => past_take h)
 have hpo := ownSS_take (hF10.out.own2 (z := .slice (some ⟨gq, 0, none⟩) L cq))
 have hres := desk_set hF10.out.res (.slice al R.length cl) (.slice (some ⟨gq, 0, none⟩) L cq)
 exact bodyPost_ret (results_desk2 rfl _ _ (w.heap.size + 2) _ _ rfl hres) rfl ⟨_, rfl, hown, ⟨CapN.of (by omega) (fun g o t e => by injection e with e; injection e with e _; subst e; exact hcn0), fun _ => ⟨_, _, rfl, hpo, fun g e1 => ⟨hallo g e1, fun e2 => ints_ownSS hF10.out.ints hR1 hF10.out.own (by omega) g e1 e2⟩⟩⟩, hBl⟩
end
section
open Go.RowKit
theorem specDo (v : Value) (d : Dk) (k n : Int) (w : World) (hv : DeskI w v d) (hs : DkS d) (hk : Fits k) (hn : Fits n) : Calls Tryz.prog 66 #[v, dV k n] w fun e w' =>
 ∃ y, e = .returned (.tuple #[y, .bool (doV d k n).2]) ∧ DeskI w' y (doV d k n).1 ∧ (CapN w.heap.size y ∧ (d.2.length < 8 → PastO w' w.heap.size y (doV d k n).1.2)) ∧ Below w.heap.size w w' := by
 cases hb : deskB d with
 | false => exact specDo_no v d k n w hv hs hb
 | true =>
   obtain ⟨x, p, rfl, hx, hp⟩ := hv
   by_cases h5 : k = 5 ∧ n = 0
   · by_cases h0 : d.2.length = 0
     · exact specDo_none x p d k n w hx hp hb hk hn h5 h0
     · exact specDo_back x p d k n w hx hp hb hk hn h5 (d.2.length - 1) (by omega)
   · by_cases h0 : madeV d.1 k n = []
     · exact specDo_empty x p d k n w hx hp hb hk hn h5 h0
     · by_cases h1 : madeV d.1 k n = d.1
       · exact specDo_same x p d k n w hx hp hb hk hn h5 h1
       · have h8 := (deskB_is.1 hb).2.2
         by_cases h : d.2.length = 8
         · exact specDo_full x p d k n w hx hp hb hk hn h5 h0 h1 h
         · exact specDo_made x p d k n w hx hp hb hk hn h5 h0 h1 (by omega)
end
section
open Go Go.RowKit
def Made0 (c n1 n2 b0 : Nat) (Z : Value) (R : World → Value → Prop) (pre : Nat → Value → World → Prop) (i : Nat) (v : Value) (V : World) : Prop :=
 (i < c → pre i v V) ∧ (i = c ∨ i = c + 1 → ∃ a1 c1 a2 c2, v = .tuple #[.agg #[.slice a1 n1 c1, .slice a2 n2 c2], Z] ∧ R V (.agg #[.slice a1 n1 c1, .slice a2 n2 c2])) ∧
 (i = c + 2 → ∃ a1 c1 a2 c2, v = .agg #[.slice a1 n1 c1, .slice a2 n2 c2] ∧ R V (.agg #[.slice a1 n1 c1, .slice a2 n2 c2])) ∧ (i = c + 3 → v = Z) ∧
 (i = c + 4 → ∃ b, v = .pointer (some ⟨b, 0, none⟩) ∧ b0 ≤ b ∧ V.heap[b]? = some (.cells #[.slice none 0 0, .slice none 0 0] 31 (0, 0)))
def Made1 (c n1 n2 b0 : Nat) (Z : Value) (R : World → Value → Prop) (i : Nat) (v : Value) (V : World) : Prop :=
 (i = c + 1 → ∃ x, v = .tuple #[x, Z]) ∧ (i = c + 3 → v = Z) ∧
 (i = c + 4 → ∃ b, v = .pointer (some ⟨b, 0, none⟩) ∧ b0 ≤ b ∧ ∃ a1 c1 a2 c2, V.heap[b]? = some (.cells #[.slice a1 n1 c1, .slice a2 n2 c2] 31 (0, 0)) ∧ R V (.agg #[.slice a1 n1 c1, .slice a2 n2 c2]))
theorem wpIn_region_made {F : Fence} {n : Nat} {id : Nat} {ops : Array Oper} {Q : Exit → Act → World → Prop} {a : Act} {W : World} (c n1 n2 : Nat) (Z : Value) (R : World → Value → Prop)
    (hm : Tryz.prog.follows .mixedOrders = true) (hb : backB ops = true) (ht : tailB ops (c + 6) = true) (hsz : c + 6 < ops.size)
    (hdep : (depB ops (c + 1) c && depB ops (c + 2) (c + 1) && depB ops (c + 3) (c + 1) && depB ops (c + 5) (c + 2) && depB ops (c + 5) (c + 4)) = true)
    (hnd : ((List.range (c + 5)).all fun i => (i == c + 3) || needs ops (c + 5) ops.size i) = true)
    (fr : (Nat → Value) → Act) (pre : Nat → Value → World → Prop) (hpre : ∀ k v V V', pre k v V → Below V.heap.size V V' → pre k v V')
    (hRb : ∀ V V' y, R V y → Below V.heap.size V V' → R V' y)
    (hRs : ∀ V b a1 c1 a2 c2, R V (.agg #[.slice a1 n1 c1, .slice a2 n2 c2]) → W.heap.size ≤ b → V.heap[b]? = some (.cells #[.slice none 0 0, .slice none 0 0] 31 (0, 0)) → R ((V.setCell ⟨b, 0, none⟩ (.slice a1 n1 c1)).setCell ⟨b, 1, none⟩ (.slice a2 n2 c2)) (.agg #[.slice a1 n1 c1, .slice a2 n2 c2]))
    (h0 : ∃ s, a = fr s) (hput : ∀ i o s v, i < c + 6 → ops[i]? = some o → (fr s).put o.dst v = fr (fun j => if j = i then v else s j))
    (hstep : ∀ i o s V, i < c → ops[i]? = some o → Below W.heap.size W V → (∀ k, k < c → depB ops i k = true → pre k (s k) V) → ∀ Q' : Exit → Act → World → Prop,
      (∀ v V', Below V.heap.size V V' → pre i v V' → Q' .normal ((fr s).put o.dst v) V') → wpListIn F n Tryz.prog ops Q' [o] (fr s) V)
    (hcall : ∀ o s V, ops[c]? = some o → Below W.heap.size W V → (∀ k, k < c → depB ops c k = true → pre k (s k) V) → ∀ Q' : Exit → Act → World → Prop,
      (∀ a1 c1 a2 c2 V', Below V.heap.size V V' → R V' (.agg #[.slice a1 n1 c1, .slice a2 n2 c2]) → Q' .normal ((fr s).put o.dst (.tuple #[.agg #[.slice a1 n1 c1, .slice a2 n2 c2], Z])) V') → wpListIn F n Tryz.prog ops Q' [o] (fr s) V)
    (hmove : ∀ o s V y (Q' : Exit → Act → World → Prop), ops[c + 1]? = some o → s c = y → Q' .normal ((fr s).put o.dst y) V → wpListIn F n Tryz.prog ops Q' [o] (fr s) V)
    (hext0 : ∀ o s V x z (Q' : Exit → Act → World → Prop), ops[c + 2]? = some o → s (c + 1) = .tuple #[x, z] → Q' .normal ((fr s).put o.dst x) V → wpListIn F n Tryz.prog ops Q' [o] (fr s) V)
    (hext1 : ∀ o s V x z (Q' : Exit → Act → World → Prop), ops[c + 3]? = some o → s (c + 1) = .tuple #[x, z] → Q' .normal ((fr s).put o.dst z) V → wpListIn F n Tryz.prog ops Q' [o] (fr s) V)
    (halloc : ∀ o s V (Q' : Exit → Act → World → Prop), ops[c + 4]? = some o → Q' .normal ((fr s).put o.dst (.pointer (some ⟨V.heap.size, 0, none⟩))) (V.alloc (.cells #[.slice none 0 0, .slice none 0 0] 31)) → wpListIn F n Tryz.prog ops Q' [o] (fr s) V)
    (hstore : ∀ o s V b a1 c1 a2 c2 (Q' : Exit → Act → World → Prop), ops[c + 5]? = some o → s (c + 4) = .pointer (some ⟨b, 0, none⟩) → s (c + 2) = .agg #[.slice a1 n1 c1, .slice a2 n2 c2] → V.heap[b]? = some (.cells #[.slice none 0 0, .slice none 0 0] 31 (0, 0)) →
      Q' .normal ((fr s).put o.dst undef) ((V.setCell ⟨b, 0, none⟩ (.slice a1 n1 c1)).setCell ⟨b, 1, none⟩ (.slice a2 n2 c2)) → wpListIn F n Tryz.prog ops Q' [o] (fr s) V)
    (htail : ∀ s V b a1 c1 a2 c2, Below W.heap.size W V → s (c + 4) = .pointer (some ⟨b, 0, none⟩) → W.heap.size ≤ b → V.heap[b]? = some (.cells #[.slice a1 n1 c1, .slice a2 n2 c2] 31 (0, 0)) → R V (.agg #[.slice a1 n1 c1, .slice a2 n2 c2]) → s (c + 3) = Z → wpListIn F n Tryz.prog ops Q (ops.toList.drop (c + 6)) (fr s) V) : (Code.region id ops true).wpIn F n Tryz.prog Q a W := by
  simp only [Bool.and_eq_true] at hdep
  obtain ⟨⟨⟨⟨d1, d2⟩, d3⟩, d4⟩, d5⟩ := hdep
  refine wpIn_region_store (c + 5) (c + 6) hm hb ht (by omega) hsz fr (fun _ V => Below W.heap.size W V) (fun V V' => Below V.heap.size V V')
    (fun ph k v V => (ph = false → Made0 c n1 n2 W.heap.size Z R pre k v V) ∧ (ph = true → Made1 c n1 n2 W.heap.size Z R k v V)) h0 hput (Below.refl _ _).drew ?mono ?step ?mid ?tail
  case mono =>
    rintro ph k v V V' ⟨h1, h2⟩ hg
    refine ⟨fun e => ?_, fun e => ?_⟩
    · obtain ⟨f1, f2, f3, f4, f5⟩ := h1 e
      refine ⟨fun e => hpre _ _ _ _ (f1 e) hg, fun e => ?_, fun e => ?_, f4, fun e => ?_⟩
      · obtain ⟨a1, c1, a2, c2, g1, g2⟩ := f2 e
        exact ⟨a1, c1, a2, c2, g1, hRb _ _ _ g2 hg⟩
      · obtain ⟨a1, c1, a2, c2, g1, g2⟩ := f3 e
        exact ⟨a1, c1, a2, c2, g1, hRb _ _ _ g2 hg⟩
      · obtain ⟨b, g1, g2, g3⟩ := f5 e
        exact ⟨b, g1, g2, (hg.block _ (gE9.1 g3).1).trans g3⟩
    · obtain ⟨f1, f2, f3⟩ := h2 e
      refine ⟨f1, f2, fun e => ?_⟩
      obtain ⟨b, g1, g2, a1, c1, a2, c2, g3, g4⟩ := f3 e
      exact ⟨b, g1, g2, a1, c1, a2, c2, (hg.block _ (gE9.1 g3).1).trans g3, hRb _ _ _ g4 hg⟩
  case step =>
    intro ph i o s V hi hip hnp ho hV hd Q' hQ'
    by_cases e3 : i = c + 3
    · subst e3
      have hx : ∃ x, s (c + 1) = .tuple #[x, Z] := by
        cases ph with
        | false => obtain ⟨a1, c1, a2, c2, g1, _⟩ := ((hd _ d3).1 rfl).2.1 (.inr rfl); exact ⟨_, g1⟩
        | true => exact ((hd _ d3).2 rfl).1 rfl
      obtain ⟨x, hx⟩ := hx
      refine hext1 o s V x Z Q' ho hx (hQ' _ _ hV (Below.refl _ _) ⟨fun _ => ⟨fun e => by omega, fun e => by omega, fun e => by omega, fun _ => rfl, fun e => by omega⟩, fun _ => ⟨fun e => by omega, fun _ => rfl, fun e => by omega⟩⟩)
    · have hph : ph = false := by
        cases ph with
        | false => rfl
        | true =>
          have h1 := hnp rfl
          have h2 := List.all_eq_true.1 hnd i (List.mem_range.2 (by omega))
          rw [h1] at h2
          simp at h2
          exact absurd h2 e3
      subst hph
      have hd0 := fun k hk => (hd k hk).1 rfl
      have hq : ∀ v V', Below V.heap.size V V' → Made0 c n1 n2 W.heap.size Z R pre i v V' → Q' .normal ((fr s).put o.dst v) V' := fun v V' h1 h2 => hQ' v V' (hV.trans (h1.mono hV.size)) h1 ⟨fun _ => h2, fun e => by cases e⟩
      by_cases ec : i < c
      · exact hstep i o s V ec ho hV (fun k hk hdk => (hd0 k hdk).1 hk) Q' (fun v V' h1 h2 => hq v V' h1 ⟨fun _ => h2, fun e => by omega, fun e => by omega, fun e => by omega, fun e => by omega⟩)
      · by_cases e0 : i = c
        · subst e0
          exact hcall o s V ho hV (fun k hk hdk => (hd0 k hdk).1 hk) Q' (fun a1 c1 a2 c2 V' h1 h2 => hq _ V' h1 ⟨fun e => by omega, fun _ => ⟨a1, c1, a2, c2, rfl, h2⟩, fun e => by omega, fun e => by omega, fun e => by omega⟩)
        · by_cases e1 : i = c + 1
          · subst e1
            have h := (hd0 _ d1).2.1 (.inl rfl)
            exact hmove o s V _ Q' ho rfl (hq _ V (Below.refl _ _) ⟨fun e => by omega, fun _ => h, fun e => by omega, fun e => by omega, fun e => by omega⟩)
          · by_cases e2 : i = c + 2
            · subst e2
              obtain ⟨a1, c1, a2, c2, g1, g2⟩ := (hd0 _ d2).2.1 (.inr rfl)
              exact hext0 o s V _ _ Q' ho g1 (hq _ V (Below.refl _ _) ⟨fun e => by omega, fun e => by omega, fun _ => ⟨a1, c1, a2, c2, rfl, g2⟩, fun e => by omega, fun e => by omega⟩)
            · have e4 : i = c + 4 := by omega
              subst e4
              exact halloc o s V Q' ho (hq _ _ ((Below.refl _ V).alloc (Nat.le_refl _) _) ⟨fun e => by omega, fun e => by omega, fun e => by omega, fun e => by omega, fun _ => ⟨V.heap.size, rfl, hV.size, aN9 V _⟩⟩)
  case mid =>
    intro o s V ho hV hd Q' hQ'
    obtain ⟨a1, c1, a2, c2, g1, g2⟩ := ((hd _ d4).1 rfl).2.2.1 rfl
    obtain ⟨b, g3, g4, g5⟩ := ((hd _ d5).1 rfl).2.2.2.2 rfl
    refine hstore o s V b a1 c1 a2 c2 Q' ho g3 g1 g5 (hQ' undef _ ((hV.setCell (p := ⟨b, 0, none⟩) g4 _).setCell (p := ⟨b, 1, none⟩) g4 _) (fun k hk hΦ => ⟨fun e => (by cases e), fun _ => ?_⟩) ⟨fun e => (by cases e), fun _ => ⟨fun e => by omega, fun e => by omega, fun e => by omega⟩⟩)
    have h := hΦ.1 rfl
    refine ⟨fun e => ?_, h.2.2.2.1, fun e => ?_⟩
    · obtain ⟨_, _, _, _, e1, _⟩ := h.2.1 (.inr e)
      exact ⟨_, e1⟩
    · subst e
      exact ⟨b, g3, g4, a1, c1, a2, c2, desk_set g5 _ _, hRs V b a1 c1 a2 c2 g2 g4 g5⟩
  case tail =>
    intro s V hV hd
    obtain ⟨b, g1, g2, a1, c1, a2, c2, g3, g4⟩ := ((hd (c + 4) (by omega)).2 rfl).2.2 rfl
    exact htail s V b a1 c1 a2 c2 hV g1 g2 g3 g4 (((hd (c + 3) (by omega)).2 rfl).2.1 rfl)
end
section
open Go.RowKit Go.Shelf
attribute [local go_sem] Oper.semAt_some
theorem deskI_over {V : World} {base b n1 c1 n2 c2 m1 e1 m2 e2 : Nat} {a1 a2 s1 s2 : Option Addr} {t : TypeId} {v : Value} {D : Dk} (h : DeskI V v D) (hN : ∀ x g o t n c, v = .agg #[x, .slice (some ⟨g, o, t⟩) n c] → base ≤ g) (hb : b < base) (kb : V.heap[b]? = some (.cells #[.slice a1 n1 c1, .slice a2 n2 c2] t (0, 0))) :
 DeskI ((V.setCell ⟨b, 0, none⟩ (.slice s1 m1 e1)).setCell ⟨b, 1, none⟩ (.slice s2 m2 e2)) v D := by
 obtain ⟨x, p, rfl, hx, hp⟩ := h
 have g0 := grownBy_setAt V b 0 (.slice s1 m1 e1)
 have k1 := set_cells kb 0 (.slice s1 m1 e1)
 have g1 := grownBy_setAt (V.setCell ⟨b, 0, none⟩ (.slice s1 m1 e1)) b 1 (.slice s2 m2 e2)
 have hI : ∀ u xs, Ints V u xs → Ints ((V.setCell ⟨b, 0, none⟩ (.slice s1 m1 e1)).setCell ⟨b, 1, none⟩ (.slice s2 m2 e2)) u xs := fun u xs h => ints_grown (ints_grown h kb g0) k1 g1
 refine ⟨x, p, rfl, hI _ _ hx, ?_⟩
 obtain ⟨a, c, rfl, h⟩ := hp
 refine ⟨a, c, rfl, fun h0 => ?_⟩
 obtain ⟨G, o, rfl, hG, hc⟩ := h h0
 have hGb := hN _ G o _ _ _ rfl
 have hne : G ≠ b := by omega
 refine ⟨G, o, rfl, lL9 hG (lT9 g0.size g1.size), fun j hj => ?_⟩
 obtain ⟨u, h1, h2⟩ := hc j hj
 refine ⟨u, ?_, hI _ _ h2⟩
 have q0 := g0.block G hG (fun e => hne (by injection e))
 have q1 := g1.block G (lL9 hG g0.size) (fun e => hne (by injection e))
 exact (World.cell?_of_block (w := V) (q1.trans q0)).trans h1
theorem deskI_store {V : World} {b n1 c1 n2 c2 : Nat} {a1 a2 : Option Addr} {v : Value} {D : Dk} (h : DeskI V v D) (hv : v = .agg #[.slice a1 n1 c1, .slice a2 n2 c2]) (kb : V.heap[b]? = some (.cells #[.slice none 0 0, .slice none 0 0] 31 (0, 0))) (hr : ∀ j, j < D.2.length → 1 ≤ (D.2.getD j []).length) :
 DeskI ((V.setCell ⟨b, 0, none⟩ (.slice a1 n1 c1)).setCell ⟨b, 1, none⟩ (.slice a2 n2 c2)) (.agg #[.slice a1 n1 c1, .slice a2 n2 c2]) D := by
 obtain ⟨x, p, e, hx, hp⟩ := h
 rw [e] at hv
 have g0 := grownBy_setAt V b 0 (.slice a1 n1 c1)
 have k1 := set_cells kb 0 (.slice a1 n1 c1)
 have g1 := grownBy_setAt (V.setCell ⟨b, 0, none⟩ (.slice a1 n1 c1)) b 1 (.slice a2 n2 c2)
 have hI : ∀ u xs, Ints V u xs → Ints ((V.setCell ⟨b, 0, none⟩ (.slice a1 n1 c1)).setCell ⟨b, 1, none⟩ (.slice a2 n2 c2)) u xs := fun u xs h => ints_grown (ints_grown h kb g0) k1 g1
 rw [← hv]
 refine ⟨x, p, rfl, hI _ _ hx, ?_⟩
 obtain ⟨a, c, rfl, h⟩ := hp
 refine ⟨a, c, rfl, fun h0 => ?_⟩
 obtain ⟨G, o, rfl, hG, hc⟩ := h h0
 have hne : G ≠ b := fun e => by
  subst e
  obtain ⟨u, h1, h2⟩ := hc 0 h0
  obtain ⟨g, cc, e2, _⟩ := h2.cells (hr 0 h0)
  unfold World.cell? at h1
  rw [kb] at h1
  subst e2
  match o, h1 with
  | 0, h1 => simp at h1
  | 1, h1 => simp at h1
  | (q + 2), h1 => simp at h1
 refine ⟨G, o, rfl, lL9 hG (lT9 g0.size g1.size), fun j hj => ?_⟩
 obtain ⟨u, h1, h2⟩ := hc j hj
 refine ⟨u, ?_, hI _ _ h2⟩
 have q0 := g0.block G hG (fun e => hne (by injection e))
 have q1 := g1.block G (lL9 hG g0.size) (fun e => hne (by injection e))
 exact (World.cell?_of_block (w := V) (q1.trans q0)).trans h1
theorem deskB_size {d : Dk} (h : deskB d = true) : DkS d := by
 obtain ⟨h1, h2, h3⟩ := deskB_is.1 h
 have := sideB_len h2
 refine ⟨by omega, by omega, fun j => ?_⟩
 by_cases hj : j < d.2.length
 · have := sideB_len (h1 (d.2.getD j []) (by rw [List.getD, eG9 hj]; exact List.getElem_mem hj)); omega
 · rw [List.getD, List.getElem?_eq_none (by omega)]; simp
end
section
open Go.RowKit Go.Shelf
theorem OwnDk.keep {W W' : World} {base b : Nat} {v x p : Value} {d : Dk} {t : TypeId} (h : OwnDk W base v d) (hb : W.heap[b]? = some (.cells #[x, p] t (0, 0))) (h1 : 28 ≠ t) (h2 : 3 ≠ t) (hg : W.grownBy W' (some b)) : OwnDk W' base v d := by
 obtain ⟨mid, y, q, rfl, e1, e2, e3, e4⟩ := h
 refine ⟨mid, y, q, rfl, e1, lT9 e2 hg.size, ?_, e4.keep hb h1 h2 hg⟩
 rcases e3 with e3 | ⟨g, c, rfl, f1, f2, f3⟩
 · exact .inl e3
 · refine .inr ⟨g, c, rfl, f1, f2, f3.of_block (hg.block g f3.lt (fun e => ?_))⟩
   injection e with e
   subst e
   obtain ⟨cur, hc, _⟩ := f3
   rw [hb] at hc
   injection hc with hc
   injection hc with _ hc
   exact h2 hc.symm
end
section
open Go.RowKit
attribute [local go_sem] Oper.semAt_some
theorem ownDk_stored {V : World} {base b n1 c1 n2 c2 : Nat} {a1 a2 : Option Addr} {D : Dk} (h : OwnDk V base (.agg #[.slice a1 n1 c1, .slice a2 n2 c2]) D) (kb : V.heap[b]? = some (.cells #[.slice none 0 0, .slice none 0 0] 31 (0, 0))) :
 OwnDk ((V.setCell ⟨b, 0, none⟩ (.slice a1 n1 c1)).setCell ⟨b, 1, none⟩ (.slice a2 n2 c2)) base (.agg #[.slice a1 n1 c1, .slice a2 n2 c2]) D := by
 have g0 := grownBy_setAt V b 0 (.slice a1 n1 c1)
 have k1 := set_cells kb 0 (.slice a1 n1 c1)
 have g1 := grownBy_setAt (V.setCell ⟨b, 0, none⟩ (.slice a1 n1 c1)) b 1 (.slice a2 n2 c2)
 exact (h.keep kb (by decide) (by decide) g0).keep k1 (by decide) (by decide) g1
def RowsOk (D : Dk) : Prop := (∀ j, j < D.2.length → 1 ≤ (D.2.getD j []).length) ∧ (∀ j, j < D.2.length → (D.2.getD j []).length ≤ 12) ∧ D.1.length ≤ 12 ∧ D.2.length ≤ 8
theorem RowsOk.of {D : Dk} (h : deskB D = true) : RowsOk D := by
 obtain ⟨h1, h2, h3⟩ := deskB_is.1 h
 have hr := fun j (hj : j < D.2.length) => sideB_len (h1 (D.2.getD j []) (by rw [List.getD, eG9 hj]; exact List.getElem_mem hj))
 exact ⟨fun j hj => (hr j hj).1, fun j hj => (hr j hj).2, (sideB_len h2).2, h3⟩
theorem rowsOk_none : RowsOk ([], []) := ⟨fun j hj => by simp at hj, fun j hj => by simp at hj, by simp, by simp⟩
theorem doV_rows (d : Dk) (k n : Int) : RowsOk (doV d k n).1 := by
 cases hb : deskB d with
 | false => rw [doV_no hb]; exact rowsOk_none
 | true => exact RowsOk.of (do_desk hb k n)
end
section
open Go Go.RowKit
theorem wpIn_region_madeP {F : Fence} {n : Nat} {id : Nat} {ops : Array Oper} {Q : Exit → Act → World → Prop} {a : Act} {W : World} (c n1 n2 : Nat) (L : List (Option Tmp × Nat)) (Z : Value) (R : World → Value → Prop)
 (hm : Tryz.prog.follows .mixedOrders = true) (hb : backB ops = true) (ht : tailB ops (c + 6) = true) (hsz : c + 6 < ops.size)
 (hdep : (depB ops (c + 1) c && depB ops (c + 2) (c + 1) && depB ops (c + 3) (c + 1) && depB ops (c + 5) (c + 2) && depB ops (c + 5) (c + 4)) = true)
 (hnd : ((List.range (c + 5)).all fun i => (i == c + 3) || needs ops (c + 5) ops.size i) = true)
 (hL : dstsOf ops (c + 6) = L) (hok : okPuts L = true) (pre : Nat → Value → World → Prop) (hpre : ∀ k v V V', pre k v V → Below V.heap.size V V' → pre k v V')
 (hRb : ∀ V V' y, R V y → Below V.heap.size V V' → R V' y)
 (hRs : ∀ V b a1 c1 a2 c2, R V (.agg #[.slice a1 n1 c1, .slice a2 n2 c2]) → W.heap.size ≤ b → V.heap[b]? = some (.cells #[.slice none 0 0, .slice none 0 0] 31 (0, 0)) → R ((V.setCell ⟨b, 0, none⟩ (.slice a1 n1 c1)).setCell ⟨b, 1, none⟩ (.slice a2 n2 c2)) (.agg #[.slice a1 n1 c1, .slice a2 n2 c2]))
 (hstep : ∀ i o s V, i < c → ops[i]? = some o → Below W.heap.size W V → (∀ k, k < c → depB ops i k = true → pre k (s k) V) → ∀ Q' : Exit → Act → World → Prop,
  (∀ v V', Below V.heap.size V V' → pre i v V' → Q' .normal ((putsOf L a s).put o.dst v) V') → wpListIn F n Tryz.prog ops Q' [o] (putsOf L a s) V)
 (hcall : ∀ o s V, ops[c]? = some o → Below W.heap.size W V → (∀ k, k < c → depB ops c k = true → pre k (s k) V) → ∀ Q' : Exit → Act → World → Prop,
  (∀ a1 c1 a2 c2 V', Below V.heap.size V V' → R V' (.agg #[.slice a1 n1 c1, .slice a2 n2 c2]) → Q' .normal ((putsOf L a s).put o.dst (.tuple #[.agg #[.slice a1 n1 c1, .slice a2 n2 c2], Z])) V') → wpListIn F n Tryz.prog ops Q' [o] (putsOf L a s) V)
 (hmove : ∀ o s V y (Q' : Exit → Act → World → Prop), ops[c + 1]? = some o → s c = y → Q' .normal ((putsOf L a s).put o.dst y) V → wpListIn F n Tryz.prog ops Q' [o] (putsOf L a s) V)
 (hext0 : ∀ o s V x z (Q' : Exit → Act → World → Prop), ops[c + 2]? = some o → s (c + 1) = .tuple #[x, z] → Q' .normal ((putsOf L a s).put o.dst x) V → wpListIn F n Tryz.prog ops Q' [o] (putsOf L a s) V)
 (hext1 : ∀ o s V x z (Q' : Exit → Act → World → Prop), ops[c + 3]? = some o → s (c + 1) = .tuple #[x, z] → Q' .normal ((putsOf L a s).put o.dst z) V → wpListIn F n Tryz.prog ops Q' [o] (putsOf L a s) V)
 (halloc : ∀ o s V (Q' : Exit → Act → World → Prop), ops[c + 4]? = some o → Q' .normal ((putsOf L a s).put o.dst (.pointer (some ⟨V.heap.size, 0, none⟩))) (V.alloc (.cells #[.slice none 0 0, .slice none 0 0] 31)) → wpListIn F n Tryz.prog ops Q' [o] (putsOf L a s) V)
 (hstore : ∀ o s V b a1 c1 a2 c2 (Q' : Exit → Act → World → Prop), ops[c + 5]? = some o → s (c + 4) = .pointer (some ⟨b, 0, none⟩) → s (c + 2) = .agg #[.slice a1 n1 c1, .slice a2 n2 c2] → V.heap[b]? = some (.cells #[.slice none 0 0, .slice none 0 0] 31 (0, 0)) →
  Q' .normal ((putsOf L a s).put o.dst undef) ((V.setCell ⟨b, 0, none⟩ (.slice a1 n1 c1)).setCell ⟨b, 1, none⟩ (.slice a2 n2 c2)) → wpListIn F n Tryz.prog ops Q' [o] (putsOf L a s) V)
 (htail : ∀ s V b a1 c1 a2 c2, Below W.heap.size W V → s (c + 4) = .pointer (some ⟨b, 0, none⟩) → W.heap.size ≤ b → V.heap[b]? = some (.cells #[.slice a1 n1 c1, .slice a2 n2 c2] 31 (0, 0)) → R V (.agg #[.slice a1 n1 c1, .slice a2 n2 c2]) → s (c + 3) = Z → wpListIn F n Tryz.prog ops Q (ops.toList.drop (c + 6)) (putsOf L a s) V) : (Code.region id ops true).wpIn F n Tryz.prog Q a W := by
 refine wpIn_region_made c n1 n2 Z R hm hb ht hsz hdep hnd (putsOf L a) pre hpre hRb hRs (puts_self a L hok) ?_ hstep hcall hmove hext0 hext1 halloc hstore htail
 intro i o s v hi ho
 refine puts_put s o.dst i v L a hok ?_
 rw [← hL]
 unfold dstsOf
 refine List.mem_map.2 ⟨i, List.mem_range.2 hi, ?_⟩
 rw [ho]
 rfl
theorem below_grownAt {W W' : World} (h : Below W.heap.size W W') (row : Option Nat) : W.grownBy W' row := ⟨h.os, h.tape, h.output, h.size, fun k hk _ => h.block k hk⟩
def MadeR0 (c b0 : Nat) (Zp : Value → Prop) (R : World → Value → Prop) (pre : Nat → Value → World → Prop) (i : Nat) (v : Value) (V : World) : Prop :=
 (i < c → pre i v V) ∧ (i = c ∨ i = c + 1 → ∃ a1 n1 c1 a2 n2 c2 z, v = .tuple #[.agg #[.slice a1 n1 c1, .slice a2 n2 c2], z] ∧ Zp z ∧ R V (.agg #[.slice a1 n1 c1, .slice a2 n2 c2])) ∧
 (i = c + 2 → ∃ a1 n1 c1 a2 n2 c2, v = .agg #[.slice a1 n1 c1, .slice a2 n2 c2] ∧ R V (.agg #[.slice a1 n1 c1, .slice a2 n2 c2])) ∧ (i = c + 3 → Zp v) ∧
 (i = c + 4 → ∃ b, v = .pointer (some ⟨b, 0, none⟩) ∧ b0 ≤ b ∧ V.heap[b]? = some (.cells #[.slice none 0 0, .slice none 0 0] 31 (0, 0)))
def MadeR1 (c b0 : Nat) (Zp : Value → Prop) (R : World → Value → Prop) (i : Nat) (v : Value) (V : World) : Prop :=
 (i = c + 1 → ∃ x z, v = .tuple #[x, z] ∧ Zp z) ∧ (i = c + 3 → Zp v) ∧
 (i = c + 4 → ∃ b, v = .pointer (some ⟨b, 0, none⟩) ∧ b0 ≤ b ∧ ∃ a1 n1 c1 a2 n2 c2, V.heap[b]? = some (.cells #[.slice a1 n1 c1, .slice a2 n2 c2] 31 (0, 0)) ∧ R V (.agg #[.slice a1 n1 c1, .slice a2 n2 c2]))
theorem wpIn_region_madeR {F : Fence} {n : Nat} {id : Nat} {ops : Array Oper} {Q : Exit → Act → World → Prop} {a : Act} {W : World} (W0 : World) (Rr len cap p : Nat) (ad : Option Addr) (K jc : Nat) (c : Nat) (L : List (Option Tmp × Nat)) (Zp : Value → Prop) (R : World → Value → Prop)
    (hm : Tryz.prog.follows .mixedOrders = true) (hb : backB ops = true) (ht : tailB ops (c + 6) = true) (hsz : c + 6 < ops.size)
    (hdep : (depB ops (c + 1) c && depB ops (c + 2) (c + 1) && depB ops (c + 3) (c + 1) && depB ops (c + 5) (c + 2) && depB ops (c + 5) (c + 4)) = true)
    (hnd : ((List.range (c + 5)).all fun i => (i == c + 3) || needs ops (c + 5) ops.size i) = true)
    (hL : dstsOf ops (c + 6) = L) (hok : okPuts L = true) (hjc : jc < c) (hRd : Rd W0 Rr ad len cap W p) (pre : Nat → Value → World → Prop) (hpre : ∀ k v V V', pre k v V → V.grownBy V' (some Rr) → pre k v V')
    (hRb : ∀ V V' q y, R V y → Rd W0 Rr ad len cap V q → V.grownBy V' (some Rr) → R V' y)
    (hRs : ∀ V b a1 n1 c1 a2 n2 c2, R V (.agg #[.slice a1 n1 c1, .slice a2 n2 c2]) → W.heap.size ≤ b → V.heap[b]? = some (.cells #[.slice none 0 0, .slice none 0 0] 31 (0, 0)) → R ((V.setCell ⟨b, 0, none⟩ (.slice a1 n1 c1)).setCell ⟨b, 1, none⟩ (.slice a2 n2 c2)) (.agg #[.slice a1 n1 c1, .slice a2 n2 c2]))
    (hstep : ∀ i o s V q, i < c → ops[i]? = some o → Rd W0 Rr ad len cap V q → (i = jc → q = p) → W.grownBy V (some Rr) → (∀ k, k < c → depB ops i k = true → pre k (s k) V) → ∀ Q' : Exit → Act → World → Prop,
      (∀ v V' q', Rd W0 Rr ad len cap V' q' → (i ≠ jc → q' = q) → q' ≤ q + K → V.grownBy V' (some Rr) → pre i v V' → Q' .normal ((putsOf L a s).put o.dst v) V') → wpListIn F n Tryz.prog ops Q' [o] (putsOf L a s) V)
    (hcall : ∀ o s V q, ops[c]? = some o → Rd W0 Rr ad len cap V q → W.grownBy V (some Rr) → (∀ k, k < c → depB ops c k = true → pre k (s k) V) → ∀ Q' : Exit → Act → World → Prop,
      (∀ a1 n1 c1 a2 n2 c2 z V', Below V.heap.size V V' → Zp z → R V' (.agg #[.slice a1 n1 c1, .slice a2 n2 c2]) → Q' .normal ((putsOf L a s).put o.dst (.tuple #[.agg #[.slice a1 n1 c1, .slice a2 n2 c2], z])) V') → wpListIn F n Tryz.prog ops Q' [o] (putsOf L a s) V)
    (hmove : ∀ o s V y (Q' : Exit → Act → World → Prop), ops[c + 1]? = some o → s c = y → Q' .normal ((putsOf L a s).put o.dst y) V → wpListIn F n Tryz.prog ops Q' [o] (putsOf L a s) V)
    (hext0 : ∀ o s V x z (Q' : Exit → Act → World → Prop), ops[c + 2]? = some o → s (c + 1) = .tuple #[x, z] → Q' .normal ((putsOf L a s).put o.dst x) V → wpListIn F n Tryz.prog ops Q' [o] (putsOf L a s) V)
    (hext1 : ∀ o s V x z (Q' : Exit → Act → World → Prop), ops[c + 3]? = some o → s (c + 1) = .tuple #[x, z] → Q' .normal ((putsOf L a s).put o.dst z) V → wpListIn F n Tryz.prog ops Q' [o] (putsOf L a s) V)
    (halloc : ∀ o s V (Q' : Exit → Act → World → Prop), ops[c + 4]? = some o → Q' .normal ((putsOf L a s).put o.dst (.pointer (some ⟨V.heap.size, 0, none⟩))) (V.alloc (.cells #[.slice none 0 0, .slice none 0 0] 31)) → wpListIn F n Tryz.prog ops Q' [o] (putsOf L a s) V)
    (hstore : ∀ o s V b a1 n1 c1 a2 n2 c2 (Q' : Exit → Act → World → Prop), ops[c + 5]? = some o → s (c + 4) = .pointer (some ⟨b, 0, none⟩) → s (c + 2) = .agg #[.slice a1 n1 c1, .slice a2 n2 c2] → V.heap[b]? = some (.cells #[.slice none 0 0, .slice none 0 0] 31 (0, 0)) →
      Q' .normal ((putsOf L a s).put o.dst undef) ((V.setCell ⟨b, 0, none⟩ (.slice a1 n1 c1)).setCell ⟨b, 1, none⟩ (.slice a2 n2 c2)) → wpListIn F n Tryz.prog ops Q' [o] (putsOf L a s) V)
    (htail : ∀ s V b a1 n1 c1 a2 n2 c2 q z, q ≤ p + K → Rd W0 Rr ad len cap V q → W.grownBy V (some Rr) → s (c + 4) = .pointer (some ⟨b, 0, none⟩) → W.heap.size ≤ b → V.heap[b]? = some (.cells #[.slice a1 n1 c1, .slice a2 n2 c2] 31 (0, 0)) → R V (.agg #[.slice a1 n1 c1, .slice a2 n2 c2]) → s (c + 3) = z → Zp z → wpListIn F n Tryz.prog ops Q (ops.toList.drop (c + 6)) (putsOf L a s) V) : (Code.region id ops true).wpIn F n Tryz.prog Q a W := by
  simp only [Bool.and_eq_true] at hdep
  obtain ⟨⟨⟨⟨d1, d2⟩, d3⟩, d4⟩, d5⟩ := hdep
  have hRW := (gE9.1 hRd.2.2).1
  have hW0 := hRd.2.1
  refine wpIn_region_storeL (c + 5) (c + 6) hm hb ht (by omega) hsz (putsOf L a) (fun Ls V => W.grownBy V (some Rr) ∧ ∃ q, Rd W0 Rr ad len cap V q ∧ (Ls jc = false → q = p) ∧ q ≤ p + K) (fun V V' => V.grownBy V' (some Rr) ∧ ∃ q, Rd W0 Rr ad len cap V q)
    (fun ph k v V => (ph = false → MadeR0 c W.heap.size Zp R pre k v V) ∧ (ph = true → MadeR1 c W.heap.size Zp R k v V)) (puts_self a L hok) (puts_of hL hok) ⟨grownBy_drew (grownBy_refl _ _), p, hRd.drew, fun _ => rfl, by omega⟩ ?mono ?step ?mid ?tail
  case mono =>
    rintro ph k v V V' ⟨h1, h2⟩ ⟨hg, q, hq⟩
    have hbx : ∀ b, W.heap.size ≤ b → (some b : Option Nat) ≠ some Rr := fun b hb e => by injection e with e; omega
    refine ⟨fun e => ?_, fun e => ?_⟩
    · obtain ⟨f1, f2, f3, f4, f5⟩ := h1 e
      refine ⟨fun e => hpre _ _ _ _ (f1 e) hg, fun e => ?_, fun e => ?_, f4, fun e => ?_⟩
      · obtain ⟨a1, n1, c1, a2, n2, c2, z, g1, gz, g2⟩ := f2 e
        exact ⟨a1, n1, c1, a2, n2, c2, z, g1, gz, hRb _ _ _ _ g2 hq hg⟩
      · obtain ⟨a1, n1, c1, a2, n2, c2, g1, g2⟩ := f3 e
        exact ⟨a1, n1, c1, a2, n2, c2, g1, hRb _ _ _ _ g2 hq hg⟩
      · obtain ⟨b, g1, g2, g3⟩ := f5 e
        exact ⟨b, g1, g2, (hg.block _ (gE9.1 g3).1 (hbx b g2)).trans g3⟩
    · obtain ⟨f1, f2, f3⟩ := h2 e
      refine ⟨f1, f2, fun e => ?_⟩
      obtain ⟨b, g1, g2, a1, n1, c1, a2, n2, c2, g3, g4⟩ := f3 e
      exact ⟨b, g1, g2, a1, n1, c1, a2, n2, c2, (hg.block _ (gE9.1 g3).1 (hbx b g2)).trans g3, hRb _ _ _ _ g4 hq hg⟩
  case step =>
    intro Ls i o s V hi hip hLi hnp ho hV hd Q' hQ'
    obtain ⟨hgV, q, hRV, hq0, hqK⟩ := hV
    have hLj : i ≠ jc → (if jc = i then true else Ls jc) = false → q = p := fun e h => by
      rw [if_neg (fun h => e h.symm)] at h
      exact hq0 h
    by_cases e3 : i = c + 3
    · subst e3
      have hx : ∃ x z, s (c + 1) = .tuple #[x, z] ∧ Zp z := by
        cases hph : Ls (c + 5) with
        | false => rw [hph] at hd; obtain ⟨a1, n1, c1, a2, n2, c2, z, g1, gz, _⟩ := ((hd _ d3).1 rfl).2.1 (.inr rfl); exact ⟨_, z, g1, gz⟩
        | true => rw [hph] at hd; exact ((hd _ d3).2 rfl).1 rfl
      obtain ⟨x, z, hx, hz⟩ := hx
      refine hext1 o s V x z Q' ho hx (hQ' _ _ ⟨hgV, q, hRV, hLj (by omega), hqK⟩ ⟨grownBy_refl _ _, q, hRV⟩ ⟨fun _ => ⟨fun e => by omega, fun e => by omega, fun e => by omega, fun _ => hz, fun e => by omega⟩, fun _ => ⟨fun e => by omega, fun _ => hz, fun e => by omega⟩⟩)
    · have hph : Ls (c + 5) = false := by
        cases hph : Ls (c + 5) with
        | false => rfl
        | true =>
          have h1 := hnp hph
          have h2 := List.all_eq_true.1 hnd i (List.mem_range.2 (by omega))
          rw [h1] at h2
          simp at h2
          exact absurd h2 e3
      rw [hph] at hd hQ'
      have hd0 := fun k hk => (hd k hk).1 rfl
      have hq : ∀ v V', Below V.heap.size V V' → i ≠ jc → MadeR0 c W.heap.size Zp R pre i v V' → Q' .normal ((putsOf L a s).put o.dst v) V' := fun v V' h1 hj h2 =>
        hQ' v V' ⟨hgV.trans (below_grownAt h1 _), q, hRV.kept (below_grownAt h1 none) (by simp) (fun _ e => by cases e), hLj hj, hqK⟩ ⟨below_grownAt h1 _, q, hRV⟩ ⟨fun _ => h2, fun e => by cases e⟩
      by_cases ec : i < c
      · refine hstep i o s V q ec ho hRV (fun e => hq0 (by rw [← e]; exact hLi)) hgV (fun k hk hdk => (hd0 k hdk).1 hk) Q' (fun v V' q' h1 h2 h3 h4 h5 => hQ' v V' ⟨hgV.trans h4, q', h1, ?_, ?_⟩ ⟨h4, q, hRV⟩ ⟨fun _ => ⟨fun _ => h5, fun e => by omega, fun e => by omega, fun e => by omega, fun e => by omega⟩, fun e => by cases e⟩)
        · by_cases e : i = jc
          · intro h; exact absurd ((if_pos e.symm).symm.trans h : true = false) (by decide)
          · intro h; rw [h2 e]; exact hLj e h
        · by_cases e : i = jc
          · have := hq0 (by rw [← e]; exact hLi); omega
          · rw [h2 e]; exact hqK
      · by_cases e0 : i = c
        · subst e0
          exact hcall o s V q ho hRV hgV (fun k hk hdk => (hd0 k hdk).1 hk) Q' (fun a1 n1 c1 a2 n2 c2 z V' h1 hz h2 => hq _ V' h1 (by omega) ⟨fun e => by omega, fun _ => ⟨a1, n1, c1, a2, n2, c2, z, rfl, hz, h2⟩, fun e => by omega, fun e => by omega, fun e => by omega⟩)
        · by_cases e1 : i = c + 1
          · subst e1
            have h := (hd0 _ d1).2.1 (.inl rfl)
            exact hmove o s V _ Q' ho rfl (hq _ V (Below.refl _ _) (by omega) ⟨fun e => by omega, fun _ => h, fun e => by omega, fun e => by omega, fun e => by omega⟩)
          · by_cases e2 : i = c + 2
            · subst e2
              obtain ⟨a1, n1, c1, a2, n2, c2, z, g1, gz, g2⟩ := (hd0 _ d2).2.1 (.inr rfl)
              exact hext0 o s V _ _ Q' ho g1 (hq _ V (Below.refl _ _) (by omega) ⟨fun e => by omega, fun e => by omega, fun _ => ⟨a1, n1, c1, a2, n2, c2, rfl, g2⟩, fun e => by omega, fun e => by omega⟩)
            · have e4 : i = c + 4 := by omega
              subst e4
              exact halloc o s V Q' ho (hq _ _ ((Below.refl _ V).alloc (Nat.le_refl _) _) (by omega) ⟨fun e => by omega, fun e => by omega, fun e => by omega, fun e => by omega, fun _ => ⟨V.heap.size, rfl, hgV.size, aN9 V _⟩⟩)
  case mid =>
    intro Ls o s V hph ho hV hd Q' hQ'
    obtain ⟨hgV, q, hRV, hq0, hqK⟩ := hV
    obtain ⟨a1, n1, c1, a2, n2, c2, g1, g2⟩ := ((hd _ d4).1 rfl).2.2.1 rfl
    obtain ⟨b, g3, g4, g5⟩ := ((hd _ d5).1 rfl).2.2.2.2 rfl
    have k0 := grownBy_setAt V b 0 (.slice a1 n1 c1)
    have k1 := grownBy_setAt (V.setCell ⟨b, 0, none⟩ (.slice a1 n1 c1)) b 1 (.slice a2 n2 c2)
    have hne : (some Rr : Option Nat) ≠ some b := fun e => by injection e with e; omega
    have hlo : ∀ k, (some b : Option Nat) = some k → W0.heap.size ≤ k := fun k e => by injection e with e; omega
    refine hstore o s V b a1 n1 c1 a2 n2 c2 Q' ho g3 g1 g5 (hQ' undef _ ⟨(hgV.andThen k0 (fun k e => .inl (by injection e with e; omega))).andThen k1 (fun k e => .inl (by injection e with e; omega)), q, (hRV.kept k0 hne hlo).kept k1 hne hlo, fun h => hq0 ((if_neg (show ¬ jc = c + 5 by omega)).symm.trans h), hqK⟩ (fun k hk hΦ => ⟨fun e => (by cases e), fun _ => ?_⟩) ⟨fun e => (by cases e), fun _ => ⟨fun e => by omega, fun e => by omega, fun e => by omega⟩⟩)
    have h := hΦ.1 rfl
    refine ⟨fun e => ?_, h.2.2.2.1, fun e => ?_⟩
    · obtain ⟨_, _, _, _, _, _, z, e1, ez, _⟩ := h.2.1 (.inr e)
      exact ⟨_, z, e1, ez⟩
    · subst e
      exact ⟨b, g3, g4, a1, n1, c1, a2, n2, c2, desk_set g5 _ _, hRs V b a1 n1 c1 a2 n2 c2 g2 g4 g5⟩
  case tail =>
    intro Ls s V hV hLs hd
    obtain ⟨hgV, q, hRV, hq0, hqK⟩ := hV
    obtain ⟨b, g1, g2, a1, n1, c1, a2, n2, c2, g3, g4⟩ := ((hd (c + 4) (by omega)).2 rfl).2.2 rfl
    exact htail s V b a1 n1 c1 a2 n2 c2 q _ hqK hRV hgV g1 g2 g3 g4 rfl (((hd (c + 3) (by omega)).2 rfl).2.1 rfl)
end
section
open Go Go.RowKit
attribute [local go_sem] Oper.semAt_some
theorem ints_rd {W0 W W' : World} {R len cap q : Nat} {a : Option Addr} {v : Value} {xs : List Int} (h : Ints W v xs) (hR : Rd W0 R a len cap W q) (hg : W.grownBy W' (some R)) : Ints W' v xs := by
  rcases h with h | ⟨g, c, rfl, hg0, hc⟩
  · exact .inl h
  · by_cases h0 : 0 < xs.length
    · have hne : g ≠ R := fun e => by
        subst e
        have h1 := hc 0 h0
        unfold World.cell? at h1
        rw [hR.2.2] at h1
        simp at h1
      exact .inr ⟨g, c, rfl, lL9 hg0 hg.size, fun i hi => (grown_cell12 hg hg0 hne i).trans (hc i hi)⟩
    · exact .inr ⟨g, c, rfl, lL9 hg0 hg.size, fun i hi => absurd hi (by omega)⟩
def YD (base : Nat) (D : Dk) (V : World) (y : Value) : Prop := ∃ x p, y = .agg #[x, p] ∧ Ints V x D.1 ∧ OwnSS V base p D.2
theorem YD.deskI {base : Nat} {D : Dk} {V : World} {y : Value} (h : YD base D V y) : DeskI V y D := by
 obtain ⟨x, p, rfl, h1, h2⟩ := h
 exact ⟨x, p, rfl, h1, h2.past⟩
theorem YD.below {base : Nat} {D : Dk} {V V' : World} {y : Value} (h : YD base D V y) (hB : Below V.heap.size V V') : YD base D V' y := by
 obtain ⟨x, p, rfl, h1, h2⟩ := h
 exact ⟨x, p, rfl, h1.below hB, h2.below hB⟩
theorem YD.down {base base' : Nat} {D : Dk} {V : World} {y : Value} (h : YD base D V y) (hb : base' ≤ base) : YD base' D V y := by
 obtain ⟨x, p, rfl, h1, h2⟩ := h
 exact ⟨x, p, rfl, h1, h2.down hb⟩
theorem YD.form {base : Nat} {D : Dk} {V : World} {y : Value} (h : YD base D V y) : ∃ a b c e, y = .agg #[.slice a D.1.length b, .slice c D.2.length e] := by
 obtain ⟨x, p, rfl, h1, h2⟩ := h
 obtain ⟨a, b, rfl⟩ := h1.shape
 obtain ⟨c, e, rfl⟩ := h2.form
 exact ⟨_, _, _, _, rfl⟩
theorem YD.rd {W0 : World} {R len cap q base : Nat} {a : Option Addr} {D : Dk} {V V' : World} {y : Value} (h : YD base D V y) (hR : Rd W0 R a len cap V q) (hb : R < base) (hg : V.grownBy V' (some R)) : YD base D V' y := by
 obtain ⟨x, p, rfl, h1, h2⟩ := h
 exact ⟨x, p, rfl, ints_rd h1 hR hg, h2.old hb hg⟩
theorem YD.set {base b n1 c1 n2 c2 i m e : Nat} {a1 a2 s : Option Addr} {D : Dk} {V : World} {y : Value} (h : YD base D V y) (kb : V.heap[b]? = some (.cells #[.slice a1 n1 c1, .slice a2 n2 c2] 31 (0, 0))) : YD base D (V.setCell ⟨b, i, none⟩ (.slice s m e)) y := by
 obtain ⟨x, p, rfl, h1, h2⟩ := h
 have g := grownBy_setAt V b i (.slice s m e)
 exact ⟨x, p, rfl, ints_grown h1 kb g, h2.kept kb (by decide) (by decide) g⟩
def Apart (base : Nat) (y : Value) : Prop := ∀ x p, y = .agg #[x, p] → ∀ g, x.ownBlock = some g → base ≤ g ∧ p.ownBlock ≠ some g
theorem Apart.down {base base' : Nat} {y : Value} (h : Apart base y) (hb : base' ≤ base) : Apart base' y := fun x p e g e1 => ⟨lT9 hb (h x p e g e1).1, (h x p e g e1).2⟩
theorem YD.of {base : Nat} {D : Dk} {V : World} {y : Value} (h : DeskI V y D) (h2 : PastO V base y D.2) : YD base D V y ∧ Apart base y := by
 obtain ⟨x, p, rfl, h1, _⟩ := h
 obtain ⟨x', p', e, h3, h4⟩ := h2
 injection e with e
 simp at e
 obtain ⟨rfl, rfl⟩ := e
 refine ⟨⟨x, p, rfl, h1, h3⟩, fun x' p' e => ?_⟩
 injection e with e
 simp at e
 obtain ⟨rfl, rfl⟩ := e
 exact h4
theorem apart_none {base : Nat} {x : Value} (h : ∀ g, x.ownBlock = some g → base ≤ g) : Apart base (.agg #[x, .slice none 0 0]) := fun x' p' e g e1 => by
 injection e with e
 simp at e
 obtain ⟨rfl, rfl⟩ := e
 exact ⟨h g e1, by simp [Value.ownBlock]⟩
def LoN (base : Nat) (y : Value) : Prop := ∀ x p, y = .agg #[x, p] → ∀ g, x.ownBlock = some g → base ≤ g
theorem LoN.of {base : Nat} {x p : Value} (h : ∀ g, x.ownBlock = some g → base ≤ g) : LoN base (.agg #[x, p]) := fun x' p' e g e1 => by
 injection e with e
 simp at e
 obtain ⟨rfl, rfl⟩ := e
 exact h g e1
theorem YD.old {base b : Nat} {D : Dk} {V V' : World} {y : Value} (h : YD base D V y) (hl : LoN base y) (hb : b < base) (hg : V.grownBy V' (some b)) : YD base D V' y := by
 obtain ⟨x, p, rfl, h1, h2⟩ := h
 exact ⟨x, p, rfl, ints_apart h1 hg (fun g e1 e2 => by have := hl x p rfl g e1; injection e2 with e2; omega), h2.old hb hg⟩
theorem YD.capN {base : Nat} {D : Dk} {V : World} {y : Value} (h : YD base D V y) : CapN base y := by
 obtain ⟨x, p, rfl, _, us, hl, ho, _⟩ := h
 obtain ⟨a, c, rfl⟩ := own_form ho
 refine CapN.of (own_cap ho) fun g o t e => ?_
 subst e
 exact (ho.lt g rfl).1
def DkZ (d : Dk) : Prop := d.1.length ≤ 12 ∧ d.2.length ≤ 9 ∧ ∀ j, (d.2.getD j []).length ≤ 12
theorem DkZ.dkS {d : Dk} (h : DkZ d) : DkS d := ⟨by have := h.1; omega, by have := h.2.1; omega, fun j => by have := h.2.2 j; omega⟩
theorem RowsOk.at_ {D : Dk} (h : RowsOk D) (j : Nat) : (D.2.getD j []).length ≤ 12 := by
 by_cases hj : j < D.2.length
 · exact h.2.1 j hj
 · rw [List.getD, List.getElem?_eq_none (by omega)]; simp
theorem RowsOk.dkZ {D : Dk} (h : RowsOk D) : DkZ D := ⟨h.2.2.1, by have := h.2.2.2; omega, h.at_⟩
theorem newV_rows (xs : List Int) : RowsOk (newV xs) := by
 unfold newV
 split
 · rename_i h
   have := sideB_len h
   exact ⟨fun j hj => by simp at hj, fun j hj => by simp at hj, this.2, by simp⟩
 · exact rowsOk_none
theorem doV_past (d : Dk) (k n : Int) : (doV d k n).1.2.length ≤ d.2.length + 1 := by
 unfold doV pastV
 repeat' split
 all_goals simp
 all_goals omega
structure Dq (W0 : World) (R len cap : Nat) (a : Option Addr) (w : World) (b : Nat) (d : Dk) (x p : Value) (V : World) (q : Nat) : Prop where
 rd : Rd W0 R a len cap V q
 gr : w.grownBy V (some R)
 box : V.heap[b]? = some (.cells #[x, p] 31 (0, 0))
 res : V.heap[w.heap.size]? = some (.cells #[.slice none 0 0, .slice none 0 0] 31 (0, 0))
 lo : w.heap.size + 1 ≤ b
 rw_ : R < w.heap.size
 yd : YD (w.heap.size + 1) d V (.agg #[x, p])
 rows : DkZ d
theorem Dq.move {W0 : World} {R len cap : Nat} {a : Option Addr} {w : World} {b : Nat} {d : Dk} {x p : Value} {V V' : World} {q q' : Nat} (h : Dq W0 R len cap a w b d x p V q) (h1 : Rd W0 R a len cap V' q') (h2 : V.grownBy V' (some R)) : Dq W0 R len cap a w b d x p V' q' := by
 have h3 := h.lo
 have h4 := h.rw_
 exact ⟨h1, h.gr.trans h2, (h2.block b (gE9.1 h.box).1 (fun e => by injection e with e; omega)).trans h.box, (h2.block _ (gE9.1 h.res).1 (fun e => by injection e with e; omega)).trans h.res, h3, h4, h.yd.rd h.rd (by omega) h2, h.rows⟩
theorem Dq.set0 {W0 : World} {R len cap : Nat} {a : Option Addr} {w : World} {b : Nat} {d : Dk} {V : World} {q n1 c1 n2 c2 m e : Nat} {a1 a2 s : Option Addr} {xs : List Int} (h : Dq W0 R len cap a w b d (.slice a1 n1 c1) (.slice a2 n2 c2) V q) (hx : Ints V (.slice s m e) xs) (hl : xs.length ≤ 12) :
 Dq W0 R len cap a w b (xs, d.2) (.slice s m e) (.slice a2 n2 c2) (V.setCell ⟨b, 0, .none⟩ (.slice s m e)) q := by
 have h3 := h.lo
 have h4 := h.rw_
 have h5 := h.rd.2.1
 have g := grownBy_setAt V b 0 (.slice s m e)
 obtain ⟨x', p', e1, _, h7⟩ := h.yd
 injection e1 with e1
 simp at e1
 obtain ⟨rfl, rfl⟩ := e1
 exact ⟨h.rd.kept g (fun e => by injection e with e; omega) (fun k e => by injection e with e; omega), h.gr.andThen g (fun k e => .inl (by injection e with e; omega)), set_cells h.box 0 _,
  (g.block _ (gE9.1 h.res).1 (fun e => by injection e with e; omega)).trans h.res, h3, h4, ⟨_, _, rfl, ints_grown hx h.box g, h7.kept h.box (by decide) (by decide) g⟩, hl, h.rows.2.1, h.rows.2.2⟩
theorem Dq.done {W0 : World} {R len cap : Nat} {a : Option Addr} {w : World} {b : Nat} {d : Dk} {V : World} {q n1 c1 n2 c2 : Nat} {a1 a2 : Option Addr} (h : Dq W0 R len cap a w b d (.slice a1 n1 c1) (.slice a2 n2 c2) V q) :
 ((V.setCell ⟨w.heap.size, 0, .none⟩ (.slice a1 n1 c1)).setCell ⟨w.heap.size, 1, .none⟩ (.slice a2 n2 c2)).heap[w.heap.size]? = some (.cells #[.slice a1 n1 c1, .slice a2 n2 c2] 31 (0, 0)) ∧
 YD w.heap.size d ((V.setCell ⟨w.heap.size, 0, .none⟩ (.slice a1 n1 c1)).setCell ⟨w.heap.size, 1, .none⟩ (.slice a2 n2 c2)) (.agg #[.slice a1 n1 c1, .slice a2 n2 c2]) ∧
 Rd W0 R a len cap ((V.setCell ⟨w.heap.size, 0, .none⟩ (.slice a1 n1 c1)).setCell ⟨w.heap.size, 1, .none⟩ (.slice a2 n2 c2)) q ∧ w.grownBy ((V.setCell ⟨w.heap.size, 0, .none⟩ (.slice a1 n1 c1)).setCell ⟨w.heap.size, 1, .none⟩ (.slice a2 n2 c2)) (some R) := by
 have h4 := h.rw_
 have h5 := h.rd.2.1
 have g := grownBy_setAt V w.heap.size 0 (.slice a1 n1 c1)
 have k := set_cells h.res 0 (.slice a1 n1 c1)
 have g2 := grownBy_setAt (V.setCell ⟨w.heap.size, 0, .none⟩ (.slice a1 n1 c1)) w.heap.size 1 (.slice a2 n2 c2)
 exact ⟨desk_set h.res _ _, ((h.yd.set h.res).set k).down (by omega), (h.rd.kept g (fun e => by injection e with e; omega) (fun k e => by injection e with e; omega)).kept g2 (fun e => by injection e with e; omega) (fun k e => by injection e with e; omega),
  (h.gr.andThen g (fun k e => .inl (by injection e with e; omega))).andThen g2 (fun k e => .inl (by injection e with e; omega))⟩
theorem Dq.grow {W0 : World} {R len cap : Nat} {a : Option Addr} {w : World} {b : Nat} {d : Dk} {V W : World} {q n1 c1 n2 c2 n3 c3 : Nat} {a1 a2 a3 : Option Addr} {u : Value} {us : List Value} (h : Dq W0 R len cap a w b d (.slice a1 n1 c1) (.slice a2 n2 c2) V q) (hap : Apart (w.heap.size + 1) (.agg #[.slice a1 n1 c1, .slice a2 n2 c2])) (hl : us.length = d.2.length)
 (huo : V.ownsRow (w.heap.size + 1) 28 1 (.slice a2 n2 c2) us.length us) (hur : ∀ j, j < d.2.length → V.ownsRow (w.heap.size + 1) 3 1 (us.getD j undef) (d.2.getD j []).length ((d.2.getD j []).map (Value.int .i64)))
 (hu : V.ownsRow (w.heap.size + 1) 3 1 u 0 []) (how : W.ownsRow (w.heap.size + 1) 28 1 (.slice a3 n3 c3) (us.length + 1) (us ++ [u])) (hg : V.grownBy W (Value.ownBlock (.slice a2 n2 c2))) (hd : d.2.length ≤ 8) :
 Dq W0 R len cap a w b (d.1, d.2 ++ [[]]) (.slice a1 n1 c1) (.slice a3 n3 c3) (W.setCell ⟨b, 1, .none⟩ (.slice a3 n3 c3)) q := by
 have h3 := h.lo
 have h4 := h.rw_
 have h5 := h.rd.2.1
 have hlo : ∀ k, Value.ownBlock (.slice a2 n2 c2) = some k → w.heap.size + 1 ≤ k := fun k e => (huo.lt k e).1
 have nR : (some R : Option Nat) ≠ Value.ownBlock (.slice a2 n2 c2) := fun e => by have := hlo R e.symm; omega
 have nb : (some b : Option Nat) ≠ Value.ownBlock (.slice a2 n2 c2) := fun e => own_not huo h.box (by decide) e.symm
 have nr : (some w.heap.size : Option Nat) ≠ Value.ownBlock (.slice a2 n2 c2) := fun e => by have := hlo _ e.symm; omega
 have hbox : W.heap[b]? = _ := (hg.block b (gE9.1 h.box).1 (fun e => nb e)).trans h.box
 have hres : W.heap[w.heap.size]? = _ := (hg.block _ (gE9.1 h.res).1 (fun e => nr e)).trans h.res
 have hrd := h.rd.kept hg nR (fun k e => by have := hlo k e; omega)
 have hgr := h.gr.andThen hg (fun k e => .inl (by have := hlo k e; omega))
 have hO : OwnSS W (w.heap.size + 1) (.slice a3 n3 c3) (d.2 ++ [[]]) := OwnSS.push hl huo hur (row := []) hu how hg
 obtain ⟨x', p', e1, h6, _⟩ := h.yd
 injection e1 with e1
 simp at e1
 obtain ⟨rfl, rfl⟩ := e1
 have hI := ints_apart h6 hg (fun g e1 e2 => (hap _ _ rfl g e1).2 e2)
 have g := grownBy_setAt W b 1 (.slice a3 n3 c3)
 refine ⟨hrd.kept g (fun e => by injection e with e; omega) (fun k e => by injection e with e; omega), hgr.andThen g (fun k e => .inl (by injection e with e; omega)), set_cells hbox 1 _,
  (g.block _ (gE9.1 hres).1 (fun e => by injection e with e; omega)).trans hres, h3, h4, ⟨_, _, rfl, ints_grown hI hbox g, hO.kept hbox (by decide) (by decide) g⟩, h.rows.1, by simp; omega, fun j => ?_⟩
 show ((d.2 ++ [[]]).getD j []).length ≤ 12
 have h7 := h.rows.2.2 j
 by_cases hj : j < d.2.length
 · rw [List.getD, List.getElem?_append_left hj]; exact h7
 · rw [List.getD, List.getElem?_append_right (by omega)]
   rcases Nat.eq_zero_or_pos (j - d.2.length) with e | e
   · rw [e]; simp
   · rw [List.getElem?_eq_none (by simp; omega)]; simp
theorem Dq.put {W0 : World} {R len cap : Nat} {a : Option Addr} {w : World} {b : Nat} {d D : Dk} {V : World} {q n1 c1 n2 c2 m1 e1 m2 e2 : Nat} {a1 a2 s1 s2 : Option Addr} (h : Dq W0 R len cap a w b d (.slice a1 n1 c1) (.slice a2 n2 c2) V q) (hY : YD (w.heap.size + 1) D V (.agg #[.slice s1 m1 e1, .slice s2 m2 e2])) (hr : DkZ D) :
 Dq W0 R len cap a w b D (.slice s1 m1 e1) (.slice s2 m2 e2) ((V.setCell ⟨b, 0, .none⟩ (.slice s1 m1 e1)).setCell ⟨b, 1, .none⟩ (.slice s2 m2 e2)) q := by
 have h3 := h.lo
 have h4 := h.rw_
 have h5 := h.rd.2.1
 have g := grownBy_setAt V b 0 (.slice s1 m1 e1)
 have k := set_cells h.box 0 (.slice s1 m1 e1)
 have g2 := grownBy_setAt (V.setCell ⟨b, 0, .none⟩ (.slice s1 m1 e1)) b 1 (.slice s2 m2 e2)
 exact ⟨(h.rd.kept g (fun e => by injection e with e; omega) (fun k e => by injection e with e; omega)).kept g2 (fun e => by injection e with e; omega) (fun k e => by injection e with e; omega),
  (h.gr.andThen g (fun k e => .inl (by injection e with e; omega))).andThen g2 (fun k e => .inl (by injection e with e; omega)), desk_set h.box _ _,
  (g2.block _ (lL9 (gE9.1 h.res).1 g.size) (fun e => by injection e with e; omega)).trans ((g.block _ (gE9.1 h.res).1 (fun e => by injection e with e; omega)).trans h.res), h3, h4, (hY.set h.box).set k, hr⟩
set_option maxRecDepth 100000 in
set_option maxHeartbeats 4000000 in
theorem l20Desk_in (W0 : World) (R len cap p : Nat) (a : Option Addr) (n : Int) (hn : 0 < n) (hn2 : n ≤ 1000) (w : World) (hb : Bytes W0 a len) (h : Rd W0 R a len cap w p) (hp : p ≤ 600000) :
 Calls Tryz.prog 48 #[.pointer (some ⟨R, 0, none⟩), .int .i64 n] w fun e w' => ∃ y d, e = .returned y ∧ YD w.heap.size d w' y ∧ LoN w.heap.size y ∧ DkZ d ∧ ∃ p', p' ≤ p + 300 ∧ Rd W0 R a len cap w' p' ∧ w.grownBy w' (some R) := by
 have hRw := h.lt
 have hW0R := h.2.1
 refine (cW9 (n := 9)).1 ?_
 refine callsIn_of_wp Tryz.func48 rfl trivial ?_ rfl
 simp only [Tryz.ntmps48, List.size_toArray, List.length_cons, List.length_nil, Nat.reduceAdd, Nat.reduceSub, Array.replicate_succ, Array.replicate_zero, List.push_toArray, List.append_toArray, List.nil_append, List.cons_append]
 have hg1 : w.grownBy (w.alloc (.cells #[.slice none 0 0, .slice none 0 0] 31)) (some R) := World.grownBy_alloc w _ _
 have k1 := aN9 w (.cells #[.slice none 0 0, .slice none 0 0] 31)
 have hR1 := h.alloc (.cells #[.slice none 0 0, .slice none 0 0] 31)
 have z1 := World.size_alloc w (.cells #[.slice none 0 0, .slice none 0 0] 31)
 obtain ⟨w1, hw1⟩ : ∃ w1, w.alloc (.cells #[.slice none 0 0, .slice none 0 0] 31) = w1 := ⟨_, rfl⟩
 rw [hw1] at hg1 k1 hR1 z1
 have z1' : w.heap.size + 1 ≤ w1.heap.size := by omega
 clear z1
 gi_wp2_with fail
 refine ⟨trivial, ?_⟩
 gi_at_call 87
 refine (cW9.2 (l20Side0_in W0 R len cap p a w1 hb hR1 (by omega))).mono ?_
 rintro e w2 ⟨v, xs, rfl, hv, hx1, hx2, q2, hq2, hR2, hg2⟩
 have hvi := Ints.of_owns hv
 have hnr := newV_rows xs
 gi_wp2_with fail
 refine ⟨trivial, ?_⟩
 gi_at_call 93
 refine (cW9.2 (specNew v xs w2 hvi (by omega))).mono ?_
 rintro e w3 ⟨x, rfl, hx, hB3⟩
 have hxi := Ints.of_owns hx
 have hxlo' := hide (show ∀ g, x.ownBlock = some g → w.heap.size + 1 ≤ g from fun g e => by have h9 := (hx.lt g e).1; have h8 := hg2.size; omega)
 have hn2' : (newV xs).2 = [] := by unfold newV; split <;> rfl
 obtain ⟨xa, xc, rfl⟩ := own_form hx
 have hR3 := hR2.kept (below_grownAt hB3 none) (by simp) (fun _ e => by cases e)
 have hg3 := (hg1.trans hg2).trans (below_grownAt hB3 (some R))
 have hres3 := (hB3.block _ (by have := (gE9.1 k1).1; have := hg2.size; omega)).trans ((hg2.block _ (gE9.1 k1).1 (fun e => by injection e with e; omega)).trans k1)
 have z3 : w1.heap.size ≤ w3.heap.size := lT9 hg2.size hB3.size
 obtain ⟨D, hD⟩ : ∃ D, newV xs = D := ⟨_, rfl⟩
 rw [hD] at hxi hnr hn2' ⊢
 have hxl0 := hxlo'.out
 rw [hD] at hxl0
 have hxloh := hide hxl0
 clear hxl0 hxlo'
 have hb0 := aN9 w3 (.cells #[.slice xa D.1.length xc, .slice none 0 0] 31)
 have hba := (Below.refl _ w3).alloc (Nat.le_refl _) (.cells #[.slice xa D.1.length xc, .slice none 0 0] 31)
 have hQ0 : Dq W0 R len cap a w w3.heap.size D (.slice xa D.1.length xc) (.slice none 0 0) (w3.alloc (.cells #[.slice xa D.1.length xc, .slice none 0 0] 31)) q2 :=
  ⟨hR3.alloc _, hg3.trans (World.grownBy_alloc _ _ _), hb0, (Below.heap_alloc _ _ _ (gE9.1 hres3).1).trans hres3, by omega, hRw, ⟨_, _, rfl, hxi.below hba, by rw [hn2']; exact ⟨[], rfl, World.ownsRow_nil _ _ _ _, fun j hj => by simp at hj⟩⟩, hnr.dkZ⟩
 gi_wp2_with fail
 obtain ⟨V0, hV0⟩ : ∃ V0, w3.alloc (.cells #[.slice xa D.1.length xc, .slice none 0 0] 31) = V0 := ⟨_, rfl⟩
 rw [hV0] at hQ0 ⊢
 obtain ⟨b, hbe⟩ : ∃ b, w3.heap.size = b := ⟨_, rfl⟩
 rw [hbe] at hQ0 ⊢
 clear hV0 hbe hb0 hba hres3 hR3 hg3 hxi hx hB3 hvi hv hR2 hg2 hR1 hg1 hw1 k1 z3 z1'
 refine ⟨trivial, ?_⟩
 gi_at_call 42
 refine (cW9.2 (pick_in W0 R len cap q2 a 6 V0 hb hQ0.rd (by omega))).mono ?_
 rintro e w4 ⟨x0, rfl, hx0, _, hx1', hR4, hg4, _⟩
 replace hx1' := hx1' (by omega)
 obtain ⟨N, rfl⟩ : ∃ N : Nat, x0 = N := ⟨x0.toNat, by omega⟩
 have hQ4 := hQ0.move hR4 hg4
 have hD0 : D.2.length ≤ 0 := by rw [hn2']; simp
 have hxlo := hxloh.out
 clear hQ0 hR4 hg4 hn2' hnr hD
 gi_wp2
 gi_loopw [7] (fun k wr => ∃ (j : Nat) (d : Dk) (x p1 : Value) (q : Nat), j ≤ N ∧ k = .int .i64 ((N : Int) - (j : Nat)) ∧ q ≤ p + 14 + 40 * j ∧ d.2.length ≤ j ∧ Dq W0 R len cap a w b d x p1 wr q ∧ Apart (w.heap.size + 1) (.agg #[x, p1])) (fun k _ => (intOf k).toNat)
 case atStart => exact ⟨0, D, _, _, _, by omega, by go_num, by omega, hD0, hQ4, apart_none (fun g e => hxlo g e)⟩
 case round =>
  clear hQ4 hD0
  obtain ⟨j, d, x, p1, q, hj, rfl, hq, hd2, hQ, hap⟩ := hrel
  obtain ⟨x1, x2, x3, x4, hform⟩ := hQ.yd.form
  injection hform with hform
  simp at hform
  obtain ⟨rfl, rfl⟩ := hform
  by_cases hjn : j < N
  · have hc : (0 : Int) < (N : Int) - (j : Int) := by omega
    have hw1 : IntKind.i64.wrap ((N : Int) - (j : Int) - 1) = (N : Int) - (j : Int) - 1 := IntWalk.i64_in _ (by omega)
    have hd12 := hQ.rows.1
    have lb := (gE9.1 hQ.box).1
    have hlo := hQ.lo
    have hszr := hQ.gr.size
    gi_wp2
    refine wpIn_region_madeR W0 R len cap q a 30 4 5 [(some 23, 0), (some 24, 1), (some 25, 2), (some 26, 3), (some 27, 4), (some 28, 5), (some 22, 6), (some 29, 7), (some 30, 8), (some 8, 9), (none, 10)] (fun z => ∃ bo, z = .bool bo) (fun V y => ∃ D', RowsOk D' ∧ D'.2.length ≤ d.2.length + 1 ∧ YD (w.heap.size + 1) D' V y ∧ Apart (w.heap.size + 1) y) (by kernel_rfl) (by kernel_rfl) (by kernel_rfl) (by decide) (by kernel_rfl) (by kernel_rfl) (by rfl) (by decide) (by decide) hQ.rd
     (fun i v V => match i with | 0 => v = .agg #[.slice x1 d.1.length x2, .slice x3 d.2.length x4] | 1 => v = .pointer (some ⟨R, 0, none⟩) | 2 => v = .pointer (some ⟨b, 0, none⟩) | 3 => v = .slice x1 d.1.length x2 | 4 => ∃ k n, Fits k ∧ Fits n ∧ v = dV k n | _ => True)
     (fun i v V V' h hg => match i, h with | 0, h => h | 1, h => h | 2, h => h | 3, h => h | 4, h => h | (_ + 5), _ => trivial)
     (fun V V' qv y ⟨D', h1, h2, h3, h4⟩ hq' hg => ⟨D', h1, h2, h3.rd hq' (by omega) hg, h4⟩)
     (fun V b' a1 n1 c1 a2 n2 c2 ⟨D', h1, h2, h3, h4⟩ _ hz => ⟨D', h1, h2, (h3.set hz).set (set_cells hz 0 _), h4⟩)
     ?step ?call ?move ?ext0 ?ext1 ?allo ?stor ?tail
    case step =>
     rintro i oo s V qv hi ho hRV hqj hgV hd Q' hQ'
     have hQV := hQ.move hRV hgV
     obtain ⟨m0, m1, _, _⟩ := row_at hQV.box
     rcases (show i = 0 ∨ i = 1 ∨ i = 2 ∨ i = 3 ∨ i = 4 by omega) with rfl | rfl | rfl | rfl | rfl
     all_goals
      simp at ho
      subst ho
      simp only [putsOf, Act.put, List.setIfInBounds_toArray, List.set_cons_succ, List.set_cons_zero] at hQ' ⊢
      have hQh := hide hQ'
      clear hQ'
     · clear hd
       gi_wp2
       have hr := hQh.out
       exact hr _ _ qv hRV (fun _ => rfl) (by omega) (grownBy_refl _ _) rfl
     · clear hd
       gi_wp2
       have hr := hQh.out
       exact hr _ _ qv hRV (fun _ => rfl) (by omega) (grownBy_refl _ _) rfl
     · clear hd
       gi_wp2
       have hr := hQh.out
       exact hr _ _ qv hRV (fun _ => rfl) (by omega) (grownBy_refl _ _) rfl
     · have e1 : s 2 = .pointer (some ⟨b, 0, none⟩) := hd 2 (by decide) (by kernel_rfl)
       clear hd
       gi_wp2
       have hr := hQh.out
       simp only [e1] at hr ⊢
       exact hr _ _ qv hRV (fun _ => rfl) (by omega) (grownBy_refl _ _) rfl
     · have e1 : s 1 = .pointer (some ⟨R, 0, none⟩) := hd 1 (by decide) (by kernel_rfl)
       have e2 : s 3 = .slice x1 d.1.length x2 := hd 3 (by decide) (by kernel_rfl)
       have hqv := hqj rfl
       have hC := l20Deed_in W0 R len cap qv a V hb hRV (by omega) x1 d.1.length x2 (by omega)
       clear hd
       gi_wp2_with (refine ⟨trivial, ?_⟩; gi_at_call 94; go_loud (refine (cW9.2 hC).mono ?_; rintro e W9 ⟨⟨dk, dn, hk, hn9, rfl⟩, q9, hq9, hR9, hg9⟩))
       have hr := hQh.out
       simp only [e1, e2] at hr ⊢
       exact hr _ _ q9 hR9 (fun h => absurd rfl h) hq9 hg9 ⟨dk, dn, hk, hn9, rfl⟩
    case call =>
     rintro oo s V qv ho hRV hgV hd Q' hQ'
     have hQV := hQ.move hRV hgV
     obtain ⟨m0, m1, _, _⟩ := row_at hQV.box
     simp at ho
     subst ho
     simp only [putsOf, Act.put, List.setIfInBounds_toArray, List.set_cons_succ, List.set_cons_zero] at hQ' ⊢
     have hQh := hide hQ'
     clear hQ'
     have e1 : s 0 = .agg #[.slice x1 d.1.length x2, .slice x3 d.2.length x4] := hd 0 (by decide) (by kernel_rfl)
     obtain ⟨dk, dn, hk, hn9, e2⟩ : ∃ k n, Fits k ∧ Fits n ∧ s 4 = dV k n := hd 4 (by decide) (by kernel_rfl)
     have hC := specDo _ d dk dn V hQV.yd.deskI hQV.rows.dkS hk hn9
     have hsv := hgV.size
     unfold dV at e2 hC
     clear hd
     gi_wp2_with (refine ⟨trivial, ?_⟩; gi_at_call 66; go_loud (refine (cW9.2 hC).mono ?_; rintro e W9 ⟨y9, rfl, hy9, hN9, hB9⟩))
     obtain ⟨hY9, hA9⟩ := YD.of hy9 (hN9.2 (by omega))
     replace hY9 := hY9.down (base' := w.heap.size + 1) (by omega)
     replace hA9 := hA9.down (base' := w.heap.size + 1) (by omega)
     obtain ⟨z1, z2, z3, z4, rfl⟩ := hY9.form
     have hr := hQh.out
     simp only [e1, e2] at hr ⊢
     exact hr _ _ _ _ _ _ _ _ hB9 ⟨_, rfl⟩ ⟨_, doV_rows _ _ _, doV_past _ _ _, hY9, hA9⟩
    case move =>
     rintro oo s V y Q' ho hs hQ'
     simp at ho
     subst ho
     simp only [putsOf, Act.put, List.setIfInBounds_toArray, List.set_cons_succ, List.set_cons_zero] at hQ' ⊢
     have hQh := hide hQ'
     clear hQ'
     gi_wp2
     have hr := hQh.out
     simp only [hs] at hr ⊢
     exact hr
    case ext0 =>
     rintro oo s V y z Q' ho hs hQ'
     simp at ho
     subst ho
     simp only [putsOf, Act.put, List.setIfInBounds_toArray, List.set_cons_succ, List.set_cons_zero] at hQ' ⊢
     have hQh := hide hQ'
     clear hQ'
     replace hs : s 6 = .tuple #[y, z] := hs
     gi_wp2
     have hr := hQh.out
     simp only [hs] at hr ⊢
     exact hr
    case ext1 =>
     rintro oo s V y z Q' ho hs hQ'
     simp at ho
     subst ho
     simp only [putsOf, Act.put, List.setIfInBounds_toArray, List.set_cons_succ, List.set_cons_zero] at hQ' ⊢
     have hQh := hide hQ'
     clear hQ'
     replace hs : s 6 = .tuple #[y, z] := hs
     gi_wp2
     have hr := hQh.out
     simp only [hs] at hr ⊢
     exact hr
    case allo =>
     rintro oo s V Q' ho hQ'
     simp at ho
     subst ho
     simp only [putsOf, Act.put, List.setIfInBounds_toArray, List.set_cons_succ, List.set_cons_zero] at hQ' ⊢
     have hQh := hide hQ'
     clear hQ'
     gi_wp2
     exact hQh.out
    case stor =>
     rintro oo s V b' a1 n1 c1 a2 n2 c2 Q' ho hs1 hs2 hz hQ'
     obtain ⟨z0, z1, z2, z3⟩ := row_at hz
     simp at ho
     subst ho
     simp only [putsOf, Act.put, List.setIfInBounds_toArray, List.set_cons_succ, List.set_cons_zero] at hQ' ⊢
     have hQh := hide hQ'
     clear hQ'
     replace hs1 : s 9 = .pointer (some ⟨b', 0, none⟩) := hs1
     replace hs2 : s 7 = .agg #[.slice a1 n1 c1, .slice a2 n2 c2] := hs2
     gi_wp2
     have hr := hQh.out
     simp only [hs1, hs2] at hr ⊢
     exact hr
    case tail =>
     rintro s V bx a1 n1 c1 a2 n2 c2 q9 z hq9 hRV hgV f9 hbx kx hY f8 hz
     replace f9 : s 9 = .pointer (some ⟨bx, 0, none⟩) := f9
     replace f8 : s 8 = z := f8
     obtain ⟨bo, rfl⟩ := hz
     obtain ⟨D', hDr, hDp, hDY, hDA⟩ := hY
     have hQV := hQ.move hRV hgV
     obtain ⟨y1, y2, y3, y4, hf⟩ := hDY.form
     injection hf with hf
     simp at hf
     obtain ⟨⟨rfl, rfl, rfl⟩, rfl, rfl, rfl⟩ := hf
     obtain ⟨k0, k1, _, _⟩ := row_at kx
     obtain ⟨m0, m1, f0, f1⟩ := row_at hQV.box
     have hP := hide (hQV.put hDY hDr.dkZ)
     have hQV' := hide hQV
     clear hQV hQ hDY kx hgV hRV
     simp only [putsOf, Act.put, List.setIfInBounds_toArray, List.set_cons_succ, List.set_cons_zero]
     simp only [List.drop_succ_cons, List.drop_zero]
     cases bo
     · simp only [f8, f9]
       gi_wp2
       go_roundw
       case rel => exact ⟨j + 1, d, _, _, q9, by omega, by go_num, by omega, by omega, hQV'.out, hap⟩
       case measure => simp [intOf]; omega
     · simp only [f8, f9]
       gi_wp2
       go_roundw
       case rel => exact ⟨j + 1, D', _, _, q9, by omega, by go_num, by omega, by omega, hP.out, hDA⟩
       case measure => simp [intOf]; omega
  · obtain rfl : j = N := by omega
    have hc : ¬ (0 : Int) < (j : Int) - (j : Int) := by omega
    obtain ⟨m0, m1, f0, f1⟩ := row_at hQ.box
    obtain ⟨r0, r1, t0, t1⟩ := row_at hQ.res
    gi_wp2_with fail
    refine ⟨trivial, ?_⟩
    gi_at_call 49
    refine (cW9.2 (odd_any W0 R len cap _ a n _ hb hQ.rd (by omega) hn hn2)).mono ?_
    rintro e V1 ⟨bo, rfl, hR1, hg1⟩
    have hQ1 := hQ.move hR1 hg1
    clear hQ hR1 hg1
    cases bo with
    | false =>
      obtain ⟨m0, m1, f0, f1⟩ := row_at hQ1.box
      obtain ⟨r0, r1, t0, t1⟩ := row_at hQ1.res
      have hd9 := hide hQ1.done
      have hcn := hide (show LoN w.heap.size _ from fun x p e g e1 => by have := (hap x p e g e1).1; omega)
      have hdz := hide hQ1.rows
      gi_wp2
      (try simp only [Exit.inBlock, Exit.then])
      exact bodyPost_ret (results_desk rfl _ _ w.heap.size _ _ rfl hd9.out.1) rfl ⟨_, d, rfl, hd9.out.2.1, hcn.out, hdz.out, _, by omega, hd9.out.2.2⟩
    | true =>
      obtain ⟨m0, m1, f0, f1⟩ := row_at hQ1.box
      obtain ⟨r0, r1, t0, t1⟩ := row_at hQ1.res
      gi_wp2_with fail
      refine ⟨trivial, ?_⟩
      gi_at_call 42
      refine (cW9.2 (pick_in W0 R len cap _ a 3 _ hb hQ1.rd (by omega))).mono ?_
      rintro e V2 ⟨y, rfl, hy0, _, hy1, hR2, hg2, _⟩
      replace hy1 := hy1 (by omega)
      have hQ2 := hQ1.move hR2 hg2
      clear hQ1 hR2 hg2
      rcases (show y = 0 ∨ y = 1 ∨ y = 2 by omega) with rfl | rfl | rfl
      · have hA := World.grownBy_alloc V2 (.cells #[.int .i64 2] 3) (some R)
        have hQ3 := hQ2.move (hQ2.rd.alloc _) hA
        have hI : Ints (V2.alloc (.cells #[.int .i64 2] 3)) (.slice (some ⟨V2.heap.size, 0, none⟩) 1 1) [2] := .inr ⟨V2.heap.size, 1, rfl, by rw [World.size_alloc]; omega, fun i hi => by
         obtain rfl : i = 0 := by simpa using hi
         rw [World.cell?_alloc_at _ _ _ _ rfl]
         rfl⟩
        have hQ4 := hQ3.set0 hI (by simp)
        have hszg := hQ2.gr.size
        clear hQ2 hA hI
        obtain ⟨m0, m1, f0, f1⟩ := row_at hQ3.box
        obtain ⟨r0, r1, t0, t1⟩ := row_at hQ3.res
        obtain ⟨m0, m1, f0, f1⟩ := row_at hQ4.box
        obtain ⟨r0, r1, t0, t1⟩ := row_at hQ4.res
        have hd9 := hide hQ4.done
        have hcn := hide (show LoN w.heap.size _ from LoN.of (x := .slice (some ⟨V2.heap.size, 0, none⟩) 1 1) (p := .slice x3 d.2.length x4) (fun g e => by have e2 : some V2.heap.size = some g := e; injection e2 with e2; omega))
        have hdz := hide hQ4.rows
        clear hQ3 hQ4
        gi_wp2
        (try simp only [Exit.inBlock, Exit.then])
        exact bodyPost_ret (results_desk rfl _ _ w.heap.size _ _ rfl hd9.out.1) rfl ⟨_, ([2], d.2), rfl, hd9.out.2.1, hcn.out, hdz.out, _, by omega, hd9.out.2.2⟩
      · have hA := World.grownBy_alloc V2 (.cells #[] 3) (some R)
        have hQ3 := hQ2.move (hQ2.rd.alloc _) hA
        have hmade : (V2.alloc (.cells #[] 3)).ownsRow V2.heap.size 3 1 (.slice (some ⟨V2.heap.size, 0, none⟩) 0 0) 0 [] := World.ownsRow_made _ _ _ (Nat.le_refl _) (by decide) rfl
        have zA := World.size_alloc V2 (.cells #[] 3)
        obtain ⟨V3, hV3⟩ : ∃ V3, V2.alloc (.cells #[] 3) = V3 := ⟨_, rfl⟩
        have hsz2 := (gE9.1 hQ2.res).1
        rw [hV3] at hQ3 hmade zA
        have hA4 := World.grownBy_alloc V3 (.cells #[.slice (some ⟨V2.heap.size, 0, none⟩) 0 0] 28) (some R)
        have hQ4 := hQ3.move (hQ3.rd.alloc _) hA4
        have hm4 := own_below hmade ((Below.refl _ V3).alloc (Nat.le_refl _) (.cells #[.slice (some ⟨V2.heap.size, 0, none⟩) 0 0] 28))
        have hq4 : (V3.alloc (.cells #[.slice (some ⟨V2.heap.size, 0, none⟩) 0 0] 28)).cell? ⟨V3.heap.size, 0, none⟩ = some (.slice (some ⟨V2.heap.size, 0, none⟩) 0 0) := by rw [World.cell?_alloc_at _ _ _ _ rfl]; rfl
        obtain ⟨xx, pp, ee, hxx, us, hul, huo, hur⟩ := id hQ4.yd
        injection ee with ee
        simp at ee
        obtain ⟨rfl, rfl⟩ := ee
        have hsl := hQ4.lo
        have hbw := hQ4.gr.size
        have hulh := hide hul
        have zA2 := Nat.le_of_eq zA.symm
        clear zA hul
        obtain ⟨m0x, m1x, f0x, f1x⟩ := row_at hQ2.box
        obtain ⟨r0x, r1x, t0x, t1x⟩ := row_at hQ2.res
        obtain ⟨m0, m1, f0, f1⟩ := row_at hQ4.box
        obtain ⟨r0, r1, t0, t1⟩ := row_at hQ4.res
        clear hQ2 hA hA4 hQ3 hxx
        have hmx := hide (own_from hm4 (show w.heap.size + 1 ≤ V2.heap.size by omega))
        have hurh := hide hur
        clear hm4 hmade hur
        gi_wp2_with (gi_at_builtin; refine append_slice_in rfl _ _ rfl rfl (w.heap.size + 1) _ us.length us rfl huo V3.heap.size rfl hq4 (by have := hulh.out; omega) (by have := World.size_alloc V3 (.cells #[.slice (some ⟨V2.heap.size, 0, none⟩) 0 0] 28); omega) ?_; intro v5 w5 ho5 hg5; go_loud (obtain ⟨g5, c5, rfl⟩ := own_some ho5 (Nat.succ_pos _); rw [hulh.out] at ho5 ⊢; have hQ5 := hQ4.grow hap hulh.out huo hurh.out hmx.out (by rw [hulh.out]; exact ho5) hg5 (by omega); have hb5 := (hg5.block b (gE9.1 hQ4.box).1 (fun e => own_not huo hQ4.box (by decide) e.symm)).trans hQ4.box; obtain ⟨m0y, m1y, f0y, f1y⟩ := row_at hb5; obtain ⟨m0, m1, f0, f1⟩ := row_at hQ5.box; obtain ⟨r0, r1, t0, t1⟩ := row_at hQ5.res; have hd9 := hide hQ5.done; have hcn := hide (show LoN w.heap.size _ from (LoN.of (p := .slice (some ⟨g5, 0, none⟩) (d.2.length + 1) c5) (fun g e => (by have := (hap _ _ rfl g e).1; omega)))); have hdz := hide hQ5.rows; clear hQ4 hQ5 hb5 ho5))
        (try simp only [Exit.inBlock, Exit.then])
        exact bodyPost_ret (results_desk rfl _ _ w.heap.size _ _ rfl hd9.out.1) rfl ⟨_, (d.1, d.2 ++ [[]]), rfl, hd9.out.2.1, hcn.out, hdz.out, _, by omega, hd9.out.2.2⟩
      · obtain ⟨m0, m1, f0, f1⟩ := row_at hQ2.box
        obtain ⟨r0, r1, t0, t1⟩ := row_at hQ2.res
        have hcn := hide (show LoN w.heap.size (.agg #[.slice none 0 0, .slice none 0 0]) from LoN.of (fun g e => by simp [Value.ownBlock] at e))
        have hdz := hide rowsOk_none.dkZ
        have hd9 := hide (desk_set hQ2.res (.slice none 0 0) (.slice none 0 0))
        have hg9 := grownBy_setAt V2 w.heap.size 0 (.slice none 0 0)
        have hg8 := grownBy_setAt (V2.setCell ⟨w.heap.size, 0, none⟩ (.slice none 0 0)) w.heap.size 1 (.slice none 0 0)
        have hfin := hide (show YD w.heap.size ([], []) ((V2.setCell ⟨w.heap.size, 0, none⟩ (.slice none 0 0)).setCell ⟨w.heap.size, 1, none⟩ (.slice none 0 0)) (.agg #[.slice none 0 0, .slice none 0 0]) ∧ Rd W0 R a len cap ((V2.setCell ⟨w.heap.size, 0, none⟩ (.slice none 0 0)).setCell ⟨w.heap.size, 1, none⟩ (.slice none 0 0)) _ ∧ w.grownBy ((V2.setCell ⟨w.heap.size, 0, none⟩ (.slice none 0 0)).setCell ⟨w.heap.size, 1, none⟩ (.slice none 0 0)) (some R) from ⟨⟨_, _, rfl, Ints.none _ _ _, [], rfl, World.ownsRow_nil _ _ _ _, fun j hj => by simp at hj⟩, (hQ2.rd.kept hg9 (fun e => by injection e with e; omega) (fun k e => by injection e with e; omega)).kept hg8 (fun e => by injection e with e; omega) (fun k e => by injection e with e; omega), (hQ2.gr.andThen hg9 (fun k e => .inl (by injection e with e; omega))).andThen hg8 (fun k e => .inl (by injection e with e; omega))⟩)
        clear hg9 hg8 hQ2
        gi_wp2
        (try simp only [Exit.inBlock, Exit.then])
        exact bodyPost_ret (results_desk rfl _ _ w.heap.size _ _ rfl hd9.out) rfl ⟨_, ([], []), rfl, hfin.out.1, hcn.out, hdz.out, _, by omega, hfin.out.2⟩
theorem isRow_below {k : IntKind} {w w' : World} {a : Option Addr} {len cap : Nat} {zs : List Int} (h : IsRow k w a len cap zs) (hB : Below w.heap.size w w') : IsRow k w' a len cap zs := by
 rcases h with h | ⟨x, h1, h2, h3, h4, h5, h6⟩
 · exact .inl h
 · exact .inr ⟨x, h1, h2, h3, h4, fun i hi => (hB.cell (p := x.add i) (World.block_lt_of_cell? w _ (h5 i hi))).trans (h5 i hi), h6⟩
def DsO (base : Nat) (V : World) (v : Value) : Prop := ∃ L : List (Int × Int), L.length ≤ 41 ∧ (∀ x ∈ L, Fits x.1 ∧ Fits x.2) ∧ V.ownsRow base 39 2 v L.length (cellsD L)
theorem DsO.kept {base b : Nat} {V V' : World} {v : Value} (h : DsO base V v) (hg : V.grownBy V' (some b)) (hb : b < base) : DsO base V' v := by
 obtain ⟨L, h1, h2, h3⟩ := h
 exact ⟨L, h1, h2, h3.kept hg (.inr (fun e => by have := (h3.lt b e).1; omega))⟩
theorem DsO.below {base : Nat} {V V' : World} {v : Value} (h : DsO base V v) (hB : Below V.heap.size V V') : DsO base V' v := by
 obtain ⟨L, h1, h2, h3⟩ := h
 exact ⟨L, h1, h2, h3.kept (below_grownAt hB none) (by cases v.ownBlock <;> simp)⟩
def FinD (w : World) (d : Dk) (y x p : Value) (V : World) : Prop := V.heap[w.heap.size]? = some (.cells #[x, p] 31 (0, 0)) ∧ DeskI V y d ∧ Below w.heap.size w V
theorem FinD.below {w : World} {d : Dk} {y x p : Value} {V V' : World} (h : FinD w d y x p V) (hB : Below V.heap.size V V') : FinD w d y x p V' :=
 ⟨(hB.block _ (gE9.1 h.1).1).trans h.1, h.2.1.below hB, h.2.2.trans (hB.mono h.2.2.size)⟩
theorem finD_of {w w1 V : World} {base n1 c1 n2 c2 : Nat} {a1 a2 : Option Addr} {d : Dk} (hB : Below w.heap.size w w1) (hBV : Below w1.heap.size w1 V) (hYV : YD base d V (.agg #[.slice a1 n1 c1, .slice a2 n2 c2])) (kr : V.heap[w.heap.size]? = some (.cells #[.slice none 0 0, .slice none 0 0] 31 (0, 0))) :
 FinD w d (.agg #[.slice a1 n1 c1, .slice a2 n2 c2]) (.slice a1 n1 c1) (.slice a2 n2 c2) ((V.setCell ⟨w.heap.size, 0, .none⟩ (.slice a1 n1 c1)).setCell ⟨w.heap.size, 1, .none⟩ (.slice a2 n2 c2)) :=
 ⟨desk_set kr _ _, ((hYV.set (i := 0) (s := a1) (m := n1) (e := c1) kr).set (i := 1) (s := a2) (m := n2) (e := c2) (set_cells kr 0 _)).deskI,
  ((hB.trans (hBV.mono hB.size)).setCell (p := ⟨w.heap.size, 0, .none⟩) (Nat.le_refl _) _).setCell (p := ⟨w.heap.size, 1, .none⟩) (Nat.le_refl _) _⟩
theorem own_fromN {w : World} {base base' n size : Nat} {e : TypeId} {v : Value} {xs : List Value} (h : w.ownsRow base e size v n xs) (hb : base' ≤ base) : w.ownsRow base' e size v n xs := by
 obtain ⟨h1, h2⟩ := h
 refine ⟨h1, ?_⟩
 rcases h2 with h2 | ⟨g, cap, cur, e1, hb2, h3⟩
 · exact .inl h2
 · exact .inr ⟨g, cap, cur, e1, lT9 hb hb2, h3⟩
end
section
open Go.RowKit Go.BigFrame
def digS : ByteArray := ⟨#[48, 49, 50, 51, 52, 53, 54, 55, 56, 57, 97, 98, 99, 100, 101, 102, 103, 104, 105, 106, 107, 108, 109, 110, 111, 112, 113, 114, 115, 116, 117, 118, 119, 120, 121, 122]⟩
def twoS : ByteArray := ⟨((List.range 100).flatMap fun i => [UInt8.ofNat (48 + i / 10), UInt8.ofNat (48 + i % 10)]).toArray⟩
theorem dig_ten : ((List.range 10).all fun i => decide (digS.extract i (i + 1) = str (decF 20 i))) = true := by decide +kernel
theorem dig_two : ((List.range 100).all fun i => decide (i < 10 ∨ twoS.extract (i * 2) (i * 2 + 2) = str (decF 20 i))) = true := by decide +kernel
set_option maxRecDepth 100000 in
set_option maxHeartbeats 1000000 in
theorem small_ten (i : Nat) (hi : i < 10) (w : World) : Calls Tryz.prog 178 #[.int .i64 i] w fun e w' => e = .returned (.string (str (decF 20 i))) ∧ w = w' := by
 have h := List.all_eq_true.1 dig_ten i (List.mem_range.2 hi)
 simp only [decide_eq_true_eq] at h
 unfold digS at h
 have h1 : (i : Int) < 10 := by omega
 rw [← h]
 clear h
 go_enter Tryz.func178, Tryz.ntmps178
 go_wp2
 go_ret
 exact ⟨rfl, rfl⟩
set_option maxRecDepth 100000 in
set_option maxHeartbeats 1000000 in
theorem small_two (i : Nat) (h10 : 10 ≤ i) (hi : i < 100) (w : World) : Calls Tryz.prog 178 #[.int .i64 i] w fun e w' => e = .returned (.string (str (decF 20 i))) ∧ w = w' := by
 have h := List.all_eq_true.1 dig_two i (List.mem_range.2 hi)
 simp only [decide_eq_true_eq] at h
 have h := h.resolve_left (by omega)
 have h1 : ¬ (i : Int) < 10 := by omega
 rw [← h]
 clear h
 go_enter Tryz.func178, Tryz.ntmps178
 go_wp2
 go_ret
 exact ⟨by rfl, rfl⟩
theorem small_in (i : Nat) (hi : i < 100) (w : World) : Calls Tryz.prog 178 #[.int .i64 i] w fun e w' => e = .returned (.string (str (decF 20 i))) ∧ w = w' := by
 by_cases h : i < 10
 · exact small_ten i h w
 · exact small_two i (by omega) hi w
end
end Go.Proofs.YtiaaefapbcjgmaaGreatDoor
