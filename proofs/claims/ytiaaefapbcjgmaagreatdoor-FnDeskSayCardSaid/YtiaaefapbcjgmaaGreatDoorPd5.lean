/-
 Parts of the proofs, laid together: Answer12, AppTxt12, Ask12, DrawN12, LineI12, LineS12, LineT12, Read12b, Read12c, RegMadeT, RegStoreP, SayI12, SayLaw12, SayS12, TxtRow12.
-/
import Derived.WalkKit
import Derived.Laws.Concat
import Derived.Laws.Strings2
import Derived.OrdersIn
import Derived.TacticsIn
import Derived.Test.YtiaaefapbcjgmaaGreatDoorProg
import Derived.OwnWalkIn
import Derived.Deep.RegionLaw
import Derived.RangeFuncBox
import Derived.Laws.DeepStrings4
import Derived.Laws.Cover1
import Derived.Maps.AppendAt
import Derived.WalkSpells
import Derived.RangeFuncNested
import Derived.RangeFuncBound
import Derived.RangeFuncCalls
import Derived.RangeFuncLeaves
import Derived.BigRegion
import Derived.Shelf.Abstract
import Derived.Shelf.RegionOpen
import Derived.TacticsInMore
import Derived.LoopNIn
import Derived.LoopIn
import Derived.Deep.QuietTactic
import Derived.BigQuiet
import Derived.Below
import Derived.Laws.BytesString
import Derived.Deep.RegionWith
import Derived.DeepKeys5
import Derived.Maps.Keyed
import Derived.Deep.DeepCutAuto
import Derived.Laws.AppendOwnNone
import Derived.Lib.AtoiAll
import Derived.Lib.AtoiAllCases
import Derived.Lib.ItoaNum
import Derived.Lib.ItoaMem
import Derived.Lib.SplitLaws
import Derived.ControlIn
import Derived.Laws.CopyOwn
import Derived.StillTailTactics
import Derived.Maps.OwnSet
import Derived.Laws.Bits64
import Derived.Laws.Bits64b
import Derived.Lib.AppendZeros
import Derived.Lib.AppendZerosOnto
import Derived.Lib.AppendIntMem
import Derived.WideLaws
import Derived.Lib.SlicesS
import Derived.BigCall
import Derived.Maps.Own
import Derived.Maps.OwnOps
import Derived.StringKeys
import Derived.Shelf.Strings.BuilderK
import Derived.Lib.FrozenHead
import Derived.Tactics
import Derived.Tactics2
import Derived.Defers
import Derived.Laws.Pointers
import Derived.Laws.LoneSync
import Derived.RegionTactic
import Derived.RegionCalls
import Derived.ChangeAlike
import Derived.Laws.EntriesVeiled
import Derived.Laws.OwnMore
import Derived.BigFrameIn
import Derived.Test.YtiaaefapbcjgmaaGreatDoorLay12
import Derived.Test.YtiaaefapbcjgmaaGreatDoorLay6
import Derived.Test.YtiaaefapbcjgmaaGreatDoorPd0
import Derived.Test.YtiaaefapbcjgmaaGreatDoorPd1
import Derived.Test.YtiaaefapbcjgmaaGreatDoorPd2
import Derived.Test.YtiaaefapbcjgmaaGreatDoorPd3
import Derived.Test.YtiaaefapbcjgmaaGreatDoorPd4
namespace Go.Proofs.YtiaaefapbcjgmaaGreatDoor
section
open Go.RowKit
theorem index_in (p : List Nat) (hp : ∀ x ∈ p, x < 256) (g : Nat) (W : World) (hc : ∀ k v, wordsA[k]? = some v → W.cell? ⟨g, k, none⟩ = some v) :
 Calls Tryz.prog 92 #[.slice (some ⟨g, 0, none⟩) 6 6, .string (str p)] W fun e w' => e = .returned (.int .i64 (ixL p)) ∧ W = w' := by
 have hcw : ∀ i, i < 6 → W.cell? ⟨g, i, none⟩ = some (.string (str (wL i))) := fun i hi => hc i _ (words_str i hi)
 have hit : ∀ i, i < 6 → str p = str (wL i) → ixL p = i := fun i hi e => by
  have hb := List.all_eq_true.1 wL_byte i (List.mem_range.2 hi)
  have hx := List.all_eq_true.1 ixL_at i (List.mem_range.2 hi)
  have e2 : p = wL i := str_inj hp (fun x hx => by have := List.all_eq_true.1 hb x hx; simpa using this) (congrArg (fun b : ByteArray => b.data.toList) e)
  subst e2
  simpa using hx
 have miss : (∀ j, j < 6 → ¬ str p = str (wL j)) → ixL p = -1 := fun h => by
  have h' : ∀ j, j < 6 → ¬ p = wL j := fun j hj e => h j hj (by rw [e])
  unfold ixL
  rw [if_neg (h' 0 (by omega)), if_neg (h' 1 (by omega)), if_neg (h' 2 (by omega)), if_neg (h' 3 (by omega)), if_neg (h' 4 (by omega)), if_neg (h' 5 (by omega))]
 replace hcw := hide hcw
 replace hit := hide hit
 replace miss := hide miss
 obtain ⟨X, hX⟩ : ∃ X, str p = X := ⟨_, rfl⟩
 rw [hX] at hit miss ⊢
 obtain ⟨R, hR⟩ : ∃ R, ixL p = R := ⟨_, rfl⟩
 rw [hR] at hit miss ⊢
 clear hc hX hR hp
 go_enter Tryz.func92, Tryz.ntmps92
 go_wp2
 go_loopw [8] (fun a wr => ∃ i : Nat, i ≤ 6 ∧ a = .int .i64 i ∧ wr = W ∧ Hid (∀ j, j < i → ¬ X = str (wL j))) (fun a _ => 6 - (intOf a).toNat)
 case atStart => exact ⟨0, by omega, rfl, rfl, hide fun j hj => absurd hj (Nat.not_lt_zero j)⟩
 case round =>
  obtain ⟨i, hi, rfl, rfl, hno⟩ := hrel
  by_cases hlt : i < 6
  · have hlti : (i : Int) < 6 := by omega
    have hcell := hcw.out i hlt
    obtain ⟨Y, hY⟩ : ∃ Y, str (wL i) = Y := ⟨_, rfl⟩
    rw [hY] at hcell
    by_cases e : X = Y
    · have hr := hit.out i hlt (e.trans hY.symm)
      subst e
      subst hr
      go_wp2
      go_ret
      exact ⟨rfl, rfl⟩
    · have hne := (Lib.bytes_beq_false_iff X Y).2 e
      have hno' := hide (show ∀ j, j < i + 1 → ¬ X = str (wL j) from fun j hj => by
       rcases Nat.lt_or_ge j i with h | h
       · exact hno.out j h
       · obtain rfl : j = i := by omega
         rw [hY]; exact e)
      clear hno
      go_wp2
      go_roundw
      case rel => exact ⟨i + 1, by omega, by go_num, trivial, hno'⟩
      case measure => simp [intOf]; omega
  · obtain rfl : i = 6 := by omega
    have hr := miss.out hno.out
    subst hr
    go_wp2
    go_ret
    exact ⟨rfl, rfl⟩
def okR (i : Nat) : Bool :=
 let a := nthD i
 let r := rlV (deedT a.1 a.2)
 decide (ixL r.1 = a.1 ∧ r.2.headD 0 = a.2)
set_option maxRecDepth 100000 in
theorem okR_all : ((List.range 114).all okR) = true := by decide +kernel
theorem okR_of {l : List Nat} {a : Int × Int} (h : readD l = some a) : ixL (rlV l).1 = a.1 ∧ (rlV l).2.headD 0 = a.2 := by
 obtain ⟨h1, h2⟩ := readD_text h
 subst h2
 obtain ⟨i, hi, he⟩ := isD_nth (deedT_is h1)
 have h3 := List.all_eq_true.1 okR_all i (List.mem_range.2 hi)
 unfold okR at h3
 rw [he] at h3
 simpa using h3
theorem rdv_none {l : List Nat} (h : ixL (rlV l).1 < 0) : rdV l = ((0, 0), false) := by
 unfold rdV
 cases hr : readD l with
 | none => rfl
 | some a =>
   have := (okR_of hr).1
   obtain ⟨h3, h4⟩ := readD_text hr
   rw [← h4] at h3
   have h5 := deedT_is h3
   unfold isD at h5
   omega
theorem rdv_other {l : List Nat} (h : ¬ deedT (ixL (rlV l).1) ((rlV l).2.headD 0) = l) : rdV l = ((0, 0), false) := by
 unfold rdV
 cases hr : readD l with
 | none => rfl
 | some a =>
   obtain ⟨h1, h2⟩ := okR_of hr
   rw [h1, h2] at h
   exact absurd (readD_text hr).2 h
theorem rdv_this {l : List Nat} (h0 : 0 ≤ ixL (rlV l).1) (h : deedT (ixL (rlV l).1) ((rlV l).2.headD 0) = l) : rdV l = ((ixL (rlV l).1, (rlV l).2.headD 0), true) := by
 unfold rdV
 have hne : l ≠ [] := fun e => by
  subst e
  revert h0
  decide
 have h2 := read_of_text (k := ixL (rlV l).1) (n := (rlV l).2.headD 0) (by rw [h]; exact hne)
 rw [h] at h2
 rw [h2]
theorem numsL_le : ∀ (ps : List (List Nat)) (ns : List Int), numsL ps = some ns → ∀ x ∈ ns, 0 ≤ x ∧ x ≤ 999999999
 | [], ns, h, x, hx => by
   rw [numsL] at h
   injection h with h
   subst h
   cases hx
 | p :: r, ns, h, x, hx => by
   rw [numsL_cons] at h
   cases hd : digT p with
   | none => rw [hd] at h; cases h
   | some m =>
     rw [hd] at h
     simp only at h
     cases hr : numsL r with
     | none => rw [hr] at h; cases h
     | some ms =>
       rw [hr] at h
       injection h with h
       subst h
       rcases List.mem_cons.1 hx with rfl | hx
       · have := (dig_is hd).1; omega
       · exact numsL_le r ms hr x hx
theorem rl_le (l : List Nat) : ∀ x ∈ (rlV l).2, 0 ≤ x ∧ x ≤ 999999999 := by
 unfold rlV
 cases h : numsL (cutT 32 l).tail with
 | none => intro x hx; cases hx
 | some ns => exact numsL_le _ ns h
theorem rl_byte (l : List Nat) (hl : ∀ x ∈ l, x < 256) : ∀ x ∈ (rlV l).1, x < 256 := by
 unfold rlV
 cases h : numsL (cutT 32 l).tail with
 | none => intro x hx; cases hx
 | some ns =>
   intro x hx
   have := cutL_mem 32 l [] ((cutT 32 l).getD 0 []) (word_mem _ 0 (cutL_pos 32 l []))
   exact hl x ((this.1 x hx).resolve_left (by simp))
theorem ixL_le (p : List Nat) : -1 ≤ ixL p ∧ ixL p ≤ 5 := by
 unfold ixL
 repeat' split
 all_goals omega
theorem ints_first {w : World} {base : Nat} {v : Value} {xs : List Int} (h : w.ownsRow base 3 1 v xs.length (xs.map (Value.int .i64))) :
 (xs = [] ∧ ∃ a c, v = .slice a 0 c) ∨ (∃ g c n, xs ≠ [] ∧ v = .slice (some ⟨g, 0, none⟩) (n + 1) c ∧ xs.length = n + 1 ∧ base ≤ g ∧ w.cell? ⟨g, 0, none⟩ = some (.int .i64 (xs.headD 0))) := by
 cases xs with
 | nil =>
   rcases h.2 with ⟨rfl, _⟩ | ⟨g, cap, cur, rfl, _⟩
   · exact .inl ⟨rfl, _, _, rfl⟩
   · exact .inl ⟨rfl, _, _, rfl⟩
 | cons x xs =>
   rcases h.2 with ⟨_, h0⟩ | ⟨g, cap, cur, rfl, hb, hk, hn, hm, hs, hx⟩
   · simp at h0
   · refine .inr ⟨g, cap, xs.length, by simp, rfl, by simp, hb, ?_⟩
     have h0 := congrArg (fun q : List Value => q[0]?) hx
     simp at h0
     simp [World.cell?, hk, h0]
theorem cr_blockD {W : World} {b : Nat} {cur : Array Value} {t : TypeId} (h : W.heap[b]? = some (.cells cur t (0, 0))) (p : Nat) (v : Value) : (W.setCell ⟨b, p, none⟩ v).heap[b]? = some (.cells (cur.setIfInBounds p v) t (0, 0)) := by
 obtain ⟨hlt, hk⟩ := gE9.1 h
 show (W.heap.modify b _)[b]? = _
 rw [Array.getElem?_eq_getElem (by rw [Array.size_modify]; exact hlt), Array.getElem_modify_self, hk]; rfl
set_option maxRecDepth 100000 in
set_option maxHeartbeats 2000000 in
theorem implReadDeed (l : List Nat) (hl : ∀ x ∈ l, x < 256) (hn : l.length ≤ 1100000) (w : World) (hE : Env w) : Calls Tryz.prog 46 #[.string (str l)] w fun e w' => e = .returned (.tuple #[dV (rdV l).1.1 (rdV l).1.2, .bool (rdV l).2]) ∧ Below w.heap.size w w' := by
 have hR := fun V hV => readLine_in l hl hn V hV
 have hI := fun g W hc => index_in (rlV l).1 (rl_byte l hl) g W hc
 have h1 := rdv_none (l := l)
 have h2 := rdv_other (l := l)
 have h3 := rdv_this (l := l)
 have hle := ixL_le (rlV l).1
 have hns := rl_le l
 obtain ⟨⟨p, xs⟩, hr⟩ : ∃ r, rlV l = r := ⟨_, rfl⟩
 rw [hr] at hR hI h1 h2 h3 hle hns
 simp only at hR hI h1 h2 h3 hle hns
 obtain ⟨K, hK⟩ : ∃ K, ixL p = K := ⟨_, rfl⟩
 rw [hK] at hI h1 h2 h3 hle
 have hNb : 0 ≤ xs.headD 0 ∧ xs.headD 0 ≤ 999999999 := by
  cases xs with
  | nil => exact ⟨by decide, by decide⟩
  | cons x xs => exact hns x (by simp)
 have hT := fun V => implDeedText K (xs.headD 0) ⟨by omega, by omega⟩ ⟨by omega, by omega⟩ V
 have hcmp : ((str (deedT K (xs.headD 0))).toList == (str l).toList) = decide (deedT K (xs.headD 0) = l) := by
  rw [Bool.eq_iff_iff, beq_iff_eq, decide_eq_true_eq, str_toList, str_toList]
  exact ⟨fun e => str_inj (fun x hx => (deed_byte _ _ x hx).1) hl e, fun e => by rw [e]⟩
 obtain ⟨P, hP⟩ : ∃ P, str p = P := ⟨_, rfl⟩
 obtain ⟨S, hS⟩ : ∃ S, str l = S := ⟨_, rfl⟩
 rw [hS] at hR hcmp ⊢
 rw [hP] at hR hI
 clear hr hK hP hS hns hl hn
 have hB0 : Below w.heap.size w (w.alloc (.cells #[.int .i64 0, .int .i64 0] 39)) := (Below.refl _ w).alloc (Nat.le_refl _) _
 have hres0 := aN9 w (.cells #[.int .i64 0, .int .i64 0] 39)
 have hsz0 := World.size_alloc w (.cells #[.int .i64 0, .int .i64 0] 39)
 have hE0 := hE.below hB0
 obtain ⟨W0, hW0⟩ : ∃ W0, w.alloc (.cells #[.int .i64 0, .int .i64 0] 39) = W0 := ⟨_, rfl⟩
 rw [hW0] at hB0 hres0 hsz0 hE0
 have hres : ∀ W, Below W0.heap.size W0 W → W.heap[w.heap.size]? = some (.cells #[.int .i64 0, .int .i64 0] 39 (0, 0)) := fun W hW => (hW.block _ (by omega)).trans hres0
 replace hres := hide hres
 have hk : K < 0 ∨ 0 ≤ K := by omega
 rcases hk with hk | hk
 · have hrd := hide (h1 hk)
   clear h1 h2 h3 hT hcmp hNb
   go_enter Tryz.func46, Tryz.ntmps46
   go_wp2_with (first
    | (go_at_call 91; refine (hR _ hE0).mono ?_; clear hR; rintro e w1 ⟨v, rfl, hown, hB1⟩)
    | (go_at_call 57; refine (words_at _).mono ?_; go_loud (rintro e w2 ⟨rfl, hwk, hB2⟩; have hB12 := hB1.trans (hB2.mono hB1.size); have hI2 := hI _ _ hwk; have hr8 := hres.out _ hB12; have d0 : w2.cell? ⟨w.heap.size, 0, none⟩ = some (.int .i64 0) := (by simp [World.cell?, hr8]); have d1 : w2.cell? ⟨w.heap.size, 1, none⟩ = some (.int .i64 0) := (by simp [World.cell?, hr8]); have f0 : w2.frozen? ⟨w.heap.size, 0, none⟩ = false := (by simp [World.frozen?, hr8]); have f1 : w2.frozen? ⟨w.heap.size, 1, none⟩ = false := (by simp [World.frozen?, hr8]); clear hI hwk))
    | (go_at_call 92; refine hI2.mono ?_; clear hI2; rintro e w3 ⟨rfl, rfl⟩))
   have hset := deed_set hr8 0 0
   refine bodyPost_ret (results_deed rfl _ _ w.heap.size 0 0 rfl hset) rfl ⟨by rw [hrd.out]; rfl, ?_⟩
   exact (((hB0.trans (hB12.mono hB0.size)).setCell (p := ⟨w.heap.size, 0, none⟩) (Nat.le_refl _) _).setCell (p := ⟨w.heap.size, 1, none⟩) (Nat.le_refl _) _)
 · obtain ⟨DT, hDT⟩ : ∃ DT, str (deedT K (xs.headD 0)) = DT := ⟨_, rfl⟩
   obtain ⟨N, hN⟩ : ∃ N, xs.headD 0 = N := ⟨_, rfl⟩
   rw [hN] at h2 h3 hT hcmp hDT
   rw [hDT] at hT hcmp
   unfold dV at hT
   have hk1 : ¬ K < 0 := by omega
   have hfin : Hid (rdV l = if deedT K N = l then ((K, N), true) else ((0, 0), false)) := by
    by_cases e : deedT K N = l
    · rw [if_pos e]; exact hide (h3 hk e)
    · rw [if_neg e]; exact hide (h2 e)
   have hfirst := fun (W : World) (v : Value) (h : W.ownsRow W0.heap.size 3 1 v xs.length (xs.map (Value.int .i64))) => ints_first h
   rw [hN] at hfirst
   have hNx : xs = [] → N = 0 := fun e => by rw [← hN, e]; rfl
   clear h1 h2 h3 hDT hNb hN
   go_enter Tryz.func46, Tryz.ntmps46
   go_wp2_with (go_at_call 91; refine (hR _ hE0).mono ?_; clear hR)
   intro e w1 v he hown hB1
   subst he
   rw [← hsz0] at hown hB1
   have hf := hfirst _ _ hown
   clear hfirst hown
   rcases hf with ⟨hx0, a0, c0, rfl⟩ | ⟨g, c0, n0, hx0, rfl, hx1, hg, hcell⟩
   · have hN0 := hNx hx0
     subst hx0
     subst hN0
     go_wp2_with (first
      | (go_at_call 57; refine (words_at _).mono ?_; go_loud (rintro e w2 ⟨rfl, hwk, hB2⟩; have hB12 := hB1.trans (hB2.mono hB1.size); have hI2 := hI _ _ hwk; clear hI hwk))
      | (go_at_call 92; refine hI2.mono ?_; clear hI2; rintro e w3 ⟨rfl, rfl⟩)
      | (go_at_call 15; refine (hT _).mono ?_; clear hT))
     rintro e w4 ⟨rfl, hB4⟩
     have hbx := aN9 w2 (.cells #[.int .i64 K, .int .i64 0] 39)
     have hbs := World.size_alloc w2 (.cells #[.int .i64 K, .int .i64 0] 39)
     have hBb : Below W0.heap.size W0 (w2.alloc (.cells #[.int .i64 K, .int .i64 0] 39)) := hB12.alloc hB12.size _
     have hBb4 := hBb.trans (hB4.mono hBb.size)
     have hbx4 := (hB4.block _ (by omega)).trans hbx
     obtain ⟨b, hb⟩ : ∃ b, w2.heap.size = b := ⟨_, rfl⟩
     rw [hb] at hbx4 ⊢
     clear hbx hbs hBb hB4 hb
     have hr8 := hres.out _ hBb4
     have d0 : w4.cell? ⟨w.heap.size, 0, none⟩ = some (.int .i64 0) := (by simp [World.cell?, hr8])
     have d1 : w4.cell? ⟨w.heap.size, 1, none⟩ = some (.int .i64 0) := (by simp [World.cell?, hr8])
     have f0 : w4.frozen? ⟨w.heap.size, 0, none⟩ = false := (by simp [World.frozen?, hr8])
     have f1 : w4.frozen? ⟨w.heap.size, 1, none⟩ = false := (by simp [World.frozen?, hr8])
     have b0 : w4.cell? ⟨b, 0, none⟩ = some (.int .i64 K) := (by simp [World.cell?, hbx4])
     have b1 : w4.cell? ⟨b, 1, none⟩ = some (.int .i64 0) := (by simp [World.cell?, hbx4])
     by_cases he : deedT K 0 = l
     · have hfin' := hfin.out
       rw [if_pos he] at hfin'
       rw [decide_eq_true he] at hcmp
       replace hfin' := hide hfin'
       clear hfin
       go_wp2
       have hset := deed_set hr8 K 0
       refine bodyPost_ret (results_deed rfl _ _ w.heap.size K 0 rfl hset) rfl ⟨by rw [hfin'.out]; rfl, ?_⟩
       exact (((hB0.trans (hBb4.mono hB0.size)).setCell (p := ⟨w.heap.size, 0, none⟩) (Nat.le_refl _) _).setCell (p := ⟨w.heap.size, 1, none⟩) (Nat.le_refl _) _)
     · have hfin' := hfin.out
       rw [if_neg he] at hfin'
       rw [decide_eq_false he] at hcmp
       replace hfin' := hide hfin'
       clear hfin
       go_wp2
       have hset := deed_set hr8 0 0
       refine bodyPost_ret (results_deed rfl _ _ w.heap.size 0 0 rfl hset) rfl ⟨by rw [hfin'.out]; rfl, ?_⟩
       exact (((hB0.trans (hBb4.mono hB0.size)).setCell (p := ⟨w.heap.size, 0, none⟩) (Nat.le_refl _) _).setCell (p := ⟨w.heap.size, 1, none⟩) (Nat.le_refl _) _)
   · go_wp2_with (first
    | (go_at_call 57; refine (words_at _).mono ?_)
    | (go_at_call 92; refine hI2.mono ?_; clear hI2; rintro e w3 ⟨rfl, rfl⟩)
    | (go_at_call 15; refine (hT _).mono ?_; clear hT))
     rintro e w2 ⟨rfl, hwk, hB2⟩
     have hB12 := hB1.trans (hB2.mono hB1.size)
     have hI2 := hI _ _ hwk
     have hg2 := World.block_lt_of_cell? w1 _ hcell
     have hcell2 := (hB2.cell (p := ⟨g, 0, none⟩) hg2).trans hcell
     have hsz2 := hB2.size
     have hbx := aN9 w2 (.cells #[.int .i64 K, .int .i64 0] 39)
     have hbs := World.size_alloc w2 (.cells #[.int .i64 K, .int .i64 0] 39)
     have hBb : Below W0.heap.size W0 (w2.alloc (.cells #[.int .i64 K, .int .i64 0] 39)) := hB12.alloc hB12.size _
     have hcell3 : (w2.alloc (.cells #[.int .i64 K, .int .i64 0] 39)).cell? ⟨g, 0, none⟩ = some (.int .i64 N) := (((Below.refl w2.heap.size w2).alloc (Nat.le_refl _) _).cell (p := ⟨g, 0, none⟩) (lL9 hg2 hsz2)).trans hcell2
     have hbsz := hB12.size
     obtain ⟨b, hb⟩ : ∃ b, w2.heap.size = b := ⟨_, rfl⟩
     obtain ⟨W3, hW3⟩ : ∃ W3, w2.alloc (.cells #[.int .i64 K, .int .i64 0] 39) = W3 := ⟨_, rfl⟩
     rw [hW3] at hbx hbs hBb hcell3
     rw [hb] at hbx hbs hbsz hsz2
     have e0 : W3.cell? ⟨b, 0, none⟩ = some (.int .i64 K) := (by simp [World.cell?, hbx])
     have e1 : W3.cell? ⟨b, 1, none⟩ = some (.int .i64 0) := (by simp [World.cell?, hbx])
     have g0 : W3.frozen? ⟨b, 0, none⟩ = false := (by simp [World.frozen?, hbx])
     have g1 : W3.frozen? ⟨b, 1, none⟩ = false := (by simp [World.frozen?, hbx])
     have hbx6 : (W3.setCell ⟨b, 1, none⟩ (.int .i64 0)).heap[b]? = some (.cells #[.int .i64 K, .int .i64 0] 39 (0, 0)) := cr_blockD hbx 1 _
     have hBb6 : Below W0.heap.size W0 (W3.setCell ⟨b, 1, none⟩ (.int .i64 0)) := hBb.setCell (p := ⟨b, 1, none⟩) hbsz _
     obtain ⟨W6, hW6⟩ : ∃ W6, W3.setCell ⟨b, 1, none⟩ (.int .i64 0) = W6 := ⟨_, rfl⟩
     rw [hW6] at hbx6 hBb6
     have j0 : W6.cell? ⟨b, 0, none⟩ = some (.int .i64 K) := (by simp [World.cell?, hbx6])
     have j1 : W6.cell? ⟨b, 1, none⟩ = some (.int .i64 0) := (by simp [World.cell?, hbx6])
     have k0 : W6.frozen? ⟨b, 0, none⟩ = false := (by simp [World.frozen?, hbx6])
     have k1 : W6.frozen? ⟨b, 1, none⟩ = false := (by simp [World.frozen?, hbx6])
     have hgb : g ≠ b := by have : g < w1.heap.size := hg2; omega
     have hcell6 : W6.cell? ⟨g, 0, none⟩ = some (.int .i64 N) := by
      rw [← hW6]
      exact (World.cell?_of_block (Below.heap_setCell W3 ⟨b, 1, none⟩ _ g hgb)).trans hcell3
     have hbx5 : (W6.setCell ⟨b, 1, none⟩ (.int .i64 N)).heap[b]? = some (.cells #[.int .i64 K, .int .i64 N] 39 (0, 0)) := cr_blockD hbx6 1 _
     have hB5 : Below W0.heap.size W0 (W6.setCell ⟨b, 1, none⟩ (.int .i64 N)) := hBb6.setCell (p := ⟨b, 1, none⟩) hbsz _
     obtain ⟨W5, hW5⟩ : ∃ W5, W6.setCell ⟨b, 1, none⟩ (.int .i64 N) = W5 := ⟨_, rfl⟩
     rw [hW5] at hbx5 hB5
     have i0 : W5.cell? ⟨b, 0, none⟩ = some (.int .i64 K) := (by simp [World.cell?, hbx5])
     have i1 : W5.cell? ⟨b, 1, none⟩ = some (.int .i64 N) := (by simp [World.cell?, hbx5])
     clear hwk hI hcell hcell2 hg2 hsz2 hbs hBb hBb6
     go_wp2_with (first
      | (go_at_call 92; refine hI2.mono ?_; clear hI2; rintro e w3 ⟨rfl, rfl⟩)
      | (go_at_call 15; refine (hT _).mono ?_; clear hT))
     rintro e w4 ⟨rfl, hB4⟩
     have hb5 := (gE9.1 hbx5).1
     have hBb4 := hB5.trans (hB4.mono hB5.size)
     have hbx4 := (hB4.block _ hb5).trans hbx5
     clear hbx hB5 hB4 e0 e1 g0 g1 i0 i1 hcell3 hbx5 j0 j1 k0 k1 hcell6 hbx6
     have hr8 := hres.out _ hBb4
     have d0 : w4.cell? ⟨w.heap.size, 0, none⟩ = some (.int .i64 0) := (by simp [World.cell?, hr8])
     have d1 : w4.cell? ⟨w.heap.size, 1, none⟩ = some (.int .i64 0) := (by simp [World.cell?, hr8])
     have f0 : w4.frozen? ⟨w.heap.size, 0, none⟩ = false := (by simp [World.frozen?, hr8])
     have f1 : w4.frozen? ⟨w.heap.size, 1, none⟩ = false := (by simp [World.frozen?, hr8])
     have b0 : w4.cell? ⟨b, 0, none⟩ = some (.int .i64 K) := (by simp [World.cell?, hbx4])
     have b1 : w4.cell? ⟨b, 1, none⟩ = some (.int .i64 N) := (by simp [World.cell?, hbx4])
     by_cases he : deedT K N = l
     · have hfin' := hfin.out
       rw [if_pos he] at hfin'
       rw [decide_eq_true he] at hcmp
       replace hfin' := hide hfin'
       clear hfin
       go_wp2
       have hset := deed_set hr8 K N
       refine bodyPost_ret (results_deed rfl _ _ w.heap.size K N rfl hset) rfl ⟨by rw [hfin'.out]; rfl, ?_⟩
       exact (((hB0.trans (hBb4.mono hB0.size)).setCell (p := ⟨w.heap.size, 0, none⟩) (Nat.le_refl _) _).setCell (p := ⟨w.heap.size, 1, none⟩) (Nat.le_refl _) _)
     · have hfin' := hfin.out
       rw [if_neg he] at hfin'
       rw [decide_eq_false he] at hcmp
       replace hfin' := hide hfin'
       clear hfin
       go_wp2
       have hset := deed_set hr8 0 0
       refine bodyPost_ret (results_deed rfl _ _ w.heap.size 0 0 rfl hset) rfl ⟨by rw [hfin'.out]; rfl, ?_⟩
       exact (((hB0.trans (hBb4.mono hB0.size)).setCell (p := ⟨w.heap.size, 0, none⟩) (Nat.le_refl _) _).setCell (p := ⟨w.heap.size, 1, none⟩) (Nat.le_refl _) _)
theorem rl_len (l : List Nat) : (rlV l).1.length ≤ l.length := by
 unfold rlV
 split
 · simp
 · have hpos := cutL_pos 32 l []
   have := cutL_mem 32 l [] ((cutT 32 l).getD 0 []) (word_mem _ 0 hpos)
   exact lT9 this.2 (by simp)
theorem nums_le : ∀ {p : List (List Nat)} {ns : List Int}, numsL p = some ns → ∀ n ∈ ns, 0 ≤ n ∧ n ≤ 999999999
 | [], ns, h, n, hn => by cases h; simp at hn
 | w :: r, ns, h, n, hn => by
   rw [numsL] at h
   split at h
   · cases h
   · rename_i m hm
     split at h
     · cases h
     · rename_i ms h2
       cases h
       rcases List.mem_cons.1 hn with rfl | hn
       · have := (dig_is hm).1; omega
       · exact nums_le h2 n hn
theorem rl_nums (l : List Nat) : ∀ n ∈ (rlV l).2, 0 ≤ n ∧ n ≤ 999999999 := by
 unfold rlV
 split
 · simp
 · rename_i ns h
   exact nums_le h
theorem said_all : ∀ i, i < 12 → SaidBy (qF i) (qC i) (fun row ns => qA row ns i)
 | 0, _ => said_row
 | 1, _ => said_ones
 | 2, _ => said_last
 | 3, _ => said_end
 | 4, _ => said_balanced
 | 5, _ => said_shared
 | 6, _ => said_ways
 | 7, _ => said_cell
 | 8, _ => said_kept
 | 9, _ => said_left
 | 10, _ => said_often
 | 11, _ => said_carries
 | _ + 12, h => by omega
set_option maxRecDepth 100000 in
set_option maxHeartbeats 4000000 in
theorem answered_in (x p : Value) (row : List Int) (l : List Nat) (w : World) (hx : Ints w x row) (hs : sideB row = true) (hl : ∀ c ∈ l, c < 256) (hn : l.length ≤ 1100000) (hE : Env w) :
 Calls Tryz.prog 53 #[.agg #[x, p], .string (str l)] w fun e w' => e = .returned (.string (str (ansV row l))) ∧ Below w.heap.size w w' := by
 have hB0 := (Below.refl _ w).alloc (Nat.le_refl _) (.cells #[x, p] 31)
 obtain ⟨c0, c1⟩ := desk_box (w := w) (x := x) (p := p) (t := 31)
 obtain ⟨W1, hW1⟩ : ∃ W1, w.alloc (.cells #[x, p] 31) = W1 := ⟨_, rfl⟩
 rw [hW1] at hB0 c0 c1
 have hb0 : w.heap.size < W1.heap.size := World.block_lt_of_cell? _ _ c0
 have hE1 := hE.below hB0
 have hx1 := hx.below hB0
 have hRl := readLine_in l hl hn W1 hE1
 have hwb := rl_byte l hl
 have hwl := rl_len l
 have hns := rl_nums l
 unfold ansV
 obtain ⟨⟨Wd, ns⟩, hr⟩ : ∃ r, rlV l = r := ⟨_, rfl⟩
 rw [hr] at hRl hwb hwl hns ⊢
 simp only at hRl hwb hwl hns ⊢
 obtain ⟨LS, hLS⟩ : ∃ LS, str l = LS := ⟨_, rfl⟩
 rw [hLS] at hRl ⊢
 obtain ⟨OUT, hO⟩ : ∃ O, (if qI Wd < 12 ∧ ns.length = qC (qI Wd) then qA row ns (qI Wd) else whatT) = O := ⟨_, rfl⟩
 rw [hO]
 replace hO := hide hO
 clear hx hr hLS hE
 go_enter Tryz.func53, Tryz.ntmps53
 go_wp2_with fail
 go_at_call 91
 refine hRl.mono ?_
 rintro e W2 ⟨v, rfl, hown, hB2⟩
 have hI2 := Ints.of_owns hown
 obtain ⟨va, vc, rfl⟩ := own_form hown
 clear hRl hown
 go_wp2_with fail
 go_at_call 97
 refine (questions_in _).mono ?_
 rintro e W3 ⟨rfl, hQ, hB3⟩
 obtain ⟨qv, hlook, hv1, hv2⟩ := qLook hQ Wd hwb (by omega)
 have hB13 := hB2.trans (hB3.mono hB2.size)
 have hI3 := hI2.below hB3
 clear hQ hwb hwl hI2
 obtain ⟨XW, hXW⟩ : ∃ XW, str Wd = XW := ⟨_, rfl⟩
 rw [hXW] at hlook ⊢
 by_cases hq : qI Wd < 12
 · obtain rfl := hv1 hq
   rw [decide_eq_true hq] at hlook
   obtain ⟨i, hi⟩ : ∃ i, qI Wd = i := ⟨_, rfl⟩
   rw [hi] at hq hlook
   have hO1 : ns.length = qC i → OUT = qA row ns i := fun h => by rw [← hO.out, hi, if_pos ⟨hq, h⟩]
   have hO2 : ¬ ns.length = qC i → OUT = whatT := fun h => by rw [← hO.out, hi, if_neg (fun e => h e.2)]
   replace hO1 := hide hO1
   replace hO2 := hide hO2
   clear hv1 hv2 hi hXW hO
   have hB14 := hB13.alloc hB13.size (.cells #[.int .i64 (qC i : Nat), .func (.func (qF i)) #[] #[]] 121)
   have kq := aN9 W3 (.cells #[.int .i64 (qC i : Nat), .func (.func (qF i)) #[] #[]] 121)
   have hB34 := (Below.refl _ W3).alloc (Nat.le_refl _) (.cells #[.int .i64 (qC i : Nat), .func (.func (qF i)) #[] #[]] 121)
   by_cases hc : ns.length = qC i
   · have hS := said_all i hq x p (.slice va ns.length vc) row ns (W3.alloc (.cells #[.int .i64 (qC i : Nat), .func (.func (qF i)) #[] #[]] 121)) (hx1.below hB14) hs (hI3.below hB34) hc hns (hE1.below hB14)
     have hOe := hide (hO1.out hc)
     rw [hc] at hS ⊢
     rcases (show i = 0 ∨ i = 1 ∨ i = 2 ∨ i = 3 ∨ i = 4 ∨ i = 5 ∨ i = 6 ∨ i = 7 ∨ i = 8 ∨ i = 9 ∨ i = 10 ∨ i = 11 by omega) with rfl | rfl | rfl | rfl | rfl | rfl | rfl | rfl | rfl | rfl | rfl | rfl
     · have e1 : qV 0 = .agg #[.int .i64 0, .func (.func 125) #[] #[]] := rfl
       have e2 : (((qC 0 : Nat) : Int)) = 0 := rfl
       have e3 : qF 0 = 125 := rfl
       have e4 : qC 0 = 0 := rfl
       rw [e1] at hlook
       simp only [e2, e3] at hS kq hB14 hB34
       rw [e4] at hS ⊢
       obtain ⟨W4, hW4⟩ : ∃ W4, W3.alloc (.cells #[.int .i64 0, .func (.func 125) #[] #[]] 121) = W4 := ⟨_, rfl⟩
       rw [hW4] at hS kq hB14 hB34
       have d0 := (hB14.cell (p := ⟨w.heap.size, 0, none⟩) hb0).trans c0
       have d1 := (hB14.cell (p := ⟨w.heap.size, 1, none⟩) hb0).trans c1
       obtain ⟨m0, m1, _, _⟩ := row_at kq
       have hBf := hB0.trans (hB14.mono hB0.size)
       obtain ⟨R, hR⟩ : ∃ R, str (qA row ns 0) = R := ⟨_, rfl⟩
       rw [hR] at hS
       have hRe := hide (show str OUT = R by rw [hOe.out, hR])
       clear hO1 hO2 hOe hB0 hx1 hE1 hB2 hB3 hB13 hB14 hB34 hI3 c0 c1 kq hR e1 e2 e3 e4 hs hns hc
       go_wp2_with (go_at_call 125; refine hS.mono ?_; clear hS; rintro e W5 ⟨rfl, hB5⟩)
       go_ret
       exact ⟨by rw [hRe.out]; rfl, hBf.trans (hB5.mono hBf.size)⟩
     · have e1 : qV 1 = .agg #[.int .i64 0, .func (.func 126) #[] #[]] := rfl
       have e2 : (((qC 1 : Nat) : Int)) = 0 := rfl
       have e3 : qF 1 = 126 := rfl
       have e4 : qC 1 = 0 := rfl
       rw [e1] at hlook
       simp only [e2, e3] at hS kq hB14 hB34
       rw [e4] at hS ⊢
       obtain ⟨W4, hW4⟩ : ∃ W4, W3.alloc (.cells #[.int .i64 0, .func (.func 126) #[] #[]] 121) = W4 := ⟨_, rfl⟩
       rw [hW4] at hS kq hB14 hB34
       have d0 := (hB14.cell (p := ⟨w.heap.size, 0, none⟩) hb0).trans c0
       have d1 := (hB14.cell (p := ⟨w.heap.size, 1, none⟩) hb0).trans c1
       obtain ⟨m0, m1, _, _⟩ := row_at kq
       have hBf := hB0.trans (hB14.mono hB0.size)
       obtain ⟨R, hR⟩ : ∃ R, str (qA row ns 1) = R := ⟨_, rfl⟩
       rw [hR] at hS
       have hRe := hide (show str OUT = R by rw [hOe.out, hR])
       clear hO1 hO2 hOe hB0 hx1 hE1 hB2 hB3 hB13 hB14 hB34 hI3 c0 c1 kq hR e1 e2 e3 e4 hs hns hc
       go_wp2_with (go_at_call 126; refine hS.mono ?_; clear hS; rintro e W5 ⟨rfl, hB5⟩)
       go_ret
       exact ⟨by rw [hRe.out]; rfl, hBf.trans (hB5.mono hBf.size)⟩
     · have e1 : qV 2 = .agg #[.int .i64 0, .func (.func 127) #[] #[]] := rfl
       have e2 : (((qC 2 : Nat) : Int)) = 0 := rfl
       have e3 : qF 2 = 127 := rfl
       have e4 : qC 2 = 0 := rfl
       rw [e1] at hlook
       simp only [e2, e3] at hS kq hB14 hB34
       rw [e4] at hS ⊢
       obtain ⟨W4, hW4⟩ : ∃ W4, W3.alloc (.cells #[.int .i64 0, .func (.func 127) #[] #[]] 121) = W4 := ⟨_, rfl⟩
       rw [hW4] at hS kq hB14 hB34
       have d0 := (hB14.cell (p := ⟨w.heap.size, 0, none⟩) hb0).trans c0
       have d1 := (hB14.cell (p := ⟨w.heap.size, 1, none⟩) hb0).trans c1
       obtain ⟨m0, m1, _, _⟩ := row_at kq
       have hBf := hB0.trans (hB14.mono hB0.size)
       obtain ⟨R, hR⟩ : ∃ R, str (qA row ns 2) = R := ⟨_, rfl⟩
       rw [hR] at hS
       have hRe := hide (show str OUT = R by rw [hOe.out, hR])
       clear hO1 hO2 hOe hB0 hx1 hE1 hB2 hB3 hB13 hB14 hB34 hI3 c0 c1 kq hR e1 e2 e3 e4 hs hns hc
       go_wp2_with (go_at_call 127; refine hS.mono ?_; clear hS; rintro e W5 ⟨rfl, hB5⟩)
       go_ret
       exact ⟨by rw [hRe.out]; rfl, hBf.trans (hB5.mono hBf.size)⟩
     · have e1 : qV 3 = .agg #[.int .i64 0, .func (.func 128) #[] #[]] := rfl
       have e2 : (((qC 3 : Nat) : Int)) = 0 := rfl
       have e3 : qF 3 = 128 := rfl
       have e4 : qC 3 = 0 := rfl
       rw [e1] at hlook
       simp only [e2, e3] at hS kq hB14 hB34
       rw [e4] at hS ⊢
       obtain ⟨W4, hW4⟩ : ∃ W4, W3.alloc (.cells #[.int .i64 0, .func (.func 128) #[] #[]] 121) = W4 := ⟨_, rfl⟩
       rw [hW4] at hS kq hB14 hB34
       have d0 := (hB14.cell (p := ⟨w.heap.size, 0, none⟩) hb0).trans c0
       have d1 := (hB14.cell (p := ⟨w.heap.size, 1, none⟩) hb0).trans c1
       obtain ⟨m0, m1, _, _⟩ := row_at kq
       have hBf := hB0.trans (hB14.mono hB0.size)
       obtain ⟨R, hR⟩ : ∃ R, str (qA row ns 3) = R := ⟨_, rfl⟩
       rw [hR] at hS
       have hRe := hide (show str OUT = R by rw [hOe.out, hR])
       clear hO1 hO2 hOe hB0 hx1 hE1 hB2 hB3 hB13 hB14 hB34 hI3 c0 c1 kq hR e1 e2 e3 e4 hs hns hc
       go_wp2_with (go_at_call 128; refine hS.mono ?_; clear hS; rintro e W5 ⟨rfl, hB5⟩)
       go_ret
       exact ⟨by rw [hRe.out]; rfl, hBf.trans (hB5.mono hBf.size)⟩
     · have e1 : qV 4 = .agg #[.int .i64 0, .func (.func 129) #[] #[]] := rfl
       have e2 : (((qC 4 : Nat) : Int)) = 0 := rfl
       have e3 : qF 4 = 129 := rfl
       have e4 : qC 4 = 0 := rfl
       rw [e1] at hlook
       simp only [e2, e3] at hS kq hB14 hB34
       rw [e4] at hS ⊢
       obtain ⟨W4, hW4⟩ : ∃ W4, W3.alloc (.cells #[.int .i64 0, .func (.func 129) #[] #[]] 121) = W4 := ⟨_, rfl⟩
       rw [hW4] at hS kq hB14 hB34
       have d0 := (hB14.cell (p := ⟨w.heap.size, 0, none⟩) hb0).trans c0
       have d1 := (hB14.cell (p := ⟨w.heap.size, 1, none⟩) hb0).trans c1
       obtain ⟨m0, m1, _, _⟩ := row_at kq
       have hBf := hB0.trans (hB14.mono hB0.size)
       obtain ⟨R, hR⟩ : ∃ R, str (qA row ns 4) = R := ⟨_, rfl⟩
       rw [hR] at hS
       have hRe := hide (show str OUT = R by rw [hOe.out, hR])
       clear hO1 hO2 hOe hB0 hx1 hE1 hB2 hB3 hB13 hB14 hB34 hI3 c0 c1 kq hR e1 e2 e3 e4 hs hns hc
       go_wp2_with (go_at_call 129; refine hS.mono ?_; clear hS; rintro e W5 ⟨rfl, hB5⟩)
       go_ret
       exact ⟨by rw [hRe.out]; rfl, hBf.trans (hB5.mono hBf.size)⟩
     · have e1 : qV 5 = .agg #[.int .i64 1, .func (.func 130) #[] #[]] := rfl
       have e2 : (((qC 5 : Nat) : Int)) = 1 := rfl
       have e3 : qF 5 = 130 := rfl
       have e4 : qC 5 = 1 := rfl
       rw [e1] at hlook
       simp only [e2, e3] at hS kq hB14 hB34
       rw [e4] at hS ⊢
       obtain ⟨W4, hW4⟩ : ∃ W4, W3.alloc (.cells #[.int .i64 1, .func (.func 130) #[] #[]] 121) = W4 := ⟨_, rfl⟩
       rw [hW4] at hS kq hB14 hB34
       have d0 := (hB14.cell (p := ⟨w.heap.size, 0, none⟩) hb0).trans c0
       have d1 := (hB14.cell (p := ⟨w.heap.size, 1, none⟩) hb0).trans c1
       obtain ⟨m0, m1, _, _⟩ := row_at kq
       have hBf := hB0.trans (hB14.mono hB0.size)
       obtain ⟨R, hR⟩ : ∃ R, str (qA row ns 5) = R := ⟨_, rfl⟩
       rw [hR] at hS
       have hRe := hide (show str OUT = R by rw [hOe.out, hR])
       clear hO1 hO2 hOe hB0 hx1 hE1 hB2 hB3 hB13 hB14 hB34 hI3 c0 c1 kq hR e1 e2 e3 e4 hs hns hc
       go_wp2_with (go_at_call 130; refine hS.mono ?_; clear hS; rintro e W5 ⟨rfl, hB5⟩)
       go_ret
       exact ⟨by rw [hRe.out]; rfl, hBf.trans (hB5.mono hBf.size)⟩
     · have e1 : qV 6 = .agg #[.int .i64 1, .func (.func 131) #[] #[]] := rfl
       have e2 : (((qC 6 : Nat) : Int)) = 1 := rfl
       have e3 : qF 6 = 131 := rfl
       have e4 : qC 6 = 1 := rfl
       rw [e1] at hlook
       simp only [e2, e3] at hS kq hB14 hB34
       rw [e4] at hS ⊢
       obtain ⟨W4, hW4⟩ : ∃ W4, W3.alloc (.cells #[.int .i64 1, .func (.func 131) #[] #[]] 121) = W4 := ⟨_, rfl⟩
       rw [hW4] at hS kq hB14 hB34
       have d0 := (hB14.cell (p := ⟨w.heap.size, 0, none⟩) hb0).trans c0
       have d1 := (hB14.cell (p := ⟨w.heap.size, 1, none⟩) hb0).trans c1
       obtain ⟨m0, m1, _, _⟩ := row_at kq
       have hBf := hB0.trans (hB14.mono hB0.size)
       obtain ⟨R, hR⟩ : ∃ R, str (qA row ns 6) = R := ⟨_, rfl⟩
       rw [hR] at hS
       have hRe := hide (show str OUT = R by rw [hOe.out, hR])
       clear hO1 hO2 hOe hB0 hx1 hE1 hB2 hB3 hB13 hB14 hB34 hI3 c0 c1 kq hR e1 e2 e3 e4 hs hns hc
       go_wp2_with (go_at_call 131; refine hS.mono ?_; clear hS; rintro e W5 ⟨rfl, hB5⟩)
       go_ret
       exact ⟨by rw [hRe.out]; rfl, hBf.trans (hB5.mono hBf.size)⟩
     · have e1 : qV 7 = .agg #[.int .i64 2, .func (.func 132) #[] #[]] := rfl
       have e2 : (((qC 7 : Nat) : Int)) = 2 := rfl
       have e3 : qF 7 = 132 := rfl
       have e4 : qC 7 = 2 := rfl
       rw [e1] at hlook
       simp only [e2, e3] at hS kq hB14 hB34
       rw [e4] at hS ⊢
       obtain ⟨W4, hW4⟩ : ∃ W4, W3.alloc (.cells #[.int .i64 2, .func (.func 132) #[] #[]] 121) = W4 := ⟨_, rfl⟩
       rw [hW4] at hS kq hB14 hB34
       have d0 := (hB14.cell (p := ⟨w.heap.size, 0, none⟩) hb0).trans c0
       have d1 := (hB14.cell (p := ⟨w.heap.size, 1, none⟩) hb0).trans c1
       obtain ⟨m0, m1, _, _⟩ := row_at kq
       have hBf := hB0.trans (hB14.mono hB0.size)
       obtain ⟨R, hR⟩ : ∃ R, str (qA row ns 7) = R := ⟨_, rfl⟩
       rw [hR] at hS
       have hRe := hide (show str OUT = R by rw [hOe.out, hR])
       clear hO1 hO2 hOe hB0 hx1 hE1 hB2 hB3 hB13 hB14 hB34 hI3 c0 c1 kq hR e1 e2 e3 e4 hs hns hc
       go_wp2_with (go_at_call 132; refine hS.mono ?_; clear hS; rintro e W5 ⟨rfl, hB5⟩)
       go_ret
       exact ⟨by rw [hRe.out]; rfl, hBf.trans (hB5.mono hBf.size)⟩
     · have e1 : qV 8 = .agg #[.int .i64 2, .func (.func 133) #[] #[]] := rfl
       have e2 : (((qC 8 : Nat) : Int)) = 2 := rfl
       have e3 : qF 8 = 133 := rfl
       have e4 : qC 8 = 2 := rfl
       rw [e1] at hlook
       simp only [e2, e3] at hS kq hB14 hB34
       rw [e4] at hS ⊢
       obtain ⟨W4, hW4⟩ : ∃ W4, W3.alloc (.cells #[.int .i64 2, .func (.func 133) #[] #[]] 121) = W4 := ⟨_, rfl⟩
       rw [hW4] at hS kq hB14 hB34
       have d0 := (hB14.cell (p := ⟨w.heap.size, 0, none⟩) hb0).trans c0
       have d1 := (hB14.cell (p := ⟨w.heap.size, 1, none⟩) hb0).trans c1
       obtain ⟨m0, m1, _, _⟩ := row_at kq
       have hBf := hB0.trans (hB14.mono hB0.size)
       obtain ⟨R, hR⟩ : ∃ R, str (qA row ns 8) = R := ⟨_, rfl⟩
       rw [hR] at hS
       have hRe := hide (show str OUT = R by rw [hOe.out, hR])
       clear hO1 hO2 hOe hB0 hx1 hE1 hB2 hB3 hB13 hB14 hB34 hI3 c0 c1 kq hR e1 e2 e3 e4 hs hns hc
       go_wp2_with (go_at_call 133; refine hS.mono ?_; clear hS; rintro e W5 ⟨rfl, hB5⟩)
       go_ret
       exact ⟨by rw [hRe.out]; rfl, hBf.trans (hB5.mono hBf.size)⟩
     · have e1 : qV 9 = .agg #[.int .i64 3, .func (.func 134) #[] #[]] := rfl
       have e2 : (((qC 9 : Nat) : Int)) = 3 := rfl
       have e3 : qF 9 = 134 := rfl
       have e4 : qC 9 = 3 := rfl
       rw [e1] at hlook
       simp only [e2, e3] at hS kq hB14 hB34
       rw [e4] at hS ⊢
       obtain ⟨W4, hW4⟩ : ∃ W4, W3.alloc (.cells #[.int .i64 3, .func (.func 134) #[] #[]] 121) = W4 := ⟨_, rfl⟩
       rw [hW4] at hS kq hB14 hB34
       have d0 := (hB14.cell (p := ⟨w.heap.size, 0, none⟩) hb0).trans c0
       have d1 := (hB14.cell (p := ⟨w.heap.size, 1, none⟩) hb0).trans c1
       obtain ⟨m0, m1, _, _⟩ := row_at kq
       have hBf := hB0.trans (hB14.mono hB0.size)
       obtain ⟨R, hR⟩ : ∃ R, str (qA row ns 9) = R := ⟨_, rfl⟩
       rw [hR] at hS
       have hRe := hide (show str OUT = R by rw [hOe.out, hR])
       clear hO1 hO2 hOe hB0 hx1 hE1 hB2 hB3 hB13 hB14 hB34 hI3 c0 c1 kq hR e1 e2 e3 e4 hs hns hc
       go_wp2_with (go_at_call 134; refine hS.mono ?_; clear hS; rintro e W5 ⟨rfl, hB5⟩)
       go_ret
       exact ⟨by rw [hRe.out]; rfl, hBf.trans (hB5.mono hBf.size)⟩
     · have e1 : qV 10 = .agg #[.int .i64 3, .func (.func 135) #[] #[]] := rfl
       have e2 : (((qC 10 : Nat) : Int)) = 3 := rfl
       have e3 : qF 10 = 135 := rfl
       have e4 : qC 10 = 3 := rfl
       rw [e1] at hlook
       simp only [e2, e3] at hS kq hB14 hB34
       rw [e4] at hS ⊢
       obtain ⟨W4, hW4⟩ : ∃ W4, W3.alloc (.cells #[.int .i64 3, .func (.func 135) #[] #[]] 121) = W4 := ⟨_, rfl⟩
       rw [hW4] at hS kq hB14 hB34
       have d0 := (hB14.cell (p := ⟨w.heap.size, 0, none⟩) hb0).trans c0
       have d1 := (hB14.cell (p := ⟨w.heap.size, 1, none⟩) hb0).trans c1
       obtain ⟨m0, m1, _, _⟩ := row_at kq
       have hBf := hB0.trans (hB14.mono hB0.size)
       obtain ⟨R, hR⟩ : ∃ R, str (qA row ns 10) = R := ⟨_, rfl⟩
       rw [hR] at hS
       have hRe := hide (show str OUT = R by rw [hOe.out, hR])
       clear hO1 hO2 hOe hB0 hx1 hE1 hB2 hB3 hB13 hB14 hB34 hI3 c0 c1 kq hR e1 e2 e3 e4 hs hns hc
       go_wp2_with (go_at_call 135; refine hS.mono ?_; clear hS; rintro e W5 ⟨rfl, hB5⟩)
       go_ret
       exact ⟨by rw [hRe.out]; rfl, hBf.trans (hB5.mono hBf.size)⟩
     · have e1 : qV 11 = .agg #[.int .i64 3, .func (.func 136) #[] #[]] := rfl
       have e2 : (((qC 11 : Nat) : Int)) = 3 := rfl
       have e3 : qF 11 = 136 := rfl
       have e4 : qC 11 = 3 := rfl
       rw [e1] at hlook
       simp only [e2, e3] at hS kq hB14 hB34
       rw [e4] at hS ⊢
       obtain ⟨W4, hW4⟩ : ∃ W4, W3.alloc (.cells #[.int .i64 3, .func (.func 136) #[] #[]] 121) = W4 := ⟨_, rfl⟩
       rw [hW4] at hS kq hB14 hB34
       have d0 := (hB14.cell (p := ⟨w.heap.size, 0, none⟩) hb0).trans c0
       have d1 := (hB14.cell (p := ⟨w.heap.size, 1, none⟩) hb0).trans c1
       obtain ⟨m0, m1, _, _⟩ := row_at kq
       have hBf := hB0.trans (hB14.mono hB0.size)
       obtain ⟨R, hR⟩ : ∃ R, str (qA row ns 11) = R := ⟨_, rfl⟩
       rw [hR] at hS
       have hRe := hide (show str OUT = R by rw [hOe.out, hR])
       clear hO1 hO2 hOe hB0 hx1 hE1 hB2 hB3 hB13 hB14 hB34 hI3 c0 c1 kq hR e1 e2 e3 e4 hs hns hc
       go_wp2_with (go_at_call 136; refine hS.mono ?_; clear hS; rintro e W5 ⟨rfl, hB5⟩)
       go_ret
       exact ⟨by rw [hRe.out]; rfl, hBf.trans (hB5.mono hBf.size)⟩
   · have hWe := hide (show str OUT = ⟨#[119, 104, 97, 116]⟩ by rw [hO2.out hc]; kernel_rfl)
     have hci : ¬ ((ns.length : Nat) : Int) = ((qC i : Nat) : Int) := by omega
     unfold qV at hlook
     obtain ⟨m0, m1, _, _⟩ := row_at kq
     have hBf := hB0.trans (hB14.mono hB0.size)
     obtain ⟨N, hN⟩ : ∃ N, ns.length = N := ⟨_, rfl⟩
     obtain ⟨K, hK⟩ : ∃ K, qC i = K := ⟨_, rfl⟩
     obtain ⟨F, hF⟩ : ∃ F, qF i = F := ⟨_, rfl⟩
     rw [hN, hK] at hci
     rw [hN]
     rw [hK, hF] at hlook m0 m1 hBf
     have hne : ((N : Int) == (K : Int)) = false := by rw [beq_eq_false_iff_ne]; exact hci
     clear hO1 hO2 hB0 hx1 hE1 hB2 hB3 hB13 hB14 hB34 hI3 c0 c1 kq hN hK hF hs hns hc
     go_wp2
     go_ret
     exact ⟨by rw [hWe.out]; rfl, hBf⟩
 · obtain rfl := hv2 hq
   rw [decide_eq_false hq] at hlook
   have hWe := hide (show str OUT = ⟨#[119, 104, 97, 116]⟩ by rw [← hO.out, if_neg (fun h => hq h.1)]; kernel_rfl)
   have hB14 := hB13.alloc hB13.size (.cells #[.int .i64 0, .nilFunc] 121)
   have hBf := hB0.trans (hB14.mono hB0.size)
   clear hO hB0 hx1 hE1 hB2 hB3 hB13 hB14 hI3 c0 c1 hs hns hv1 hv2 hXW
   go_wp2
   go_ret
   exact ⟨by rw [hWe.out]; rfl, hBf⟩
end
section
open Go Go.RowKit Go.Shelf
attribute [local go_sem] Oper.semAt_some
theorem rdV_some {l : List Nat} {k n : Int} (h : rdV l = ((k, n), true)) : readD l = some (k, n) ∧ Fits k ∧ Fits n := by
 unfold rdV at h
 cases hr : readD l with
 | none => rw [hr] at h; cases h
 | some a =>
   rw [hr] at h
   obtain ⟨h1, h2⟩ := readD_text hr
   have h3 := deedT_is (k := a.1) (n := a.2) (by rw [h2]; exact h1)
   simp only [Prod.mk.injEq, and_true] at h
   subst h
   refine ⟨rfl, ?_⟩
   unfold isD at h3
   simp only at h3
   exact ⟨by constructor <;> omega, by constructor <;> omega⟩
theorem rdV_none' {l : List Nat} {k n : Int} (h : rdV l = ((k, n), false)) : readD l = none := by
 unfold rdV at h
 cases hr : readD l with
 | none => rfl
 | some a => rw [hr] at h; cases h
set_option maxRecDepth 100000 in
set_option maxHeartbeats 4000000 in
theorem implLine_deed (x p : Value) (d : Dk) (l : List Nat) (w : World) (hx : Ints w x d.1) (hp : PastI w p d.2) (hcap : CapP (.agg #[x, p])) (hb : deskB d = true) (hl : ∀ c ∈ l, c < 256) (hn : l.length ≤ 1100000) (hE : Env w) (k n : Int) (hr : rdV l = ((k, n), true)) :
 Calls Tryz.prog 14 #[.agg #[x, p], .string (str l)] w fun e w' => ∃ y, e = .returned (.tuple #[y, .string (str (lineV d l).2)]) ∧ OwnDk w' w.heap.size y (lineV d l).1 ∧ Below w.heap.size w w' := by
 obtain ⟨hrd, hk, hm⟩ := rdV_some hr
 rw [lineV_deed hb hrd]
 simp only
 obtain ⟨hd1, hd2, hd3⟩ := deskB_is.1 hb
 have hl1 := sideB_len hd2
 have hB : Below w.heap.size w ((w.alloc (.cells #[x, p] 31)).alloc (.cells #[.slice none 0 0, .slice none 0 0] 31)) := ((Below.refl _ w).alloc (Nat.le_refl _) _).alloc (by rw [World.size_alloc]; omega) _
 have k0 : ((w.alloc (.cells #[x, p] 31)).alloc (.cells #[.slice none 0 0, .slice none 0 0] 31)).heap[w.heap.size]? = some (.cells #[x, p] 31 (0, 0)) := (Below.heap_alloc _ _ _ (by rw [World.size_alloc]; omega)).trans (aN9 w _)
 have k1 := aN9 (w.alloc (.cells #[x, p] 31)) (.cells #[.slice none 0 0, .slice none 0 0] 31)
 rw [World.size_alloc] at k1
 have hsz : w.heap.size + 2 ≤ ((w.alloc (.cells #[x, p] 31)).alloc (.cells #[.slice none 0 0, .slice none 0 0] 31)).heap.size := by simp
 obtain ⟨W1, hW1⟩ : ∃ W1, (w.alloc (.cells #[x, p] 31)).alloc (.cells #[.slice none 0 0, .slice none 0 0] 31) = W1 := ⟨_, rfl⟩
 rw [hW1] at hB k0 k1 hsz
 have hOK := implDeskOk (.agg #[x, p]) d W1 ⟨x, p, rfl, hx.below hB, hp.below hB⟩ (deskB_size hb)
 rw [hb] at hOK
 have hKp := fun V (hV : Below w.heap.size w V) => deskOf_in x p d.1 d.2 V (hx.below hV) hl1.1 hl1.2 (hp.below hV) hd3 (fun j hj => sideB_len (hd1 _ (by rw [List.getD, eG9 hj]; exact List.getElem_mem hj)))
 have hRd := fun V hV => implReadDeed l hl hn V hV
 have hAn := fun V (hV : Below w.heap.size w V) => answered_in x p d.1 l V (hx.below hV) hd2 hl hn (hE.below hV)
 rw [ans_qa hd2] at hAn
 have hDo := fun k n (hk : Fits k) (hn : Fits n) V (hV : Below w.heap.size w V) => implDo (.agg #[x, p]) d k n V ⟨x, p, rfl, hx.below hV, hp.below hV⟩ hcap (deskB_size hb) hk hn
 have hDo' := hDo k n hk hm
 clear hDo
 obtain ⟨D, hD⟩ : ∃ D, (doV d k n).1 = D := ⟨_, rfl⟩
 obtain ⟨bb, hbb⟩ : ∃ bb, (doV d k n).2 = bb := ⟨_, rfl⟩
 rw [hD, hbb] at hDo' ⊢
 have hEw := fun V (hV : Below w.heap.size w V) => hE.below hV
 rw [hr] at hRd
 simp only at hRd
 unfold dV at hRd
 obtain ⟨xa, xc, rfl⟩ := hx.shape
 obtain ⟨pa, pc, rfl, _⟩ := id hp
 obtain ⟨LS, hLS⟩ : ∃ LS, str l = LS := ⟨_, rfl⟩
 rw [hLS] at hRd hAn ⊢
 obtain ⟨c0, c1, _, _⟩ := row_at k0
 have l0 := (gE9.1 k0).1
 have l1 := (gE9.1 k1).1
 clear hx hp hd1 hcap hE hLS hD hbb
 refine (cW9 (n := 9)).1 ?_
 refine callsIn_of_wp Tryz.func14 rfl trivial ?_ rfl
 simp only [Tryz.ntmps14, List.size_toArray, List.length_cons, List.length_nil, Nat.reduceAdd, Nat.reduceSub, Array.replicate_succ, Array.replicate_zero, List.push_toArray, List.append_toArray, List.nil_append, List.cons_append]
 gi_wp2_with fail
 refine ⟨trivial, ?_⟩
 gi_at_call 23
 refine (cW9.2 hOK).mono ?_
 rintro e W2 ⟨rfl, hB2⟩
 have hB02 := hB.trans (hB2.mono hB.size)
 have k02 := (hB2.block _ l0).trans k0
 have k12 := (hB2.block _ l1).trans k1
 have hsz2 := lT9 hsz hB2.size
 clear hOK hB2 k0 k1 l0 l1 hB hsz c0 c1
 gi_wp2_with fail
 refine ⟨trivial, ?_⟩
 gi_at_call 46
 refine (cW9.2 (hRd _ (hEw _ hB02))).mono ?_
 rintro e W3 ⟨rfl, hB3⟩
 have hB03 := hB02.trans (hB3.mono hB02.size)
 have k03 := (hB3.block _ (gE9.1 k02).1).trans k02
 have k13 := (hB3.block _ (gE9.1 k12).1).trans k12
 have hsz3 := lT9 hsz2 hB3.size
 clear hRd hEw hB3 hB02 k02 k12 hsz2
 have hB04 := hB03.alloc hB03.size (.cells #[.int .i64 k, .int .i64 n] 39)
 have hB34 := (Below.refl _ W3).alloc (Nat.le_refl _) (.cells #[.int .i64 k, .int .i64 n] 39)
 have kd := aN9 W3 (.cells #[.int .i64 k, .int .i64 n] 39)
 have hsz4 := lT9 hsz3 hB34.size
 have k04 := (hB34.block _ (gE9.1 k03).1).trans k03
 have k14 := (hB34.block _ (gE9.1 k13).1).trans k13
 obtain ⟨c0, c1, _, _⟩ := row_at k04
 obtain ⟨r0, r1, f0, f1⟩ := row_at k14
 obtain ⟨e0, e1, _, _⟩ := row_at kd
 have hDo4 := hDo' _ hB04
 unfold dV at hDo4
 obtain ⟨W4, hW4⟩ : ∃ W4, W3.alloc (.cells #[.int .i64 k, .int .i64 n] 39) = W4 := ⟨_, rfl⟩
 rw [hW4] at hB04 hB34 kd hsz4 k04 k14 c0 c1 r0 r1 f0 f1 e0 e1 hDo4
 clear hDo' hAn hKp hrd hk hm hr hB03 k03 k13 hsz3 hB34
 gi_wp2_with fail
 refine ⟨trivial, ?_⟩
 gi_at_call 54
 refine (cW9.2 hDo4).mono ?_
 rintro e W5 ⟨y, rfl, hy, hB5⟩
 obtain ⟨y1, y2, y3, y4, rfl⟩ := hy.form
 obtain ⟨m1, hm1⟩ : ∃ m1, D.1.length = m1 := ⟨_, rfl⟩
 obtain ⟨m2, hm2⟩ : ∃ m2, D.2.length = m2 := ⟨_, rfl⟩
 rw [hm1, hm2] at hy ⊢
 have hB05 := hB04.trans (hB5.mono hB04.size)
 have k15 := (hB5.block _ (gE9.1 k14).1).trans k14
 have hsz5 := lT9 hsz4 hB5.size
 have hB56 := (Below.refl _ W5).alloc (Nat.le_refl _) (.cells #[.slice y1 m1 y2, .slice y3 m2 y4] 31)
 have hB06 := hB05.alloc hB05.size (.cells #[.slice y1 m1 y2, .slice y3 m2 y4] 31)
 have ky := aN9 W5 (.cells #[.slice y1 m1 y2, .slice y3 m2 y4] 31)
 have k16 := (hB56.block _ (gE9.1 k15).1).trans k15
 have hy6 := (hy.down (base' := w.heap.size + 2) hsz4).below hB56
 obtain ⟨W6, hW6⟩ : ∃ W6, W5.alloc (.cells #[.slice y1 m1 y2, .slice y3 m2 y4] 31) = W6 := ⟨_, rfl⟩
 rw [hW6] at hB06 ky k16 hy6
 obtain ⟨g0, g1, _, _⟩ := row_at ky
 obtain ⟨r0, r1, f0, f1⟩ := row_at k16
 have hrs := hide (desk_set k16 (.slice y1 m1 y2) (.slice y3 m2 y4))
 have hown := hide (hy6.result (b := w.heap.size + 1) (base' := w.heap.size) (by omega) (by omega))
 have hBl := hide ((hB06.setCell (p := ⟨w.heap.size + 1, 0, none⟩) (Nat.le_succ _) (.slice y1 m1 y2)).setCell (p := ⟨w.heap.size + 1, 1, none⟩) (Nat.le_succ _) (.slice y3 m2 y4))
 clear hDo4 hB04 kd hsz4 k04 k14 c0 c1 e0 e1 hy hB5 hB05 k15 hsz5 hB56 hB06 ky k16 hy6 hm1 hm2
 cases bb
 all_goals
  gi_wp2
  (try simp only [Exit.inBlock, Exit.then])
  exact bodyPost_ret (results_desk2 rfl _ _ (w.heap.size + 1) _ _ rfl hrs.out) rfl ⟨_, rfl, hown.out, hBl.out⟩
set_option maxRecDepth 100000 in
set_option maxHeartbeats 4000000 in
theorem implLine_ask (x p : Value) (d : Dk) (l : List Nat) (w : World) (hx : Ints w x d.1) (hp : PastI w p d.2) (hcap : CapP (.agg #[x, p])) (hb : deskB d = true) (hl : ∀ c ∈ l, c < 256) (hn : l.length ≤ 1100000) (hE : Env w) (k n : Int) (hr : rdV l = ((k, n), false)) :
 Calls Tryz.prog 14 #[.agg #[x, p], .string (str l)] w fun e w' => ∃ y, e = .returned (.tuple #[y, .string (str (lineV d l).2)]) ∧ OwnDk w' w.heap.size y (lineV d l).1 ∧ Below w.heap.size w w' := by
 have hrd := rdV_none' hr
 rw [lineV_ask hb hrd]
 simp only
 obtain ⟨hd1, hd2, hd3⟩ := deskB_is.1 hb
 have hl1 := sideB_len hd2
 have hB : Below w.heap.size w ((w.alloc (.cells #[x, p] 31)).alloc (.cells #[.slice none 0 0, .slice none 0 0] 31)) := ((Below.refl _ w).alloc (Nat.le_refl _) _).alloc (by rw [World.size_alloc]; omega) _
 have k0 : ((w.alloc (.cells #[x, p] 31)).alloc (.cells #[.slice none 0 0, .slice none 0 0] 31)).heap[w.heap.size]? = some (.cells #[x, p] 31 (0, 0)) := (Below.heap_alloc _ _ _ (by rw [World.size_alloc]; omega)).trans (aN9 w _)
 have k1 := aN9 (w.alloc (.cells #[x, p] 31)) (.cells #[.slice none 0 0, .slice none 0 0] 31)
 rw [World.size_alloc] at k1
 have hsz : w.heap.size + 2 ≤ ((w.alloc (.cells #[x, p] 31)).alloc (.cells #[.slice none 0 0, .slice none 0 0] 31)).heap.size := by simp
 obtain ⟨W1, hW1⟩ : ∃ W1, (w.alloc (.cells #[x, p] 31)).alloc (.cells #[.slice none 0 0, .slice none 0 0] 31) = W1 := ⟨_, rfl⟩
 rw [hW1] at hB k0 k1 hsz
 have hOK := implDeskOk (.agg #[x, p]) d W1 ⟨x, p, rfl, hx.below hB, hp.below hB⟩ (deskB_size hb)
 rw [hb] at hOK
 have hKp := fun V (hV : Below w.heap.size w V) => deskOf_in x p d.1 d.2 V (hx.below hV) hl1.1 hl1.2 (hp.below hV) hd3 (fun j hj => sideB_len (hd1 _ (by rw [List.getD, eG9 hj]; exact List.getElem_mem hj)))
 have hRd := fun V hV => implReadDeed l hl hn V hV
 have hAn := fun V (hV : Below w.heap.size w V) => answered_in x p d.1 l V (hx.below hV) hd2 hl hn (hE.below hV)
 rw [ans_qa hd2] at hAn
 have hDo := fun k n (hk : Fits k) (hn : Fits n) V (hV : Below w.heap.size w V) => implDo (.agg #[x, p]) d k n V ⟨x, p, rfl, hx.below hV, hp.below hV⟩ hcap (deskB_size hb) hk hn
 obtain ⟨RS, hRS⟩ : ∃ RS, str (qaV d.1 l) = RS := ⟨_, rfl⟩
 rw [hRS] at hAn ⊢
 have hEw := fun V (hV : Below w.heap.size w V) => hE.below hV
 rw [hr] at hRd
 simp only at hRd
 unfold dV at hRd
 obtain ⟨xa, xc, rfl⟩ := hx.shape
 obtain ⟨pa, pc, rfl, _⟩ := id hp
 obtain ⟨LS, hLS⟩ : ∃ LS, str l = LS := ⟨_, rfl⟩
 rw [hLS] at hRd hAn ⊢
 obtain ⟨c0, c1, _, _⟩ := row_at k0
 have l0 := (gE9.1 k0).1
 have l1 := (gE9.1 k1).1
 clear hx hp hd1 hcap hE hLS hRS
 refine (cW9 (n := 9)).1 ?_
 refine callsIn_of_wp Tryz.func14 rfl trivial ?_ rfl
 simp only [Tryz.ntmps14, List.size_toArray, List.length_cons, List.length_nil, Nat.reduceAdd, Nat.reduceSub, Array.replicate_succ, Array.replicate_zero, List.push_toArray, List.append_toArray, List.nil_append, List.cons_append]
 gi_wp2_with fail
 refine ⟨trivial, ?_⟩
 gi_at_call 23
 refine (cW9.2 hOK).mono ?_
 rintro e W2 ⟨rfl, hB2⟩
 have hB02 := hB.trans (hB2.mono hB.size)
 have k02 := (hB2.block _ l0).trans k0
 have k12 := (hB2.block _ l1).trans k1
 have hsz2 := lT9 hsz hB2.size
 clear hOK hB2 k0 k1 l0 l1 hB hsz c0 c1
 gi_wp2_with fail
 refine ⟨trivial, ?_⟩
 gi_at_call 46
 refine (cW9.2 (hRd _ (hEw _ hB02))).mono ?_
 rintro e W3 ⟨rfl, hB3⟩
 have hB03 := hB02.trans (hB3.mono hB02.size)
 have k03 := (hB3.block _ (gE9.1 k02).1).trans k02
 have k13 := (hB3.block _ (gE9.1 k12).1).trans k12
 have hsz3 := lT9 hsz2 hB3.size
 clear hRd hEw hB3 hB02 k02 k12 hsz2
 have hB04 := hB03.alloc hB03.size (.cells #[.int .i64 k, .int .i64 n] 39)
 have hB34 := (Below.refl _ W3).alloc (Nat.le_refl _) (.cells #[.int .i64 k, .int .i64 n] 39)
 have kd := aN9 W3 (.cells #[.int .i64 k, .int .i64 n] 39)
 have hsz4 := lT9 hsz3 hB34.size
 have k04 := (hB34.block _ (gE9.1 k03).1).trans k03
 have k14 := (hB34.block _ (gE9.1 k13).1).trans k13
 obtain ⟨c0, c1, _, _⟩ := row_at k04
 obtain ⟨r0, r1, f0, f1⟩ := row_at k14
 obtain ⟨e0, e1, _, _⟩ := row_at kd
 obtain ⟨W4, hW4⟩ : ∃ W4, W3.alloc (.cells #[.int .i64 k, .int .i64 n] 39) = W4 := ⟨_, rfl⟩
 rw [hW4] at hB04 hB34 kd hsz4 k04 k14 c0 c1 r0 r1 f0 f1 e0 e1
 clear hDo hrd hr hB03 k03 k13 hsz3 hB34
 gi_wp2
 refine wpIn_region_put 8 [(some 21, 0), (some 22, 1), (some 23, 2), (some 24, 3), (some 25, 4), (some 26, 5), (some 27, 6), (some 28, 7)] (by kernel_rfl) (by kernel_rfl) (by kernel_rfl) (by decide) (by rfl) (by decide)
  (fun j v V => match j with | 0 => v = .pointer (some ⟨w.heap.size, 0, none⟩) | 1 => v = .slice xa d.1.length xc | 2 => v = .pointer (some ⟨w.heap.size, 1, none⟩) | 3 => v = .slice pa d.2.length pc | 4 => OwnDk V (w.heap.size + 2) v d | 5 => v = .agg #[.slice xa d.1.length xc, .slice pa d.2.length pc] | 6 => v = .string LS | 7 => v = .string RS | _ => True)
  (fun j v V V' h hB => match j, h with | 0, h => h | 1, h => h | 2, h => h | 3, h => h | 4, h => OwnDk.below h hB | 5, h => h | 6, h => h | 7, h => h | (_ + 8), _ => trivial)
  ?_ ?_
 · rintro j oo s V hj ho hBV hd Q' hQ
   have hB0V := hB04.trans (hBV.mono hB04.size)
   obtain ⟨c0, c1, _, _⟩ := row_at ((hBV.block _ (gE9.1 k04).1).trans k04)
   have zV := hBV.size
   rcases (show j = 0 ∨ j = 1 ∨ j = 2 ∨ j = 3 ∨ j = 4 ∨ j = 5 ∨ j = 6 ∨ j = 7 by omega) with rfl | rfl | rfl | rfl | rfl | rfl | rfl | rfl
   all_goals
    simp at ho
    subst ho
    simp only [putsOf, Act.put, List.setIfInBounds_toArray, List.set_cons_succ, List.set_cons_zero] at hQ ⊢
    have hQ' := hide hQ
    clear hQ
   · clear hd
     gi_wp2
     exact hQ'.out _ _ (Below.refl _ _) rfl
   · have q1 : s 0 = .pointer (some ⟨w.heap.size, 0, none⟩) := hd 0 (by kernel_rfl)
     clear hd
     gi_wp2
     have hr := hQ'.out
     simp only [q1] at hr ⊢
     exact hr _ _ (Below.refl _ _) rfl
   · clear hd
     gi_wp2
     exact hQ'.out _ _ (Below.refl _ _) rfl
   · have q1 : s 2 = .pointer (some ⟨w.heap.size, 1, none⟩) := hd 2 (by kernel_rfl)
     clear hd
     gi_wp2
     have hr := hQ'.out
     simp only [q1] at hr ⊢
     exact hr _ _ (Below.refl _ _) rfl
   · have q1 : s 1 = .slice xa d.1.length xc := hd 1 (by kernel_rfl)
     have q2 : s 3 = .slice pa d.2.length pc := hd 3 (by kernel_rfl)
     have hK := hKp V hB0V
     clear hd
     gi_wp2_with (refine ⟨trivial, ?_⟩; gi_at_call 52; go_loud (refine (cW9.2 hK).mono ?_; rintro e W9 ⟨u9, rfl, ho9, hB9⟩))
     have hr := hQ'.out
     simp only [q1, q2] at hr ⊢
     exact hr _ _ hB9 (ho9.down (by omega))
   · clear hd
     gi_wp2
     exact hQ'.out _ _ (Below.refl _ _) rfl
   · clear hd
     gi_wp2
     exact hQ'.out _ _ (Below.refl _ _) rfl
   · have q1 : s 5 = .agg #[.slice xa d.1.length xc, .slice pa d.2.length pc] := hd 5 (by kernel_rfl)
     have q2 : s 6 = .string LS := hd 6 (by kernel_rfl)
     have hA := hAn V hB0V
     clear hd
     gi_wp2_with (refine ⟨trivial, ?_⟩; gi_at_call 53; go_loud (refine (cW9.2 hA).mono ?_; rintro e W9 ⟨rfl, hB9⟩))
     have hr := hQ'.out
     simp only [q1, q2] at hr ⊢
     exact hr _ _ hB9 rfl
 · rintro s V hBV hd
   have q4 : OwnDk V (w.heap.size + 2) (s 4) d := hd 4 (by omega)
   have q7 : s 7 = .string RS := hd 7 (by omega)
   clear hd
   obtain ⟨y1, y2, y3, y4, hy4⟩ := q4.form
   rw [hy4] at q4
   have k1V := (hBV.block _ (gE9.1 k14).1).trans k14
   obtain ⟨r0, r1, f0, f1⟩ := row_at k1V
   have hB0V := hB04.trans (hBV.mono hB04.size)
   have hrs := hide (desk_set k1V (.slice y1 d.1.length y2) (.slice y3 d.2.length y4))
   have hown := hide (q4.result (b := w.heap.size + 1) (base' := w.heap.size) (by omega) (by omega))
   have hBl := hide ((hB0V.setCell (p := ⟨w.heap.size + 1, 0, none⟩) (Nat.le_succ _) (.slice y1 d.1.length y2)).setCell (p := ⟨w.heap.size + 1, 1, none⟩) (Nat.le_succ _) (.slice y3 d.2.length y4))
   clear q4 k1V hB0V hKp hAn
   simp only [putsOf, Act.put, List.setIfInBounds_toArray, List.set_cons_succ, List.set_cons_zero]
   simp only [List.drop_succ_cons, List.drop_zero]
   simp only [hy4, q7]
   gi_wp2
   (try simp only [Exit.inBlock, Exit.then])
   exact bodyPost_ret (results_desk2 rfl _ _ (w.heap.size + 1) _ _ rfl hrs.out) rfl ⟨_, rfl, hown.out, hBl.out⟩
theorem implLine_in (x p : Value) (d : Dk) (l : List Nat) (w : World) (hx : Ints w x d.1) (hp : PastI w p d.2) (hcap : CapP (.agg #[x, p])) (hb : deskB d = true) (hl : ∀ c ∈ l, c < 256) (hn : l.length ≤ 1100000) (hE : Env w) :
 Calls Tryz.prog 14 #[.agg #[x, p], .string (str l)] w fun e w' => ∃ y, e = .returned (.tuple #[y, .string (str (lineV d l).2)]) ∧ OwnDk w' w.heap.size y (lineV d l).1 ∧ Below w.heap.size w w' := by
 obtain ⟨⟨⟨k, n⟩, b⟩, hr⟩ : ∃ r, rdV l = r := ⟨_, rfl⟩
 cases b with
 | true => exact implLine_deed x p d l w hx hp hcap hb hl hn hE k n hr
 | false => exact implLine_ask x p d l w hx hp hcap hb hl hn hE k n hr
set_option maxRecDepth 100000 in
set_option maxHeartbeats 1000000 in
theorem implLine_no (x p : Value) (d : Dk) (l : List Nat) (w : World) (hx : Ints w x d.1) (hp : PastI w p d.2) (hs : DkS d) (hb : deskB d = false) :
 Calls Tryz.prog 14 #[.agg #[x, p], .string (str l)] w fun e w' => ∃ y, e = .returned (.tuple #[y, .string (str (lineV d l).2)]) ∧ OwnDk w' w.heap.size y (lineV d l).1 ∧ Below w.heap.size w w' := by
 rw [lineV_no hb]
 simp only
 rw [str_nil]
 have hB : Below w.heap.size w ((w.alloc (.cells #[x, p] 31)).alloc (.cells #[.slice none 0 0, .slice none 0 0] 31)) := ((Below.refl _ w).alloc (Nat.le_refl _) _).alloc (by rw [World.size_alloc]; omega) _
 have k0 : ((w.alloc (.cells #[x, p] 31)).alloc (.cells #[.slice none 0 0, .slice none 0 0] 31)).heap[w.heap.size]? = some (.cells #[x, p] 31 (0, 0)) := (Below.heap_alloc _ _ _ (by rw [World.size_alloc]; omega)).trans (aN9 w _)
 have k1 := aN9 (w.alloc (.cells #[x, p] 31)) (.cells #[.slice none 0 0, .slice none 0 0] 31)
 rw [World.size_alloc] at k1
 have hsz : w.heap.size + 2 ≤ ((w.alloc (.cells #[x, p] 31)).alloc (.cells #[.slice none 0 0, .slice none 0 0] 31)).heap.size := by simp
 obtain ⟨W1, hW1⟩ : ∃ W1, (w.alloc (.cells #[x, p] 31)).alloc (.cells #[.slice none 0 0, .slice none 0 0] 31) = W1 := ⟨_, rfl⟩
 rw [hW1] at hB k0 k1 hsz
 have hOK := implDeskOk (.agg #[x, p]) d W1 ⟨x, p, rfl, hx.below hB, hp.below hB⟩ hs
 rw [hb] at hOK
 obtain ⟨xa, xc, rfl⟩ := hx.shape
 obtain ⟨pa, pc, rfl, _⟩ := id hp
 obtain ⟨LS, hLS⟩ : ∃ LS, str l = LS := ⟨_, rfl⟩
 rw [hLS]
 obtain ⟨c0, c1, _, _⟩ := row_at k0
 have l0 := (gE9.1 k0).1
 have l1 := (gE9.1 k1).1
 clear hx hp hs hLS
 go_enter Tryz.func14, Tryz.ntmps14
 go_wp2_with (go_at_call 23; go_loud (refine hOK.mono ?_; clear hOK; rintro e W2 ⟨rfl, hB2⟩; have zres := (hB2.block _ l1).trans k1; obtain ⟨c0, c1, _, _⟩ := row_at ((hB2.block _ l0).trans k0); obtain ⟨r0, r1, f0, f1⟩ := row_at zres))
 (try simp only [Exit.inBlock, Exit.then])
 have hB3 := hB.trans (hB2.mono hB.size)
 have hz := hB2.size
 exact bodyPost_ret (results_desk2 rfl _ _ (w.heap.size + 1) _ _ rfl (desk_set zres (.slice none 0 0) (.slice none 0 0))) rfl ⟨_, rfl, (OwnDk.none W2 (w.heap.size + 2) (by omega)).result (b := w.heap.size + 1) (base' := w.heap.size) (by omega) (by omega), (hB3.setCell (p := ⟨w.heap.size + 1, 0, none⟩) (Nat.le_succ _) _).setCell (p := ⟨w.heap.size + 1, 1, none⟩) (Nat.le_succ _) _⟩
theorem implLine (v : Value) (d : Dk) (l : List Nat) (w : World) (hv : DeskI w v d) (hcap : CapP v) (hs : DkS d) (hl : ∀ c ∈ l, c < 256) (hn : l.length ≤ 1100000) (hE : Env w) :
 Calls Tryz.prog 14 #[v, .string (str l)] w fun e w' => ∃ y, e = .returned (.tuple #[y, .string (str (lineV d l).2)]) ∧ OwnDk w' w.heap.size y (lineV d l).1 ∧ Below w.heap.size w w' := by
 obtain ⟨x, p, rfl, hx, hp⟩ := hv
 cases hb : deskB d with
 | true => exact implLine_in x p d l w hx hp hcap hb hl hn hE
 | false => exact implLine_no x p d l w hx hp hs hb
end
section
open Go Go.RowKit
attribute [local go_sem] Oper.semAt_some
def TxA (w : World) (g N : Nat) (f : Nat → List Nat) : Prop :=
 ∃ cur : Array Value, w.heap[g]? = some (.cells cur 9 (0, 0)) ∧ cur.size = N ∧ ∀ i, i < N → cur[i]? = some (txt (f i))
theorem TxA.lt {w : World} {g N : Nat} {f : Nat → List Nat} (h : TxA w g N f) : g < w.heap.size := by
 obtain ⟨cur, h1, _⟩ := h; exact (gE9.1 h1).1
theorem TxA.cell {w : World} {g N : Nat} {f : Nat → List Nat} (h : TxA w g N f) {i : Nat} (hi : i < N) : w.cell? ⟨g, i, none⟩ = some (txt (f i)) := by
 obtain ⟨cur, h1, h2, h3⟩ := h
 rw [cell_of_row w g i cur 9 (0, 0) h1]; exact h3 i hi
theorem TxA.frozen {w : World} {g N : Nat} {f : Nat → List Nat} (h : TxA w g N f) (i : Nat) : w.frozen? ⟨g, i, none⟩ = false := by
 obtain ⟨cur, h1, _⟩ := h
 simp [World.frozen?, h1]
theorem TxA.congr {w : World} {g N : Nat} {f f' : Nat → List Nat} (h : TxA w g N f) (he : ∀ i, i < N → f i = f' i) : TxA w g N f' := by
 obtain ⟨cur, h1, h2, h3⟩ := h
 exact ⟨cur, h1, h2, fun i hi => by rw [← he i hi]; exact h3 i hi⟩
theorem TxA.of_block {w w' : World} {g N : Nat} {f : Nat → List Nat} (h : TxA w g N f) (hb : w'.heap[g]? = w.heap[g]?) : TxA w' g N f := by
 obtain ⟨cur, h1, h2, h3⟩ := h
 exact ⟨cur, hb.trans h1, h2, h3⟩
theorem TxA.below {w w' : World} {g N : Nat} {f : Nat → List Nat} (h : TxA w g N f) (hB : Below w.heap.size w w') : TxA w' g N f := h.of_block (hB.block g h.lt)
theorem TxA.ne {w : World} {g N b : Nat} {f : Nat → List Nat} {c : Array Value} {t : TypeId} (h : TxA w g N f) (hb : w.heap[b]? = some (.cells c t (0, 0))) (ht : 9 ≠ t) : g ≠ b := by
 rintro rfl
 obtain ⟨cur, h1, _⟩ := h
 rw [h1] at hb
 injection hb with hb
 injection hb with _ hb
 exact ht hb
theorem TxA.set {w : World} {g N : Nat} {f : Nat → List Nat} (h : TxA w g N f) (p : Nat) (z : List Nat) : TxA (w.setCell ⟨g, p, none⟩ (txt z)) g N (fun i => if i = p then z else f i) := by
 obtain ⟨cur, h1, h2, h3⟩ := h
 refine ⟨_, set_cells h1 p (txt z), by simpa using h2, fun i hi => ?_⟩
 rw [Array.getElem?_setIfInBounds]
 by_cases e : p = i
 · subst e; simp [h2, hi]
 · rw [if_neg e, h3 i hi]; simp only []; rw [if_neg (fun h : i = p => e h.symm)]
theorem TxA.own {w : World} {base g N : Nat} {f : Nat → List Nat} (h : TxA w g N f) (hb : base ≤ g) (hN : N ≤ 1000000) {L : List (List Nat)} (hl : L.length = N) (hf : ∀ i, i < N → f i = L.getD i []) :
 w.ownsRow base 9 1 (.slice (some ⟨g, 0, none⟩) N N) N (L.map txt) := by
 obtain ⟨cur, h1, h2, h3⟩ := h
 refine ⟨by simp [hl], .inr ⟨g, N, cur, rfl, hb, h1, Nat.le_refl _, by unfold maxLen; omega, by omega, List.ext_getElem? fun i => ?_⟩⟩
 rw [List.take_of_length_le (by simp; omega), Array.getElem?_toList, List.getElem?_map]
 by_cases hi : i < N
 · rw [h3 i hi, hf i hi, List.getD, eG9 (by omega)]
   rfl
 · rw [Array.getElem?_eq_none (by omega), List.getElem?_eq_none (by omega)]
   rfl
theorem make_texts {F : Fence} {n : Nat} (w : World) {ops : Array Oper} {rest : List Oper} {o : Oper} {a : Act} {Q : Exit → Act → World → Prop}
 (hg : o.guard = none) (l c : Operand) (hop : o.op = Op.makeSlice 48 l c) (L C : Int) (N : Nat) (hl : a.eval l = .int .i64 L) (hc : a.eval c = .int .i64 C) (hL : L = (N : Int)) (hC : C = (N : Int)) (hN : N ≤ 1000000)
 (hK : ∀ w', TxA w' w.heap.size N (fun _ => []) → w.grownBy w' none → wpListIn F n Tryz.prog ops Q rest (a.put o.dst (.slice (some ⟨w.heap.size, 0, none⟩) N N)) w') :
 wpListIn F n Tryz.prog ops Q (o :: rest) a w := by
 obtain ⟨i0, hi, hz0, hz1, hz2⟩ := info_any Tryz.infoStr
 refine wpListIn_plain hg fun K hK' => ?_
 obtain ⟨w', hrun, r1, r2⟩ := run_make_full (P := Tryz.prog) w w.heap.size 48 9 i0 (.string ⟨#[]⟩) 1 Tryz.underlying48 hi hz0 hz1 .i64 .i64 N (by rw [hz2]; omega) (by unfold maxLen; omega) (Nat.le_refl _)
 subst hL
 subst hC
 unfold Oper.wpIn
 refine ⟨?_, ?_⟩
 · simp [Oper.about, hop]
 · rw [Oper.semAt_plain F _ _ (by rw [hop]; intro c hc'; cases hc')]
   simp [execOp, hop, hl, hc, hrun, Result.andThen]
   refine hK' _ _ (hK w' ?_ r2)
   obtain ⟨hlen, hv⟩ := r1
   rcases hv with ⟨h, _⟩ | ⟨g, cap, cur, h, _, hgb, _, _, hs, ht⟩
   · cases h
   · cases h
     refine ⟨cur, hgb, by omega, fun i hi' => ?_⟩
     have h1 : cur.toList.take (N * 1) = cur.toList := List.take_of_length_le (by simp; omega)
     rw [h1] at ht
     rw [← Array.getElem?_toList, ht, Array.getElem?_toList]
     simp [madeCells, Value.cells, hi', Nat.mod_one, txt, str]
end
section
open Go Go.RowKit
theorem wpIn_region_storeP {F : Fence} {n : Nat} {P : Program} {id : Nat} {ops : Array Oper} {Q : Exit → Act → World → Prop} {a : Act} {W : World} (p m : Nat) (L : List (Option Tmp × Nat)) (hm : P.follows .mixedOrders = true) (hb : backB ops = true) (ht : tailB ops m = true) (hpm : p < m) (hsz : m < ops.size)
 (hL : dstsOf ops m = L) (hok : okPuts L = true) (Φ : Bool → Nat → Value → World → Prop) (hmono : ∀ c k v V V', Φ c k v V → Below V.heap.size V V' → Φ c k v V')
 (hstep : ∀ c i o s V, i < m → i ≠ p → (c = true → needs ops p ops.size i = false) → ops[i]? = some o → Below W.heap.size W V → (∀ k, depB ops i k = true → Φ c k (s k) V) → ∀ Q' : Exit → Act → World → Prop,
  (∀ v V', Below V.heap.size V V' → Φ c i v V' → Q' .normal ((putsOf L a s).put o.dst v) V') → wpListIn F n P ops Q' [o] (putsOf L a s) V)
 (hmid : ∀ o s V, ops[p]? = some o → Below W.heap.size W V → (∀ k, depB ops p k = true → Φ false k (s k) V) → ∀ Q' : Exit → Act → World → Prop,
  (∀ v V', Below W.heap.size W V' → (∀ k, k ≠ p → Φ false k (s k) V → Φ true k (s k) V') → Φ true p v V' → Q' .normal ((putsOf L a s).put o.dst v) V') → wpListIn F n P ops Q' [o] (putsOf L a s) V)
 (htail : ∀ s V, Below W.heap.size W V → (∀ k, k < m → Φ true k (s k) V) → wpListIn F n P ops Q (ops.toList.drop m) (putsOf L a s) V) : (Code.region id ops true).wpIn F n P Q a W := by
 refine wpIn_region_store p m hm hb ht hpm hsz (putsOf L a) (fun _ V => Below W.heap.size W V) (fun V V' => Below V.heap.size V V') Φ (puts_self a L hok) ?_ (Below.refl _ _).drew (fun c k v V V' h hg => hmono c k v V V' h hg) ?_ hmid htail
 · intro i o s v hi ho
   refine puts_put s o.dst i v L a hok ?_
   rw [← hL]
   unfold dstsOf
   refine List.mem_map.2 ⟨i, List.mem_range.2 hi, ?_⟩
   rw [ho]
   rfl
 · rintro c i o s V him hip hn ho hV hd Q' hQ'
   exact hstep c i o s V him hip hn ho hV hd Q' (fun v V' h2 h3 => hQ' v V' (hV.trans (h2.mono hV.size)) h2 h3)
end
section
open Go Go.RowKit
attribute [local go_sem] Oper.semAt_some
def LinesI (w : World) (v : Value) (L : List (List Nat)) : Prop :=
 ∃ a cap, v = .slice a L.length cap ∧ (0 < L.length → ∃ g o, a = some ⟨g, o, none⟩ ∧ g < w.heap.size ∧ ∀ j, j < L.length → w.cell? ⟨g, o + j, none⟩ = some (txt (L.getD j [])))
theorem LinesI.below {w w' : World} {v : Value} {L : List (List Nat)} (h : LinesI w v L) (hB : Below w.heap.size w w') : LinesI w' v L := by
 obtain ⟨a, cap, rfl, hc⟩ := h
 refine ⟨a, cap, rfl, fun h0 => ?_⟩
 obtain ⟨g, o, rfl, hg, hcc⟩ := hc h0
 exact ⟨g, o, rfl, lL9 hg hB.size, fun j hj => (hB.cell (p := ⟨g, o + j, none⟩) hg).trans (hcc j hj)⟩
theorem LinesI.of {w : World} {v : Value} {L : List (List Nat)} (h : Texts w v L) : LinesI w v L := by
 obtain ⟨a, cap, rfl, hc⟩ := h
 refine ⟨a, cap, rfl, fun h0 => ?_⟩
 obtain ⟨g, rfl, hg, hcc⟩ := hc h0
 exact ⟨g, 0, rfl, hg, fun j hj => by rw [Nat.zero_add]; exact hcc j _ (by rw [List.getD, eG9 hj]; rfl)⟩
theorem take_line {L : List (List Nat)} {k : Nat} (h : k < L.length) : L.take (k + 1) = L.take k ++ [L.getD k []] := by
 rw [List.take_add_one, List.getD, eG9 h]; rfl
theorem say_next {d : Dk} {L : List (List Nat)} {k : Nat} (h : k < L.length) : sayL d (L.take (k + 1)) =
 ((lineV (sayL d (L.take k)).1 (L.getD k [])).1, (sayL d (L.take k)).2 ++ [(lineV (sayL d (L.take k)).1 (L.getD k [])).2]) := by
 rw [take_line h, sayL_app]
 rfl
structure Si (w : World) (b g : Nat) (d : Dk) (L : List (List Nat)) (k : Nat) (x p : Value) (W : World) : Prop where
 below : Below w.heap.size w W
 res : W.heap[w.heap.size + 1]? = some (.cells #[.slice none 0 0, .slice none 0 0] 31 (0, 0))
 box : W.heap[b]? = some (.cells #[x, p] 31 (0, 0))
 lt : w.heap.size + 2 ≤ b
 glt : w.heap.size + 2 ≤ g
 own : OwnDk W (w.heap.size + 2) (.agg #[x, p]) (sayL d (L.take k)).1
 txts : TxA W g L.length (fun i => (sayL d (L.take k)).2.getD i [])
set_option maxRecDepth 100000 in
set_option maxHeartbeats 1000000 in
theorem implSay_no (x p ls : Value) (d : Dk) (L : List (List Nat)) (w : World) (hx : Ints w x d.1) (hp : PastI w p d.2) (hs : DkS d) (hb : deskB d = false ∨ 40 < L.length) (hls : LinesI w ls L) (hn : L.length ≤ 2000000) : Calls Tryz.prog 25 #[.agg #[x, p], ls] w fun e w' =>
 ∃ y, e = .returned (.tuple #[y, .slice none 0 0]) ∧ OwnDk w' w.heap.size y ([], []) ∧ Below w.heap.size w w' := by
 have hB : Below w.heap.size w ((w.alloc (.cells #[x, p] 31)).alloc (.cells #[.slice none 0 0, .slice none 0 0] 31)) := ((Below.refl _ w).alloc (Nat.le_refl _) _).alloc (by rw [World.size_alloc]; omega) _
 have k0 : ((w.alloc (.cells #[x, p] 31)).alloc (.cells #[.slice none 0 0, .slice none 0 0] 31)).heap[w.heap.size]? = some (.cells #[x, p] 31 (0, 0)) := (Below.heap_alloc _ _ _ (by rw [World.size_alloc]; omega)).trans (aN9 w _)
 have k1 := aN9 (w.alloc (.cells #[x, p] 31)) (.cells #[.slice none 0 0, .slice none 0 0] 31)
 rw [World.size_alloc] at k1
 have hsz : w.heap.size + 2 ≤ ((w.alloc (.cells #[x, p] 31)).alloc (.cells #[.slice none 0 0, .slice none 0 0] 31)).heap.size := by simp
 obtain ⟨W1, hW1⟩ : ∃ W1, (w.alloc (.cells #[x, p] 31)).alloc (.cells #[.slice none 0 0, .slice none 0 0] 31) = W1 := ⟨_, rfl⟩
 rw [hW1] at hB k0 k1 hsz
 have hOK := implDeskOk (.agg #[x, p]) d W1 ⟨x, p, rfl, hx.below hB, hp.below hB⟩ hs
 obtain ⟨xa, xc, rfl⟩ := hx.shape
 obtain ⟨pa, pc, rfl, _⟩ := id hp
 obtain ⟨la, lc, rfl, hlr⟩ := hls
 obtain ⟨N, hN⟩ : ∃ N, L.length = N := ⟨_, rfl⟩
 rw [hN] at hn hb ⊢
 obtain ⟨c0, c1, _, _⟩ := row_at k0
 have l0 := (gE9.1 k0).1
 have l1 := (gE9.1 k1).1
 have h40 : deskB d = true → (40 : Int) < (N : Int) := fun e => by
  rcases hb with h | h
  · rw [e] at h; cases h
  · omega
 clear hx hp hs hlr hb
 cases hd : deskB d <;> rw [hd] at hOK h40
 all_goals
  have h40' := h40
  clear h40
  simp at h40'
  go_enter Tryz.func25, Tryz.ntmps25
  go_wp2_with (go_at_call 23; go_loud (refine hOK.mono ?_; clear hOK; rintro e W2 ⟨rfl, hB2⟩; have zres := (hB2.block _ l1).trans k1; obtain ⟨c0, c1, _, _⟩ := row_at ((hB2.block _ l0).trans k0); obtain ⟨r0, r1, f0, f1⟩ := row_at zres))
  (try simp only [Exit.inBlock, Exit.then])
  have hB3 := hB.trans (hB2.mono hB.size)
  have hz := hB2.size
  exact bodyPost_ret (results_desk2 rfl _ _ (w.heap.size + 1) _ _ rfl (desk_set zres (.slice none 0 0) (.slice none 0 0))) rfl ⟨_, rfl, (OwnDk.none W2 (w.heap.size + 2) (by omega)).result (b := w.heap.size + 1) (base' := w.heap.size) (by omega) (by omega), (hB3.setCell (p := ⟨w.heap.size + 1, 0, none⟩) (Nat.le_succ _) _).setCell (p := ⟨w.heap.size + 1, 1, none⟩) (Nat.le_succ _) _⟩
set_option maxRecDepth 100000 in
set_option maxHeartbeats 4000000 in
theorem implSay_in (x p ls : Value) (d : Dk) (L : List (List Nat)) (w : World) (hx : Ints w x d.1) (hp : PastI w p d.2) (hb : deskB d = true) (hl : L.length ≤ 40) (hls : LinesI w ls L) (hby : ∀ l ∈ L, (∀ c ∈ l, c < 256) ∧ l.length ≤ 1100000) (hE : Env w) :
 Calls Tryz.prog 25 #[.agg #[x, p], ls] w fun e w' => ∃ y g, e = .returned (.tuple #[y, .slice (some ⟨g, 0, none⟩) L.length L.length]) ∧ OwnDk w' w.heap.size y (sayL d L).1 ∧ w'.ownsRow w.heap.size 9 1 (.slice (some ⟨g, 0, none⟩) L.length L.length) L.length ((sayL d L).2.map txt) ∧ Below w.heap.size w w' := by
 obtain ⟨hd1, hd2, hd3⟩ := deskB_is.1 hb
 have hl1 := sideB_len hd2
 have hB : Below w.heap.size w ((w.alloc (.cells #[x, p] 31)).alloc (.cells #[.slice none 0 0, .slice none 0 0] 31)) := ((Below.refl _ w).alloc (Nat.le_refl _) _).alloc (by rw [World.size_alloc]; omega) _
 have k0 : ((w.alloc (.cells #[x, p] 31)).alloc (.cells #[.slice none 0 0, .slice none 0 0] 31)).heap[w.heap.size]? = some (.cells #[x, p] 31 (0, 0)) := (Below.heap_alloc _ _ _ (by rw [World.size_alloc]; omega)).trans (aN9 w _)
 have k1 := aN9 (w.alloc (.cells #[x, p] 31)) (.cells #[.slice none 0 0, .slice none 0 0] 31)
 rw [World.size_alloc] at k1
 have hsz : w.heap.size + 2 ≤ ((w.alloc (.cells #[x, p] 31)).alloc (.cells #[.slice none 0 0, .slice none 0 0] 31)).heap.size := by simp
 obtain ⟨W1, hW1⟩ : ∃ W1, (w.alloc (.cells #[x, p] 31)).alloc (.cells #[.slice none 0 0, .slice none 0 0] 31) = W1 := ⟨_, rfl⟩
 rw [hW1] at hB k0 k1 hsz
 have hOK := implDeskOk (.agg #[x, p]) d W1 ⟨x, p, rfl, hx.below hB, hp.below hB⟩ (deskB_size hb)
 rw [hb] at hOK
 have hKp := fun V (hV : Below w.heap.size w V) => deskOf_in x p d.1 d.2 V (hx.below hV) hl1.1 hl1.2 (hp.below hV) hd3 (fun j hj => sideB_len (hd1 _ (by rw [List.getD, eG9 hj]; exact List.getElem_mem hj)))
 obtain ⟨xa, xc, rfl⟩ := hx.shape
 obtain ⟨pa, pc, rfl, _⟩ := id hp
 obtain ⟨la, lc, rfl, hlr⟩ := hls
 obtain ⟨N, hN⟩ : ∃ N, L.length = N := ⟨_, rfl⟩
 rw [hN] at hl hlr ⊢
 have hl' : ¬ (40 : Int) < (N : Int) := by omega
 obtain ⟨c0, c1, _, _⟩ := row_at k0
 have l0 := (gE9.1 k0).1
 have l1 := (gE9.1 k1).1
 clear hx hp hd1
 refine (cW9 (n := 9)).1 ?_
 refine callsIn_of_wp Tryz.func25 rfl trivial ?_ rfl
 simp only [Tryz.ntmps25, List.size_toArray, List.length_cons, List.length_nil, Nat.reduceAdd, Nat.reduceSub, Array.replicate_succ, Array.replicate_zero, List.push_toArray, List.append_toArray, List.nil_append, List.cons_append]
 gi_wp2_with fail
 refine ⟨trivial, ?_⟩
 gi_at_call 23
 refine (cW9.2 hOK).mono ?_
 rintro e W2 ⟨rfl, hB2⟩
 have hB02 := hB.trans (hB2.mono hB.size)
 have k02 := (hB2.block _ l0).trans k0
 have k12 := (hB2.block _ l1).trans k1
 have hsz2 := lT9 hsz hB2.size
 clear hOK hB2 k0 k1 l0 l1 hB hsz c0 c1 hW1
 gi_wp2
 refine wpIn_region_storeP 9 10 [(some 19, 0), (some 20, 1), (some 21, 2), (some 22, 3), (some 23, 4), (some 24, 5), (some 25, 6), (some 26, 7), (some 6, 8), (none, 9)] (by kernel_rfl) (by kernel_rfl) (by kernel_rfl) (by decide) (by decide) (by rfl) (by decide)
  (fun c j v V => match j with | 0 => v = .pointer (some ⟨w.heap.size, 0, none⟩) | 1 => v = .slice xa d.1.length xc | 2 => v = .pointer (some ⟨w.heap.size, 1, none⟩) | 3 => v = .slice pa d.2.length pc | 4 => OwnDk V (w.heap.size + 2) v d | 5 => v = .slice la N lc | 6 => v = .int .i64 N | 7 => ∃ g, v = .slice (some ⟨g, 0, none⟩) N N ∧ w.heap.size + 2 ≤ g ∧ TxA V g N (fun _ => []) | 8 => ∃ b x p, v = .pointer (some ⟨b, 0, none⟩) ∧ W2.heap.size ≤ b ∧ V.heap[b]? = some (.cells #[x, p] 31 (0, 0)) ∧ if c = true then OwnDk V (w.heap.size + 2) (.agg #[x, p]) d else (x = .slice none 0 0 ∧ p = .slice none 0 0) | _ => True)
  (fun c j v V V' h hB => match j, h with | 0, h => h | 1, h => h | 2, h => h | 3, h => h | 4, h => OwnDk.below h hB | 5, h => h | 6, h => h | 7, ⟨g, h1, h2, h3⟩ => ⟨g, h1, h2, h3.below hB⟩ | 8, ⟨b, x, p, h1, h2, h3, h4⟩ => ⟨b, x, p, h1, h2, (hB.block _ (gE9.1 h3).1).trans h3, by cases c with | false => simpa using h4 | true => simpa using OwnDk.below (by simpa using h4) hB⟩ | (_ + 9), _ => trivial)
  ?step ?mid ?tail
 case step =>
  rintro c j oo s V hj hj9 hn9 ho hBV hd Q' hQ
  have hB0V := hB02.trans (hBV.mono hB02.size)
  obtain ⟨c0, c1, _, _⟩ := row_at ((hBV.block _ (gE9.1 k02).1).trans k02)
  have zV := hBV.size
  rcases (show j = 0 ∨ j = 1 ∨ j = 2 ∨ j = 3 ∨ j = 4 ∨ j = 5 ∨ j = 6 ∨ j = 7 ∨ j = 8 by omega) with rfl | rfl | rfl | rfl | rfl | rfl | rfl | rfl | rfl
  all_goals
   clear hj9 hj
   simp at ho
   subst ho
   simp only [putsOf, Act.put, List.setIfInBounds_toArray, List.set_cons_succ, List.set_cons_zero] at hQ ⊢
   have hQ' := hide hQ
   clear hQ
  · clear hd
    gi_wp2
    exact hQ'.out _ _ (Below.refl _ _) rfl
  · have q1 : s 0 = .pointer (some ⟨w.heap.size, 0, none⟩) := hd 0 (by kernel_rfl)
    clear hd
    gi_wp2
    have hr := hQ'.out
    simp only [q1] at hr ⊢
    exact hr _ _ (Below.refl _ _) rfl
  · clear hd
    gi_wp2
    exact hQ'.out _ _ (Below.refl _ _) rfl
  · have q1 : s 2 = .pointer (some ⟨w.heap.size, 1, none⟩) := hd 2 (by kernel_rfl)
    clear hd
    gi_wp2
    have hr := hQ'.out
    simp only [q1] at hr ⊢
    exact hr _ _ (Below.refl _ _) rfl
  · have q1 : s 1 = .slice xa d.1.length xc := hd 1 (by kernel_rfl)
    have q2 : s 3 = .slice pa d.2.length pc := hd 3 (by kernel_rfl)
    have hK := hKp V hB0V
    clear hd
    gi_wp2_with (refine ⟨trivial, ?_⟩; gi_at_call 52; go_loud (refine (cW9.2 hK).mono ?_; rintro e W9 ⟨u9, rfl, ho9, hB9⟩))
    have hr := hQ'.out
    simp only [q1, q2] at hr ⊢
    exact hr _ _ hB9 (ho9.down (by omega))
  · clear hd
    gi_wp2
    exact hQ'.out _ _ (Below.refl _ _) rfl
  · have q1 : s 5 = .slice la N lc := hd 5 (by kernel_rfl)
    clear hd
    gi_wp2
    have hr := hQ'.out
    simp only [q1] at hr ⊢
    exact hr _ _ (Below.refl _ _) rfl
  · have q1 : s 6 = .int .i64 N := hd 6 (by kernel_rfl)
    clear hd
    refine make_texts V rfl _ _ rfl N N N (by simp [go_sem, q1]) (by simp [go_sem, q1]) rfl rfl (by omega) ?_
    intro V' hT hg
    have hr := hQ'.out
    have hbV : Below V.heap.size V V' := (Below.refl _ V).grown hg (Nat.le_refl _) (fun q e => by cases e)
    simp only [wpListIn]
    exact hr _ _ hbV ⟨_, rfl, by omega, hT⟩
  · clear hd
    have hc : c = false := by
     cases c with
     | false => rfl
     | true => exact absurd ((hn9 rfl).symm.trans (by kernel_rfl)) Bool.false_ne_true
    subst hc
    have hbA := (Below.refl _ V).alloc (Nat.le_refl _) (.cells #[.slice none 0 0, .slice none 0 0] 31)
    have hbk := aN9 V (.cells #[.slice none 0 0, .slice none 0 0] 31)
    have hfin := hide (And.intro hbA hbk)
    clear hbA hbk
    gi_wp2
    exact hQ'.out _ _ hfin.out.1 ⟨_, _, _, rfl, zV, hfin.out.2, by simp⟩
 case mid =>
  rintro oo s V ho hBV hd Q' hQ
  simp at ho
  subst ho
  simp only [putsOf, Act.put, List.setIfInBounds_toArray, List.set_cons_succ, List.set_cons_zero] at hQ ⊢
  have hQ' := hide hQ
  clear hQ
  obtain ⟨b, x, p, q8, hb2, hbx, hz⟩ : ∃ b x p, s 8 = .pointer (some ⟨b, 0, none⟩) ∧ W2.heap.size ≤ b ∧ V.heap[b]? = some (.cells #[x, p] 31 (0, 0)) ∧ if false = true then OwnDk V (w.heap.size + 2) (.agg #[x, p]) d else (x = .slice none 0 0 ∧ p = .slice none 0 0) := hd 8 (by kernel_rfl)
  obtain ⟨rfl, rfl⟩ : x = .slice none 0 0 ∧ p = .slice none 0 0 := by simpa using hz
  have q4 : OwnDk V (w.heap.size + 2) (s 4) d := hd 4 (by kernel_rfl)
  clear hd hz
  obtain ⟨y1, y2, y3, y4, hy4⟩ := q4.form
  rw [hy4] at q4
  obtain ⟨z0, z1, z2, z3⟩ := row_at hbx
  have hst := hide (And.intro (ownDk_stored q4 hbx) (And.intro (desk_set hbx (.slice y1 d.1.length y2) (.slice y3 d.2.length y4)) ((hBV.setCell (p := ⟨b, 0, none⟩) hb2 (.slice y1 d.1.length y2)).setCell (p := ⟨b, 1, none⟩) hb2 (.slice y3 d.2.length y4))))
  have hbxh := hide hbx
  clear q4 hbx
  gi_wp2
  have hr := hQ'.out
  simp only [hy4, q8] at hr ⊢
  refine hr undef _ hst.out.2.2 ?_ trivial
  intro k hk h
  match k, h with
  | 0, h => exact h
  | 1, h => exact h
  | 2, h => exact h
  | 3, h => exact h
  | 4, h =>
    show OwnDk _ _ (s 4) d
    rw [hy4]
    exact hst.out.1
  | 5, h => exact h
  | 6, h => exact h
  | 7, ⟨g, h1, h2, h3⟩ =>
    have hne := h3.ne hbxh.out (by decide)
    have g0 := grownBy_setAt V b 0 (.slice y1 d.1.length y2)
    have g1 := grownBy_setAt (V.setCell ⟨b, 0, none⟩ (.slice y1 d.1.length y2)) b 1 (.slice y3 d.2.length y4)
    exact ⟨g, h1, h2, (h3.of_block (g0.block _ h3.lt (fun e => by injection e with e; exact hne e))).of_block (g1.block _ (lL9 h3.lt g0.size) (fun e => by injection e with e; exact hne e))⟩
  | 8, h => exact ⟨b, _, _, q8, hb2, hst.out.2.1, by simpa using hst.out.1⟩
  | (_ + 9), _ => trivial
 case tail =>
  rintro s V hBV hd
  obtain ⟨g, q7, hg2, htx⟩ : ∃ g, s 7 = .slice (some ⟨g, 0, none⟩) N N ∧ w.heap.size + 2 ≤ g ∧ TxA V g N (fun _ => []) := hd 7 (by omega)
  obtain ⟨b, x, p, q8, hb2, hbx, hz⟩ : ∃ b x p, s 8 = .pointer (some ⟨b, 0, none⟩) ∧ W2.heap.size ≤ b ∧ V.heap[b]? = some (.cells #[x, p] 31 (0, 0)) ∧ if true = true then OwnDk V (w.heap.size + 2) (.agg #[x, p]) d else (x = .slice none 0 0 ∧ p = .slice none 0 0) := hd 8 (by omega)
  have hown : OwnDk V (w.heap.size + 2) (.agg #[x, p]) d := by simpa using hz
  clear hd hz
  have hS0 : Si w b g d L 0 x p V := ⟨hB02.trans (hBV.mono hB02.size), (hBV.block _ (gE9.1 k12).1).trans k12, hbx, by omega, hg2, by rw [List.take_zero]; exact hown, by rw [hN, List.take_zero]; exact htx⟩
  have hlen := hide (fun k => sayL_len (L.take k) d)
  clear hBV hg2 htx hb2 hbx hown hKp hB02 k02 k12 hsz2
  simp only [putsOf, Act.put, List.setIfInBounds_toArray, List.set_cons_succ, List.set_cons_zero]
  simp only [List.drop_succ_cons, List.drop_zero]
  simp only [q7, q8]
  gi_wp2
  gi_loopw [29] (fun i wr => ∃ (k : Nat) (x p : Value), k ≤ N ∧ i = .int .i64 k ∧ Si w b g d L k x p wr) (fun i _ => N - (intOf i).toNat)
  case atStart => exact ⟨0, _, _, Nat.zero_le _, rfl, hS0⟩
  case round =>
   obtain ⟨k, u, q, hk, rfl, hSi⟩ := hrel
   clear hS0
   obtain ⟨rB, rres, rbox, rlt, rg, rown, rtx⟩ := hSi
   by_cases hlt : k < N
   · have hki : (k : Int) < (N : Int) := by omega
     obtain ⟨gl, o, rfl, hgl, hc⟩ := hlr (by omega)
     have e1 := (rB.cell (p := ⟨gl, o + k, none⟩) hgl).trans (hc k hlt)
     have hmem : L.getD k [] ∈ L := by rw [List.getD, eG9 (by omega)]; exact List.getElem_mem _
     obtain ⟨hb1, hb2⟩ := hby _ hmem
     have hnx := say_next (d := d) (L := L) (k := k) (by omega)
     have hdb := sayL_desk (L.take k) d hb
     have hA := hlen.out k
     rw [List.length_take] at hA
     obtain ⟨l, hl0⟩ : ∃ l, L.getD k [] = l := ⟨_, rfl⟩
     rw [hl0] at e1 hb1 hb2 hnx
     obtain ⟨⟨dk, A⟩, hdk⟩ : ∃ r, sayL d (L.take k) = r := ⟨_, rfl⟩
     rw [hdk] at rown hnx hdb rtx hA
     simp only at rown hnx hdb rtx hA
     have hLine := implLine (.agg #[u, q]) dk l wr rown.deskI rown.cap (deskB_size hdb) hb1 hb2 (hE.below rB)
     obtain ⟨⟨D, tx⟩, hDt⟩ : ∃ r, lineV dk l = r := ⟨_, rfl⟩
     rw [hDt] at hLine hnx
     simp only at hLine hnx
     unfold txt at e1
     obtain ⟨X, hX⟩ : ∃ X, str l = X := ⟨_, rfl⟩
     obtain ⟨T, hT⟩ : ∃ T, str tx = T := ⟨_, rfl⟩
     rw [hX] at e1 hLine
     rw [hT] at hLine
     have hTt : txt tx = .string T := by unfold txt; rw [hT]
     have hAl : A.length = k := by omega
     have hnxh := hide hnx
     obtain ⟨q1, q2, q3, q4, hq⟩ := rown.form
     injection hq with hq
     simp at hq
     obtain ⟨rfl, rfl⟩ := hq
     obtain ⟨m0, m1, f0, f1⟩ := row_at rbox
     have lbx := (gE9.1 rbox).1
     have lgx := rtx.lt
     have hgb := rtx.ne rbox (by decide)
     clear hX hT hDt hdk hl0 hnx hdb hmem hb1 hb2 hc hlr hA rown hlen hby
     gi_wp2_with fail
     refine ⟨trivial, ?_⟩
     gi_at_call 14
     refine (cW9.2 hLine).mono ?_
     rintro e V2 ⟨y, rfl, hy, b2⟩
     obtain ⟨y1, y2, y3, y4, rfl⟩ := hy.form
     have zB := rB.trans (b2.mono rB.size)
     have zbox := (b2.block _ lbx).trans rbox
     have zres := (b2.block _ (gE9.1 rres).1).trans rres
     have ztx := rtx.below b2
     have zs := b2.size
     clear rB rbox rres rtx m0 m1 f0 f1 hLine b2 e1
     have g0 := grownBy_setAt V2 b 0 (.slice y1 D.1.length y2)
     have g1 := grownBy_setAt (V2.setCell ⟨b, 0, none⟩ (.slice y1 D.1.length y2)) b 1 (.slice y3 D.2.length y4)
     have zbox3 := desk_set zbox (.slice y1 D.1.length y2) (.slice y3 D.2.length y4)
     have own3 := (hy.old lbx g0).old lbx g1
     have zB3 := (zB.setCell (p := ⟨b, 0, none⟩) (lT9 (by omega) rlt) (.slice y1 D.1.length y2)).setCell (p := ⟨b, 1, none⟩) (lT9 (by omega) rlt) (.slice y3 D.2.length y4)
     have zres3 := (g1.block _ (lL9 (gE9.1 zres).1 g0.size) (fun e => by injection e with e; omega)).trans ((g0.block _ (gE9.1 zres).1 (fun e => by injection e with e; omega)).trans zres)
     have ztx3 := (ztx.of_block (g0.block _ ztx.lt (fun e => by injection e with e; exact hgb e))).of_block (g1.block _ (lL9 ztx.lt g0.size) (fun e => by injection e with e; exact hgb e))
     obtain ⟨m0, m1, f0, f1⟩ := row_at zbox
     obtain ⟨V3, hV3⟩ : ∃ V3, (V2.setCell ⟨b, 0, none⟩ (.slice y1 D.1.length y2)).setCell ⟨b, 1, none⟩ (.slice y3 D.2.length y4) = V3 := ⟨_, rfl⟩
     rw [hV3] at zbox3 own3 zB3 zres3 ztx3
     have t0 := ztx3.cell (i := k) (by omega)
     have t1 := ztx3.frozen k
     have g2 := grownBy_setAt V3 g k (.string T)
     have fin : Si w b g d L (k + 1) (.slice y1 D.1.length y2) (.slice y3 D.2.length y4) (V3.setCell ⟨g, k, none⟩ (.string T)) := by
      refine ⟨zB3.setCell (p := ⟨g, k, none⟩) (lT9 (by omega) rg) _, ?_, ?_, rlt, rg, ?_, ?_⟩
      · exact (g2.block _ (gE9.1 zres3).1 (fun e => by injection e with e; omega)).trans zres3
      · exact (g2.block _ (gE9.1 zbox3).1 (fun e => by injection e with e; exact hgb e.symm)).trans zbox3
      · rw [hnxh.out]
        exact (own3.old lgx g2).down (by have := zB.size; omega)
      · rw [hnxh.out, ← hTt]
        refine (ztx3.set k tx).congr fun i hi => ?_
        simp only
        by_cases e : i = k
        · rw [if_pos e, e, List.getD, List.getElem?_append_right (by omega), hAl, Nat.sub_self]; rfl
        · rw [if_neg e, List.getD, List.getD]
          by_cases e2 : i < k
          · rw [List.getElem?_append_left (by omega)]
          · rw [List.getElem?_eq_none (by omega), List.getElem?_eq_none (by simp; omega)]
     have finh := hide fin
     clear fin g0 g1 g2 zbox3 own3 zB3 zres3 ztx3 zbox zres ztx hy zB
     gi_wp2
     go_roundw
     case rel => exact ⟨k + 1, _, _, by omega, by go_num, finh.out⟩
     case measure => simp [intOf]; omega
   · obtain rfl : k = N := by omega
     have hki : ¬ (k : Int) < (k : Int) := by omega
     have ht : L.take k = L := by rw [← hN, List.take_length]
     have hln := hlen.out k
     rw [ht] at rown rtx hln
     obtain ⟨q1, q2, q3, q4, hq⟩ := rown.form
     injection hq with hq
     simp at hq
     obtain ⟨rfl, rfl⟩ := hq
     obtain ⟨n1, hn1⟩ : ∃ n1, (sayL d L).1.1.length = n1 := ⟨_, rfl⟩
     obtain ⟨n2, hn2⟩ : ∃ n2, (sayL d L).1.2.length = n2 := ⟨_, rfl⟩
     rw [hn1, hn2] at rown rbox
     obtain ⟨m0, m1, _, _⟩ := row_at rbox
     obtain ⟨r0, r1, f0, f1⟩ := row_at rres
     have g0 := grownBy_setAt wr (w.heap.size + 1) 0 (.slice q1 n1 q2)
     have g1 := grownBy_setAt (wr.setCell ⟨w.heap.size + 1, 0, none⟩ (.slice q1 n1 q2)) (w.heap.size + 1) 1 (.slice q3 n2 q4)
     have hrs := hide (desk_set rres (.slice q1 n1 q2) (.slice q3 n2 q4))
     have hown := hide (rown.result (b := w.heap.size + 1) (base' := w.heap.size) (by omega) (by omega))
     have hBl := hide ((rB.setCell (p := ⟨w.heap.size + 1, 0, none⟩) (Nat.le_succ _) (.slice q1 n1 q2)).setCell (p := ⟨w.heap.size + 1, 1, none⟩) (Nat.le_succ _) (.slice q3 n2 q4))
     have htxs := hide ((((rtx.of_block (g0.block _ rtx.lt (fun e => by injection e with e; omega))).of_block (g1.block _ (lL9 rtx.lt g0.size) (fun e => by injection e with e; omega)))).own (base := w.heap.size) (by omega) (by omega) (L := (sayL d L).2) hln (fun _ _ => rfl))
     rw [hN] at htxs
     clear rB rown ht hlr hlen hby hE rtx g0 g1 hb
     gi_wp2
     (try simp only [Exit.inBlock, Exit.then])
     exact bodyPost_ret (results_desk2 rfl _ _ (w.heap.size + 1) _ _ rfl hrs.out) rfl ⟨_, g, rfl, hown.out, htxs.out, hBl.out⟩
theorem implSay (v ls : Value) (d : Dk) (L : List (List Nat)) (w : World) (hv : DeskI w v d) (hs : DkS d) (hls : LinesI w ls L) (hn : L.length ≤ 2000000) (hby : ∀ l ∈ L, (∀ c ∈ l, c < 256) ∧ l.length ≤ 1100000) (hE : Env w) :
 Calls Tryz.prog 25 #[v, ls] w fun e w' => ∃ y u, e = .returned (.tuple #[y, u]) ∧ OwnDk w' w.heap.size y (sayV d L).1 ∧ w'.ownsRow w.heap.size 9 1 u (sayV d L).2.length ((sayV d L).2.map txt) ∧ Below w.heap.size w w' := by
 obtain ⟨x, p, rfl, hx, hp⟩ := hv
 by_cases h : deskB d = true ∧ L.length ≤ 40
 · unfold sayV
   rw [if_pos h, sayL_len]
   exact (implSay_in x p ls d L w hx hp h.1 h.2 hls hby hE).mono fun e w' ⟨y, g, h1, h2, h3, h4⟩ => ⟨y, _, h1, h2, h3, h4⟩
 · unfold sayV
   rw [if_neg h]
   refine (implSay_no x p ls d L w hx hp hs ?_ hls hn).mono fun e w' ⟨y, h1, h2, h3⟩ => ⟨y, _, h1, h2, World.ownsRow_nil _ _ _ _, h3⟩
   cases hb : deskB d with
   | false => exact .inl rfl
   | true =>
     right
     rcases Nat.lt_or_ge 40 L.length with h1 | h1
     · exact h1
     · exact absurd ⟨hb, h1⟩ h
end
section
open Go Go.RowKit Go.Shelf
attribute [local go_sem] Oper.semAt_some
theorem append_txt_in {F : Fence} {k : Nat} {ops : Array Oper} {rest : List Oper} {o : Oper} {a : Act} {Q : Exit → Act → World → Prop} {w : World} {z : ByteArray} (hgd : o.guard = none) (s x : Operand)
 (ho : o.op = .call { callee := .builtin .append, args := #[s, x], argTypes := #[48, 48] })
 (base : Nat) (v : Value) (n : Nat) (xs : List Value) (hs : a.eval s = v) (hown : w.ownsRow base 9 1 v n xs) (hx : a.eval x = .slice (some ⟨w.heap.size, 0, none⟩) 1 1)
 (hn : n ≤ 4000000) (hbase : base ≤ w.heap.size)
 (h : ∀ v' w', w'.ownsRow base 9 1 v' (n + 1) (xs ++ [.string z]) → (w.alloc (.cells #[.string z] 9)).grownBy w' v.ownBlock → (v'.ownBlock = v.ownBlock ∨ v'.ownBlock = some (w.heap.size + 1)) → wpListIn F k Tryz.prog ops Q rest (a.put o.dst v') w') :
 wpListIn F k Tryz.prog ops Q (o :: rest) a (w.alloc (.cells #[.string z] 9)) := by
 obtain ⟨i0, hi, hz0, hz1, hz2⟩ := info_any Tryz.infoStr
 refine wpListIn_plain hgd fun K hK => ?_
 obtain ⟨v', w', hr, h2, h3, _, h5⟩ := run_append_own_at (P := Tryz.prog) (w.alloc (.cells #[.string z] 9)) base 48 o.type 9 i0 (.string ⟨#[]⟩) 1 16 Tryz.underlying48 hi hz0 hz1 hz2 rfl (by decide) v n xs (hown.alloc _) ⟨w.heap.size, 0, none⟩ 1 1 [.string z] rfl (cell_one_new _ _ _) (fun u hu => by simp at hu; subst hu; rfl) (by unfold maxLen; omega) (by omega) (by simp; omega)
 unfold Oper.wpIn
 refine ⟨?_, ?_⟩
 · simp [Oper.about, ho, resolve, Target.leads, Sem.run_pure]
 · rw [Oper.semAt_plain F _ _ (by rw [ho]; intro c hc'; cases hc')]
   simp only [execOp, ho, resolve, invoke, builtin, Sem.run_bind, Sem.run_pure, Result.andThen_ok, List.map_toArray, List.map_cons, List.map_nil, hs, hx, hr]
   exact hK _ _ (h v' w' h2 h3 (by rwa [World.size_alloc] at h5))
end
section
open Go Go.RowKit
attribute [local go_sem] Oper.semAt_some
set_option maxRecDepth 100000 in
set_option maxHeartbeats 2000000 in
theorem drawDeskSay (w : World) (a0 : Option Addr) (len0 cap0 : Nat) (zs : List Int) (h : IsRow .u8 w a0 len0 cap0 zs) : Calls Tryz.prog 24 #[.slice a0 len0 cap0] w fun e w' =>
 ∃ (y : Value) (d : Dk) (v : Value) (L : List (List Nat)), e = .returned (.tuple #[y, v]) ∧ DeskI w' y d ∧ CapP y ∧ DkZ d ∧ w'.ownsRow w.heap.size 9 1 v L.length (L.map txt) ∧ L.length ≤ 41 ∧ (∀ l ∈ L, (∀ c ∈ l, c < 256) ∧ l.length ≤ 80) ∧ Below w.heap.size w w' := by
 have hB := (Below.refl _ w).alloc (Nat.le_refl _) (.cells #[.slice none 0 0, .slice none 0 0] 31)
 have k0 := aN9 w (.cells #[.slice none 0 0, .slice none 0 0] 31)
 have hsz0 := World.size_alloc w (.cells #[.slice none 0 0, .slice none 0 0] 31)
 obtain ⟨w1, hw1⟩ : ∃ w1, w.alloc (.cells #[.slice none 0 0, .slice none 0 0] 31) = w1 := ⟨_, rfl⟩
 rw [hw1] at hB k0 hsz0
 have hsz : w.heap.size + 1 ≤ w1.heap.size := by omega
 clear hsz0
 have ho := open_in w1 a0 len0 cap0 zs (isRow_below h hB)
 refine (cW9 (n := 9)).1 ?_
 refine callsIn_of_wp Tryz.func24 rfl trivial ?_ rfl
 simp only [Tryz.ntmps24, List.size_toArray, List.length_cons, List.length_nil, Nat.reduceAdd, Nat.reduceSub, Array.replicate_succ, Array.replicate_zero, List.push_toArray, List.append_toArray, List.nil_append, List.cons_append]
 gi_wp2_with fail
 refine ⟨trivial, ?_⟩
 gi_at_call 39
 refine (cW9.2 ho).mono ?_
 rintro e w2 ⟨R, len, cap, rfl, hb, hR⟩
 gi_wp2_with fail
 refine ⟨trivial, ?_⟩
 gi_at_call 48
 refine (cW9.2 (l20Desk_in w1 R len cap 0 a0 12 (by omega) (by omega) w2 hb hR (by omega))).mono ?_
 rintro e w3 ⟨y, d, rfl, hY, hlo, hdz, p, hp, hR3, hg3⟩
 obtain ⟨x1, x2, x3, x4, rfl⟩ := hY.form
 have z23 := hg3.size
 have z12 := hR.1.size
 have hR4 := hR3.alloc (.cells #[.slice x1 d.1.length x2, .slice x3 d.2.length x4] 31)
 have hY4 := hY.below ((Below.refl _ w3).alloc (Nat.le_refl _) (.cells #[.slice x1 d.1.length x2, .slice x3 d.2.length x4] 31))
 have kb := aN9 w3 (.cells #[.slice x1 d.1.length x2, .slice x3 d.2.length x4] 31)
 obtain ⟨b, hbe⟩ : ∃ b, w3.heap.size = b := ⟨_, rfl⟩
 have hRb := hR3.lt
 obtain ⟨w4, hw4⟩ : ∃ w4, w3.alloc (.cells #[.slice x1 d.1.length x2, .slice x3 d.2.length x4] 31) = w4 := ⟨_, rfl⟩
 rw [hw4] at hR4 hY4 kb
 rw [hbe] at kb hRb
 have hcp := hide hY4.capN.1
 have hd12 := hdz.1
 have hRw2 := hR.lt
 have hmade : (w4.alloc (.cells #[] 9)).ownsRow w4.heap.size 9 1 (.slice (some ⟨w4.heap.size, 0, none⟩) 0 0) 0 [] := World.ownsRow_made _ _ _ (Nat.le_refl _) (by decide) rfl
 have hR5 := hR4.alloc (.cells #[] 9)
 have hg45 : w4.grownBy (w4.alloc (.cells #[] 9)) (some R) := World.grownBy_alloc _ _ _
 obtain ⟨c4, hc4⟩ : ∃ c4, w4.heap.size = c4 := ⟨_, rfl⟩
 have hRc : R < c4 := by have := hR4.lt; omega
 have hbc : b < c4 := by have := (gE9.1 kb).1; omega
 obtain ⟨w5, hw5⟩ : ∃ w5, w4.alloc (.cells #[] 9) = w5 := ⟨_, rfl⟩
 rw [hw5] at hmade hR5 hg45
 rw [hc4] at hmade
 have hP := pick_in w1 R len cap p a0 7 w5 hb hR5 (by omega)
 clear hR3 hY hg3 ho hR hw1 hR5
 gi_wp2_with fail
 refine ⟨trivial, ?_⟩
 gi_at_call 42
 refine (cW9.2 hP).mono ?_
 rintro e w6 ⟨x, rfl, hx0, _, hx7, hR6, hg6, _⟩
 replace hx7 := hx7 (by omega)
 obtain ⟨N, rfl⟩ : ∃ N : Nat, x = (N : Int) := ⟨x.toNat, by omega⟩
 have hg46 := hg45.trans hg6
 have ho6 := hmade.kept hg6 (.inr (by simp [Value.ownBlock]; omega))
 have hl80 := hide (fun q V (hq : q ≤ p + 700000) (hR : Rd w1 R a0 len cap V q) (hp : q ≤ 700000) => l20Line_in w1 R len cap q a0 V hb hR hp x1 d.1.length x2 (by omega))
 have hc4a : c4 ≤ w4.heap.size := by omega
 have hc4b : w4.heap.size ≤ c4 := by omega
 clear hP hmade hg45 hg6 hw5 hw4 hbe hc4
 gi_wp2
 gi_loopw [6, 7] (fun o i wr => ∃ (j : Nat) (Lt : List (List Nat)) (q : Nat), j + Lt.length = N ∧ i = .int .i64 j ∧ wr.ownsRow c4 9 1 o Lt.length (Lt.map txt) ∧ (∀ l ∈ Lt, (∀ c ∈ l, c < 256) ∧ l.length ≤ 80) ∧ q ≤ p + 1 + 900 * Lt.length ∧ Rd w1 R a0 len cap wr q ∧ w4.grownBy wr (some R)) (fun _ i _ => (intOf i).toNat)
 case atStart => exact ⟨N, [], p + 1, by simp, rfl, ho6, by simp, by simp, hR6, hg46⟩
 case round =>
  obtain ⟨j, Lt, q, hj, rfl, hown, hLt, hq, hRq, hgq⟩ := hrel
  clear hR6 hg46 ho6
  have kbq := (hgq.block b (gE9.1 kb).1 (fun e => by injection e with e; omega)).trans kb
  obtain ⟨m0, m1, _, _⟩ := row_at kbq
  have hsq := hgq.size
  by_cases hjn : 0 < j
  · have hc : (0 : Int) < (j : Int) := by omega
    have hwj : IntKind.i64.wrap ((j : Int) - 1) = (j : Int) - 1 := IntWalk.i64_in _ (by omega)
    obtain ⟨oa, oc, rfl⟩ := own_shape hown
    have hC := hl80.out q wr (by omega) hRq (by omega)
    obtain ⟨M, hM⟩ : ∃ M, Lt.length = M := ⟨_, rfl⟩
    rw [hM] at hown hj hq
    gi_wp2_with fail
    refine ⟨trivial, ?_⟩
    gi_at_call 64
    refine (cW9.2 hC).mono ?_
    rintro e w7 ⟨⟨u9, rfl, l9, rfl, hl9, hn9⟩, q9, hq9, hR9, hg9⟩
    obtain ⟨S9, hS9⟩ : ∃ S, str l9 = S := ⟨_, rfl⟩
    have ht9 : txt l9 = .string S9 := by unfold txt; rw [hS9]
    have hown7 := hown.kept hg9 (.inr (fun e => by have := (hown.lt _ e).1; omega))
    have hs7 : c4 ≤ w7.heap.size := by have := hg9.size; omega
    rw [hS9]
    clear hC hl80 hown kbq m0 m1
    gi_wp2_with (gi_at_builtin; go_loud (refine append_txt_in rfl _ _ rfl c4 (.slice oa M oc) M _ rfl hown7 rfl (by omega) hs7 ?_; intro v' w8 hown8 hgrow hwhere))
    have hR8 := (hR9.alloc (.cells #[.string S9] 9)).keptO hgrow (fun k e => by have := (hown7.lt k e).1; omega)
    have hg8 : w4.grownBy w8 (some R) := ((hgq.trans hg9).andThen (World.grownBy_alloc w7 (.cells #[.string S9] 9) none) (fun _ e => by cases e)).andThen hgrow (fun k e => .inl (by have := (hown7.lt k e).1; omega))
    go_roundw
    case rel =>
     refine ⟨j - 1, Lt ++ [l9], q9, by simp; omega, by go_num, ?_, fun l hl => ?_, by rw [List.length_append, hM]; simp; omega, hR8, hg8⟩
     · rw [List.length_append, List.map_append, List.map_cons, List.map_nil, ht9, hM]
       exact hown8
     · rcases List.mem_append.1 hl with hl | hl
       · exact hLt l hl
       · obtain rfl : l = l9 := by simpa using hl
         exact ⟨hl9, hn9⟩
    case measure => simp [intOf]; omega
  · obtain rfl : j = 0 := by omega
    have hc : ¬ (0 : Int) < ((0 : Nat) : Int) := by omega
    obtain ⟨oa, oc, rfl⟩ := own_shape hown
    have hO := odd_any w1 R len cap q a0 30 wr hb hRq (by omega) (by omega) (by omega)
    obtain ⟨M, hM⟩ : ∃ M, Lt.length = M := ⟨_, rfl⟩
    rw [hM] at hown hj hq
    clear hl80 m0 m1
    gi_wp2_with fail
    refine ⟨trivial, ?_⟩
    gi_at_call 49
    refine (cW9.2 hO).mono ?_
    rintro e w9 ⟨bo, rfl, hR9, hg9⟩
    have kb9 := (hg9.block b (gE9.1 kbq).1 (fun e => by injection e with e; omega)).trans kbq
    have hY9 := hY4.rd hR4 (by omega) (hgq.trans hg9)
    have hown9 := hown.kept hg9 (.inr (fun e => by have := (hown.lt _ e).1; omega))
    have hs9 := hg9.size
    have hB9 := hR9.1
    have z14 := hR4.1.size
    have zc4 : w1.heap.size ≤ c4 := by omega
    clear hO hR9 hRq hown kbq hY4 hR4 hgq hg9
    cases bo with
    | true =>
      gi_wp2_with (refine make_texts _ rfl _ _ rfl 41 41 41 rfl rfl rfl rfl (by omega) ?_; intro w10 hT hg10; have hB910 : Below w9.heap.size w9 w10 := ⟨hg10.os, hg10.tape, hg10.output, hg10.size, fun k hk => hg10.block k hk (by simp)⟩; have kb10 := (hB910.block _ (gE9.1 kb9).1).trans kb9; have hB110 := hB9.trans (hB910.mono hB9.size); have kr := (hB110.block _ (gE9.1 k0).1).trans k0; obtain ⟨r0, r1, t0, t1⟩ := row_at kr; obtain ⟨m0, m1, _, _⟩ := row_at kb10; have hF := hide (finD_of hB hB110 (hY9.below hB910) kr); have g0 := grownBy_setAt w10 w.heap.size 0 (.slice x1 d.1.length x2); have g1 := grownBy_setAt (w10.setCell ⟨w.heap.size, 0, none⟩ (.slice x1 d.1.length x2)) w.heap.size 1 (.slice x3 d.2.length x4); have hTo := hide (((hT.of_block (g0.block _ hT.lt (fun e => by injection e with e; omega))).of_block (g1.block _ (lL9 hT.lt g0.size) (fun e => by injection e with e; omega))).own (base := w.heap.size) (by omega) (by omega) (L := List.replicate 41 []) (by simp) (fun i hi => by rw [List.getD, List.getElem?_replicate, if_pos (by omega)]; rfl)); clear hY9 kb9 kb10 kr hB9 hB110 hB910 g0 g1 hT)
      (try simp only [Exit.inBlock, Exit.then])
      exact bodyPost_ret (results_desk2 (p := 2) (u := 3) rfl _ _ w.heap.size _ _ rfl hF.out.1) rfl ⟨_, d, _, List.replicate 41 [], rfl, hF.out.2.1, hcp.out, hdz, hTo.out, by simp, fun l hl => by obtain ⟨_, rfl⟩ := List.mem_replicate.1 hl; simp, hF.out.2.2⟩
    | false =>
      have kr := (hB9.block _ (gE9.1 k0).1).trans k0
      obtain ⟨r0, r1, t0, t1⟩ := row_at kr
      obtain ⟨m0, m1, _, _⟩ := row_at kb9
      have hF := hide (finD_of hB hB9 hY9 kr)
      have g0 := grownBy_setAt w9 w.heap.size 0 (.slice x1 d.1.length x2)
      have g1 := grownBy_setAt (w9.setCell ⟨w.heap.size, 0, none⟩ (.slice x1 d.1.length x2)) w.heap.size 1 (.slice x3 d.2.length x4)
      have hTo := hide (own_fromN ((hown9.kept g0 (.inr (fun e => by have := (hown9.lt _ e).1; omega))).kept g1 (.inr (fun e => by have := (hown9.lt _ e).1; omega))) (show w.heap.size ≤ c4 by omega))
      clear hY9 kb9 kr hB9 g0 g1 hown9
      gi_wp2
      (try simp only [Exit.inBlock, Exit.then])
      exact bodyPost_ret (results_desk2 (p := 2) (u := 3) rfl _ _ w.heap.size _ _ rfl hF.out.1) rfl ⟨_, d, .slice oa M oc, Lt, rfl, hF.out.2.1, hcp.out, hdz, by rw [hM]; exact hTo.out, by omega, hLt, hF.out.2.2⟩
end
section
open Go.RowKit Go.BigFrame
theorem specNum (n : Int) (h0 : 0 ≤ n) (h1 : n ≤ 1000000000000000000) (w : World) : Calls Tryz.prog 67 #[.int .i64 n] w fun e w' => e = .returned (.string (str (decI n))) ∧ Below w.heap.size w w' := by
 obtain ⟨u, rfl⟩ : ∃ u : Nat, n = u := ⟨n.toNat, by omega⟩
 exact specNumber 20 u (Nat.lt_of_le_of_lt (show u ≤ 1000000000000000000 by omega) (by decide)) (by omega) (by omega) w
theorem specTold (n : Int) (h1 : n ≤ 1000000000000000000) (w : World) : Calls Tryz.prog 112 #[.int .i64 n] w fun e w' => e = .returned (.string (str (toldI n))) ∧ Below w.heap.size w w' := by
 by_cases h0 : n < 0
 · have e : toldI n = [110, 111, 110, 101] := by unfold toldI; rw [if_pos h0]
   rw [e]
   go_enter Tryz.func112, Tryz.ntmps112
   go_wp2
   go_ret
   exact ⟨rfl, Below.refl _ _⟩
 · rw [toldI_dec (by omega)]
   have hI := specNum n (by omega) h1 w
   obtain ⟨X, hX⟩ : ∃ X, str (decI n) = X := ⟨_, rfl⟩
   rw [hX] at hI ⊢
   go_enter Tryz.func112, Tryz.ntmps112
   go_wp2_with (go_at_call 67; refine hI.mono ?_; rintro e w1 ⟨rfl, hB⟩)
   go_ret
   exact ⟨rfl, hB⟩
set_option maxHeartbeats 1000000 in
theorem ask_cell (a b : Int) (v : Value) (w : World) (hv : Ints w v [a, b]) : Calls Tryz.prog 73 #[.string ⟨#[99, 101, 108, 108]⟩, v] w fun e w' => e = .returned (.string (str (toldI (cellV a b)))) ∧ Below w.heap.size w w' := by
 obtain ⟨g, cap, rfl, hg, hc⟩ : ∃ g cap, v = .slice (some ⟨g, 0, none⟩) 2 cap ∧ g < w.heap.size ∧ ∀ i, i < 2 → w.cell? ⟨g, i, none⟩ = some (.int .i64 ([a, b].getD i 0)) := by
  rcases hv with ⟨_, _, _, h⟩ | ⟨g, cap, rfl, h1, h2⟩
  · cases h
  · exact ⟨g, cap, rfl, h1, h2⟩
 have q0 : ∀ m : After w, m.now.cell? ⟨g, 0, none⟩ = some (.int .i64 a) := fun m => (m.ok.cell (p := ⟨g, 0, none⟩) hg).trans (hc 0 (by omega))
 have q1 : ∀ m : After w, m.now.cell? ⟨g, 1, none⟩ = some (.int .i64 b) := fun m => (m.ok.cell (p := ⟨g, 1, none⟩) hg).trans (hc 1 (by omega))
 have hO := fun m : After w => specCell a b m.now
 have hT := fun m : After w => specTold (cellV a b) (cellV_big a b) m.now
 obtain ⟨N, hN⟩ : ∃ N, cellV a b = N := ⟨_, rfl⟩
 rw [hN] at hT ⊢
 simp only [hN] at hO
 obtain ⟨S, hS⟩ : ∃ S, str (toldI N) = S := ⟨_, rfl⟩
 rw [hS] at hT ⊢
 clear hv hN hS hc hg
 go_enter Tryz.func73, Tryz.ntmps73
 go_wp2
 refine wp_region_below w (by kernel_rfl) (by kernel_rfl) (Below.refl _ _) ?_
 repeat (go_big_quiet_step (first | (go_at_call 113; exact after_of (hO _)) | (go_at_call 112; exact after_of (hT _))))
 refine wpQuiet_nil ?_
 rintro _ ⟨nq, rfl⟩
 go_wp2
 go_ret
 exact ⟨rfl, nq.ok⟩
theorem ask_cell_not (p : Option Addr) (n c : Nat) (hn : ¬ n = 2) (w : World) : Calls Tryz.prog 73 #[.string ⟨#[99, 101, 108, 108]⟩, .slice p n c] w fun e w' => e = .returned (.string (str whatT)) ∧ Below w.heap.size w w' := by
 have hni : ((n : Int) == 2) = false := by rw [beq_eq_false_iff_ne]; omega
 have hni2 : ¬ (n : Int) = 2 := by omega
 have hs : str whatT = ⟨#[119, 104, 97, 116]⟩ := by kernel_rfl
 rw [hs]
 go_enter Tryz.func73, Tryz.ntmps73
 go_wp2
 go_ret
 exact ⟨rfl, Below.refl _ _⟩
set_option maxHeartbeats 1000000 in
theorem ask_shared (a : Int) (v : Value) (w : World) (hv : Ints w v [a]) : Calls Tryz.prog 73 #[.string ⟨#[115, 104, 97, 114, 101, 100]⟩, v] w fun e w' => e = .returned (.string (str (toldI (sharedV a)))) ∧ Below w.heap.size w w' := by
 obtain ⟨g, cap, rfl, hg, hc⟩ : ∃ g cap, v = .slice (some ⟨g, 0, none⟩) 1 cap ∧ g < w.heap.size ∧ ∀ i, i < 1 → w.cell? ⟨g, i, none⟩ = some (.int .i64 ([a].getD i 0)) := by
  rcases hv with ⟨_, _, _, h⟩ | ⟨g, cap, rfl, h1, h2⟩
  · cases h
  · exact ⟨g, cap, rfl, h1, h2⟩
 have q0 : ∀ m : After w, m.now.cell? ⟨g, 0, none⟩ = some (.int .i64 a) := fun m => (m.ok.cell (p := ⟨g, 0, none⟩) hg).trans (hc 0 (by omega))
 have hO := fun m : After w => specShared a m.now
 have hT := fun m : After w => specTold (sharedV a) (sharedV_big a) m.now
 obtain ⟨N, hN⟩ : ∃ N, sharedV a = N := ⟨_, rfl⟩
 rw [hN] at hT ⊢
 simp only [hN] at hO
 obtain ⟨S, hS⟩ : ∃ S, str (toldI N) = S := ⟨_, rfl⟩
 rw [hS] at hT ⊢
 clear hv hN hS hc hg
 have r0 := q0 ⟨w, Below.refl _ _⟩
 have hO1 := hO ⟨w, Below.refl _ _⟩
 simp only at r0 hO1
 go_enter Tryz.func73, Tryz.ntmps73
 go_wp2_with fail
 go_at_call 114
 refine hO1.mono ?_
 rintro e W2 ⟨rfl, hB2⟩
 have hT2 := hT ⟨W2, hB2⟩
 simp only at hT2
 go_wp2_with fail
 go_at_call 112
 refine hT2.mono ?_
 rintro e W3 ⟨rfl, hB3⟩
 go_wp2
 go_ret
 exact ⟨rfl, hB2.trans (hB3.mono hB2.size)⟩
theorem ask_shared_not (p : Option Addr) (n c : Nat) (hn : ¬ n = 1) (w : World) : Calls Tryz.prog 73 #[.string ⟨#[115, 104, 97, 114, 101, 100]⟩, .slice p n c] w fun e w' => e = .returned (.string (str whatT)) ∧ Below w.heap.size w w' := by
 have hni : ((n : Int) == 1) = false := by rw [beq_eq_false_iff_ne]; omega
 have hni2 : ¬ (n : Int) = 1 := by omega
 have hs : str whatT = ⟨#[119, 104, 97, 116]⟩ := by kernel_rfl
 rw [hs]
 go_enter Tryz.func73, Tryz.ntmps73
 go_wp2
 go_ret
 exact ⟨rfl, Below.refl _ _⟩
set_option maxHeartbeats 1000000 in
theorem ask_ways (a : Int) (v : Value) (w : World) (hv : Ints w v [a]) : Calls Tryz.prog 73 #[.string ⟨#[119, 97, 121, 115]⟩, v] w fun e w' => e = .returned (.string (str (toldI (waysV a)))) ∧ Below w.heap.size w w' := by
 obtain ⟨g, cap, rfl, hg, hc⟩ : ∃ g cap, v = .slice (some ⟨g, 0, none⟩) 1 cap ∧ g < w.heap.size ∧ ∀ i, i < 1 → w.cell? ⟨g, i, none⟩ = some (.int .i64 ([a].getD i 0)) := by
  rcases hv with ⟨_, _, _, h⟩ | ⟨g, cap, rfl, h1, h2⟩
  · cases h
  · exact ⟨g, cap, rfl, h1, h2⟩
 have q0 : ∀ m : After w, m.now.cell? ⟨g, 0, none⟩ = some (.int .i64 a) := fun m => (m.ok.cell (p := ⟨g, 0, none⟩) hg).trans (hc 0 (by omega))
 have hO := fun m : After w => specWaysOf a m.now
 have hT := fun m : After w => specTold (waysV a) (waysV_big a) m.now
 obtain ⟨N, hN⟩ : ∃ N, waysV a = N := ⟨_, rfl⟩
 rw [hN] at hT ⊢
 simp only [hN] at hO
 obtain ⟨S, hS⟩ : ∃ S, str (toldI N) = S := ⟨_, rfl⟩
 rw [hS] at hT ⊢
 clear hv hN hS hc hg
 have r0 := q0 ⟨w, Below.refl _ _⟩
 have hO1 := hO ⟨w, Below.refl _ _⟩
 simp only at r0 hO1
 go_enter Tryz.func73, Tryz.ntmps73
 go_wp2_with fail
 go_at_call 115
 refine hO1.mono ?_
 rintro e W2 ⟨rfl, hB2⟩
 have hT2 := hT ⟨W2, hB2⟩
 simp only at hT2
 go_wp2_with fail
 go_at_call 112
 refine hT2.mono ?_
 rintro e W3 ⟨rfl, hB3⟩
 go_wp2
 go_ret
 exact ⟨rfl, hB2.trans (hB3.mono hB2.size)⟩
theorem ask_ways_not (p : Option Addr) (n c : Nat) (hn : ¬ n = 1) (w : World) : Calls Tryz.prog 73 #[.string ⟨#[119, 97, 121, 115]⟩, .slice p n c] w fun e w' => e = .returned (.string (str whatT)) ∧ Below w.heap.size w w' := by
 have hni : ((n : Int) == 1) = false := by rw [beq_eq_false_iff_ne]; omega
 have hni2 : ¬ (n : Int) = 1 := by omega
 have hs : str whatT = ⟨#[119, 104, 97, 116]⟩ := by kernel_rfl
 rw [hs]
 go_enter Tryz.func73, Tryz.ntmps73
 go_wp2
 go_ret
 exact ⟨rfl, Below.refl _ _⟩
set_option maxHeartbeats 1000000 in
theorem ask_kept (a b : Int) (v : Value) (w : World) (hv : Ints w v [a, b]) : Calls Tryz.prog 73 #[.string ⟨#[107, 101, 112, 116]⟩, v] w fun e w' => e = .returned (.string (str (toldI (keepV a b)))) ∧ Below w.heap.size w w' := by
 obtain ⟨g, cap, rfl, hg, hc⟩ : ∃ g cap, v = .slice (some ⟨g, 0, none⟩) 2 cap ∧ g < w.heap.size ∧ ∀ i, i < 2 → w.cell? ⟨g, i, none⟩ = some (.int .i64 ([a, b].getD i 0)) := by
  rcases hv with ⟨_, _, _, h⟩ | ⟨g, cap, rfl, h1, h2⟩
  · cases h
  · exact ⟨g, cap, rfl, h1, h2⟩
 have q0 : ∀ m : After w, m.now.cell? ⟨g, 0, none⟩ = some (.int .i64 a) := fun m => (m.ok.cell (p := ⟨g, 0, none⟩) hg).trans (hc 0 (by omega))
 have q1 : ∀ m : After w, m.now.cell? ⟨g, 1, none⟩ = some (.int .i64 b) := fun m => (m.ok.cell (p := ⟨g, 1, none⟩) hg).trans (hc 1 (by omega))
 have hO := fun m : After w => specLeftIn a b m.now
 have hT := fun m : After w => specTold (keepV a b) (keepV_big a b) m.now
 obtain ⟨N, hN⟩ : ∃ N, keepV a b = N := ⟨_, rfl⟩
 rw [hN] at hT ⊢
 simp only [hN] at hO
 obtain ⟨S, hS⟩ : ∃ S, str (toldI N) = S := ⟨_, rfl⟩
 rw [hS] at hT ⊢
 clear hv hN hS hc hg
 go_enter Tryz.func73, Tryz.ntmps73
 go_wp2
 refine wp_region_below w (by kernel_rfl) (by kernel_rfl) (Below.refl _ _) ?_
 repeat (go_big_quiet_step (first | (go_at_call 116; exact after_of_same (hO _)) | (go_at_call 112; exact after_of (hT _))))
 refine wpQuiet_nil ?_
 rintro _ ⟨nq, rfl⟩
 go_wp2
 go_ret
 exact ⟨rfl, nq.ok⟩
theorem ask_kept_not (p : Option Addr) (n c : Nat) (hn : ¬ n = 2) (w : World) : Calls Tryz.prog 73 #[.string ⟨#[107, 101, 112, 116]⟩, .slice p n c] w fun e w' => e = .returned (.string (str whatT)) ∧ Below w.heap.size w w' := by
 have hni : ((n : Int) == 2) = false := by rw [beq_eq_false_iff_ne]; omega
 have hni2 : ¬ (n : Int) = 2 := by omega
 have hs : str whatT = ⟨#[119, 104, 97, 116]⟩ := by kernel_rfl
 rw [hs]
 go_enter Tryz.func73, Tryz.ntmps73
 go_wp2
 go_ret
 exact ⟨rfl, Below.refl _ _⟩
set_option maxHeartbeats 1000000 in
theorem ask_left (a b c : Int) (v : Value) (w : World) (hv : Ints w v [a, b, c]) : Calls Tryz.prog 73 #[.string ⟨#[108, 101, 102, 116]⟩, v] w fun e w' => e = .returned (.string (str (toldI (leftV a b c)))) ∧ Below w.heap.size w w' := by
 obtain ⟨g, cap, rfl, hg, hc⟩ : ∃ g cap, v = .slice (some ⟨g, 0, none⟩) 3 cap ∧ g < w.heap.size ∧ ∀ i, i < 3 → w.cell? ⟨g, i, none⟩ = some (.int .i64 ([a, b, c].getD i 0)) := by
  rcases hv with ⟨_, _, _, h⟩ | ⟨g, cap, rfl, h1, h2⟩
  · cases h
  · exact ⟨g, cap, rfl, h1, h2⟩
 have q0 : ∀ m : After w, m.now.cell? ⟨g, 0, none⟩ = some (.int .i64 a) := fun m => (m.ok.cell (p := ⟨g, 0, none⟩) hg).trans (hc 0 (by omega))
 have q1 : ∀ m : After w, m.now.cell? ⟨g, 1, none⟩ = some (.int .i64 b) := fun m => (m.ok.cell (p := ⟨g, 1, none⟩) hg).trans (hc 1 (by omega))
 have q2 : ∀ m : After w, m.now.cell? ⟨g, 2, none⟩ = some (.int .i64 c) := fun m => (m.ok.cell (p := ⟨g, 2, none⟩) hg).trans (hc 2 (by omega))
 have hO := fun m : After w => specLeft a b c m.now
 have hT := fun m : After w => specTold (leftV a b c) (leftV_big a b c) m.now
 obtain ⟨N, hN⟩ : ∃ N, leftV a b c = N := ⟨_, rfl⟩
 rw [hN] at hT ⊢
 simp only [hN] at hO
 obtain ⟨S, hS⟩ : ∃ S, str (toldI N) = S := ⟨_, rfl⟩
 rw [hS] at hT ⊢
 clear hv hN hS hc hg
 go_enter Tryz.func73, Tryz.ntmps73
 go_wp2
 refine wp_region_below w (by kernel_rfl) (by kernel_rfl) (Below.refl _ _) ?_
 repeat (go_big_quiet_step (first | (go_at_call 117; exact after_of (hO _)) | (go_at_call 112; exact after_of (hT _))))
 refine wpQuiet_nil ?_
 rintro _ ⟨nq, rfl⟩
 go_wp2
 go_ret
 exact ⟨rfl, nq.ok⟩
theorem ask_left_not (p : Option Addr) (n c : Nat) (hn : ¬ n = 3) (w : World) : Calls Tryz.prog 73 #[.string ⟨#[108, 101, 102, 116]⟩, .slice p n c] w fun e w' => e = .returned (.string (str whatT)) ∧ Below w.heap.size w w' := by
 have hni : ((n : Int) == 3) = false := by rw [beq_eq_false_iff_ne]; omega
 have hni2 : ¬ (n : Int) = 3 := by omega
 have hs : str whatT = ⟨#[119, 104, 97, 116]⟩ := by kernel_rfl
 rw [hs]
 go_enter Tryz.func73, Tryz.ntmps73
 go_wp2
 go_ret
 exact ⟨rfl, Below.refl _ _⟩
set_option maxHeartbeats 1000000 in
theorem ask_often (a b c : Int) (v : Value) (w : World) (hv : Ints w v [a, b, c]) : Calls Tryz.prog 73 #[.string ⟨#[111, 102, 116, 101, 110]⟩, v] w fun e w' => e = .returned (.string (str (toldI (cellTV a b c)))) ∧ Below w.heap.size w w' := by
 obtain ⟨g, cap, rfl, hg, hc⟩ : ∃ g cap, v = .slice (some ⟨g, 0, none⟩) 3 cap ∧ g < w.heap.size ∧ ∀ i, i < 3 → w.cell? ⟨g, i, none⟩ = some (.int .i64 ([a, b, c].getD i 0)) := by
  rcases hv with ⟨_, _, _, h⟩ | ⟨g, cap, rfl, h1, h2⟩
  · cases h
  · exact ⟨g, cap, rfl, h1, h2⟩
 have q0 : ∀ m : After w, m.now.cell? ⟨g, 0, none⟩ = some (.int .i64 a) := fun m => (m.ok.cell (p := ⟨g, 0, none⟩) hg).trans (hc 0 (by omega))
 have q1 : ∀ m : After w, m.now.cell? ⟨g, 1, none⟩ = some (.int .i64 b) := fun m => (m.ok.cell (p := ⟨g, 1, none⟩) hg).trans (hc 1 (by omega))
 have q2 : ∀ m : After w, m.now.cell? ⟨g, 2, none⟩ = some (.int .i64 c) := fun m => (m.ok.cell (p := ⟨g, 2, none⟩) hg).trans (hc 2 (by omega))
 have hO := fun m : After w => specCellT a b c m.now
 have hT := fun m : After w => specTold (cellTV a b c) (cellTV_big a b c) m.now
 obtain ⟨N, hN⟩ : ∃ N, cellTV a b c = N := ⟨_, rfl⟩
 rw [hN] at hT ⊢
 simp only [hN] at hO
 obtain ⟨S, hS⟩ : ∃ S, str (toldI N) = S := ⟨_, rfl⟩
 rw [hS] at hT ⊢
 clear hv hN hS hc hg
 go_enter Tryz.func73, Tryz.ntmps73
 go_wp2
 refine wp_region_below w (by kernel_rfl) (by kernel_rfl) (Below.refl _ _) ?_
 repeat (go_big_quiet_step (first | (go_at_call 118; exact after_of_same (hO _)) | (go_at_call 112; exact after_of (hT _))))
 refine wpQuiet_nil ?_
 rintro _ ⟨nq, rfl⟩
 go_wp2
 go_ret
 exact ⟨rfl, nq.ok⟩
theorem ask_often_not (p : Option Addr) (n c : Nat) (hn : ¬ n = 3) (w : World) : Calls Tryz.prog 73 #[.string ⟨#[111, 102, 116, 101, 110]⟩, .slice p n c] w fun e w' => e = .returned (.string (str whatT)) ∧ Below w.heap.size w w' := by
 have hni : ((n : Int) == 3) = false := by rw [beq_eq_false_iff_ne]; omega
 have hni2 : ¬ (n : Int) = 3 := by omega
 have hs : str whatT = ⟨#[119, 104, 97, 116]⟩ := by kernel_rfl
 rw [hs]
 go_enter Tryz.func73, Tryz.ntmps73
 go_wp2
 go_ret
 exact ⟨rfl, Below.refl _ _⟩
set_option maxHeartbeats 1000000 in
theorem ask_carries (a b c : Int) (v : Value) (w : World) (hv : Ints w v [a, b, c]) : Calls Tryz.prog 73 #[.string ⟨#[99, 97, 114, 114, 105, 101, 115]⟩, v] w fun e w' => e = .returned (.string (str (toldI (carriesV a b c)))) ∧ Below w.heap.size w w' := by
 obtain ⟨g, cap, rfl, hg, hc⟩ : ∃ g cap, v = .slice (some ⟨g, 0, none⟩) 3 cap ∧ g < w.heap.size ∧ ∀ i, i < 3 → w.cell? ⟨g, i, none⟩ = some (.int .i64 ([a, b, c].getD i 0)) := by
  rcases hv with ⟨_, _, _, h⟩ | ⟨g, cap, rfl, h1, h2⟩
  · cases h
  · exact ⟨g, cap, rfl, h1, h2⟩
 have q0 : ∀ m : After w, m.now.cell? ⟨g, 0, none⟩ = some (.int .i64 a) := fun m => (m.ok.cell (p := ⟨g, 0, none⟩) hg).trans (hc 0 (by omega))
 have q1 : ∀ m : After w, m.now.cell? ⟨g, 1, none⟩ = some (.int .i64 b) := fun m => (m.ok.cell (p := ⟨g, 1, none⟩) hg).trans (hc 1 (by omega))
 have q2 : ∀ m : After w, m.now.cell? ⟨g, 2, none⟩ = some (.int .i64 c) := fun m => (m.ok.cell (p := ⟨g, 2, none⟩) hg).trans (hc 2 (by omega))
 have hO := fun m : After w => specCarries a b c m.now
 have hT := fun m : After w => specTold (carriesV a b c) (carriesV_big a b c) m.now
 obtain ⟨N, hN⟩ : ∃ N, carriesV a b c = N := ⟨_, rfl⟩
 rw [hN] at hT ⊢
 simp only [hN] at hO
 obtain ⟨S, hS⟩ : ∃ S, str (toldI N) = S := ⟨_, rfl⟩
 rw [hS] at hT ⊢
 clear hv hN hS hc hg
 go_enter Tryz.func73, Tryz.ntmps73
 go_wp2
 refine wp_region_below w (by kernel_rfl) (by kernel_rfl) (Below.refl _ _) ?_
 repeat (go_big_quiet_step (first | (go_at_call 119; exact after_of (hO _)) | (go_at_call 112; exact after_of (hT _))))
 refine wpQuiet_nil ?_
 rintro _ ⟨nq, rfl⟩
 go_wp2
 go_ret
 exact ⟨rfl, nq.ok⟩
theorem ask_carries_not (p : Option Addr) (n c : Nat) (hn : ¬ n = 3) (w : World) : Calls Tryz.prog 73 #[.string ⟨#[99, 97, 114, 114, 105, 101, 115]⟩, .slice p n c] w fun e w' => e = .returned (.string (str whatT)) ∧ Below w.heap.size w w' := by
 have hni : ((n : Int) == 3) = false := by rw [beq_eq_false_iff_ne]; omega
 have hni2 : ¬ (n : Int) = 3 := by omega
 have hs : str whatT = ⟨#[119, 104, 97, 116]⟩ := by kernel_rfl
 rw [hs]
 go_enter Tryz.func73, Tryz.ntmps73
 go_wp2
 go_ret
 exact ⟨rfl, Below.refl _ _⟩
set_option maxRecDepth 100000 in
set_option maxHeartbeats 1000000 in
theorem ask_none (S : ByteArray) (p : Option Addr) (n c : Nat) (w : World)
 (h7 : ¬ S = ⟨#[99, 101, 108, 108]⟩)
 (h5 : ¬ S = ⟨#[115, 104, 97, 114, 101, 100]⟩)
 (h6 : ¬ S = ⟨#[119, 97, 121, 115]⟩)
 (h8 : ¬ S = ⟨#[107, 101, 112, 116]⟩)
 (h9 : ¬ S = ⟨#[108, 101, 102, 116]⟩)
 (h10 : ¬ S = ⟨#[111, 102, 116, 101, 110]⟩)
 (h11 : ¬ S = ⟨#[99, 97, 114, 114, 105, 101, 115]⟩)
 : Calls Tryz.prog 73 #[.string S, .slice p n c] w fun e w' => e = .returned (.string (str whatT)) ∧ Below w.heap.size w w' := by
 have hs : str whatT = ⟨#[119, 104, 97, 116]⟩ := by kernel_rfl
 rw [hs]
 have e7 : ¬ S.toList = [99, 101, 108, 108] := by simpa using (Lib.bytes_beq_false_iff S ⟨#[99, 101, 108, 108]⟩).2 h7
 have e5 : ¬ S.toList = [115, 104, 97, 114, 101, 100] := by simpa using (Lib.bytes_beq_false_iff S ⟨#[115, 104, 97, 114, 101, 100]⟩).2 h5
 have e6 : ¬ S.toList = [119, 97, 121, 115] := by simpa using (Lib.bytes_beq_false_iff S ⟨#[119, 97, 121, 115]⟩).2 h6
 have e8 : ¬ S.toList = [107, 101, 112, 116] := by simpa using (Lib.bytes_beq_false_iff S ⟨#[107, 101, 112, 116]⟩).2 h8
 have e9 : ¬ S.toList = [108, 101, 102, 116] := by simpa using (Lib.bytes_beq_false_iff S ⟨#[108, 101, 102, 116]⟩).2 h9
 have e10 : ¬ S.toList = [111, 102, 116, 101, 110] := by simpa using (Lib.bytes_beq_false_iff S ⟨#[111, 102, 116, 101, 110]⟩).2 h10
 have e11 : ¬ S.toList = [99, 97, 114, 114, 105, 101, 115] := by simpa using (Lib.bytes_beq_false_iff S ⟨#[99, 97, 114, 114, 105, 101, 115]⟩).2 h11
 clear h5 h6 h7 h8 h9 h10 h11
 go_enter Tryz.func73, Tryz.ntmps73
 go_wp2
 go_ret
 exact ⟨rfl, Below.refl _ _⟩
theorem specAsk (p : List Nat) (hp : ∀ x ∈ p, x < 256) (ns : List Int) (v : Value) (w : World) (hv : Ints w v ns) : Calls Tryz.prog 73 #[.string (str p), v] w fun e w' => e = .returned (.string (str (askV p ns))) ∧ Below w.heap.size w w' := by
 obtain ⟨va, vc, rfl⟩ := hv.shape
 have hne : ∀ i, i < 12 → ¬ p = qW i → ∀ S, str (qW i) = S → ¬ str p = S := fun i hi h S hS e => h (str_inj hp (qW_byte hi) (by
  have := congrArg (fun b : ByteArray => b.data.toList) (e.trans hS.symm)
  exact this))
 unfold askV
 by_cases h7 : p = [99, 101, 108, 108]
 · subst h7
   rw [show str [99, 101, 108, 108] = ⟨#[99, 101, 108, 108]⟩ by kernel_rfl]
   by_cases hn : ns.length = 2
   · match ns, hn, hv with
     | [a, b], _, hv =>
       simpa using ask_cell a b _ w hv
   · have := ask_cell_not va ns.length vc hn w
     simpa [hn] using this
 rw [if_neg (fun h => h7 h.1)]
 by_cases h5 : p = [115, 104, 97, 114, 101, 100]
 · subst h5
   rw [show str [115, 104, 97, 114, 101, 100] = ⟨#[115, 104, 97, 114, 101, 100]⟩ by kernel_rfl]
   by_cases hn : ns.length = 1
   · match ns, hn, hv with
     | [a], _, hv =>
       simpa using ask_shared a _ w hv
   · have := ask_shared_not va ns.length vc hn w
     simpa [hn] using this
 rw [if_neg (fun h => h5 h.1)]
 by_cases h6 : p = [119, 97, 121, 115]
 · subst h6
   rw [show str [119, 97, 121, 115] = ⟨#[119, 97, 121, 115]⟩ by kernel_rfl]
   by_cases hn : ns.length = 1
   · match ns, hn, hv with
     | [a], _, hv =>
       simpa using ask_ways a _ w hv
   · have := ask_ways_not va ns.length vc hn w
     simpa [hn] using this
 rw [if_neg (fun h => h6 h.1)]
 by_cases h8 : p = [107, 101, 112, 116]
 · subst h8
   rw [show str [107, 101, 112, 116] = ⟨#[107, 101, 112, 116]⟩ by kernel_rfl]
   by_cases hn : ns.length = 2
   · match ns, hn, hv with
     | [a, b], _, hv =>
       simpa using ask_kept a b _ w hv
   · have := ask_kept_not va ns.length vc hn w
     simpa [hn] using this
 rw [if_neg (fun h => h8 h.1)]
 by_cases h9 : p = [108, 101, 102, 116]
 · subst h9
   rw [show str [108, 101, 102, 116] = ⟨#[108, 101, 102, 116]⟩ by kernel_rfl]
   by_cases hn : ns.length = 3
   · match ns, hn, hv with
     | [a, b, c], _, hv =>
       simpa using ask_left a b c _ w hv
   · have := ask_left_not va ns.length vc hn w
     simpa [hn] using this
 rw [if_neg (fun h => h9 h.1)]
 by_cases h10 : p = [111, 102, 116, 101, 110]
 · subst h10
   rw [show str [111, 102, 116, 101, 110] = ⟨#[111, 102, 116, 101, 110]⟩ by kernel_rfl]
   by_cases hn : ns.length = 3
   · match ns, hn, hv with
     | [a, b, c], _, hv =>
       simpa using ask_often a b c _ w hv
   · have := ask_often_not va ns.length vc hn w
     simpa [hn] using this
 rw [if_neg (fun h => h10 h.1)]
 by_cases h11 : p = [99, 97, 114, 114, 105, 101, 115]
 · subst h11
   rw [show str [99, 97, 114, 114, 105, 101, 115] = ⟨#[99, 97, 114, 114, 105, 101, 115]⟩ by kernel_rfl]
   by_cases hn : ns.length = 3
   · match ns, hn, hv with
     | [a, b, c], _, hv =>
       simpa using ask_carries a b c _ w hv
   · have := ask_carries_not va ns.length vc hn w
     simpa [hn] using this
 rw [if_neg (fun h => h11 h.1)]
 exact ask_none _ _ _ _ w (hne 7 (by omega) h7 _ (by kernel_rfl)) (hne 5 (by omega) h5 _ (by kernel_rfl)) (hne 6 (by omega) h6 _ (by kernel_rfl)) (hne 8 (by omega) h8 _ (by kernel_rfl)) (hne 9 (by omega) h9 _ (by kernel_rfl)) (hne 10 (by omega) h10 _ (by kernel_rfl)) (hne 11 (by omega) h11 _ (by kernel_rfl))
end
section
open Go Go.RowKit Go.Shelf
attribute [local go_sem] Oper.semAt_some
theorem append_num_in {F : Fence} {k : Nat} {ops : Array Oper} {rest : List Oper} {o : Oper} {a : Act} {Q : Exit → Act → World → Prop} {w : World} {z : Int} (hgd : o.guard = none) (s x : Operand)
 (ho : o.op = .call { callee := .builtin .append, args := #[s, x], argTypes := #[28, 28] })
 (base : Nat) (v : Value) (n : Nat) (xs : List Value) (hs : a.eval s = v) (hown : w.ownsRow base 3 1 v n xs) (hx : a.eval x = .slice (some ⟨w.heap.size, 0, none⟩) 1 1)
 (hn : n ≤ 1000000000) (hbase : base ≤ w.heap.size)
 (h : ∀ v' w', w'.ownsRow base 3 1 v' (n + 1) (xs ++ [.int .i64 z]) → (w.alloc (.cells #[.int .i64 z] 3)).grownBy w' v.ownBlock → wpListIn F k Tryz.prog ops Q rest (a.put o.dst v') w') :
 wpListIn F k Tryz.prog ops Q (o :: rest) a (w.alloc (.cells #[.int .i64 z] 3)) := by
 obtain ⟨i0, hi, hz0, hz1, hz2⟩ := info_parts Tryz.infoInt
 refine wpListIn_append_own _ hgd s x 28 ho base 3 i0 (.int .i64 0) 1 8 Tryz.underlying28 hi hz0 hz1 hz2 rfl (by decide) v n xs hs (hown.alloc _) ⟨w.heap.size, 0, none⟩ 1 1 [.int .i64 z] hx rfl ?_ ?_ ?_ ?_ ?_ ?_
 · intro j u hj
   match j, hj with
   | 0, hj => simp at hj; subst hj; simp [Addr.add]
 · intro u hu; simp at hu; subst hu; rfl
 · unfold maxLen; omega
 · omega
 · simp; omega
 · intro v' w' h1 h2 _; exact h v' w' h1 h2
structure Ls (w : World) (b : Nat) (x p y q : Value) (d : Dk) (W : World) : Prop where
 below : Below w.heap.size w W
 box : W.heap[w.heap.size]? = some (.cells #[x, p] 31 (0, 0))
 res : W.heap[w.heap.size + 1]? = some (.cells #[.slice none 0 0, .slice none 0 0] 31 (0, 0))
 lt : w.heap.size + 2 ≤ b
 out : W.heap[b]? = some (.cells #[y, q] 31 (0, 0))
 now : W.ownsRow (w.heap.size + 2) 3 1 y d.1.length (d.1.map (Value.int .i64))
 past : OwnSS W (w.heap.size + 2) q d.2
theorem Ls.more {w : World} {b : Nat} {x p y q : Value} {d : Dk} {W V : World} (h : Ls w b x p y q d W) (hV : Below W.heap.size W V) : Ls w b x p y q d V :=
 ⟨h.below.trans (hV.mono h.below.size), (hV.block _ (gE9.1 h.box).1).trans h.box, (hV.block _ (gE9.1 h.res).1).trans h.res, h.lt, (hV.block _ (gE9.1 h.out).1).trans h.out, own_below h.now hV, h.past.below hV⟩
structure Lr (w : World) (d : Dk) (v : Value) (W : World) : Prop where
 desk : DeskI W v d
 cap : CapN w.heap.size v
 below : Below w.heap.size w W
theorem Ls.done {w : World} {b : Nat} {x p y q : Value} {d : Dk} {W : World} (h : Ls w b x p y q d W) :
 Lr w d (.agg #[y, q]) ((W.setCell ⟨w.heap.size + 1, 0, .none⟩ y).setCell ⟨w.heap.size + 1, 1, .none⟩ q) := by
 have g0 := grownBy_setAt W (w.heap.size + 1) 0 y
 have g1 := grownBy_setAt (W.setCell ⟨w.heap.size + 1, 0, .none⟩ y) (w.heap.size + 1) 1 q
 have n1 := own_kept h.now g0 (own_old h.now (by omega))
 have n2 := own_kept n1 g1 (own_old n1 (by omega))
 obtain ⟨us, _, ho, _⟩ := h.past
 obtain ⟨qa, qc, hqe⟩ := own_form ho
 refine ⟨⟨y, q, rfl, Ints.of_owns n2, ((h.past.old (by omega) g0).old (by omega) g1).past⟩, ?_, (h.below.setCell (p := ⟨w.heap.size + 1, 0, .none⟩) (Nat.le_succ _) y).setCell (p := ⟨w.heap.size + 1, 1, .none⟩) (Nat.le_succ _) q⟩
 subst hqe
 exact CapN.of (own_cap ho) (fun g o t e => by subst e; have := (ho.lt g rfl).1; omega)
theorem rdV_someS {l : List Nat} {k n : Int} (h : rdV l = ((k, n), true)) : readD l = some (k, n) ∧ Fits k ∧ Fits n := by
 unfold rdV at h
 cases hr : readD l with
 | none => rw [hr] at h; cases h
 | some a =>
   rw [hr] at h
   obtain ⟨h1, h2⟩ := readD_text hr
   have h3 := deedT_is (k := a.1) (n := a.2) (by rw [h2]; exact h1)
   simp only [Prod.mk.injEq, and_true] at h
   subst h
   refine ⟨rfl, ?_⟩
   unfold isD at h3
   simp only at h3
   exact ⟨by constructor <;> omega, by constructor <;> omega⟩
theorem rdV_noneS {l : List Nat} {k n : Int} (h : rdV l = ((k, n), false)) : readD l = none := by
 unfold rdV at h
 cases hr : readD l with
 | none => rfl
 | some a => rw [hr] at h; cases h
theorem lies_row {w : World} {v : Value} {xs : List Int} (h : Ints w v xs) (h1 : 1 ≤ xs.length) : Lies v := by
 rcases h with ⟨a, c, rfl, h⟩ | ⟨g, c, rfl, _⟩
 · rw [h] at h1; simp at h1
 · exact .inr ⟨_, _, _, rfl⟩
set_option maxRecDepth 100000 in
set_option maxHeartbeats 4000000 in
theorem specLine_deed (x p : Value) (d : Dk) (l : List Nat) (w : World) (hx : Ints w x d.1) (hp : PastI w p d.2) (hb : deskB d = true) (hl : ∀ c ∈ l, c < 256) (hn : l.length ≤ 1100000) (k n : Int) (hr : rdV l = ((k, n), true)) :
 Calls Tryz.prog 21 #[.agg #[x, p], .string (str l)] w fun e w' => ∃ y, e = .returned (.tuple #[y, .string (str (lineV d l).2)]) ∧ DeskI w' y (lineV d l).1 ∧ CapN w.heap.size y ∧ Below w.heap.size w w' := by
 obtain ⟨hrd, hk, hm⟩ := rdV_someS hr
 rw [lineV_deed hb hrd]
 simp only
 obtain ⟨hd1, hd2, hd3⟩ := deskB_is.1 hb
 have hl1 := sideB_len hd2
 have hB : Below w.heap.size w ((w.alloc (.cells #[x, p] 31)).alloc (.cells #[.slice none 0 0, .slice none 0 0] 31)) := ((Below.refl _ w).alloc (Nat.le_refl _) _).alloc (by rw [World.size_alloc]; omega) _
 have k0 : ((w.alloc (.cells #[x, p] 31)).alloc (.cells #[.slice none 0 0, .slice none 0 0] 31)).heap[w.heap.size]? = some (.cells #[x, p] 31 (0, 0)) := (Below.heap_alloc _ _ _ (by rw [World.size_alloc]; omega)).trans (aN9 w _)
 have k1 := aN9 (w.alloc (.cells #[x, p] 31)) (.cells #[.slice none 0 0, .slice none 0 0] 31)
 rw [World.size_alloc] at k1
 have hsz : w.heap.size + 2 ≤ ((w.alloc (.cells #[x, p] 31)).alloc (.cells #[.slice none 0 0, .slice none 0 0] 31)).heap.size := by simp
 obtain ⟨W1, hW1⟩ : ∃ W1, (w.alloc (.cells #[x, p] 31)).alloc (.cells #[.slice none 0 0, .slice none 0 0] 31) = W1 := ⟨_, rfl⟩
 rw [hW1] at hB k0 k1 hsz
 have hOK := specDeskOk (.agg #[x, p]) d W1 ⟨x, p, rfl, hx.below hB, hp.below hB⟩ (deskB_size hb)
 rw [hb] at hOK
 have hKp := fun V (hV : Below w.heap.size w V) => specCopy x p d V (hx.below hV) (hp.below hV) hb
 have hRd := fun V => specReadDeed l hl (by omega) V
 have hDo := fun V (hV : Below w.heap.size w V) => specDo (.agg #[x, p]) d k n V ⟨x, p, rfl, hx.below hV, hp.below hV⟩ (deskB_size hb) hk hm
 have hdk := do_desk hb k n
 obtain ⟨D, hD⟩ : ∃ D, (doV d k n).1 = D := ⟨_, rfl⟩
 obtain ⟨bb, hbb⟩ : ∃ bb, (doV d k n).2 = bb := ⟨_, rfl⟩
 rw [hD] at hdk
 rw [hD, hbb] at hDo ⊢
 unfold dV at hDo
 rw [hr] at hRd
 simp only at hRd
 unfold dV at hRd
 obtain ⟨xa, xc, rfl⟩ := hx.shape
 obtain ⟨pa, pc, rfl, _⟩ := id hp
 obtain ⟨LS, hLS⟩ : ∃ LS, str l = LS := ⟨_, rfl⟩
 rw [hLS] at hRd ⊢
 obtain ⟨c0, c1, _, _⟩ := row_at k0
 have l0 := (gE9.1 k0).1
 have l1 := (gE9.1 k1).1
 clear hx hp hd1 hr hLS hD hbb
 refine (cW9 (n := 9)).1 ?_
 refine callsIn_of_wp Tryz.func21 rfl trivial ?_ rfl
 simp only [Tryz.ntmps21, List.size_toArray, List.length_cons, List.length_nil, Nat.reduceAdd, Nat.reduceSub, Array.replicate_succ, Array.replicate_zero, List.push_toArray, List.append_toArray, List.nil_append, List.cons_append]
 gi_wp2_with fail
 refine ⟨trivial, ?_⟩
 gi_at_call 13
 refine (cW9.2 hOK).mono ?_
 rintro e W2 ⟨rfl, hB2⟩
 have hB02 := hB.trans (hB2.mono hB.size)
 have k02 := (hB2.block _ l0).trans k0
 have k12 := (hB2.block _ l1).trans k1
 have hsz2 := lT9 hsz hB2.size
 obtain ⟨c0, c1, _, _⟩ := row_at k02
 clear hOK hB2 k0 k1 l0 l1 hB hsz
 gi_wp2_with fail
 refine ⟨trivial, ?_⟩
 gi_at_call 65
 refine (cW9.2 (hKp _ hB02)).mono ?_
 rintro e W3 ⟨y, q, rfl, hy, hq, hB3⟩
 have hLs3 : Ls w W3.heap.size (.slice xa d.1.length xc) (.slice pa d.2.length pc) y q d (W3.alloc (.cells #[y, q] 31)) := by
  have hB03 := hB02.trans (hB3.mono hB02.size)
  have hA := (Below.refl _ W3).alloc (Nat.le_refl _) (.cells #[y, q] 31)
  have h02 := (hB3.block _ (gE9.1 k02).1).trans k02
  have h12 := (hB3.block _ (gE9.1 k12).1).trans k12
  exact ⟨hB03.alloc hB03.size _, (hA.block _ (gE9.1 h02).1).trans h02, (hA.block _ (gE9.1 h12).1).trans h12, lT9 hsz2 hB3.size, aN9 W3 _, own_below (own_fromD hy hsz2) hA, (hq.down hsz2).below hA⟩
 obtain ⟨y1, y2, rfl⟩ := own_form hy
 obtain ⟨q1, q2, rfl⟩ := hq.form
 obtain ⟨b, hbe⟩ : ∃ b, W3.heap.size = b := ⟨_, rfl⟩
 obtain ⟨W4, hW4⟩ : ∃ W4, W3.alloc (.cells #[.slice y1 d.1.length y2, .slice q1 d.2.length q2] 31) = W4 := ⟨_, rfl⟩
 rw [hW4, hbe] at hLs3
 obtain ⟨c0, c1, _, _⟩ := row_at hLs3.box
 clear hKp hB02 k02 k12 hsz2 hy hq hB3
 gi_wp2_with fail
 refine ⟨trivial, ?_⟩
 gi_at_call 47
 refine (cW9.2 (hRd _)).mono ?_
 rintro e W5 ⟨rfl, hB5⟩
 have hLs5 := hLs3.more hB5
 have hA6 := (Below.refl _ W5).alloc (Nat.le_refl _) (.cells #[.int .i64 k, .int .i64 n] 39)
 have kd := aN9 W5 (.cells #[.int .i64 k, .int .i64 n] 39)
 have hLs6 := hLs5.more hA6
 clear hRd hLs3 hB5 hbe hW4
 obtain ⟨W6, hW6⟩ : ∃ W6, W5.alloc (.cells #[.int .i64 k, .int .i64 n] 39) = W6 := ⟨_, rfl⟩
 rw [hW6] at kd hLs6
 obtain ⟨c0, c1, _, _⟩ := row_at hLs6.box
 obtain ⟨r0, r1, f0, f1⟩ := row_at hLs6.res
 obtain ⟨s0, s1, _, _⟩ := row_at hLs6.out
 obtain ⟨e0, e1, _, _⟩ := row_at kd
 clear hLs5 hA6
 gi_wp2_with fail
 refine ⟨trivial, ?_⟩
 gi_at_call 66
 refine (cW9.2 (hDo _ hLs6.below)).mono ?_
 rintro e W7 ⟨u, rfl, hu, ⟨hcn, _⟩, hB7⟩
 have hLs7 := hLs6.more hB7
 have z6 := hLs6.below.size
 have hcn' : CapN (w.heap.size + 2) u := ⟨hcn.1, fun x g o t n c e => lT9 (lT9 hLs6.lt (Nat.le_of_lt (gE9.1 hLs6.out).1)) (hcn.2 x g o t n c e)⟩
 obtain ⟨ux, up, rfl, hux, hup⟩ := hu
 obtain ⟨u1, u2, rfl⟩ := hux.shape
 obtain ⟨u3, u4, rfl, _⟩ := id hup
 have hA8 := (Below.refl _ W7).alloc (Nat.le_refl _) (.cells #[.slice u1 D.1.length u2, .slice u3 D.2.length u4] 31)
 have hLs8 := hLs7.more hA8
 have ku := aN9 W7 (.cells #[.slice u1 D.1.length u2, .slice u3 D.2.length u4] 31)
 have hu8 : DeskI (W7.alloc (.cells #[.slice u1 D.1.length u2, .slice u3 D.2.length u4] 31)) (.agg #[.slice u1 D.1.length u2, .slice u3 D.2.length u4]) D := ⟨_, _, rfl, hux.below hA8, hup.below hA8⟩
 obtain ⟨W8, hW8⟩ : ∃ W8, W7.alloc (.cells #[.slice u1 D.1.length u2, .slice u3 D.2.length u4] 31) = W8 := ⟨_, rfl⟩
 rw [hW8] at hLs8 ku hu8
 obtain ⟨r0, r1, f0, f1⟩ := row_at hLs8.res
 obtain ⟨m0, m1, _, _⟩ := row_at ku
 have hrs := hide (desk_set hLs8.res (.slice u1 D.1.length u2) (.slice u3 D.2.length u4))
 have hfin := hide (show Lr w D (.agg #[.slice u1 D.1.length u2, .slice u3 D.2.length u4]) ((W8.setCell ⟨w.heap.size + 1, 0, none⟩ (.slice u1 D.1.length u2)).setCell ⟨w.heap.size + 1, 1, none⟩ (.slice u3 D.2.length u4)) from
  ⟨deskI_over hu8 (fun x g o t n c e => hcn'.2 x g o t n c e) (by omega) hLs8.res, ⟨hcn'.1, fun x g o t n c e => lT9 (by omega) (hcn'.2 x g o t n c e)⟩, (hLs8.below.setCell (p := ⟨w.heap.size + 1, 0, none⟩) (Nat.le_succ _) _).setCell (p := ⟨w.heap.size + 1, 1, none⟩) (Nat.le_succ _) _⟩)
 clear hDo hLs6 hLs7 hLs8 hA8 hB7 hcn hcn' hux hup hu8 kd e0 e1 ku c0 c1 s0 s1 hdk z6
 cases bb
 all_goals
  gi_wp2
  (try simp only [Exit.inBlock, Exit.then])
  exact bodyPost_ret (results_desk2 rfl _ _ (w.heap.size + 1) _ _ rfl hrs.out) rfl ⟨_, rfl, hfin.out.desk, hfin.out.cap, hfin.out.below⟩
set_option maxRecDepth 100000 in
set_option maxHeartbeats 4000000 in
theorem specLine_ones (x p : Value) (d : Dk) (w : World) (hx : Ints w x d.1) (hp : PastI w p d.2) (hb : deskB d = true) (k n : Int) (hr : rdV [111, 110, 101, 115] = ((k, n), false)) :
 Calls Tryz.prog 21 #[.agg #[x, p], .string ⟨#[111, 110, 101, 115]⟩] w fun e w' => ∃ y, e = .returned (.tuple #[y, .string (str (decI (onesV d.1)))]) ∧ DeskI w' y d ∧ CapN w.heap.size y ∧ Below w.heap.size w w' := by
 obtain ⟨hd1, hd2, hd3⟩ := deskB_is.1 hb
 have hl1 := sideB_len hd2
 have hB : Below w.heap.size w ((w.alloc (.cells #[x, p] 31)).alloc (.cells #[.slice none 0 0, .slice none 0 0] 31)) := ((Below.refl _ w).alloc (Nat.le_refl _) _).alloc (by rw [World.size_alloc]; omega) _
 have k0 : ((w.alloc (.cells #[x, p] 31)).alloc (.cells #[.slice none 0 0, .slice none 0 0] 31)).heap[w.heap.size]? = some (.cells #[x, p] 31 (0, 0)) := (Below.heap_alloc _ _ _ (by rw [World.size_alloc]; omega)).trans (aN9 w _)
 have k1 := aN9 (w.alloc (.cells #[x, p] 31)) (.cells #[.slice none 0 0, .slice none 0 0] 31)
 rw [World.size_alloc] at k1
 have hsz : w.heap.size + 2 ≤ ((w.alloc (.cells #[x, p] 31)).alloc (.cells #[.slice none 0 0, .slice none 0 0] 31)).heap.size := by simp
 obtain ⟨W1, hW1⟩ : ∃ W1, (w.alloc (.cells #[x, p] 31)).alloc (.cells #[.slice none 0 0, .slice none 0 0] 31) = W1 := ⟨_, rfl⟩
 rw [hW1] at hB k0 k1 hsz
 have hOK := specDeskOk (.agg #[x, p]) d W1 ⟨x, p, rfl, hx.below hB, hp.below hB⟩ (deskB_size hb)
 rw [hb] at hOK
 have hKp := fun V (hV : Below w.heap.size w V) => specCopy x p d V (hx.below hV) (hp.below hV) hb
 have hRd : ∀ V, Calls Tryz.prog 47 #[.string ⟨#[111, 110, 101, 115]⟩] V fun e w' => e = .returned (.tuple #[dV (rdV [111, 110, 101, 115]).1.1 (rdV [111, 110, 101, 115]).1.2, .bool (rdV [111, 110, 101, 115]).2]) ∧ Below V.heap.size V w' := fun V => specReadDeed [111, 110, 101, 115] (by decide) (by decide) V
 have hO := fun V (hV : Below w.heap.size w V) => specOnes x d.1 V (hx.below hV) (lies_row hx hl1.1) (by omega)
 have hT := fun V => specNum (onesV d.1) (ones_nn hd2) (by have := onesV_big hd2; omega) V
 obtain ⟨N, hN⟩ : ∃ N, onesV d.1 = N := ⟨_, rfl⟩
 rw [hN] at hO hT ⊢
 obtain ⟨S, hS⟩ : ∃ S, str (decI N) = S := ⟨_, rfl⟩
 rw [hS] at hT ⊢
 rw [hr] at hRd
 simp only at hRd
 unfold dV at hRd
 obtain ⟨xa, xc, rfl⟩ := hx.shape
 obtain ⟨pa, pc, rfl, _⟩ := id hp
 obtain ⟨c0, c1, _, _⟩ := row_at k0
 have l0 := (gE9.1 k0).1
 have l1 := (gE9.1 k1).1
 clear hx hp hd1 hr hN hS
 refine (cW9 (n := 9)).1 ?_
 refine callsIn_of_wp Tryz.func21 rfl trivial ?_ rfl
 simp only [Tryz.ntmps21, List.size_toArray, List.length_cons, List.length_nil, Nat.reduceAdd, Nat.reduceSub, Array.replicate_succ, Array.replicate_zero, List.push_toArray, List.append_toArray, List.nil_append, List.cons_append]
 gi_wp2_with fail
 refine ⟨trivial, ?_⟩
 gi_at_call 13
 refine (cW9.2 hOK).mono ?_
 rintro e W2 ⟨rfl, hB2⟩
 have hB02 := hB.trans (hB2.mono hB.size)
 have k02 := (hB2.block _ l0).trans k0
 have k12 := (hB2.block _ l1).trans k1
 have hsz2 := lT9 hsz hB2.size
 obtain ⟨c0, c1, _, _⟩ := row_at k02
 clear hOK hB2 k0 k1 l0 l1 hB hsz
 gi_wp2_with fail
 refine ⟨trivial, ?_⟩
 gi_at_call 65
 refine (cW9.2 (hKp _ hB02)).mono ?_
 rintro e W3 ⟨y, q, rfl, hy, hq, hB3⟩
 have hLs3 : Ls w W3.heap.size (.slice xa d.1.length xc) (.slice pa d.2.length pc) y q d (W3.alloc (.cells #[y, q] 31)) := by
  have hB03 := hB02.trans (hB3.mono hB02.size)
  have hA := (Below.refl _ W3).alloc (Nat.le_refl _) (.cells #[y, q] 31)
  have h02 := (hB3.block _ (gE9.1 k02).1).trans k02
  have h12 := (hB3.block _ (gE9.1 k12).1).trans k12
  exact ⟨hB03.alloc hB03.size _, (hA.block _ (gE9.1 h02).1).trans h02, (hA.block _ (gE9.1 h12).1).trans h12, lT9 hsz2 hB3.size, aN9 W3 _, own_below (own_fromD hy hsz2) hA, (hq.down hsz2).below hA⟩
 obtain ⟨y1, y2, rfl⟩ := own_form hy
 obtain ⟨q1, q2, rfl⟩ := hq.form
 obtain ⟨b, hbe⟩ : ∃ b, W3.heap.size = b := ⟨_, rfl⟩
 obtain ⟨W4, hW4⟩ : ∃ W4, W3.alloc (.cells #[.slice y1 d.1.length y2, .slice q1 d.2.length q2] 31) = W4 := ⟨_, rfl⟩
 rw [hW4, hbe] at hLs3
 obtain ⟨c0, c1, _, _⟩ := row_at hLs3.box
 clear hKp hB02 k02 k12 hsz2 hy hq hB3
 gi_wp2_with fail
 refine ⟨trivial, ?_⟩
 gi_at_call 47
 refine (cW9.2 (hRd _)).mono ?_
 rintro e W5 ⟨rfl, hB5⟩
 have hLs5 := hLs3.more hB5
 have hA6 := (Below.refl _ W5).alloc (Nat.le_refl _) (.cells #[.int .i64 k, .int .i64 n] 39)
 have kd := aN9 W5 (.cells #[.int .i64 k, .int .i64 n] 39)
 have hLs6 := hLs5.more hA6
 clear hRd hLs3 hB5 hbe hW4
 obtain ⟨W6, hW6⟩ : ∃ W6, W5.alloc (.cells #[.int .i64 k, .int .i64 n] 39) = W6 := ⟨_, rfl⟩
 rw [hW6] at kd hLs6
 obtain ⟨c0, c1, _, _⟩ := row_at hLs6.box
 obtain ⟨r0, r1, f0, f1⟩ := row_at hLs6.res
 obtain ⟨s0, s1, _, _⟩ := row_at hLs6.out
 obtain ⟨e0, e1, _, _⟩ := row_at kd
 clear hLs5 hA6
 gi_wp2
 refine wpIn_region_put 5 [(some 63, 0), (some 64, 1), (some 65, 2), (some 66, 3), (some 67, 4)] (by kernel_rfl) (by kernel_rfl) (by kernel_rfl) (by decide) (by rfl) (by decide)
  (fun j v V => match j with | 0 => v = .agg #[.slice y1 d.1.length y2, .slice q1 d.2.length q2] | 1 => v = .pointer (some ⟨w.heap.size, 0, none⟩) | 2 => v = .slice xa d.1.length xc | 3 => v = .int .i64 N | 4 => v = .string S | _ => True)
  (fun j v V V' h _ => match j, h with | 0, h => h | 1, h => h | 2, h => h | 3, h => h | 4, h => h | (_ + 5), _ => trivial)
  ?_ ?_
 · rintro j oo s V hj ho hBV hd Q' hQ
   have hLV := hLs6.more hBV
   obtain ⟨c0, c1, _, _⟩ := row_at hLV.box
   obtain ⟨s0, s1, _, _⟩ := row_at hLV.out
   rcases (show j = 0 ∨ j = 1 ∨ j = 2 ∨ j = 3 ∨ j = 4 by omega) with rfl | rfl | rfl | rfl | rfl
   all_goals
    simp at ho
    subst ho
    simp only [putsOf, Act.put, List.setIfInBounds_toArray, List.set_cons_succ, List.set_cons_zero] at hQ ⊢
    have hQ' := hide hQ
    clear hQ
   · clear hd
     gi_wp2
     exact hQ'.out _ _ (Below.refl _ _) rfl
   · clear hd
     gi_wp2
     exact hQ'.out _ _ (Below.refl _ _) rfl
   · have p1 : s 1 = .pointer (some ⟨w.heap.size, 0, none⟩) := hd 1 (by kernel_rfl)
     clear hd
     gi_wp2
     have hr := hQ'.out
     simp only [p1] at hr ⊢
     exact hr _ _ (Below.refl _ _) rfl
   · have p2 : s 2 = .slice xa d.1.length xc := hd 2 (by kernel_rfl)
     have hOV := hO V hLV.below
     clear hd
     gi_wp2_with (refine ⟨trivial, ?_⟩; gi_at_call 68; go_loud (refine (cW9.2 hOV).mono ?_; rintro e W9 ⟨rfl, hB9⟩))
     have hr := hQ'.out
     simp only [p2] at hr ⊢
     exact hr _ _ hB9 rfl
   · have p3 : s 3 = .int .i64 N := hd 3 (by kernel_rfl)
     have hTV := hT V
     clear hd
     gi_wp2_with (refine ⟨trivial, ?_⟩; gi_at_call 67; go_loud (refine (cW9.2 hTV).mono ?_; rintro e W9 ⟨rfl, hB9⟩))
     have hr := hQ'.out
     simp only [p3] at hr ⊢
     exact hr _ _ hB9 rfl
 · rintro s V hBV hd
   have p0 : s 0 = .agg #[.slice y1 d.1.length y2, .slice q1 d.2.length q2] := hd 0 (by omega)
   have p4 : s 4 = .string S := hd 4 (by omega)
   clear hd
   have hLV := hLs6.more hBV
   obtain ⟨r0, r1, f0, f1⟩ := row_at hLV.res
   have hrs := hide (desk_set hLV.res (.slice y1 d.1.length y2) (.slice q1 d.2.length q2))
   have hfin := hide hLV.done
   clear hLV hLs6 hO hT
   simp only [putsOf, Act.put, List.setIfInBounds_toArray, List.set_cons_succ, List.set_cons_zero]
   simp only [List.drop_succ_cons, List.drop_zero]
   simp only [p0, p4]
   gi_wp2
   (try simp only [Exit.inBlock, Exit.then])
   exact bodyPost_ret (results_desk2 rfl _ _ (w.heap.size + 1) _ _ rfl hrs.out) rfl ⟨_, rfl, hfin.out.desk, hfin.out.cap, hfin.out.below⟩
set_option maxRecDepth 100000 in
set_option maxHeartbeats 4000000 in
theorem specLine_last (x p : Value) (d : Dk) (w : World) (hx : Ints w x d.1) (hp : PastI w p d.2) (hb : deskB d = true) (k n : Int) (hr : rdV [108, 97, 115, 116] = ((k, n), false)) :
 Calls Tryz.prog 21 #[.agg #[x, p], .string ⟨#[108, 97, 115, 116]⟩] w fun e w' => ∃ y, e = .returned (.tuple #[y, .string (str (decI (endV d.1)))]) ∧ DeskI w' y d ∧ CapN w.heap.size y ∧ Below w.heap.size w w' := by
 obtain ⟨hd1, hd2, hd3⟩ := deskB_is.1 hb
 have hl1 := sideB_len hd2
 have hB : Below w.heap.size w ((w.alloc (.cells #[x, p] 31)).alloc (.cells #[.slice none 0 0, .slice none 0 0] 31)) := ((Below.refl _ w).alloc (Nat.le_refl _) _).alloc (by rw [World.size_alloc]; omega) _
 have k0 : ((w.alloc (.cells #[x, p] 31)).alloc (.cells #[.slice none 0 0, .slice none 0 0] 31)).heap[w.heap.size]? = some (.cells #[x, p] 31 (0, 0)) := (Below.heap_alloc _ _ _ (by rw [World.size_alloc]; omega)).trans (aN9 w _)
 have k1 := aN9 (w.alloc (.cells #[x, p] 31)) (.cells #[.slice none 0 0, .slice none 0 0] 31)
 rw [World.size_alloc] at k1
 have hsz : w.heap.size + 2 ≤ ((w.alloc (.cells #[x, p] 31)).alloc (.cells #[.slice none 0 0, .slice none 0 0] 31)).heap.size := by simp
 obtain ⟨W1, hW1⟩ : ∃ W1, (w.alloc (.cells #[x, p] 31)).alloc (.cells #[.slice none 0 0, .slice none 0 0] 31) = W1 := ⟨_, rfl⟩
 rw [hW1] at hB k0 k1 hsz
 have hOK := specDeskOk (.agg #[x, p]) d W1 ⟨x, p, rfl, hx.below hB, hp.below hB⟩ (deskB_size hb)
 rw [hb] at hOK
 have hKp := fun V (hV : Below w.heap.size w V) => specCopy x p d V (hx.below hV) (hp.below hV) hb
 have hRd : ∀ V, Calls Tryz.prog 47 #[.string ⟨#[108, 97, 115, 116]⟩] V fun e w' => e = .returned (.tuple #[dV (rdV [108, 97, 115, 116]).1.1 (rdV [108, 97, 115, 116]).1.2, .bool (rdV [108, 97, 115, 116]).2]) ∧ Below V.heap.size V w' := fun V => specReadDeed [108, 97, 115, 116] (by decide) (by decide) V
 have hO := fun V (hV : Below w.heap.size w V) => specLast x d.1 V (hx.below hV) (by omega)
 have hT := fun V => specNum (endV d.1) (end_nn hd2) (by have := endV_big hd2; omega) V
 obtain ⟨N, hN⟩ : ∃ N, endV d.1 = N := ⟨_, rfl⟩
 rw [hN] at hO hT ⊢
 obtain ⟨S, hS⟩ : ∃ S, str (decI N) = S := ⟨_, rfl⟩
 rw [hS] at hT ⊢
 rw [hr] at hRd
 simp only at hRd
 unfold dV at hRd
 obtain ⟨xa, xc, rfl⟩ := hx.shape
 obtain ⟨pa, pc, rfl, _⟩ := id hp
 obtain ⟨c0, c1, _, _⟩ := row_at k0
 have l0 := (gE9.1 k0).1
 have l1 := (gE9.1 k1).1
 clear hx hp hd1 hr hN hS
 refine (cW9 (n := 9)).1 ?_
 refine callsIn_of_wp Tryz.func21 rfl trivial ?_ rfl
 simp only [Tryz.ntmps21, List.size_toArray, List.length_cons, List.length_nil, Nat.reduceAdd, Nat.reduceSub, Array.replicate_succ, Array.replicate_zero, List.push_toArray, List.append_toArray, List.nil_append, List.cons_append]
 gi_wp2_with fail
 refine ⟨trivial, ?_⟩
 gi_at_call 13
 refine (cW9.2 hOK).mono ?_
 rintro e W2 ⟨rfl, hB2⟩
 have hB02 := hB.trans (hB2.mono hB.size)
 have k02 := (hB2.block _ l0).trans k0
 have k12 := (hB2.block _ l1).trans k1
 have hsz2 := lT9 hsz hB2.size
 obtain ⟨c0, c1, _, _⟩ := row_at k02
 clear hOK hB2 k0 k1 l0 l1 hB hsz
 gi_wp2_with fail
 refine ⟨trivial, ?_⟩
 gi_at_call 65
 refine (cW9.2 (hKp _ hB02)).mono ?_
 rintro e W3 ⟨y, q, rfl, hy, hq, hB3⟩
 have hLs3 : Ls w W3.heap.size (.slice xa d.1.length xc) (.slice pa d.2.length pc) y q d (W3.alloc (.cells #[y, q] 31)) := by
  have hB03 := hB02.trans (hB3.mono hB02.size)
  have hA := (Below.refl _ W3).alloc (Nat.le_refl _) (.cells #[y, q] 31)
  have h02 := (hB3.block _ (gE9.1 k02).1).trans k02
  have h12 := (hB3.block _ (gE9.1 k12).1).trans k12
  exact ⟨hB03.alloc hB03.size _, (hA.block _ (gE9.1 h02).1).trans h02, (hA.block _ (gE9.1 h12).1).trans h12, lT9 hsz2 hB3.size, aN9 W3 _, own_below (own_fromD hy hsz2) hA, (hq.down hsz2).below hA⟩
 obtain ⟨y1, y2, rfl⟩ := own_form hy
 obtain ⟨q1, q2, rfl⟩ := hq.form
 obtain ⟨b, hbe⟩ : ∃ b, W3.heap.size = b := ⟨_, rfl⟩
 obtain ⟨W4, hW4⟩ : ∃ W4, W3.alloc (.cells #[.slice y1 d.1.length y2, .slice q1 d.2.length q2] 31) = W4 := ⟨_, rfl⟩
 rw [hW4, hbe] at hLs3
 obtain ⟨c0, c1, _, _⟩ := row_at hLs3.box
 clear hKp hB02 k02 k12 hsz2 hy hq hB3
 gi_wp2_with fail
 refine ⟨trivial, ?_⟩
 gi_at_call 47
 refine (cW9.2 (hRd _)).mono ?_
 rintro e W5 ⟨rfl, hB5⟩
 have hLs5 := hLs3.more hB5
 have hA6 := (Below.refl _ W5).alloc (Nat.le_refl _) (.cells #[.int .i64 k, .int .i64 n] 39)
 have kd := aN9 W5 (.cells #[.int .i64 k, .int .i64 n] 39)
 have hLs6 := hLs5.more hA6
 clear hRd hLs3 hB5 hbe hW4
 obtain ⟨W6, hW6⟩ : ∃ W6, W5.alloc (.cells #[.int .i64 k, .int .i64 n] 39) = W6 := ⟨_, rfl⟩
 rw [hW6] at kd hLs6
 obtain ⟨c0, c1, _, _⟩ := row_at hLs6.box
 obtain ⟨r0, r1, f0, f1⟩ := row_at hLs6.res
 obtain ⟨s0, s1, _, _⟩ := row_at hLs6.out
 obtain ⟨e0, e1, _, _⟩ := row_at kd
 clear hLs5 hA6
 gi_wp2
 refine wpIn_region_put 5 [(some 70, 0), (some 71, 1), (some 72, 2), (some 73, 3), (some 74, 4)] (by kernel_rfl) (by kernel_rfl) (by kernel_rfl) (by decide) (by rfl) (by decide)
  (fun j v V => match j with | 0 => v = .agg #[.slice y1 d.1.length y2, .slice q1 d.2.length q2] | 1 => v = .pointer (some ⟨w.heap.size, 0, none⟩) | 2 => v = .slice xa d.1.length xc | 3 => v = .int .i64 N | 4 => v = .string S | _ => True)
  (fun j v V V' h _ => match j, h with | 0, h => h | 1, h => h | 2, h => h | 3, h => h | 4, h => h | (_ + 5), _ => trivial)
  ?_ ?_
 · rintro j oo s V hj ho hBV hd Q' hQ
   have hLV := hLs6.more hBV
   obtain ⟨c0, c1, _, _⟩ := row_at hLV.box
   obtain ⟨s0, s1, _, _⟩ := row_at hLV.out
   rcases (show j = 0 ∨ j = 1 ∨ j = 2 ∨ j = 3 ∨ j = 4 by omega) with rfl | rfl | rfl | rfl | rfl
   all_goals
    simp at ho
    subst ho
    simp only [putsOf, Act.put, List.setIfInBounds_toArray, List.set_cons_succ, List.set_cons_zero] at hQ ⊢
    have hQ' := hide hQ
    clear hQ
   · clear hd
     gi_wp2
     exact hQ'.out _ _ (Below.refl _ _) rfl
   · clear hd
     gi_wp2
     exact hQ'.out _ _ (Below.refl _ _) rfl
   · have p1 : s 1 = .pointer (some ⟨w.heap.size, 0, none⟩) := hd 1 (by kernel_rfl)
     clear hd
     gi_wp2
     have hr := hQ'.out
     simp only [p1] at hr ⊢
     exact hr _ _ (Below.refl _ _) rfl
   · have p2 : s 2 = .slice xa d.1.length xc := hd 2 (by kernel_rfl)
     have hOV := hO V hLV.below
     clear hd
     gi_wp2_with (refine ⟨trivial, ?_⟩; gi_at_call 69; go_loud (refine (cW9.2 hOV).mono ?_; rintro e W9 ⟨rfl, hB9⟩))
     have hr := hQ'.out
     simp only [p2] at hr ⊢
     exact hr _ _ hB9 rfl
   · have p3 : s 3 = .int .i64 N := hd 3 (by kernel_rfl)
     have hTV := hT V
     clear hd
     gi_wp2_with (refine ⟨trivial, ?_⟩; gi_at_call 67; go_loud (refine (cW9.2 hTV).mono ?_; rintro e W9 ⟨rfl, hB9⟩))
     have hr := hQ'.out
     simp only [p3] at hr ⊢
     exact hr _ _ hB9 rfl
 · rintro s V hBV hd
   have p0 : s 0 = .agg #[.slice y1 d.1.length y2, .slice q1 d.2.length q2] := hd 0 (by omega)
   have p4 : s 4 = .string S := hd 4 (by omega)
   clear hd
   have hLV := hLs6.more hBV
   obtain ⟨r0, r1, f0, f1⟩ := row_at hLV.res
   have hrs := hide (desk_set hLV.res (.slice y1 d.1.length y2) (.slice q1 d.2.length q2))
   have hfin := hide hLV.done
   clear hLV hLs6 hO hT
   simp only [putsOf, Act.put, List.setIfInBounds_toArray, List.set_cons_succ, List.set_cons_zero]
   simp only [List.drop_succ_cons, List.drop_zero]
   simp only [p0, p4]
   gi_wp2
   (try simp only [Exit.inBlock, Exit.then])
   exact bodyPost_ret (results_desk2 rfl _ _ (w.heap.size + 1) _ _ rfl hrs.out) rfl ⟨_, rfl, hfin.out.desk, hfin.out.cap, hfin.out.below⟩
set_option maxRecDepth 100000 in
set_option maxHeartbeats 4000000 in
theorem specLine_end (x p : Value) (d : Dk) (w : World) (hx : Ints w x d.1) (hp : PastI w p d.2) (hb : deskB d = true) (k n : Int) (hr : rdV [101, 110, 100] = ((k, n), false)) :
 Calls Tryz.prog 21 #[.agg #[x, p], .string ⟨#[101, 110, 100]⟩] w fun e w' => ∃ y, e = .returned (.tuple #[y, .string (str (if endB d.1 = true then decI (endI d.1) else [110, 111, 110, 101]))]) ∧ DeskI w' y d ∧ CapN w.heap.size y ∧ Below w.heap.size w w' := by
 obtain ⟨hd1, hd2, hd3⟩ := deskB_is.1 hb
 have hl1 := sideB_len hd2
 have hB : Below w.heap.size w ((w.alloc (.cells #[x, p] 31)).alloc (.cells #[.slice none 0 0, .slice none 0 0] 31)) := ((Below.refl _ w).alloc (Nat.le_refl _) _).alloc (by rw [World.size_alloc]; omega) _
 have k0 : ((w.alloc (.cells #[x, p] 31)).alloc (.cells #[.slice none 0 0, .slice none 0 0] 31)).heap[w.heap.size]? = some (.cells #[x, p] 31 (0, 0)) := (Below.heap_alloc _ _ _ (by rw [World.size_alloc]; omega)).trans (aN9 w _)
 have k1 := aN9 (w.alloc (.cells #[x, p] 31)) (.cells #[.slice none 0 0, .slice none 0 0] 31)
 rw [World.size_alloc] at k1
 have hsz : w.heap.size + 2 ≤ ((w.alloc (.cells #[x, p] 31)).alloc (.cells #[.slice none 0 0, .slice none 0 0] 31)).heap.size := by simp
 obtain ⟨W1, hW1⟩ : ∃ W1, (w.alloc (.cells #[x, p] 31)).alloc (.cells #[.slice none 0 0, .slice none 0 0] 31) = W1 := ⟨_, rfl⟩
 rw [hW1] at hB k0 k1 hsz
 have hOK := specDeskOk (.agg #[x, p]) d W1 ⟨x, p, rfl, hx.below hB, hp.below hB⟩ (deskB_size hb)
 rw [hb] at hOK
 have hKp := fun V (hV : Below w.heap.size w V) => specCopy x p d V (hx.below hV) (hp.below hV) hb
 have hRd : ∀ V, Calls Tryz.prog 47 #[.string ⟨#[101, 110, 100]⟩] V fun e w' => e = .returned (.tuple #[dV (rdV [101, 110, 100]).1.1 (rdV [101, 110, 100]).1.2, .bool (rdV [101, 110, 100]).2]) ∧ Below V.heap.size V w' := fun V => specReadDeed [101, 110, 100] (by decide) (by decide) V
 have hO := fun V (hV : Below w.heap.size w V) => specEnd10 x d.1 V (hx.below hV) (lies_row hx hl1.1) (by omega)
 have hT := fun (h : 0 ≤ endI d.1) V => specNum (endI d.1) h (by have := endI_big d.1; omega) V
 have hnn : endB d.1 = true → 0 ≤ endI d.1 := fun h => by
  unfold endB at h
  unfold endI
  cases he : endN d.1 with
  | none => rw [he] at h; cases h
  | some r => simp only; omega
 obtain ⟨N, hN⟩ : ∃ N, endI d.1 = N := ⟨_, rfl⟩
 obtain ⟨tb, htb⟩ : ∃ tb, endB d.1 = tb := ⟨_, rfl⟩
 rw [hN, htb] at hO hnn ⊢
 rw [hN] at hT
 obtain ⟨S, hS⟩ : ∃ S, str (decI N) = S := ⟨_, rfl⟩
 rw [hS] at hT
 have hout : str (if tb = true then decI N else [110, 111, 110, 101]) = if tb = true then S else ⟨#[110, 111, 110, 101]⟩ := by
  cases tb
  · kernel_rfl
  · simp only [if_true]; exact hS
 rw [hout]
 rw [hr] at hRd
 simp only at hRd
 unfold dV at hRd
 obtain ⟨xa, xc, rfl⟩ := hx.shape
 obtain ⟨pa, pc, rfl, _⟩ := id hp
 obtain ⟨c0, c1, _, _⟩ := row_at k0
 have l0 := (gE9.1 k0).1
 have l1 := (gE9.1 k1).1
 clear hx hp hd1 hr hN htb hS hout
 refine (cW9 (n := 9)).1 ?_
 refine callsIn_of_wp Tryz.func21 rfl trivial ?_ rfl
 simp only [Tryz.ntmps21, List.size_toArray, List.length_cons, List.length_nil, Nat.reduceAdd, Nat.reduceSub, Array.replicate_succ, Array.replicate_zero, List.push_toArray, List.append_toArray, List.nil_append, List.cons_append]
 gi_wp2_with fail
 refine ⟨trivial, ?_⟩
 gi_at_call 13
 refine (cW9.2 hOK).mono ?_
 rintro e W2 ⟨rfl, hB2⟩
 have hB02 := hB.trans (hB2.mono hB.size)
 have k02 := (hB2.block _ l0).trans k0
 have k12 := (hB2.block _ l1).trans k1
 have hsz2 := lT9 hsz hB2.size
 obtain ⟨c0, c1, _, _⟩ := row_at k02
 clear hOK hB2 k0 k1 l0 l1 hB hsz
 gi_wp2_with fail
 refine ⟨trivial, ?_⟩
 gi_at_call 65
 refine (cW9.2 (hKp _ hB02)).mono ?_
 rintro e W3 ⟨y, q, rfl, hy, hq, hB3⟩
 have hLs3 : Ls w W3.heap.size (.slice xa d.1.length xc) (.slice pa d.2.length pc) y q d (W3.alloc (.cells #[y, q] 31)) := by
  have hB03 := hB02.trans (hB3.mono hB02.size)
  have hA := (Below.refl _ W3).alloc (Nat.le_refl _) (.cells #[y, q] 31)
  have h02 := (hB3.block _ (gE9.1 k02).1).trans k02
  have h12 := (hB3.block _ (gE9.1 k12).1).trans k12
  exact ⟨hB03.alloc hB03.size _, (hA.block _ (gE9.1 h02).1).trans h02, (hA.block _ (gE9.1 h12).1).trans h12, lT9 hsz2 hB3.size, aN9 W3 _, own_below (own_fromD hy hsz2) hA, (hq.down hsz2).below hA⟩
 obtain ⟨y1, y2, rfl⟩ := own_form hy
 obtain ⟨q1, q2, rfl⟩ := hq.form
 obtain ⟨b, hbe⟩ : ∃ b, W3.heap.size = b := ⟨_, rfl⟩
 obtain ⟨W4, hW4⟩ : ∃ W4, W3.alloc (.cells #[.slice y1 d.1.length y2, .slice q1 d.2.length q2] 31) = W4 := ⟨_, rfl⟩
 rw [hW4, hbe] at hLs3
 obtain ⟨c0, c1, _, _⟩ := row_at hLs3.box
 clear hKp hB02 k02 k12 hsz2 hy hq hB3
 gi_wp2_with fail
 refine ⟨trivial, ?_⟩
 gi_at_call 47
 refine (cW9.2 (hRd _)).mono ?_
 rintro e W5 ⟨rfl, hB5⟩
 have hLs5 := hLs3.more hB5
 have hA6 := (Below.refl _ W5).alloc (Nat.le_refl _) (.cells #[.int .i64 k, .int .i64 n] 39)
 have kd := aN9 W5 (.cells #[.int .i64 k, .int .i64 n] 39)
 have hLs6 := hLs5.more hA6
 clear hRd hLs3 hB5 hbe hW4
 obtain ⟨W6, hW6⟩ : ∃ W6, W5.alloc (.cells #[.int .i64 k, .int .i64 n] 39) = W6 := ⟨_, rfl⟩
 rw [hW6] at kd hLs6
 obtain ⟨c0, c1, _, _⟩ := row_at hLs6.box
 obtain ⟨r0, r1, f0, f1⟩ := row_at hLs6.res
 obtain ⟨s0, s1, _, _⟩ := row_at hLs6.out
 obtain ⟨e0, e1, _, _⟩ := row_at kd
 clear hLs5 hA6
 gi_wp2_with fail
 refine ⟨trivial, ?_⟩
 gi_at_call 70
 refine (cW9.2 (hO _ hLs6.below)).mono ?_
 rintro e W7 ⟨rfl, hB7⟩
 have hLs7 := hLs6.more hB7
 obtain ⟨c0, c1, _, _⟩ := row_at hLs7.box
 obtain ⟨r0, r1, f0, f1⟩ := row_at hLs7.res
 obtain ⟨s0, s1, _, _⟩ := row_at hLs7.out
 clear hO hLs6 hB7 kd e0 e1
 cases tb with
 | false =>
   have hrs := hide (desk_set hLs7.res (.slice y1 d.1.length y2) (.slice q1 d.2.length q2))
   have hfin := hide hLs7.done
   clear hLs7 hT hnn
   gi_wp2
   (try simp only [Exit.inBlock, Exit.then])
   exact bodyPost_ret (results_desk2 rfl _ _ (w.heap.size + 1) _ _ rfl hrs.out) rfl ⟨_, rfl, hfin.out.desk, hfin.out.cap, hfin.out.below⟩
 | true =>
   have hT2 := hT (hnn rfl)
   clear hT hnn
   gi_wp2
   refine wpIn_region_put 3 [(some 86, 0), (some 87, 1), (some 88, 2)] (by kernel_rfl) (by kernel_rfl) (by kernel_rfl) (by decide) (by rfl) (by decide)
    (fun j v V => match j with | 0 => v = .agg #[.slice y1 d.1.length y2, .slice q1 d.2.length q2] | 1 => v = .int .i64 N | 2 => v = .string S | _ => True)
    (fun j v V V' h _ => match j, h with | 0, h => h | 1, h => h | 2, h => h | (_ + 3), _ => trivial)
    ?_ ?_
   · rintro j oo s V hj ho hBV hd Q' hQ
     have hLV := hLs7.more hBV
     obtain ⟨s0, s1, _, _⟩ := row_at hLV.out
     rcases (show j = 0 ∨ j = 1 ∨ j = 2 by omega) with rfl | rfl | rfl
     all_goals
      simp at ho
      subst ho
      simp only [putsOf, Act.put, List.setIfInBounds_toArray, List.set_cons_succ, List.set_cons_zero] at hQ ⊢
      have hQ' := hide hQ
      clear hQ
     · clear hd
       gi_wp2
       exact hQ'.out _ _ (Below.refl _ _) rfl
     · clear hd
       gi_wp2
       exact hQ'.out _ _ (Below.refl _ _) rfl
     · have p1 : s 1 = .int .i64 N := hd 1 (by kernel_rfl)
       have hTV := hT2 V
       clear hd
       gi_wp2_with (refine ⟨trivial, ?_⟩; gi_at_call 67; go_loud (refine (cW9.2 hTV).mono ?_; rintro e W9 ⟨rfl, hB9⟩))
       have hr := hQ'.out
       simp only [p1] at hr ⊢
       exact hr _ _ hB9 rfl
   · rintro s V hBV hd
     have p0 : s 0 = .agg #[.slice y1 d.1.length y2, .slice q1 d.2.length q2] := hd 0 (by omega)
     have p2 : s 2 = .string S := hd 2 (by omega)
     clear hd
     have hLV := hLs7.more hBV
     obtain ⟨r0, r1, f0, f1⟩ := row_at hLV.res
     have hrs := hide (desk_set hLV.res (.slice y1 d.1.length y2) (.slice q1 d.2.length q2))
     have hfin := hide hLV.done
     clear hLV hLs7 hT2
     simp only [putsOf, Act.put, List.setIfInBounds_toArray, List.set_cons_succ, List.set_cons_zero]
     simp only [List.drop_succ_cons, List.drop_zero]
     simp only [p0, p2]
     gi_wp2
     (try simp only [Exit.inBlock, Exit.then])
     exact bodyPost_ret (results_desk2 rfl _ _ (w.heap.size + 1) _ _ rfl hrs.out) rfl ⟨_, rfl, hfin.out.desk, hfin.out.cap, hfin.out.below⟩
set_option maxRecDepth 100000 in
set_option maxHeartbeats 4000000 in
theorem specLine_balanced (x p : Value) (d : Dk) (w : World) (hx : Ints w x d.1) (hp : PastI w p d.2) (hb : deskB d = true) (k n : Int) (hr : rdV [98, 97, 108, 97, 110, 99, 101, 100] = ((k, n), false)) :
 Calls Tryz.prog 21 #[.agg #[x, p], .string ⟨#[98, 97, 108, 97, 110, 99, 101, 100]⟩] w fun e w' => ∃ y, e = .returned (.tuple #[y, .string (str (if 4 * onesV d.1 = (d.1.length : Int) * ((d.1.length : Int) + 1) then [121, 101, 115] else [110, 111]))]) ∧ DeskI w' y d ∧ CapN w.heap.size y ∧ Below w.heap.size w w' := by
 obtain ⟨hd1, hd2, hd3⟩ := deskB_is.1 hb
 have hl1 := sideB_len hd2
 have hB : Below w.heap.size w ((w.alloc (.cells #[x, p] 31)).alloc (.cells #[.slice none 0 0, .slice none 0 0] 31)) := ((Below.refl _ w).alloc (Nat.le_refl _) _).alloc (by rw [World.size_alloc]; omega) _
 have k0 : ((w.alloc (.cells #[x, p] 31)).alloc (.cells #[.slice none 0 0, .slice none 0 0] 31)).heap[w.heap.size]? = some (.cells #[x, p] 31 (0, 0)) := (Below.heap_alloc _ _ _ (by rw [World.size_alloc]; omega)).trans (aN9 w _)
 have k1 := aN9 (w.alloc (.cells #[x, p] 31)) (.cells #[.slice none 0 0, .slice none 0 0] 31)
 rw [World.size_alloc] at k1
 have hsz : w.heap.size + 2 ≤ ((w.alloc (.cells #[x, p] 31)).alloc (.cells #[.slice none 0 0, .slice none 0 0] 31)).heap.size := by simp
 obtain ⟨W1, hW1⟩ : ∃ W1, (w.alloc (.cells #[x, p] 31)).alloc (.cells #[.slice none 0 0, .slice none 0 0] 31) = W1 := ⟨_, rfl⟩
 rw [hW1] at hB k0 k1 hsz
 have hOK := specDeskOk (.agg #[x, p]) d W1 ⟨x, p, rfl, hx.below hB, hp.below hB⟩ (deskB_size hb)
 rw [hb] at hOK
 have hKp := fun V (hV : Below w.heap.size w V) => specCopy x p d V (hx.below hV) (hp.below hV) hb
 have hRd : ∀ V, Calls Tryz.prog 47 #[.string ⟨#[98, 97, 108, 97, 110, 99, 101, 100]⟩] V fun e w' => e = .returned (.tuple #[dV (rdV [98, 97, 108, 97, 110, 99, 101, 100]).1.1 (rdV [98, 97, 108, 97, 110, 99, 101, 100]).1.2, .bool (rdV [98, 97, 108, 97, 110, 99, 101, 100]).2]) ∧ Below V.heap.size V w' := fun V => specReadDeed [98, 97, 108, 97, 110, 99, 101, 100] (by decide) (by decide) V
 have hO := fun V (hV : Below w.heap.size w V) => specOnes x d.1 V (hx.below hV) (lies_row hx hl1.1) (by omega)
 have hN0 := ones_nn hd2
 have hN1 := onesV_big hd2
 obtain ⟨N, hN⟩ : ∃ N, onesV d.1 = N := ⟨_, rfl⟩
 rw [hN] at hO hN0 hN1 ⊢
 have hw1 : IntKind.i64.wrap (4 * N) = 4 * N := IntWalk.i64_in _ (by omega)
 have hw2 : IntKind.i64.wrap ((d.1.length : Int) + 1) = (d.1.length : Int) + 1 := IntWalk.i64_in _ (by omega)
 have hw3 : IntKind.i64.wrap ((d.1.length : Int) * ((d.1.length : Int) + 1)) = (d.1.length : Int) * ((d.1.length : Int) + 1) := by
  refine IntWalk.i64_in _ ?_
  have h2 : d.1.length * (d.1.length + 1) ≤ 12 * 13 := Nat.mul_le_mul hl1.2 (by omega)
  have h3 : ((d.1.length * (d.1.length + 1) : Nat) : Int) = (d.1.length : Int) * ((d.1.length : Int) + 1) := by simp
  omega
 have hout : str (if 4 * N = (d.1.length : Int) * ((d.1.length : Int) + 1) then [121, 101, 115] else [110, 111]) = if 4 * N = (d.1.length : Int) * ((d.1.length : Int) + 1) then ⟨#[121, 101, 115]⟩ else ⟨#[110, 111]⟩ := by
  split <;> kernel_rfl
 rw [hout]
 obtain ⟨OUT, hOUT⟩ : ∃ O, (if 4 * N = (d.1.length : Int) * ((d.1.length : Int) + 1) then (⟨#[121, 101, 115]⟩ : ByteArray) else ⟨#[110, 111]⟩) = O := ⟨_, rfl⟩
 rw [hOUT]
 replace hOUT := hide hOUT
 rw [hr] at hRd
 simp only at hRd
 unfold dV at hRd
 obtain ⟨xa, xc, rfl⟩ := hx.shape
 obtain ⟨pa, pc, rfl, _⟩ := id hp
 obtain ⟨c0, c1, _, _⟩ := row_at k0
 have l0 := (gE9.1 k0).1
 have l1 := (gE9.1 k1).1
 clear hx hp hd1 hr hN hout
 refine (cW9 (n := 9)).1 ?_
 refine callsIn_of_wp Tryz.func21 rfl trivial ?_ rfl
 simp only [Tryz.ntmps21, List.size_toArray, List.length_cons, List.length_nil, Nat.reduceAdd, Nat.reduceSub, Array.replicate_succ, Array.replicate_zero, List.push_toArray, List.append_toArray, List.nil_append, List.cons_append]
 gi_wp2_with fail
 refine ⟨trivial, ?_⟩
 gi_at_call 13
 refine (cW9.2 hOK).mono ?_
 rintro e W2 ⟨rfl, hB2⟩
 have hB02 := hB.trans (hB2.mono hB.size)
 have k02 := (hB2.block _ l0).trans k0
 have k12 := (hB2.block _ l1).trans k1
 have hsz2 := lT9 hsz hB2.size
 obtain ⟨c0, c1, _, _⟩ := row_at k02
 clear hOK hB2 k0 k1 l0 l1 hB hsz
 gi_wp2_with fail
 refine ⟨trivial, ?_⟩
 gi_at_call 65
 refine (cW9.2 (hKp _ hB02)).mono ?_
 rintro e W3 ⟨y, q, rfl, hy, hq, hB3⟩
 have hLs3 : Ls w W3.heap.size (.slice xa d.1.length xc) (.slice pa d.2.length pc) y q d (W3.alloc (.cells #[y, q] 31)) := by
  have hB03 := hB02.trans (hB3.mono hB02.size)
  have hA := (Below.refl _ W3).alloc (Nat.le_refl _) (.cells #[y, q] 31)
  have h02 := (hB3.block _ (gE9.1 k02).1).trans k02
  have h12 := (hB3.block _ (gE9.1 k12).1).trans k12
  exact ⟨hB03.alloc hB03.size _, (hA.block _ (gE9.1 h02).1).trans h02, (hA.block _ (gE9.1 h12).1).trans h12, lT9 hsz2 hB3.size, aN9 W3 _, own_below (own_fromD hy hsz2) hA, (hq.down hsz2).below hA⟩
 obtain ⟨y1, y2, rfl⟩ := own_form hy
 obtain ⟨q1, q2, rfl⟩ := hq.form
 obtain ⟨b, hbe⟩ : ∃ b, W3.heap.size = b := ⟨_, rfl⟩
 obtain ⟨W4, hW4⟩ : ∃ W4, W3.alloc (.cells #[.slice y1 d.1.length y2, .slice q1 d.2.length q2] 31) = W4 := ⟨_, rfl⟩
 rw [hW4, hbe] at hLs3
 obtain ⟨c0, c1, _, _⟩ := row_at hLs3.box
 clear hKp hB02 k02 k12 hsz2 hy hq hB3
 gi_wp2_with fail
 refine ⟨trivial, ?_⟩
 gi_at_call 47
 refine (cW9.2 (hRd _)).mono ?_
 rintro e W5 ⟨rfl, hB5⟩
 have hLs5 := hLs3.more hB5
 have hA6 := (Below.refl _ W5).alloc (Nat.le_refl _) (.cells #[.int .i64 k, .int .i64 n] 39)
 have kd := aN9 W5 (.cells #[.int .i64 k, .int .i64 n] 39)
 have hLs6 := hLs5.more hA6
 clear hRd hLs3 hB5 hbe hW4
 obtain ⟨W6, hW6⟩ : ∃ W6, W5.alloc (.cells #[.int .i64 k, .int .i64 n] 39) = W6 := ⟨_, rfl⟩
 rw [hW6] at kd hLs6
 obtain ⟨c0, c1, _, _⟩ := row_at hLs6.box
 obtain ⟨r0, r1, f0, f1⟩ := row_at hLs6.res
 obtain ⟨s0, s1, _, _⟩ := row_at hLs6.out
 obtain ⟨e0, e1, _, _⟩ := row_at kd
 clear hLs5 hA6
 gi_wp2
 refine wpIn_region_put 12 [(some 91, 0), (some 92, 1), (some 93, 2), (some 94, 3), (some 95, 4), (some 96, 5), (some 97, 6), (some 98, 7), (some 99, 8), (some 100, 9), (some 101, 10), (some 102, 11)] (by kernel_rfl) (by kernel_rfl) (by kernel_rfl) (by decide) (by rfl) (by decide)
  (fun j v V => match j with | 0 => v = .pointer (some ⟨w.heap.size, 0, none⟩) | 1 => v = .slice xa d.1.length xc | 2 => v = .int .i64 N | 3 => v = .int .i64 (4 * N) | 4 => v = .pointer (some ⟨w.heap.size, 0, none⟩) | 5 => v = .slice xa d.1.length xc | 6 => v = .int .i64 (d.1.length : Nat) | 7 => v = .pointer (some ⟨w.heap.size, 0, none⟩) | 8 => v = .slice xa d.1.length xc | 9 => v = .int .i64 (d.1.length : Nat) | 10 => v = .int .i64 ((d.1.length : Int) + 1) | 11 => v = .int .i64 ((d.1.length : Int) * ((d.1.length : Int) + 1)) | _ => True)
  (fun j v V V' h _ => match j, h with | 0, h => h | 1, h => h | 2, h => h | 3, h => h | 4, h => h | 5, h => h | 6, h => h | 7, h => h | 8, h => h | 9, h => h | 10, h => h | 11, h => h | (_ + 12), _ => trivial)
  ?_ ?_
 · rintro j oo s V hj ho hBV hd Q' hQ
   have hLV := hLs6.more hBV
   obtain ⟨c0, c1, _, _⟩ := row_at hLV.box
   rcases (show j = 0 ∨ j = 1 ∨ j = 2 ∨ j = 3 ∨ j = 4 ∨ j = 5 ∨ j = 6 ∨ j = 7 ∨ j = 8 ∨ j = 9 ∨ j = 10 ∨ j = 11 by omega) with rfl | rfl | rfl | rfl | rfl | rfl | rfl | rfl | rfl | rfl | rfl | rfl
   all_goals
    simp at ho
    subst ho
    simp only [putsOf, Act.put, List.setIfInBounds_toArray, List.set_cons_succ, List.set_cons_zero] at hQ ⊢
    have hQ' := hide hQ
    clear hQ
   · clear hd
     gi_wp2
     have hr := hQ'.out
     exact hr _ _ (Below.refl _ _) rfl
   · have p0 : s 0 = .pointer (some ⟨w.heap.size, 0, none⟩) := hd 0 (by kernel_rfl)
     clear hd
     gi_wp2
     have hr := hQ'.out
     simp only [p0] at hr ⊢
     exact hr _ _ (Below.refl _ _) rfl
   · have p1 : s 1 = .slice xa d.1.length xc := hd 1 (by kernel_rfl)
     have hOV := hO V hLV.below
     clear hd
     gi_wp2_with (refine ⟨trivial, ?_⟩; gi_at_call 68; go_loud (refine (cW9.2 hOV).mono ?_; rintro e W9 ⟨rfl, hB9⟩))
     have hr := hQ'.out
     simp only [p1] at hr ⊢
     exact hr _ _ hB9 rfl
   · have p2 : s 2 = .int .i64 N := hd 2 (by kernel_rfl)
     clear hd
     gi_wp2
     have hr := hQ'.out
     simp only [p2] at hr ⊢
     exact hr _ _ (Below.refl _ _) rfl
   · clear hd
     gi_wp2
     have hr := hQ'.out
     exact hr _ _ (Below.refl _ _) rfl
   · have p4 : s 4 = .pointer (some ⟨w.heap.size, 0, none⟩) := hd 4 (by kernel_rfl)
     clear hd
     gi_wp2
     have hr := hQ'.out
     simp only [p4] at hr ⊢
     exact hr _ _ (Below.refl _ _) rfl
   · have p5 : s 5 = .slice xa d.1.length xc := hd 5 (by kernel_rfl)
     clear hd
     gi_wp2
     have hr := hQ'.out
     simp only [p5] at hr ⊢
     exact hr _ _ (Below.refl _ _) rfl
   · clear hd
     gi_wp2
     have hr := hQ'.out
     exact hr _ _ (Below.refl _ _) rfl
   · have p7 : s 7 = .pointer (some ⟨w.heap.size, 0, none⟩) := hd 7 (by kernel_rfl)
     clear hd
     gi_wp2
     have hr := hQ'.out
     simp only [p7] at hr ⊢
     exact hr _ _ (Below.refl _ _) rfl
   · have p8 : s 8 = .slice xa d.1.length xc := hd 8 (by kernel_rfl)
     clear hd
     gi_wp2
     have hr := hQ'.out
     simp only [p8] at hr ⊢
     exact hr _ _ (Below.refl _ _) rfl
   · have p9 : s 9 = .int .i64 (d.1.length : Nat) := hd 9 (by kernel_rfl)
     clear hd
     gi_wp2
     have hr := hQ'.out
     simp only [p9] at hr ⊢
     exact hr _ _ (Below.refl _ _) rfl
   · have p6 : s 6 = .int .i64 (d.1.length : Nat) := hd 6 (by kernel_rfl)
     have p10 : s 10 = .int .i64 ((d.1.length : Int) + 1) := hd 10 (by kernel_rfl)
     clear hd
     gi_wp2
     have hr := hQ'.out
     simp only [p6, p10] at hr ⊢
     exact hr _ _ (Below.refl _ _) rfl
 · rintro s V hBV hd
   have p3 : s 3 = .int .i64 (4 * N) := hd 3 (by omega)
   have p11 : s 11 = .int .i64 ((d.1.length : Int) * ((d.1.length : Int) + 1)) := hd 11 (by omega)
   clear hd
   have hLV := hLs6.more hBV
   obtain ⟨r0, r1, f0, f1⟩ := row_at hLV.res
   obtain ⟨s0, s1, _, _⟩ := row_at hLV.out
   have hrs := hide (desk_set hLV.res (.slice y1 d.1.length y2) (.slice q1 d.2.length q2))
   have hfin := hide hLV.done
   clear hLV hLs6 hO
   simp only [putsOf, Act.put, List.setIfInBounds_toArray, List.set_cons_succ, List.set_cons_zero]
   simp only [List.drop_succ_cons, List.drop_zero]
   simp only [p3, p11]
   by_cases he : 4 * N = (d.1.length : Int) * ((d.1.length : Int) + 1)
   · have hOe := hide (show OUT = ⟨#[121, 101, 115]⟩ by rw [← hOUT.out, if_pos he])
     have heb : ((4 * N) == ((d.1.length : Int) * ((d.1.length : Int) + 1))) = true := by rw [beq_iff_eq]; exact he
     clear hOUT
     gi_wp2
     (try simp only [Exit.inBlock, Exit.then])
     exact bodyPost_ret (results_desk2 rfl _ _ (w.heap.size + 1) _ _ rfl hrs.out) rfl ⟨_, by rw [hOe.out]; rfl, hfin.out.desk, hfin.out.cap, hfin.out.below⟩
   · have hOe := hide (show OUT = ⟨#[110, 111]⟩ by rw [← hOUT.out, if_neg he])
     have heb : ((4 * N) == ((d.1.length : Int) * ((d.1.length : Int) + 1))) = false := by rw [beq_eq_false_iff_ne]; exact he
     clear hOUT
     gi_wp2
     (try simp only [Exit.inBlock, Exit.then])
     exact bodyPost_ret (results_desk2 rfl _ _ (w.heap.size + 1) _ _ rfl hrs.out) rfl ⟨_, by rw [hOe.out]; rfl, hfin.out.desk, hfin.out.cap, hfin.out.below⟩
set_option maxRecDepth 100000 in
set_option maxHeartbeats 4000000 in
theorem specLine_row (x p : Value) (d : Dk) (w : World) (hx : Ints w x d.1) (hp : PastI w p d.2) (hb : deskB d = true) (k n : Int) (hr : rdV [114, 111, 119] = ((k, n), false)) :
 Calls Tryz.prog 21 #[.agg #[x, p], .string ⟨#[114, 111, 119]⟩] w fun e w' => ∃ y, e = .returned (.tuple #[y, .string (str (rowTx d.1))]) ∧ DeskI w' y d ∧ CapN w.heap.size y ∧ Below w.heap.size w w' := by
 obtain ⟨hd1, hd2, hd3⟩ := deskB_is.1 hb
 have hl1 := sideB_len hd2
 have hB : Below w.heap.size w ((w.alloc (.cells #[x, p] 31)).alloc (.cells #[.slice none 0 0, .slice none 0 0] 31)) := ((Below.refl _ w).alloc (Nat.le_refl _) _).alloc (by rw [World.size_alloc]; omega) _
 have k0 : ((w.alloc (.cells #[x, p] 31)).alloc (.cells #[.slice none 0 0, .slice none 0 0] 31)).heap[w.heap.size]? = some (.cells #[x, p] 31 (0, 0)) := (Below.heap_alloc _ _ _ (by rw [World.size_alloc]; omega)).trans (aN9 w _)
 have k1 := aN9 (w.alloc (.cells #[x, p] 31)) (.cells #[.slice none 0 0, .slice none 0 0] 31)
 rw [World.size_alloc] at k1
 have hsz : w.heap.size + 2 ≤ ((w.alloc (.cells #[x, p] 31)).alloc (.cells #[.slice none 0 0, .slice none 0 0] 31)).heap.size := by simp
 obtain ⟨W1, hW1⟩ : ∃ W1, (w.alloc (.cells #[x, p] 31)).alloc (.cells #[.slice none 0 0, .slice none 0 0] 31) = W1 := ⟨_, rfl⟩
 rw [hW1] at hB k0 k1 hsz
 have hOK := specDeskOk (.agg #[x, p]) d W1 ⟨x, p, rfl, hx.below hB, hp.below hB⟩ (deskB_size hb)
 rw [hb] at hOK
 have hKp := fun V (hV : Below w.heap.size w V) => specCopy x p d V (hx.below hV) (hp.below hV) hb
 have hRd : ∀ V, Calls Tryz.prog 47 #[.string ⟨#[114, 111, 119]⟩] V fun e w' => e = .returned (.tuple #[dV (rdV [114, 111, 119]).1.1 (rdV [114, 111, 119]).1.2, .bool (rdV [114, 111, 119]).2]) ∧ Below V.heap.size V w' := fun V => specReadDeed [114, 111, 119] (by decide) (by decide) V
 have hbit := fun i (hi : i < d.1.length) => sideB_at hd2 hi
 have hall : ∀ k, k < d.1.length → rowTx (d.1.take (k + 1)) = rowTx (d.1.take k) ++ decI (d.1.getD k 0) := fun k hk => by
  have : d.1.take (k + 1) = d.1.take k ++ [d.1.getD k 0] := by
   rw [List.take_add_one, eG9 (by omega), List.getD, eG9 (by omega)]; rfl
  unfold rowTx
  rw [this, List.flatMap_append]
  simp
 have hlen : ∀ m, m ≤ d.1.length → (rowTx (d.1.take m)).length = m := fun m => by
  induction m with
  | zero => intro _; simp [rowTx]
  | succ m ih =>
    intro hm
    rw [hall m (by omega), List.length_append, ih (by omega)]
    have := hbit m (by omega)
    rcases (show d.1.getD m 0 = 0 ∨ d.1.getD m 0 = 1 by omega) with e | e <;> rw [e] <;> rfl
 have hfin0 : rowTx (d.1.take d.1.length) = rowTx d.1 := by rw [List.take_length]
 replace hall := hide hall
 replace hlen := hide hlen
 replace hfin0 := hide hfin0
 obtain ⟨R, hR⟩ : ∃ R, rowTx d.1 = R := ⟨_, rfl⟩
 rw [hR] at hfin0 ⊢
 have hcW : ∀ W, Below w.heap.size w W → ∀ i, i < d.1.length → ∃ g c, x = .slice (some ⟨g, 0, none⟩) d.1.length c ∧ W.cell? ⟨g, i, none⟩ = some (.int .i64 (d.1.getD i 0)) := fun W hW i hi => by
  obtain ⟨g, c, e, hg, hc⟩ := hx.cells hl1.1
  exact ⟨g, c, e, (hW.cell (p := ⟨g, i, none⟩) hg).trans (hc i hi)⟩
 replace hcW := hide hcW
 have hdec := hide hl1
 rw [hr] at hRd
 simp only at hRd
 unfold dV at hRd
 obtain ⟨xa, xc, rfl⟩ := hx.shape
 obtain ⟨pa, pc, rfl, _⟩ := id hp
 obtain ⟨c0, c1, _, _⟩ := row_at k0
 have l0 := (gE9.1 k0).1
 have l1 := (gE9.1 k1).1
 clear hx hp hd1 hr hR
 refine (cW9 (n := 9)).1 ?_
 refine callsIn_of_wp Tryz.func21 rfl trivial ?_ rfl
 simp only [Tryz.ntmps21, List.size_toArray, List.length_cons, List.length_nil, Nat.reduceAdd, Nat.reduceSub, Array.replicate_succ, Array.replicate_zero, List.push_toArray, List.append_toArray, List.nil_append, List.cons_append]
 gi_wp2_with fail
 refine ⟨trivial, ?_⟩
 gi_at_call 13
 refine (cW9.2 hOK).mono ?_
 rintro e W2 ⟨rfl, hB2⟩
 have hB02 := hB.trans (hB2.mono hB.size)
 have k02 := (hB2.block _ l0).trans k0
 have k12 := (hB2.block _ l1).trans k1
 have hsz2 := lT9 hsz hB2.size
 obtain ⟨c0, c1, _, _⟩ := row_at k02
 clear hOK hB2 k0 k1 l0 l1 hB hsz
 gi_wp2_with fail
 refine ⟨trivial, ?_⟩
 gi_at_call 65
 refine (cW9.2 (hKp _ hB02)).mono ?_
 rintro e W3 ⟨y, q, rfl, hy, hq, hB3⟩
 have hLs3 : Ls w W3.heap.size (.slice xa d.1.length xc) (.slice pa d.2.length pc) y q d (W3.alloc (.cells #[y, q] 31)) := by
  have hB03 := hB02.trans (hB3.mono hB02.size)
  have hA := (Below.refl _ W3).alloc (Nat.le_refl _) (.cells #[y, q] 31)
  have h02 := (hB3.block _ (gE9.1 k02).1).trans k02
  have h12 := (hB3.block _ (gE9.1 k12).1).trans k12
  exact ⟨hB03.alloc hB03.size _, (hA.block _ (gE9.1 h02).1).trans h02, (hA.block _ (gE9.1 h12).1).trans h12, lT9 hsz2 hB3.size, aN9 W3 _, own_below (own_fromD hy hsz2) hA, (hq.down hsz2).below hA⟩
 obtain ⟨y1, y2, rfl⟩ := own_form hy
 obtain ⟨q1, q2, rfl⟩ := hq.form
 obtain ⟨b, hbe⟩ : ∃ b, W3.heap.size = b := ⟨_, rfl⟩
 obtain ⟨W4, hW4⟩ : ∃ W4, W3.alloc (.cells #[.slice y1 d.1.length y2, .slice q1 d.2.length q2] 31) = W4 := ⟨_, rfl⟩
 rw [hW4, hbe] at hLs3
 obtain ⟨c0, c1, _, _⟩ := row_at hLs3.box
 clear hKp hB02 k02 k12 hsz2 hy hq hB3
 gi_wp2_with fail
 refine ⟨trivial, ?_⟩
 gi_at_call 47
 refine (cW9.2 (hRd _)).mono ?_
 rintro e W5 ⟨rfl, hB5⟩
 have hLs5 := hLs3.more hB5
 have hA6 := (Below.refl _ W5).alloc (Nat.le_refl _) (.cells #[.int .i64 k, .int .i64 n] 39)
 have kd := aN9 W5 (.cells #[.int .i64 k, .int .i64 n] 39)
 have hLs6 := hLs5.more hA6
 clear hRd hLs3 hB5 hbe hW4
 obtain ⟨W6, hW6⟩ : ∃ W6, W5.alloc (.cells #[.int .i64 k, .int .i64 n] 39) = W6 := ⟨_, rfl⟩
 rw [hW6] at kd hLs6
 obtain ⟨c0, c1, _, _⟩ := row_at hLs6.box
 obtain ⟨r0, r1, f0, f1⟩ := row_at hLs6.res
 obtain ⟨s0, s1, _, _⟩ := row_at hLs6.out
 obtain ⟨e0, e1, _, _⟩ := row_at kd
 clear hLs5 hA6
 gi_wp2
 gi_loopw [11, 12] (fun o i wr => ∃ m : Nat, m ≤ d.1.length ∧ i = .int .i64 m ∧ o = .string (str (rowTx (d.1.take m))) ∧ Ls w b (.slice xa d.1.length xc) (.slice pa d.2.length pc) (.slice y1 d.1.length y2) (.slice q1 d.2.length q2) d wr) (fun _ i _ => d.1.length - (intOf i).toNat)
 case atStart => exact ⟨0, by omega, rfl, rfl, hLs6⟩
 case round =>
  clear hLs6 c0 c1 r0 r1 s0 s1 f0 f1 kd e0 e1
  obtain ⟨m, hm, rfl, rfl, hLs⟩ := hrel
  obtain ⟨c0, c1, _, _⟩ := row_at hLs.box
  by_cases hlt : m < d.1.length
  · have hki : (m : Int) < (d.1.length : Int) := by omega
    obtain ⟨g, c, hxe, hcell⟩ := hcW.out wr hLs.below m hlt
    simp only [Value.slice.injEq, true_and] at hxe
    obtain ⟨hxa, -⟩ := hxe
    subst hxa
    have hb01 := hbit m hlt
    have hst := hide (hall.out m hlt)
    have hl1' := hlen.out m hm
    have hT := specNum (d.1.getD m 0) (by omega) (by omega) wr
    obtain ⟨yv, hyv⟩ : ∃ yv, d.1.getD m 0 = yv := ⟨_, rfl⟩
    rw [hyv] at hcell hb01 hst hT
    have hdl : (decI yv).length ≤ 1 := by
     rcases (show yv = 0 ∨ yv = 1 by omega) with e | e <;> rw [e] <;> decide
    have ha1 := str_app (rowTx (d.1.take m)) (decI yv)
    rw [← hst.out] at ha1
    have hs1 := str_size (rowTx (d.1.take m))
    have hs2 := str_size (decI yv)
    obtain ⟨T, hTT⟩ : ∃ T, str (decI yv) = T := ⟨_, rfl⟩
    obtain ⟨A, hA⟩ : ∃ A, str (rowTx (d.1.take m)) = A := ⟨_, rfl⟩
    obtain ⟨Z, hZ⟩ : ∃ Z, str (rowTx (d.1.take (m + 1))) = Z := ⟨_, rfl⟩
    rw [hTT] at hT ha1 hs2
    rw [hA] at ha1 hs1 ⊢
    rw [hZ] at ha1
    have hAs : A.size ≤ 100 := by omega
    have hTs : T.size ≤ 100 := by omega
    have hZ' := hide hZ
    clear hall hlen hbit hcW hyv hst hs1 hs2 hTT hA hZ hdl hl1'
    gi_wp2_with (refine ⟨trivial, ?_⟩; gi_at_call 67; go_loud (refine (cW9.2 hT).mono ?_; rintro e W9 ⟨rfl, hB9⟩; have hLs9 := hLs.more hB9))
    go_roundw
    case rel => exact ⟨m + 1, by omega, by go_num, by rw [hZ'.out], hLs9⟩
    case measure => simp [intOf]; omega
  · obtain rfl : m = d.1.length := by omega
    have hki : ¬ ((d.1.length : Nat) : Int) < (d.1.length : Int) := by omega
    rw [hfin0.out]
    obtain ⟨r0, r1, f0, f1⟩ := row_at hLs.res
    obtain ⟨s0, s1, _, _⟩ := row_at hLs.out
    have hrs := hide (desk_set hLs.res (.slice y1 d.1.length y2) (.slice q1 d.2.length q2))
    have hfin := hide hLs.done
    obtain ⟨RS, hRS⟩ : ∃ RS, str R = RS := ⟨_, rfl⟩
    rw [hRS]
    have hRS' := hide hRS
    clear hLs hall hlen hbit hcW hfin0 hRS
    gi_wp2
    (try simp only [Exit.inBlock, Exit.then])
    exact bodyPost_ret (results_desk2 rfl _ _ (w.heap.size + 1) _ _ rfl hrs.out) rfl ⟨_, by rw [hRS'.out]; rfl, hfin.out.desk, hfin.out.cap, hfin.out.below⟩
set_option maxRecDepth 100000 in
set_option maxHeartbeats 4000000 in
theorem specLine_words (x p : Value) (d : Dk) (l : List Nat) (w : World) (hx : Ints w x d.1) (hp : PastI w p d.2) (hb : deskB d = true) (hl : ∀ c ∈ l, c < 256) (hn : l.length ≤ 1100000) (k n : Int) (hr : rdV l = ((k, n), false)) (h0 : ¬ l = [114, 111, 119]) (h1 : ¬ l = [111, 110, 101, 115]) (h2 : ¬ l = [108, 97, 115, 116]) (h3 : ¬ l = [101, 110, 100]) (h4 : ¬ l = [98, 97, 108, 97, 110, 99, 101, 100]) :
 Calls Tryz.prog 21 #[.agg #[x, p], .string (str l)] w fun e w' => ∃ y, e = .returned (.tuple #[y, .string (str (wordsV l))]) ∧ DeskI w' y d ∧ CapN w.heap.size y ∧ Below w.heap.size w w' := by
 obtain ⟨hd1, hd2, hd3⟩ := deskB_is.1 hb
 have hl1 := sideB_len hd2
 have hB : Below w.heap.size w ((w.alloc (.cells #[x, p] 31)).alloc (.cells #[.slice none 0 0, .slice none 0 0] 31)) := ((Below.refl _ w).alloc (Nat.le_refl _) _).alloc (by rw [World.size_alloc]; omega) _
 have k0 : ((w.alloc (.cells #[x, p] 31)).alloc (.cells #[.slice none 0 0, .slice none 0 0] 31)).heap[w.heap.size]? = some (.cells #[x, p] 31 (0, 0)) := (Below.heap_alloc _ _ _ (by rw [World.size_alloc]; omega)).trans (aN9 w _)
 have k1 := aN9 (w.alloc (.cells #[x, p] 31)) (.cells #[.slice none 0 0, .slice none 0 0] 31)
 rw [World.size_alloc] at k1
 have hsz : w.heap.size + 2 ≤ ((w.alloc (.cells #[x, p] 31)).alloc (.cells #[.slice none 0 0, .slice none 0 0] 31)).heap.size := by simp
 obtain ⟨W1, hW1⟩ : ∃ W1, (w.alloc (.cells #[x, p] 31)).alloc (.cells #[.slice none 0 0, .slice none 0 0] 31) = W1 := ⟨_, rfl⟩
 rw [hW1] at hB k0 k1 hsz
 have hOK := specDeskOk (.agg #[x, p]) d W1 ⟨x, p, rfl, hx.below hB, hp.below hB⟩ (deskB_size hb)
 rw [hb] at hOK
 have hKp := fun V (hV : Below w.heap.size w V) => specCopy x p d V (hx.below hV) (hp.below hV) hb
 have hRd := fun V => specReadDeed l hl (by omega) V
 have e10 : ¬ (str l).toList = [114, 111, 119] := fun e => h0 (str_inj hl (by decide) (by rw [str_toList] at e; exact e))
 have e11 : ¬ (str l).toList = [111, 110, 101, 115] := fun e => h1 (str_inj hl (by decide) (by rw [str_toList] at e; exact e))
 have e12 : ¬ (str l).toList = [108, 97, 115, 116] := fun e => h2 (str_inj hl (by decide) (by rw [str_toList] at e; exact e))
 have e13 : ¬ (str l).toList = [101, 110, 100] := fun e => h3 (str_inj hl (by decide) (by rw [str_toList] at e; exact e))
 have e14 : ¬ (str l).toList = [98, 97, 108, 97, 110, 99, 101, 100] := fun e => h4 (str_inj hl (by decide) (by rw [str_toList] at e; exact e))
 have hCut := fun V => specCut 32 (by omega) l hl (by omega) V
 have hpos := cutL_pos 32 l []
 have hlen : (cutT 32 l).length ≤ l.length + 1 := cutL_len l
 have hmem : ∀ i, (∀ c ∈ (cutT 32 l).getD i [], c < 256) ∧ ((cutT 32 l).getD i []).length ≤ 2000000 := fun i => by
  by_cases hi : i < (cutT 32 l).length
  · have := cutL_mem 32 l [] ((cutT 32 l).getD i []) (word_mem _ i hi)
    exact ⟨fun c hc => hl c ((this.1 c hc).resolve_left (by simp)), lT9 this.2 (by simp; omega)⟩
  · rw [List.getD, List.getElem?_eq_none (by omega)]; simp
 have hwv : wordsV l = match numsL (cutT 32 l).tail with | none => whatT | some ns => askV ((cutT 32 l).getD 0 []) ns := rfl
 obtain ⟨OUT, hOUT⟩ : ∃ O, wordsV l = O := ⟨_, rfl⟩
 rw [hOUT] at hwv ⊢
 change 0 < (cutT 32 l).length at hpos
 obtain ⟨ws, hws⟩ : ∃ ws, cutT 32 l = ws := ⟨_, rfl⟩
 rw [hws] at hCut hpos hlen hmem hwv
 have hf0 : numsL ws.tail = none → OUT = whatT := fun e => by rw [hwv, e]
 have hf1 : ∀ ns, numsL ws.tail = some ns → OUT = askV (ws.getD 0 []) ns := fun ns e => by rw [hwv, e]
 replace hf0 := hide hf0
 replace hf1 := hide hf1
 have hst : Hid (numsL ws.tail = (numsL (ws.drop 1)).map ([] ++ ·)) := hide (by rw [List.drop_one]; cases numsL ws.tail <;> rfl)
 rw [hr] at hRd
 simp only at hRd
 unfold dV at hRd
 obtain ⟨xa, xc, rfl⟩ := hx.shape
 obtain ⟨pa, pc, rfl, _⟩ := id hp
 obtain ⟨LS, hLS⟩ : ∃ LS, str l = LS := ⟨_, rfl⟩
 rw [hLS] at hRd hCut e10 e11 e12 e13 e14 ⊢
 have b10 := beq_eq_false_iff_ne.2 e10
 have b11 := beq_eq_false_iff_ne.2 e11
 have b12 := beq_eq_false_iff_ne.2 e12
 have b13 := beq_eq_false_iff_ne.2 e13
 have b14 := beq_eq_false_iff_ne.2 e14
 obtain ⟨c0, c1, _, _⟩ := row_at k0
 have l0 := (gE9.1 k0).1
 have l1 := (gE9.1 k1).1
 clear hx hp hd1 hr hLS hwv hOUT hws h0 h1 h2 h3 h4
 refine (cW9 (n := 9)).1 ?_
 refine callsIn_of_wp Tryz.func21 rfl trivial ?_ rfl
 simp only [Tryz.ntmps21, List.size_toArray, List.length_cons, List.length_nil, Nat.reduceAdd, Nat.reduceSub, Array.replicate_succ, Array.replicate_zero, List.push_toArray, List.append_toArray, List.nil_append, List.cons_append]
 gi_wp2_with fail
 refine ⟨trivial, ?_⟩
 gi_at_call 13
 refine (cW9.2 hOK).mono ?_
 rintro e W2 ⟨rfl, hB2⟩
 have hB02 := hB.trans (hB2.mono hB.size)
 have k02 := (hB2.block _ l0).trans k0
 have k12 := (hB2.block _ l1).trans k1
 have hsz2 := lT9 hsz hB2.size
 obtain ⟨c0, c1, _, _⟩ := row_at k02
 clear hOK hB2 k0 k1 l0 l1 hB hsz
 gi_wp2_with fail
 refine ⟨trivial, ?_⟩
 gi_at_call 65
 refine (cW9.2 (hKp _ hB02)).mono ?_
 rintro e W3 ⟨y, q, rfl, hy, hq, hB3⟩
 have hLs3 : Ls w W3.heap.size (.slice xa d.1.length xc) (.slice pa d.2.length pc) y q d (W3.alloc (.cells #[y, q] 31)) := by
  have hB03 := hB02.trans (hB3.mono hB02.size)
  have hA := (Below.refl _ W3).alloc (Nat.le_refl _) (.cells #[y, q] 31)
  have h02 := (hB3.block _ (gE9.1 k02).1).trans k02
  have h12 := (hB3.block _ (gE9.1 k12).1).trans k12
  exact ⟨hB03.alloc hB03.size _, (hA.block _ (gE9.1 h02).1).trans h02, (hA.block _ (gE9.1 h12).1).trans h12, lT9 hsz2 hB3.size, aN9 W3 _, own_below (own_fromD hy hsz2) hA, (hq.down hsz2).below hA⟩
 obtain ⟨y1, y2, rfl⟩ := own_form hy
 obtain ⟨q1, q2, rfl⟩ := hq.form
 obtain ⟨b, hbe⟩ : ∃ b, W3.heap.size = b := ⟨_, rfl⟩
 obtain ⟨W4, hW4⟩ : ∃ W4, W3.alloc (.cells #[.slice y1 d.1.length y2, .slice q1 d.2.length q2] 31) = W4 := ⟨_, rfl⟩
 rw [hW4, hbe] at hLs3
 obtain ⟨c0, c1, _, _⟩ := row_at hLs3.box
 clear hKp hB02 k02 k12 hsz2 hy hq hB3
 gi_wp2_with fail
 refine ⟨trivial, ?_⟩
 gi_at_call 47
 refine (cW9.2 (hRd _)).mono ?_
 rintro e W5 ⟨rfl, hB5⟩
 have hLs5 := hLs3.more hB5
 have hA6 := (Below.refl _ W5).alloc (Nat.le_refl _) (.cells #[.int .i64 k, .int .i64 n] 39)
 have kd := aN9 W5 (.cells #[.int .i64 k, .int .i64 n] 39)
 have hLs6 := hLs5.more hA6
 clear hRd hLs3 hB5 hbe hW4
 obtain ⟨W6, hW6⟩ : ∃ W6, W5.alloc (.cells #[.int .i64 k, .int .i64 n] 39) = W6 := ⟨_, rfl⟩
 rw [hW6] at kd hLs6
 obtain ⟨c0, c1, _, _⟩ := row_at hLs6.box
 obtain ⟨r0, r1, f0, f1⟩ := row_at hLs6.res
 obtain ⟨s0, s1, _, _⟩ := row_at hLs6.out
 obtain ⟨e0, e1, _, _⟩ := row_at kd
 clear hLs5 hA6
 gi_wp2_with fail
 refine ⟨trivial, ?_⟩
 gi_at_call 71
 refine (cW9.2 (hCut _)).mono ?_
 rintro e V0 ⟨wv, rfl, how, hB7⟩
 have hLs7 := hLs6.more hB7
 obtain ⟨va, vc, rfl, hwc⟩ := Texts.of_owns (L := ws) how
 have hwcell : ∀ W, Below V0.heap.size V0 W → ∀ i, i < ws.length → ∃ g, va = some ⟨g, 0, none⟩ ∧ W.cell? ⟨g, i, none⟩ = some (.string (str (ws.getD i []))) := fun W hW i hi => by
  obtain ⟨g, h1, h2, h3⟩ := hwc (by omega)
  refine ⟨g, h1, (hW.cell (p := ⟨g, i, none⟩) h2).trans (h3 i _ ?_)⟩
  rw [List.getD, eG9 hi]; rfl
 replace hwcell := hide hwcell
 clear hCut hLs6 hB7 how hwc kd e0 e1 c0 c1 r0 r1 f0 f1 s0 s1
 obtain ⟨M, hM⟩ : ∃ M, ws.length = M := ⟨_, rfl⟩
 rw [hM] at hpos hlen hwcell ⊢
 have hmade : (V0.alloc (.cells #[] 3)).ownsRow V0.heap.size 3 1 (.slice (some ⟨V0.heap.size, 0, none⟩) 0 0) 0 [] := World.ownsRow_made _ _ _ (Nat.le_refl _) (by decide) rfl
 have hBm : Below V0.heap.size V0 (V0.alloc (.cells #[] 3)) := (Below.refl _ V0).alloc (Nat.le_refl _) _
 gi_wp2
 gi_loopw [16, 17] (fun o i wr => ∃ (m : Nat) (xs : List Int), 1 ≤ m ∧ m ≤ M ∧ xs.length + 1 = m ∧ i = .int .i64 m ∧ wr.ownsRow V0.heap.size 3 1 o xs.length (xs.map (Value.int .i64)) ∧ Hid (numsL ws.tail = (numsL (ws.drop m)).map (xs ++ ·)) ∧ Below V0.heap.size V0 wr) (fun _ i _ => M - (intOf i).toNat)
 case atStart => exact ⟨1, [], by omega, by omega, rfl, rfl, hmade, hst, hBm⟩
 case round =>
  clear hst hmade hBm
  obtain ⟨m, xs, hm1, hm, hxm, rfl, hown, hst, hB⟩ := hrel
  have hLs := hLs7.more hB
  by_cases hlt : m < M
  · have hki : (m : Int) < (M : Int) := by omega
    obtain ⟨g, hva, hcell⟩ := hwcell.out wr hB m hlt
    subst hva
    obtain ⟨hp, hpl⟩ := hmem m
    have hdr : ws.drop m = ws.getD m [] :: ws.drop (m + 1) := by
     rw [List.drop_eq_getElem_cons (by omega), List.getD, eG9 (by omega)]; rfl
    have hst' := hst.out
    rw [hdr, numsL_cons] at hst'
    obtain ⟨pw, hpe⟩ : ∃ pw, ws.getD m [] = pw := ⟨_, rfl⟩
    rw [hpe] at hcell hp hpl hst'
    have hDg := specDigits pw hp hpl wr
    obtain ⟨T, hT⟩ : ∃ T, str pw = T := ⟨_, rfl⟩
    rw [hT] at hcell hDg
    cases hd : digT pw with
    | none =>
      have hdi : digI pw = -1 := by unfold digI; rw [hd]
      rw [hdi] at hDg
      rw [hd] at hst'
      have hOe := hide (show str OUT = ⟨#[119, 104, 97, 116]⟩ by rw [hf0.out (by rw [hst']; rfl)]; kernel_rfl)
      obtain ⟨r0, r1, f0, f1⟩ := row_at hLs.res
      obtain ⟨s0, s1, _, _⟩ := row_at hLs.out
      have hrs := hide (desk_set hLs.res (.slice y1 d.1.length y2) (.slice q1 d.2.length q2))
      have hfin := hide hLs.done
      clear hLs hst' hdr hpe hT hf0 hf1 hwcell hmem hst
      gi_wp2_with (refine ⟨trivial, ?_⟩; gi_at_call 72; go_loud (refine (cW9.2 hDg).mono ?_; rintro e W9 ⟨rfl, rfl⟩))
      (try simp only [Exit.inBlock, Exit.then])
      exact bodyPost_ret (results_desk2 rfl _ _ (w.heap.size + 1) _ _ rfl hrs.out) rfl ⟨_, by rw [hOe.out]; rfl, hfin.out.desk, hfin.out.cap, hfin.out.below⟩
    | some z =>
      have hdi : digI pw = z := by unfold digI; rw [hd]
      rw [hdi] at hDg
      rw [hd] at hst'
      have hnx := hide (show numsL ws.tail = (numsL (ws.drop (m + 1))).map ((xs ++ [(z : Int)]) ++ ·) by
       rw [hst']
       simp only
       cases numsL (ws.drop (m + 1)) <;> simp)
      have hz0 : ¬ (z : Int) < 0 := by omega
      clear hLs hst' hdr hpe hT hf0 hf1 hwcell hmem hst hp hpl hd hdi
      gi_wp2_with (first
       | (refine ⟨trivial, ?_⟩; gi_at_call 72; go_loud (refine (cW9.2 hDg).mono ?_; rintro e W9 ⟨rfl, rfl⟩))
       | (gi_at_builtin; go_loud (refine append_num_in rfl _ _ rfl V0.heap.size _ _ _ rfl hown rfl (by omega) hB.size ?_; intro v' w5 hown5 hgr)))
      have hB5 : Below V0.heap.size V0 w5 := (hB.alloc hB.size _).grown hgr (by rw [World.size_alloc]; have := hB.size; omega) (fun q hq => (hown.lt q hq).1)
      go_roundw
      case rel => exact ⟨m + 1, xs ++ [(z : Int)], by omega, by omega, by simp [hxm], by go_num, by simpa using hown5, hnx, hB5⟩
      case measure => simp [intOf]; omega
  · obtain rfl : m = M := by omega
    have hki : ¬ ((m : Nat) : Int) < (m : Int) := by omega
    obtain ⟨g, hva, hcell⟩ := hwcell.out wr hB 0 (by omega)
    subst hva
    have hst' := hst.out
    rw [List.drop_eq_nil_of_le (by omega)] at hst'
    have hOe := hf1.out xs (by rw [hst']; simp [numsL])
    have hI := Ints.of_owns hown
    obtain ⟨la, lc, rfl⟩ := own_form hown
    have hAsk := fun V (hV : Below wr.heap.size wr V) => specAsk (ws.getD 0 []) (hmem 0).1 xs _ V (hI.below hV)
    rw [← hOe] at hAsk
    obtain ⟨T, hT⟩ : ∃ T, str (ws.getD 0 []) = T := ⟨_, rfl⟩
    obtain ⟨S, hS⟩ : ∃ S, str OUT = S := ⟨_, rfl⟩
    rw [hT] at hcell hAsk
    rw [hS] at hAsk
    have hS' := hide hS
    have hc0 : ∀ V, Below wr.heap.size wr V → V.cell? ⟨g, 0, none⟩ = some (.string T) := fun V hV => (hV.cell (p := ⟨g, 0, none⟩) (World.block_lt_of_cell? _ _ hcell)).trans hcell
    have hc0' := hide hc0
    clear hc0 hst' hf0 hf1 hwcell hmem hst hT hS hOe hI hown hcell
    gi_wp2
    refine wpIn_region_put 6 [(some 127, 0), (some 128, 1), (some 129, 2), (some 130, 3), (some 131, 4), (some 132, 5)] (by kernel_rfl) (by kernel_rfl) (by kernel_rfl) (by decide) (by rfl) (by decide)
     (fun j v V => match j with | 0 => v = .agg #[.slice y1 d.1.length y2, .slice q1 d.2.length q2] | 1 => v = .slice (some ⟨g, 0, none⟩) m vc | 2 => v = .pointer (some ⟨g, 0, none⟩) | 3 => v = .string T | 4 => v = .slice la xs.length lc | 5 => v = .string S | _ => True)
     (fun j v V V' h _ => match j, h with | 0, h => h | 1, h => h | 2, h => h | 3, h => h | 4, h => h | 5, h => h | (_ + 6), _ => trivial)
     ?_ ?_
    · rintro j oo s V hj ho hBV hd Q' hQ
      have hLV := hLs.more hBV
      have hcV := hc0'.out V hBV
      obtain ⟨s0, s1, _, _⟩ := row_at hLV.out
      rcases (show j = 0 ∨ j = 1 ∨ j = 2 ∨ j = 3 ∨ j = 4 ∨ j = 5 by omega) with rfl | rfl | rfl | rfl | rfl | rfl
      all_goals
       simp at ho
       subst ho
       simp only [putsOf, Act.put, List.setIfInBounds_toArray, List.set_cons_succ, List.set_cons_zero] at hQ ⊢
       have hQ' := hide hQ
       clear hQ
      · clear hd
        gi_wp2
        exact hQ'.out _ _ (Below.refl _ _) rfl
      · clear hd
        gi_wp2
        exact hQ'.out _ _ (Below.refl _ _) rfl
      · have p1 : s 1 = .slice (some ⟨g, 0, none⟩) m vc := hd 1 (by kernel_rfl)
        have hm0 : (0 : Int) < (m : Int) := by omega
        clear hd
        gi_wp2
        have hr := hQ'.out
        simp only [p1] at hr ⊢
        exact hr _ _ (Below.refl _ _) rfl
      · have p2 : s 2 = .pointer (some ⟨g, 0, none⟩) := hd 2 (by kernel_rfl)
        clear hd
        gi_wp2
        have hr := hQ'.out
        simp only [p2] at hr ⊢
        exact hr _ _ (Below.refl _ _) rfl
      · clear hd
        gi_wp2
        exact hQ'.out _ _ (Below.refl _ _) rfl
      · have p3 : s 3 = .string T := hd 3 (by kernel_rfl)
        have p4 : s 4 = .slice la xs.length lc := hd 4 (by kernel_rfl)
        have hA := hAsk V hBV
        clear hd
        gi_wp2_with (refine ⟨trivial, ?_⟩; gi_at_call 73; go_loud (refine (cW9.2 hA).mono ?_; rintro e W9 ⟨rfl, hB9⟩))
        have hr := hQ'.out
        simp only [p3, p4] at hr ⊢
        exact hr _ _ hB9 rfl
    · rintro s V hBV hd
      have p0 : s 0 = .agg #[.slice y1 d.1.length y2, .slice q1 d.2.length q2] := hd 0 (by omega)
      have p5 : s 5 = .string S := hd 5 (by omega)
      clear hd
      have hLV := hLs.more hBV
      obtain ⟨r0, r1, f0, f1⟩ := row_at hLV.res
      have hrs := hide (desk_set hLV.res (.slice y1 d.1.length y2) (.slice q1 d.2.length q2))
      have hfin := hide hLV.done
      clear hLV hLs hLs7 hAsk
      simp only [putsOf, Act.put, List.setIfInBounds_toArray, List.set_cons_succ, List.set_cons_zero]
      simp only [List.drop_succ_cons, List.drop_zero]
      simp only [p0, p5]
      gi_wp2
      (try simp only [Exit.inBlock, Exit.then])
      exact bodyPost_ret (results_desk2 rfl _ _ (w.heap.size + 1) _ _ rfl hrs.out) rfl ⟨_, by rw [hS'.out]; rfl, hfin.out.desk, hfin.out.cap, hfin.out.below⟩
end
section
open Go Go.RowKit Go.Shelf
theorem specLine_ask (x p : Value) (d : Dk) (l : List Nat) (w : World) (hx : Ints w x d.1) (hp : PastI w p d.2) (hb : deskB d = true) (hl : ∀ c ∈ l, c < 256) (hn : l.length ≤ 1100000) (k n : Int) (hr : rdV l = ((k, n), false)) :
 Calls Tryz.prog 21 #[.agg #[x, p], .string (str l)] w fun e w' => ∃ y, e = .returned (.tuple #[y, .string (str (qaV d.1 l))]) ∧ DeskI w' y d ∧ CapN w.heap.size y ∧ Below w.heap.size w w' := by
 unfold qaV
 by_cases h0 : l = [114, 111, 119]
 · subst h0; rw [if_pos rfl]; exact specLine_row x p d w hx hp hb k n hr
 by_cases h1 : l = [111, 110, 101, 115]
 · subst h1; rw [if_neg h0, if_pos rfl]; exact specLine_ones x p d w hx hp hb k n hr
 by_cases h2 : l = [108, 97, 115, 116]
 · subst h2; rw [if_neg h0, if_neg h1, if_pos rfl]; exact specLine_last x p d w hx hp hb k n hr
 by_cases h3 : l = [101, 110, 100]
 · subst h3; rw [if_neg h0, if_neg h1, if_neg h2, if_pos rfl]; exact specLine_end x p d w hx hp hb k n hr
 by_cases h4 : l = [98, 97, 108, 97, 110, 99, 101, 100]
 · subst h4; rw [if_neg h0, if_neg h1, if_neg h2, if_neg h3, if_pos rfl]; exact specLine_balanced x p d w hx hp hb k n hr
 rw [if_neg h0, if_neg h1, if_neg h2, if_neg h3, if_neg h4]
 exact specLine_words x p d l w hx hp hb hl hn k n hr h0 h1 h2 h3 h4
set_option maxRecDepth 100000 in
set_option maxHeartbeats 1000000 in
theorem specLine_no (x p : Value) (d : Dk) (l : List Nat) (w : World) (hx : Ints w x d.1) (hp : PastI w p d.2) (hs : DkS d) (hb : deskB d = false) :
 Calls Tryz.prog 21 #[.agg #[x, p], .string (str l)] w fun e w' => ∃ y, e = .returned (.tuple #[y, .string (str (lineV d l).2)]) ∧ DeskI w' y (lineV d l).1 ∧ CapN w.heap.size y ∧ Below w.heap.size w w' := by
 rw [lineV_no hb]
 simp only
 rw [str_nil]
 have hB : Below w.heap.size w ((w.alloc (.cells #[x, p] 31)).alloc (.cells #[.slice none 0 0, .slice none 0 0] 31)) := ((Below.refl _ w).alloc (Nat.le_refl _) _).alloc (by rw [World.size_alloc]; omega) _
 have k0 : ((w.alloc (.cells #[x, p] 31)).alloc (.cells #[.slice none 0 0, .slice none 0 0] 31)).heap[w.heap.size]? = some (.cells #[x, p] 31 (0, 0)) := (Below.heap_alloc _ _ _ (by rw [World.size_alloc]; omega)).trans (aN9 w _)
 have k1 := aN9 (w.alloc (.cells #[x, p] 31)) (.cells #[.slice none 0 0, .slice none 0 0] 31)
 rw [World.size_alloc] at k1
 obtain ⟨W1, hW1⟩ : ∃ W1, (w.alloc (.cells #[x, p] 31)).alloc (.cells #[.slice none 0 0, .slice none 0 0] 31) = W1 := ⟨_, rfl⟩
 rw [hW1] at hB k0 k1
 have hOK := specDeskOk (.agg #[x, p]) d W1 ⟨x, p, rfl, hx.below hB, hp.below hB⟩ hs
 rw [hb] at hOK
 obtain ⟨xa, xc, rfl⟩ := hx.shape
 obtain ⟨pa, pc, rfl, _⟩ := id hp
 obtain ⟨LS, hLS⟩ : ∃ LS, str l = LS := ⟨_, rfl⟩
 rw [hLS]
 obtain ⟨c0, c1, _, _⟩ := row_at k0
 have l0 := (gE9.1 k0).1
 have l1 := (gE9.1 k1).1
 clear hx hp hs hLS
 go_enter Tryz.func21, Tryz.ntmps21
 go_wp2_with (go_at_call 13; go_loud (refine hOK.mono ?_; clear hOK; rintro e W2 ⟨rfl, hB2⟩; have zres := (hB2.block _ l1).trans k1; obtain ⟨c0, c1, _, _⟩ := row_at ((hB2.block _ l0).trans k0); obtain ⟨r0, r1, f0, f1⟩ := row_at zres))
 (try simp only [Exit.inBlock, Exit.then])
 have hB3 := hB.trans (hB2.mono hB.size)
 exact bodyPost_ret (results_desk2 rfl _ _ (w.heap.size + 1) _ _ rfl (desk_set zres (.slice none 0 0) (.slice none 0 0))) rfl ⟨_, rfl, ⟨_, _, rfl, .inl ⟨_, _, rfl, rfl⟩, ⟨none, 0, rfl, fun h => absurd h (Nat.lt_irrefl 0)⟩⟩, CapN.of (Nat.le_refl _) (fun g o t e => by cases e), (hB3.setCell (p := ⟨w.heap.size + 1, 0, none⟩) (Nat.le_succ _) _).setCell (p := ⟨w.heap.size + 1, 1, none⟩) (Nat.le_succ _) _⟩
theorem specLine (v : Value) (d : Dk) (l : List Nat) (w : World) (hv : DeskI w v d) (hs : DkS d) (hl : ∀ c ∈ l, c < 256) (hn : l.length ≤ 1100000) :
 Calls Tryz.prog 21 #[v, .string (str l)] w fun e w' => ∃ y, e = .returned (.tuple #[y, .string (str (lineV d l).2)]) ∧ DeskI w' y (lineV d l).1 ∧ CapN w.heap.size y ∧ Below w.heap.size w w' := by
 obtain ⟨x, p, rfl, hx, hp⟩ := hv
 cases hb : deskB d with
 | false => exact specLine_no x p d l w hx hp hs hb
 | true =>
   obtain ⟨⟨⟨k, n⟩, b⟩, hr⟩ : ∃ r, rdV l = r := ⟨_, rfl⟩
   cases b with
   | true => exact specLine_deed x p d l w hx hp hb hl hn k n hr
   | false =>
     rw [lineV_ask hb (rdV_noneS hr)]
     exact specLine_ask x p d l w hx hp hb hl hn k n hr
end
section
open Go Go.RowKit
attribute [local go_sem] Oper.semAt_some
theorem say_rows {d : Dk} (h : deskB d = true) (L : List (List Nat)) : ∀ j, j < (sayL d L).1.2.length → 1 ≤ ((sayL d L).1.2.getD j []).length := fun j hj =>
 (sideB_len ((deskB_is.1 (sayL_desk L d h)).1 ((sayL d L).1.2.getD j []) (by rw [List.getD, eG9 hj]; exact List.getElem_mem hj))).1
structure Ss (w : World) (b : Nat) (d : Dk) (L : List (List Nat)) (k : Nat) (x p u : Value) (W : World) : Prop where
 below : Below w.heap.size w W
 res : W.heap[w.heap.size + 1]? = some (.cells #[.slice none 0 0, .slice none 0 0] 31 (0, 0))
 box : W.heap[b]? = some (.cells #[x, p] 31 (0, 0))
 lt : w.heap.size + 2 ≤ b
 desk : DeskI W (.agg #[x, p]) (sayL d (L.take k)).1
 out : W.ownsRow (w.heap.size + 2) 9 1 u k ((sayL d (L.take k)).2.map txt)
 em : k = 0 → ∃ g, u = .slice (some ⟨g, 0, none⟩) 0 0 ∧ W.heap[g]? = some (.cells #[] 9 (0, 0))
theorem deskI_txt {V V' : World} {base r : Nat} {v : Value} {D : Dk} (h : DeskI V v D) (hN : ∀ x g o t n c, v = .agg #[x, .slice (some ⟨g, o, t⟩) n c] → base ≤ g) (hr : r < base) (h1 : 1 ≤ D.1.length) (h2 : ∀ j, j < D.2.length → 1 ≤ (D.2.getD j []).length)
    (hc : ∀ i : Int, V.cell? ⟨r, 0, none⟩ ≠ some (.int .i64 i)) (hg : V.grownBy V' (some r)) : DeskI V' v D := by
  have hI : ∀ u xs, 1 ≤ xs.length → Ints V u xs → Ints V' u xs := by
    intro u xs hx h
    rcases h with ⟨a, c, rfl, rfl⟩ | ⟨g, cap, rfl, hgl, hcl⟩
    · simp at hx
    · have hne : g ≠ r := fun e => by
        subst e
        exact hc _ (hcl 0 (by omega))
      exact .inr ⟨g, cap, rfl, lL9 hgl hg.size, fun i hi => (World.cell?_of_block (w := V) (hg.block g hgl (fun e => by injection e with e; exact hne (by omega)))).trans (hcl i hi)⟩
  obtain ⟨x, p, rfl, hx, hp⟩ := h
  refine ⟨x, p, rfl, hI _ _ h1 hx, ?_⟩
  obtain ⟨a, c, rfl, h⟩ := hp
  refine ⟨a, c, rfl, fun h0 => ?_⟩
  obtain ⟨G, o, rfl, hG, hcc⟩ := h h0
  have hGb := hN _ G o _ _ _ rfl
  refine ⟨G, o, rfl, lL9 hG hg.size, fun j hj => ?_⟩
  obtain ⟨u, e1, e2⟩ := hcc j hj
  exact ⟨u, (World.cell?_of_block (w := V) (hg.block G hG (fun e => by injection e with e; omega))).trans e1, hI _ _ (h2 j hj) e2⟩
theorem own_desk {W : World} {base b n : Nat} {c : Array Value} {v : Value} {xs : List Value} (h : W.ownsRow base 9 1 v n xs) (hb : W.heap[b]? = some (.cells c 31 (0, 0))) (j : Nat) (x : Value) : (W.setCell ⟨b, j, none⟩ x).ownsRow base 9 1 v n xs := by
 refine h.kept (grownBy_setAt W b j x) ?_
 right
 rcases h.2 with ⟨rfl, _⟩ | ⟨g, cap, cur, rfl, _, hg, _⟩
 · simp [Value.ownBlock]
 · intro e
   simp only [Value.ownBlock, Option.some.injEq] at e
   subst e
   rw [hg] at hb
   injection hb with hb
   injection hb with _ hb
   exact absurd hb (by decide)
set_option maxRecDepth 100000 in
set_option maxHeartbeats 1000000 in
theorem specSay_no (x p ls : Value) (d : Dk) (L : List (List Nat)) (w : World) (hx : Ints w x d.1) (hp : PastI w p d.2) (hs : DkS d) (hb : deskB d = false ∨ 40 < L.length) (hls : LinesI w ls L) (hn : L.length ≤ 2000000) : Calls Tryz.prog 26 #[.agg #[x, p], ls] w fun e w' =>
 ∃ y u, e = .returned (.tuple #[y, u]) ∧ DeskI w' y ([], []) ∧ w'.ownsRow w.heap.size 9 1 u 0 [] ∧ Below w.heap.size w w' := by
 have hB0 : Below w.heap.size w ((w.alloc (.cells #[x, p] 31)).alloc (.cells #[.slice none 0 0, .slice none 0 0] 31)) := ((Below.refl _ w).alloc (Nat.le_refl _) _).alloc (by rw [World.size_alloc]; omega) _
 have hsz0 : ((w.alloc (.cells #[x, p] 31)).alloc (.cells #[.slice none 0 0, .slice none 0 0] 31)).heap.size = w.heap.size + 2 := by simp
 have k00 : ((w.alloc (.cells #[x, p] 31)).alloc (.cells #[.slice none 0 0, .slice none 0 0] 31)).heap[w.heap.size]? = some (.cells #[x, p] 31 (0, 0)) := (Below.heap_alloc _ _ _ (by rw [World.size_alloc]; omega)).trans (aN9 w _)
 have k10 := aN9 (w.alloc (.cells #[x, p] 31)) (.cells #[.slice none 0 0, .slice none 0 0] 31)
 rw [World.size_alloc] at k10
 obtain ⟨W0, hW0⟩ : ∃ W0, (w.alloc (.cells #[x, p] 31)).alloc (.cells #[.slice none 0 0, .slice none 0 0] 31) = W0 := ⟨_, rfl⟩
 rw [hW0] at hB0 hsz0 k00 k10
 have hB := hB0.alloc hB0.size (.cells #[] 9)
 have hBa := (Below.refl _ W0).alloc (Nat.le_refl _) (.cells #[] 9)
 have hmade : (W0.alloc (.cells #[] 9)).ownsRow (w.heap.size + 2) 9 1 (.slice (some ⟨W0.heap.size, 0, none⟩) 0 0) 0 [] := World.ownsRow_made _ _ _ (by omega) (by decide) rfl
 have k0 := (hBa.block _ (gE9.1 k00).1).trans k00
 have k1 := (hBa.block _ (gE9.1 k10).1).trans k10
 rw [hsz0] at hmade
 have hOK := specDeskOk (.agg #[x, p]) d _ ⟨x, p, rfl, hx.below hB, hp.below hB⟩ hs
 obtain ⟨W1, hW1⟩ : ∃ W1, W0.alloc (.cells #[] 9) = W1 := ⟨_, rfl⟩
 rw [hW1] at hB hmade k0 k1 hOK
 obtain ⟨xa, xc, rfl⟩ := hx.shape
 obtain ⟨pa, pc, rfl, _⟩ := id hp
 obtain ⟨la, lc, rfl, hlr⟩ := hls
 obtain ⟨N, hN⟩ : ∃ N, L.length = N := ⟨_, rfl⟩
 rw [hN] at hn hb ⊢
 obtain ⟨c0, c1, _, _⟩ := row_at k0
 have l0 := (gE9.1 k0).1
 have l1 := (gE9.1 k1).1
 have h40 : deskB d = true → (40 : Int) < (N : Int) := fun e => by
  rcases hb with h | h
  · rw [e] at h; cases h
  · omega
 have hmadeh := hide hmade
 clear hx hp hs hlr hb hBa k00 k10 hmade hB0
 cases hd : deskB d <;> rw [hd] at hOK h40
 all_goals
  have h40' := h40
  clear h40
  simp at h40'
  go_enter Tryz.func26, Tryz.ntmps26
  go_wp2_with (go_at_call 13; go_loud (refine hOK.mono ?_; clear hOK; rintro e W2 ⟨rfl, hB2⟩; have zres := (hB2.block _ l1).trans k1; obtain ⟨c0, c1, _, _⟩ := row_at ((hB2.block _ l0).trans k0); obtain ⟨r0, r1, f0, f1⟩ := row_at zres))
  (try simp only [Exit.inBlock, Exit.then])
  have hB3 := hB.trans (hB2.mono hB.size)
  have hz := hB2.size
  have ho := own_desk (own_desk (own_more hmadeh.out hB2) zres 0 (.slice none 0 0)) (set_cells zres 0 (.slice none 0 0)) 1 (.slice none 0 0)
  have ho2 : ((W2.setCell ⟨w.heap.size + 1, 0, none⟩ (.slice none 0 0)).setCell ⟨w.heap.size + 1, 1, none⟩ (.slice none 0 0)).ownsRow w.heap.size 9 1 (.slice (some ⟨w.heap.size + 2, 0, none⟩) 0 0) 0 [] := by
   rcases ho.2 with ⟨h, _⟩ | ⟨g, cap, cur, h, h1, h2⟩
   · cases h
   · exact ⟨rfl, .inr ⟨g, cap, cur, h, by omega, h2⟩⟩
  exact bodyPost_ret (results_desk2 rfl _ _ (w.heap.size + 1) _ _ rfl (desk_set zres (.slice none 0 0) (.slice none 0 0))) rfl ⟨_, .slice (some ⟨w.heap.size + 2, 0, none⟩) 0 0, rfl, ⟨_, _, rfl, Ints.none _ _ _, PastI.none _ _ _⟩, ho2, (hB3.setCell (p := ⟨w.heap.size + 1, 0, none⟩) (Nat.le_succ _) _).setCell (p := ⟨w.heap.size + 1, 1, none⟩) (Nat.le_succ _) _⟩
set_option maxRecDepth 100000 in
set_option maxHeartbeats 4000000 in
theorem specSay_in (x p ls : Value) (d : Dk) (L : List (List Nat)) (w : World) (hx : Ints w x d.1) (hp : PastI w p d.2) (hb : deskB d = true) (hl : L.length ≤ 40) (hls : LinesI w ls L) (hby : ∀ l ∈ L, (∀ c ∈ l, c < 256) ∧ l.length ≤ 1100000) : Calls Tryz.prog 26 #[.agg #[x, p], ls] w fun e w' =>
 ∃ y u, e = .returned (.tuple #[y, u]) ∧ DeskI w' y (sayL d L).1 ∧ w'.ownsRow w.heap.size 9 1 u L.length ((sayL d L).2.map txt) ∧ Below w.heap.size w w' := by
 have hB0 : Below w.heap.size w ((w.alloc (.cells #[x, p] 31)).alloc (.cells #[.slice none 0 0, .slice none 0 0] 31)) := ((Below.refl _ w).alloc (Nat.le_refl _) _).alloc (by rw [World.size_alloc]; omega) _
 have hsz0 : ((w.alloc (.cells #[x, p] 31)).alloc (.cells #[.slice none 0 0, .slice none 0 0] 31)).heap.size = w.heap.size + 2 := by simp
 have k00 : ((w.alloc (.cells #[x, p] 31)).alloc (.cells #[.slice none 0 0, .slice none 0 0] 31)).heap[w.heap.size]? = some (.cells #[x, p] 31 (0, 0)) := (Below.heap_alloc _ _ _ (by rw [World.size_alloc]; omega)).trans (aN9 w _)
 have k10 := aN9 (w.alloc (.cells #[x, p] 31)) (.cells #[.slice none 0 0, .slice none 0 0] 31)
 rw [World.size_alloc] at k10
 obtain ⟨W0, hW0⟩ : ∃ W0, (w.alloc (.cells #[x, p] 31)).alloc (.cells #[.slice none 0 0, .slice none 0 0] 31) = W0 := ⟨_, rfl⟩
 rw [hW0] at hB0 hsz0 k00 k10
 have hB := hB0.alloc hB0.size (.cells #[] 9)
 have hBa := (Below.refl _ W0).alloc (Nat.le_refl _) (.cells #[] 9)
 have hmade : (W0.alloc (.cells #[] 9)).ownsRow (w.heap.size + 2) 9 1 (.slice (some ⟨W0.heap.size, 0, none⟩) 0 0) 0 [] := World.ownsRow_made _ _ _ (by omega) (by decide) rfl
 have k0 := (hBa.block _ (gE9.1 k00).1).trans k00
 have k1 := (hBa.block _ (gE9.1 k10).1).trans k10
 have hsz : w.heap.size + 2 ≤ (W0.alloc (.cells #[] 9)).heap.size := by rw [World.size_alloc]; omega
 have km := aN9 W0 (.cells #[] 9)
 rw [hsz0] at hmade km
 have hOK := specDeskOk (.agg #[x, p]) d _ ⟨x, p, rfl, hx.below hB, hp.below hB⟩ (deskB_size hb)
 rw [hb] at hOK
 have hKp := fun V (hV : Below w.heap.size w V) => specCopy x p d V (hx.below hV) (hp.below hV) hb
 obtain ⟨W1, hW1⟩ : ∃ W1, W0.alloc (.cells #[] 9) = W1 := ⟨_, rfl⟩
 rw [hW1] at hB hmade k0 k1 hOK hsz km
 obtain ⟨xa, xc, rfl⟩ := hx.shape
 obtain ⟨pa, pc, rfl, _⟩ := id hp
 obtain ⟨la, lc, rfl, hlr⟩ := hls
 obtain ⟨N, hN⟩ : ∃ N, L.length = N := ⟨_, rfl⟩
 rw [hN] at hl hlr ⊢
 have hl' : ¬ (40 : Int) < (N : Int) := by omega
 obtain ⟨c0, c1, _, _⟩ := row_at k0
 have l0 := (gE9.1 k0).1
 have l1 := (gE9.1 k1).1
 have hmadeh := hide hmade
 clear hx hp hBa k00 k10 hmade hB0
 refine (cW9 (n := 9)).1 ?_
 refine callsIn_of_wp Tryz.func26 rfl trivial ?_ rfl
 simp only [Tryz.ntmps26, List.size_toArray, List.length_cons, List.length_nil, Nat.reduceAdd, Nat.reduceSub, Array.replicate_succ, Array.replicate_zero, List.push_toArray, List.append_toArray, List.nil_append, List.cons_append]
 gi_wp2_with fail
 refine ⟨trivial, ?_⟩
 gi_at_call 13
 refine (cW9.2 hOK).mono ?_
 rintro e W2 ⟨rfl, hB2⟩
 have hB02 := hB.trans (hB2.mono hB.size)
 have k02 := (hB2.block _ l0).trans k0
 have k12 := (hB2.block _ l1).trans k1
 have hsz2 := lT9 hsz hB2.size
 have ho2 := hide (own_more hmadeh.out hB2)
 have km2 := (hB2.block _ (gE9.1 km).1).trans km
 obtain ⟨c0, c1, _, _⟩ := row_at k02
 clear hOK hB2 k0 k1 l0 l1 hB hsz hW1 hW0 hmadeh hsz0 km
 gi_wp2_with fail
 refine ⟨trivial, ?_⟩
 gi_at_call 65
 refine (cW9.2 (hKp _ hB02)).mono ?_
 rintro e W3 ⟨y, q, rfl, hy, hq, hB3⟩
 have hdy : DeskI W3 (.agg #[y, q]) d := ⟨y, q, rfl, Ints.of_owns hy, hq.past⟩
 obtain ⟨y1, y2, rfl⟩ := own_form hy
 obtain ⟨y3, y4, rfl⟩ := hq.form
 have hB34 := (Below.refl _ W3).alloc (Nat.le_refl _) (.cells #[.slice y1 d.1.length y2, .slice y3 d.2.length y4] 31)
 have hB24 := hB3.trans (hB34.mono hB3.size)
 have kb := aN9 W3 (.cells #[.slice y1 d.1.length y2, .slice y3 d.2.length y4] 31)
 have hbl : w.heap.size + 2 ≤ W3.heap.size := lT9 hsz2 hB3.size
 obtain ⟨V0, hV0⟩ : ∃ V0, W3.alloc (.cells #[.slice y1 d.1.length y2, .slice y3 d.2.length y4] 31) = V0 := ⟨_, rfl⟩
 rw [hV0] at hB34 hB24 kb
 obtain ⟨b, hbe⟩ : ∃ b, W3.heap.size = b := ⟨_, rfl⟩
 rw [hbe] at kb hbl
 have hS0 : Ss w b d L 0 (.slice y1 d.1.length y2) (.slice y3 d.2.length y4) (.slice (some ⟨w.heap.size + 2, 0, none⟩) 0 0) V0 := ⟨hB02.trans (hB24.mono hB02.size), (hB24.block _ (gE9.1 k12).1).trans k12, kb, hbl, by rw [List.take_zero]; exact hdy.below hB34, by rw [List.take_zero]; exact own_more ho2.out hB24, fun _ => ⟨_, rfl, (hB24.block _ (gE9.1 km2).1).trans km2⟩⟩
 have hlen := hide (fun k => sayL_len (L.take k) d)
 clear hB02 k02 k12 hsz2 ho2 hy hq hB3 hdy hB34 hB24 kb hbl hKp c0 c1 km2
 gi_wp2
 gi_loopw [6, 8] (fun o i wr => ∃ (k : Nat) (x p : Value), k ≤ N ∧ i = .int .i64 k ∧ Ss w b d L k x p o wr) (fun _ i _ => N - (intOf i).toNat)
 case atStart => exact ⟨0, _, _, Nat.zero_le _, rfl, hS0⟩
 case round =>
  obtain ⟨k, u, q, hk, rfl, hSs⟩ := hrel
  clear hS0
  obtain ⟨rB, rres, rbox, rlt, rdesk, rout, rem⟩ := hSs
  by_cases hlt : k < N
  · have hki : (k : Int) < (N : Int) := by omega
    obtain ⟨g, ol, rfl, hg, hc⟩ := hlr (by omega)
    have e1 := hc k hlt
    have hmem : L.getD k [] ∈ L := by rw [List.getD, eG9 (by omega)]; exact List.getElem_mem _
    obtain ⟨hb1, hb2⟩ := hby _ hmem
    have hnx := say_next (d := d) (L := L) (k := k) (by omega)
    have hdb := sayL_desk (L.take k) d hb
    have hrow := say_rows hb (L.take (k + 1))
    have hrow1 := (sideB_len (deskB_is.1 (sayL_desk (L.take (k + 1)) d hb)).2.1).1
    obtain ⟨l, hl0⟩ : ∃ l, L.getD k [] = l := ⟨_, rfl⟩
    rw [hl0] at e1 hb1 hb2 hnx
    obtain ⟨⟨dk, A⟩, hdk⟩ : ∃ r, sayL d (L.take k) = r := ⟨_, rfl⟩
    rw [hdk] at rdesk hnx hdb rout
    simp only at rdesk hnx hdb rout
    obtain ⟨⟨D, tx⟩, hDt⟩ : ∃ r, lineV dk l = r := ⟨_, rfl⟩
    have hLine := fun V y (hy : DeskI V y dk) => specLine y dk l V hy (deskB_size hdb) hb1 hb2
    rw [hDt] at hLine hnx
    simp only at hLine hnx
    rw [hnx] at hrow hrow1
    simp only at hrow hrow1
    unfold txt at e1
    obtain ⟨X, hX⟩ : ∃ X, str l = X := ⟨_, rfl⟩
    obtain ⟨T, hT⟩ : ∃ T, str tx = T := ⟨_, rfl⟩
    rw [hX] at e1 hLine
    rw [hT] at hLine
    have hTt : txt tx = .string T := by unfold txt; rw [hT]
    have hnxh := hide hnx
    have hAl : A.length = k := by
     have := hlen.out k
     rw [hdk, List.length_take] at this
     simp only at this
     omega
    obtain ⟨ux, uq, eu, hu1, hu2⟩ := id rdesk
    injection eu with eu
    simp at eu
    obtain ⟨rfl, rfl⟩ := eu
    obtain ⟨q1, q2, rfl⟩ := hu1.shape
    obtain ⟨q3, q4, rfl, _⟩ := id hu2
    have lb := (gE9.1 rbox).1
    have hAt := hide (fun V (hV : Below wr.heap.size wr V) => And.intro (row_at ((hV.block _ lb).trans rbox)) ((hV.cell (p := ⟨g, ol + k, none⟩) (lL9 hg rB.size)).trans ((rB.cell (p := ⟨g, ol + k, none⟩) hg).trans e1)))
    have hLh := hide (fun V (hV : Below wr.heap.size wr V) => hLine V _ (rdesk.below hV))
    clear hX hT hDt hdk hl0 hnx hdb hmem hb1 hb2 hc hlr e1 hLine hu1 hu2 hlen hby
    gi_wp2
    refine wpIn_region_madeP 5 D.1.length D.2.length [(some 31, 0), (some 32, 1), (some 33, 2), (some 34, 3), (some 35, 4), (some 36, 5), (some 30, 6), (some 37, 7), (some 38, 8), (some 9, 9), (none, 10)] (.string T) (fun V y => DeskI V y D ∧ CapN wr.heap.size y) (by kernel_rfl) (by kernel_rfl) (by kernel_rfl) (by decide) (by kernel_rfl) (by kernel_rfl) (by rfl) (by decide)
     (fun i v V => match i with | 0 => v = .agg #[.slice q1 dk.1.length q2, .slice q3 dk.2.length q4] | 1 => v = .slice (some ⟨g, ol, none⟩) N lc | 2 => v = .int .i64 k | 3 => v = .pointer (some ⟨g, ol + k, none⟩) | 4 => v = .string X | _ => True)
     (fun i v V V' h hb => match i, h with | 0, h => h | 1, h => h | 2, h => h | 3, h => h | 4, h => h | (_ + 5), _ => trivial)
     (fun V V' y h hB => ⟨h.1.below hB, h.2⟩)
     (fun V b' a1 c1 a2 c2 h _ hz => ⟨deskI_store h.1 rfl hz hrow, h.2⟩)
     ?step ?call ?move ?ext0 ?ext1 ?allo ?stor ?tail
    case step =>
     rintro i oo s V hi ho hV hd Q' hQ
     obtain ⟨⟨m0, m1, _, _⟩, n0⟩ := hAt.out V hV
     rcases (show i = 0 ∨ i = 1 ∨ i = 2 ∨ i = 3 ∨ i = 4 by omega) with rfl | rfl | rfl | rfl | rfl
     all_goals
      simp at ho
      subst ho
      simp only [putsOf, Act.put, List.setIfInBounds_toArray, List.set_cons_succ, List.set_cons_zero] at hQ ⊢
      have hQ' := hide hQ
      clear hQ
     · clear hd
       gi_wp2
       exact hQ'.out _ _ (Below.refl _ _) rfl
     · clear hd
       gi_wp2
       exact hQ'.out _ _ (Below.refl _ _) rfl
     · clear hd
       gi_wp2
       exact hQ'.out _ _ (Below.refl _ _) rfl
     · have e1 : s 1 = .slice (some ⟨g, ol, none⟩) N lc := hd 1 (by decide) (by kernel_rfl)
       have e2 : s 2 = .int .i64 k := hd 2 (by decide) (by kernel_rfl)
       clear hd
       gi_wp2
       have hr := hQ'.out
       simp only [e1, e2] at hr ⊢
       exact hr _ _ (Below.refl _ _) rfl
     · have e1 : s 3 = .pointer (some ⟨g, ol + k, none⟩) := hd 3 (by decide) (by kernel_rfl)
       clear hd
       gi_wp2
       have hr := hQ'.out
       simp only [e1] at hr ⊢
       exact hr _ _ (Below.refl _ _) rfl
    case call =>
     rintro oo s V ho hV hd Q' hQ
     simp at ho
     subst ho
     simp only [putsOf, Act.put, List.setIfInBounds_toArray, List.set_cons_succ, List.set_cons_zero] at hQ ⊢
     have hQ' := hide hQ
     clear hQ
     have e1 : s 0 = .agg #[.slice q1 dk.1.length q2, .slice q3 dk.2.length q4] := hd 0 (by decide) (by kernel_rfl)
     have e2 : s 4 = .string X := hd 4 (by decide) (by kernel_rfl)
     have hS := hLh.out V hV
     have zV := hV.size
     clear hd
     gi_wp2_with (refine ⟨trivial, ?_⟩; gi_at_call 21; go_loud (refine (cW9.2 hS).mono ?_; rintro e W9 ⟨y9, rfl, hy9, hc9, hB9⟩))
     obtain ⟨v1, v2, rfl, hv1, hv2⟩ := id hy9
     obtain ⟨z1, z2, rfl⟩ := hv1.shape
     obtain ⟨z3, z4, rfl, _⟩ := id hv2
     have hr := hQ'.out
     simp only [e1, e2] at hr ⊢
     exact hr _ _ _ _ _ hB9 ⟨hy9, hc9.1, fun x g o t n c e => lT9 zV (hc9.2 x g o t n c e)⟩
    case move =>
     rintro oo s V y Q' ho hs hQ
     simp at ho
     subst ho
     simp only [putsOf, Act.put, List.setIfInBounds_toArray, List.set_cons_succ, List.set_cons_zero] at hQ ⊢
     have hQ' := hide hQ
     clear hQ
     gi_wp2
     have hr := hQ'.out
     simp only [hs] at hr ⊢
     exact hr
    case ext0 =>
     rintro oo s V y z Q' ho hs hQ
     simp at ho
     subst ho
     simp only [putsOf, Act.put, List.setIfInBounds_toArray, List.set_cons_succ, List.set_cons_zero] at hQ ⊢
     have hQ' := hide hQ
     clear hQ
     replace hs : s 6 = .tuple #[y, z] := hs
     gi_wp2
     have hr := hQ'.out
     simp only [hs] at hr ⊢
     exact hr
    case ext1 =>
     rintro oo s V y z Q' ho hs hQ
     simp at ho
     subst ho
     simp only [putsOf, Act.put, List.setIfInBounds_toArray, List.set_cons_succ, List.set_cons_zero] at hQ ⊢
     have hQ' := hide hQ
     clear hQ
     replace hs : s 6 = .tuple #[y, z] := hs
     gi_wp2
     have hr := hQ'.out
     simp only [hs] at hr ⊢
     exact hr
    case allo =>
     rintro oo s V Q' ho hQ
     simp at ho
     subst ho
     simp only [putsOf, Act.put, List.setIfInBounds_toArray, List.set_cons_succ, List.set_cons_zero] at hQ ⊢
     have hQ' := hide hQ
     clear hQ
     gi_wp2
     exact hQ'.out
    case stor =>
     rintro oo s V b' a1 c1 a2 c2 Q' ho hs1 hs2 hz hQ
     obtain ⟨z0, z1, z2, z3⟩ := row_at hz
     simp at ho
     subst ho
     simp only [putsOf, Act.put, List.setIfInBounds_toArray, List.set_cons_succ, List.set_cons_zero] at hQ ⊢
     have hQ' := hide hQ
     clear hQ
     replace hs1 : s 9 = .pointer (some ⟨b', 0, none⟩) := hs1
     replace hs2 : s 7 = .agg #[.slice a1 D.1.length c1, .slice a2 D.2.length c2] := hs2
     gi_wp2
     have hr := hQ'.out
     simp only [hs1, hs2] at hr ⊢
     exact hr
    case tail =>
     rintro s V b' a1 c1 a2 c2 hV f9 hb' hz ⟨hdI, hcN⟩ f8
     replace f9 : s 9 = .pointer (some ⟨b', 0, none⟩) := f9
     replace f8 : s 8 = .string T := f8
     have zbox := (hV.block _ lb).trans rbox
     have zres := (hV.block _ (gE9.1 rres).1).trans rres
     have zB := rB.trans (hV.mono rB.size)
     have zout := own_more rout hV
     obtain ⟨m0, m1, m2, m3⟩ := row_at zbox
     obtain ⟨n0, n1, _, _⟩ := row_at hz
     have dB := deskI_over (s1 := a1) (m1 := D.1.length) (e1 := c1) (s2 := a2) (m2 := D.2.length) (e2 := c2) hdI hcN.2 lb zbox
     have g0 := grownBy_setAt V b 0 (.slice a1 D.1.length c1)
     have g1 := grownBy_setAt (V.setCell ⟨b, 0, none⟩ (.slice a1 D.1.length c1)) b 1 (.slice a2 D.2.length c2)
     have zb2 := desk_set zbox (.slice a1 D.1.length c1) (.slice a2 D.2.length c2)
     have zr2 := (g1.block _ (lL9 (gE9.1 zres).1 g0.size) (fun e => by injection e with e; omega)).trans ((g0.block _ (gE9.1 zres).1 (fun e => by injection e with e; omega)).trans zres)
     have zB2 := (zB.setCell (p := ⟨b, 0, none⟩) (lT9 (by omega) rlt) (.slice a1 D.1.length c1)).setCell (p := ⟨b, 1, none⟩) (lT9 (by omega) rlt) (.slice a2 D.2.length c2)
     have zo2 := own_desk (own_desk zout zbox 0 (.slice a1 D.1.length c1)) (set_cells zbox 0 (.slice a1 D.1.length c1)) 1 (.slice a2 D.2.length c2)
     obtain ⟨V3, hV3⟩ : ∃ V3, (V.setCell ⟨b, 0, none⟩ (.slice a1 D.1.length c1)).setCell ⟨b, 1, none⟩ (.slice a2 D.2.length c2) = V3 := ⟨_, rfl⟩
     rw [hV3] at dB zb2 zr2 zB2 zo2
     have hsz3 := zB2.size
     obtain ⟨oa, oc, rfl⟩ := own_shape rout
     have hro := fun r e => (rout.lt r e).2
     have hr0 : ∃ r, (Value.slice oa k oc).ownBlock = some r ∧ ∀ i : Int, V3.cell? ⟨r, 0, none⟩ ≠ some (.int .i64 i) := by
      by_cases hk0 : k = 0
      · obtain ⟨g', e, hg'⟩ := rem hk0
        refine ⟨g', by rw [e]; rfl, fun i h => ?_⟩
        have hbg := (hV.block _ (gE9.1 hg').1).trans hg'
        have hne : g' ≠ b := fun e => by rw [e, zbox] at hbg; injection hbg with hbg; injection hbg with hbg; simp at hbg
        have hb3 := (g1.block _ (lL9 (gE9.1 hbg).1 g0.size) (fun e => by injection e with e; exact hne (by omega))).trans ((g0.block _ (gE9.1 hbg).1 (fun e => by injection e with e; exact hne (by omega))).trans hbg)
        rw [hV3] at hb3
        unfold World.cell? at h
        rw [hb3] at h
        simp at h
      · obtain ⟨g', cap, e, h1, h2, h3⟩ := texts_open zo2 (by omega)
        refine ⟨g', by rw [e]; rfl, fun i h => ?_⟩
        have hlA := hAl
        have h4 := h3 0 (txt (A.getD 0 [])) (by rw [List.getElem?_map, List.getD, eG9 (by omega)]; rfl)
        rw [h4] at h
        injection h with h
        exact absurd h (by unfold txt; simp)
     have hcN2 := hcN.2
     clear rem
     clear g0 g1 zbox zres zB zout hdI hcN hz hAt hLh rB rres rbox rdesk rout hV
     simp only [putsOf, Act.put, List.setIfInBounds_toArray, List.set_cons_succ, List.set_cons_zero]
     simp only [List.drop_succ_cons, List.drop_zero]
     simp only [f9, f8]
     have hs3 : w.heap.size + 2 ≤ V3.heap.size := by have := (gE9.1 zb2).1; omega
     gi_wp2_with (gi_at_builtin; go_loud (refine append_txt_in rfl _ _ rfl (w.heap.size + 2) (.slice oa k oc) k _ rfl zo2 rfl (by omega) hs3 ?_; intro v' w1 hown' hgrow hwhere))
     have hbA := (Below.refl _ V3).alloc (Nat.le_refl _) (.cells #[.string T] 9)
     have hob : ∀ r, (Value.slice oa k oc).ownBlock = some r → r < V3.heap.size ∧ w.heap.size + 2 ≤ r ∧ ∀ c : Array Value, V3.heap[r]? ≠ some (.cells c 31 (0, 0)) := fun r e => by
      have h1 := zo2.lt r e
      refine ⟨h1.2, h1.1, fun c hc => ?_⟩
      rcases zo2.2 with ⟨h, _⟩ | ⟨g', cap, cur, h, _, hg', _⟩
      · rw [h] at e; simp [Value.ownBlock] at e
      · rw [h] at e
        simp only [Value.ownBlock, Option.some.injEq] at e
        subst e
        rw [hc] at hg'
        injection hg' with hg'
        injection hg' with _ hg'
        exact absurd hg' (by decide)
     have keepB : ∀ (r : Nat) (c : Array Value), V3.heap[r]? = some (.cells c 31 (0, 0)) → w1.heap[r]? = some (.cells c 31 (0, 0)) := fun r c h => by
      have hlt := (gE9.1 h).1
      exact (hgrow.block r (by rw [World.size_alloc]; omega) (fun e => (hob r (by first | exact e | exact e.symm)).2.2 c h)).trans ((hbA.block r hlt).trans h)
     obtain ⟨r, hr1, hr2⟩ := hr0
     rw [hr1] at hgrow
     have dA := dB.below hbA
     have hrl := hob r hr1
     have hAc : ∀ i : Int, (V3.alloc (.cells #[.string T] 9)).cell? ⟨r, 0, none⟩ ≠ some (.int .i64 i) := fun i h => hr2 i ((World.cell?_of_block (w := V3) (hbA.block r hrl.1)).symm.trans h)
     have dF := deskI_txt dA hcN2 (hro r hr1) hrow1 hrow hAc hgrow
     have bF := (zB2.alloc zB2.size (.cells #[.string T] 9)).grown hgrow (by rw [World.size_alloc]; omega) (fun q e => by injection e with e; omega)
     have fin : Ss w b d L (k + 1) (.slice a1 D.1.length c1) (.slice a2 D.2.length c2) v' w1 := by
      refine ⟨bF, keepB _ _ zr2, keepB _ _ zb2, rlt, by rw [hnxh.out]; exact dF, ?_, fun h => by omega⟩
      rw [hnxh.out, List.map_append, List.map_cons, List.map_nil, hTt]
      exact hown'
     have finh := hide fin
     clear fin bF dF dA hob keepB hAc hr2 hr1 hbA dB zb2 zr2 zB2 zo2 hown' hgrow hwhere
     go_roundw
     case rel => exact ⟨k + 1, _, _, by omega, by go_num, finh.out⟩
     case measure => simp [intOf]; omega
  · obtain rfl : k = N := by omega
    have hki : ¬ (k : Int) < (k : Int) := by omega
    have ht : L.take k = L := by rw [← hN, List.take_length]
    rw [ht] at rdesk rout
    have hrow := say_rows hb L
    obtain ⟨ux, uy, eu, hu1, hu2⟩ := id rdesk
    injection eu with eu
    simp at eu
    obtain ⟨rfl, rfl⟩ := eu
    obtain ⟨q1, q2, rfl⟩ := hu1.shape
    obtain ⟨q3, q4, rfl, _⟩ := id hu2
    obtain ⟨oa, oc, rfl⟩ := own_shape rout
    obtain ⟨n1, hn1⟩ : ∃ n1, (sayL d L).1.1.length = n1 := ⟨_, rfl⟩
    obtain ⟨n2, hn2⟩ : ∃ n2, (sayL d L).1.2.length = n2 := ⟨_, rfl⟩
    have hown := hide (deskI_store rdesk rfl rres hrow)
    have ho1 := own_desk (own_desk rout rres 0 (.slice q1 n1 q2)) (set_cells rres 0 (.slice q1 n1 q2)) 1 (.slice q3 n2 q4)
    have ho2 : ((wr.setCell ⟨w.heap.size + 1, 0, none⟩ (.slice q1 n1 q2)).setCell ⟨w.heap.size + 1, 1, none⟩ (.slice q3 n2 q4)).ownsRow w.heap.size 9 1 (.slice oa k oc) k ((sayL d L).2.map txt) := by
     rcases ho1 with ⟨h0, h | ⟨g, cap, cur, h, h1, h2⟩⟩
     · exact ⟨h0, .inl h⟩
     · exact ⟨h0, .inr ⟨g, cap, cur, h, by omega, h2⟩⟩
    rw [hn1, hn2] at rdesk rbox hown
    obtain ⟨m0, m1, _, _⟩ := row_at rbox
    obtain ⟨r0, r1, f0, f1⟩ := row_at rres
    have hrs := hide (desk_set rres (.slice q1 n1 q2) (.slice q3 n2 q4))
    have hBl := hide ((rB.setCell (p := ⟨w.heap.size + 1, 0, none⟩) (Nat.le_succ _) (.slice q1 n1 q2)).setCell (p := ⟨w.heap.size + 1, 1, none⟩) (Nat.le_succ _) (.slice q3 n2 q4))
    have ho2h := hide ho2
    clear rB rdesk ht hlr hb hrow hu1 hu2 ho1 ho2 rout rem hby hlen
    gi_wp2
    (try simp only [Exit.inBlock, Exit.then])
    exact bodyPost_ret (results_desk2 rfl _ _ (w.heap.size + 1) _ _ rfl hrs.out) rfl ⟨_, .slice oa k oc, rfl, hown.out, ho2h.out, hBl.out⟩
theorem specSay (v ls : Value) (d : Dk) (L : List (List Nat)) (w : World) (hv : DeskI w v d) (hs : DkS d) (hls : LinesI w ls L) (hn : L.length ≤ 2000000) (hby : ∀ l ∈ L, (∀ c ∈ l, c < 256) ∧ l.length ≤ 1100000) :
 Calls Tryz.prog 26 #[v, ls] w fun e w' => ∃ y u, e = .returned (.tuple #[y, u]) ∧ DeskI w' y (sayV d L).1 ∧ w'.ownsRow w.heap.size 9 1 u (sayV d L).2.length ((sayV d L).2.map txt) ∧ Below w.heap.size w w' := by
 obtain ⟨x, p, rfl, hx, hp⟩ := hv
 by_cases h : deskB d = true ∧ L.length ≤ 40
 · unfold sayV
   rw [if_pos h, sayL_len]
   exact specSay_in x p ls d L w hx hp h.1 h.2 hls hby
 · unfold sayV
   rw [if_neg h]
   refine specSay_no x p ls d L w hx hp hs ?_ hls hn
   cases hb : deskB d with
   | false => exact .inl rfl
   | true =>
     right
     rcases Nat.lt_or_ge 40 L.length with h1 | h1
     · exact h1
     · exact absurd ⟨hb, h1⟩ h
end
section
open Go Go.RowKit Go.Shelf
attribute [local go_sem] Oper.semAt_some
theorem lines_take {W : World} {a : Option Addr} {n c : Nat} {L : List (List Nat)} (h : LinesI W (.slice a n c) L) (k : Nat) (hk : k ≤ L.length) : LinesI W (.slice a k c) (L.take k) := by
 obtain ⟨a', c', e, hr⟩ := h
 injection e with e1 e2 e3
 subst e1
 subst e3
 have hl : (L.take k).length = k := by rw [List.length_take]; omega
 refine ⟨a, c, by rw [hl], fun h0 => ?_⟩
 obtain ⟨g, o, e4, hg, hc⟩ := hr (by omega)
 refine ⟨g, o, e4, hg, fun j hj => ?_⟩
 have e5 : (L.take k).getD j [] = L.getD j [] := by rw [List.getD, List.getD, List.getElem?_take, if_pos (by omega)]
 rw [e5]
 exact hc j (by omega)
theorem lines_drop {W : World} {g n c m : Nat} {L : List (List Nat)} (h : LinesI W (.slice (some ⟨g, 0, none⟩) n c) L) (k : Nat) (hk : k ≤ L.length) : LinesI W (.slice (some ⟨g, k, none⟩) (L.length - k) m) (L.drop k) := by
 obtain ⟨a', c', e, hr⟩ := h
 injection e with e1 e2 e3
 subst e1
 have hl : (L.drop k).length = L.length - k := List.length_drop ..
 refine ⟨_, m, by rw [hl], fun h0 => ?_⟩
 obtain ⟨g', o, e4, hg, hc⟩ := hr (by omega)
 injection e4 with e4
 injection e4 with e4 e5
 subst e4 e5
 refine ⟨g, k, rfl, hg, fun j hj => ?_⟩
 have e5 : (L.drop k).getD j [] = L.getD (k + j) [] := by rw [List.getD, List.getD, List.getElem?_drop]
 rw [e5]
 have h1 := hc (k + j) (by omega)
 rw [Nat.zero_add] at h1
 exact h1
theorem say_halves (d : Dk) (L : List (List Nat)) (h : Nat) : (sayL (sayL d (L.take h)).1 (L.drop h)).1 = (sayL d L).1 ∧ (sayL d (L.take h)).2 ++ (sayL (sayL d (L.take h)).1 (L.drop h)).2 = (sayL d L).2 := by
 have h4 := sayL_app (L.take h) (L.drop h) d
 rw [List.take_append_drop] at h4
 rw [h4]
 exact ⟨rfl, rfl⟩
theorem sayV_yes {d : Dk} {L : List (List Nat)} (hb : deskB d = true) (hl : L.length ≤ 40) : sayV d L = sayL d L := by unfold sayV; rw [if_pos ⟨hb, hl⟩]
theorem implSay_yes (v ls : Value) (d : Dk) (L : List (List Nat)) (w : World) (hv : DeskI w v d) (hb : deskB d = true) (hl : L.length ≤ 40) (hls : LinesI w ls L) (hby : ∀ l ∈ L, (∀ c ∈ l, c < 256) ∧ l.length ≤ 1100000) (hE : Env w) :
 Calls Tryz.prog 25 #[v, ls] w fun e w' => ∃ y g, e = .returned (.tuple #[y, .slice (some ⟨g, 0, none⟩) L.length L.length]) ∧ OwnDk w' w.heap.size y (sayL d L).1 ∧ w'.ownsRow w.heap.size 9 1 (.slice (some ⟨g, 0, none⟩) L.length L.length) L.length ((sayL d L).2.map txt) ∧ Below w.heap.size w w' := by
 obtain ⟨x, p, rfl, hx, hp⟩ := hv
 exact implSay_in x p ls d L w hx hp hb hl hls hby hE
end
section
open Go Go.RowKit
def MadeT0 (c n1 n2 b0 : Nat) (ζ : World → Value → Prop) (R : World → Value → Prop) (pre : Nat → Value → World → Prop) (i : Nat) (v : Value) (V : World) : Prop :=
 (i < c → pre i v V) ∧ (i = c ∨ i = c + 1 → ∃ a1 c1 a2 c2 z, v = .tuple #[.agg #[.slice a1 n1 c1, .slice a2 n2 c2], z] ∧ R V (.agg #[.slice a1 n1 c1, .slice a2 n2 c2]) ∧ ζ V z) ∧
 (i = c + 2 → ∃ a1 c1 a2 c2, v = .agg #[.slice a1 n1 c1, .slice a2 n2 c2] ∧ R V (.agg #[.slice a1 n1 c1, .slice a2 n2 c2])) ∧ (i = c + 3 → ζ V v) ∧
 (i = c + 4 → ∃ b, v = .pointer (some ⟨b, 0, none⟩) ∧ b0 ≤ b ∧ V.heap[b]? = some (.cells #[.slice none 0 0, .slice none 0 0] 31 (0, 0)))
def MadeT1 (c n1 n2 b0 : Nat) (ζ : World → Value → Prop) (R : World → Value → Prop) (i : Nat) (v : Value) (V : World) : Prop :=
 (i = c + 1 → ∃ x z, v = .tuple #[x, z] ∧ ζ V z) ∧ (i = c + 3 → ζ V v) ∧
 (i = c + 4 → ∃ b, v = .pointer (some ⟨b, 0, none⟩) ∧ b0 ≤ b ∧ ∃ a1 c1 a2 c2, V.heap[b]? = some (.cells #[.slice a1 n1 c1, .slice a2 n2 c2] 31 (0, 0)) ∧ R V (.agg #[.slice a1 n1 c1, .slice a2 n2 c2]))
end
end Go.Proofs.YtiaaefapbcjgmaaGreatDoor
