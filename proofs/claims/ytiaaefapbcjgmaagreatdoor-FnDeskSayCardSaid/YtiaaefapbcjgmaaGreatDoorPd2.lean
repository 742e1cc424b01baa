/-
 Parts of the proofs, laid together: D12Z, I12Z, SideZ.
-/
import Derived.WalkKit
import Derived.Laws.Concat
import Derived.Laws.Strings2
import Derived.OrdersIn
import Derived.TacticsIn
import Derived.Test.YtiaaefapbcjgmaaGreatDoorProg
import Derived.OwnWalkIn
import Derived.Deep.RegionLaw
import Derived.RangeFuncBox
import Derived.Laws.DeepStrings4
import Derived.Laws.Cover1
import Derived.Maps.AppendAt
import Derived.WalkSpells
import Derived.RangeFuncNested
import Derived.RangeFuncBound
import Derived.RangeFuncCalls
import Derived.RangeFuncLeaves
import Derived.BigRegion
import Derived.Shelf.Abstract
import Derived.Shelf.RegionOpen
import Derived.TacticsInMore
import Derived.LoopNIn
import Derived.LoopIn
import Derived.Deep.QuietTactic
import Derived.BigQuiet
import Derived.Below
import Derived.Laws.BytesString
import Derived.Deep.RegionWith
import Derived.DeepKeys5
import Derived.Maps.Keyed
import Derived.Deep.DeepCutAuto
import Derived.Laws.AppendOwnNone
import Derived.Laws.CopyOwn
import Derived.StillTailTactics
import Derived.Maps.OwnSet
import Derived.Laws.Bits64
import Derived.Laws.Bits64b
import Derived.Lib.AppendZeros
import Derived.Lib.AppendZerosOnto
import Derived.Test.YtiaaefapbcjgmaaGreatDoorPd0
import Derived.Test.YtiaaefapbcjgmaaGreatDoorPd1
namespace Go.Proofs.YtiaaefapbcjgmaaGreatDoor
section
open Go.RowKit
set_option maxHeartbeats 4000000 in
theorem specEnd10 (v : Value) (xs : List Int) (w : World) (hv : Ints w v xs) (hlies : Lies v) (hl : xs.length ≤ 10000000) : Calls Tryz.prog 70 #[v] w fun e w' =>
 e = .returned (.tuple #[.int .i64 (endI xs), .bool (endB xs)]) ∧ Below w.heap.size w w' := by
 have hmade : (w.alloc (.cells #[] 3)).ownsRow w.heap.size 3 1 (.slice (some ⟨w.heap.size, 0, none⟩) 0 0) 0 [] := World.ownsRow_made _ _ _ (Nat.le_refl _) (by decide) rfl
 have hA : Below w.heap.size w (w.alloc (.cells #[] 3)) := (Below.refl _ w).alloc (Nat.le_refl _) _
 have hvA := hv.below hA
 obtain ⟨a, c, rfl⟩ := hv.shape
 cases hside : ringB xs with
 | false =>
   rw [(endN_no hside).1, (endN_no hside).2]
   go_enter Tryz.func70, Tryz.ntmps70
   go_wp2_with (at_builtin; refine append_ints rfl _ _ rfl w.heap.size _ 0 [] rfl hmade _ xs rfl hvA hlies (by omega) (by simp) ?_; intro nw w2 hnw hgr2)
   rw [Nat.zero_add, List.nil_append] at hnw
   have hB2 : Below w.heap.size w w2 := hA.grown hgr2 hA.size (fun k e => by cases e; exact Nat.le_refl _)
   have hS := specRing nw xs w2 (Ints.of_owns hnw) (by omega)
   rw [hside] at hS
   obtain ⟨a1, c1, rfl⟩ := own_form hnw
   clear hnw hv hvA hlies hside hmade hA hgr2
   refine wp_loop_rounds 1 ?_
   rw [rounds_succ]
   go_wp2_with (go_at_call 110; refine hS.mono ?_; clear hS; rintro e w' ⟨rfl, rfl⟩)
   go_ret2
   exact ⟨rfl, hB2⟩
 | true =>
   have hlen := ringB_len hside
   have hf := ringF_le hside
   have hp := ringF_per (xs := xs)
   have hz := rgL_self hside
   have hat := fun {r : Nat} h1 h2 h3 => endN_at hside (r := r) h1 h2 h3
   have hnone := fun h3 => endN_none hside h3
   clear hside hv
   generalize ringF xs = f at *
   obtain ⟨n, hn⟩ : ∃ n, xs.length = n := ⟨_, rfl⟩
   rw [hn] at hlen hp hz hvA hlies hat hnone ⊢
   have hl8 : xs.length ≤ 8 := by omega
   obtain ⟨I, hI⟩ : ∃ I, endI xs = I := ⟨_, rfl⟩
   obtain ⟨B, hBB⟩ : ∃ B, endB xs = B := ⟨_, rfl⟩
   simp only [hI, hBB] at hat hnone ⊢
   clear hn hI hBB
   go_enter Tryz.func70, Tryz.ntmps70
   go_wp2_with (at_builtin; refine append_ints rfl _ _ rfl w.heap.size _ 0 [] rfl hmade _ xs rfl hvA hlies (by omega) (by simp) ?_; intro nw w2 hnw hgr2)
   rw [Nat.zero_add, List.nil_append] at hnw
   have hB2 : Below w.heap.size w w2 := hA.grown hgr2 hA.size (fun k e => by cases e; exact Nat.le_refl _)
   rw [← hz] at hnw
   rw [rgL_len] at hnw
   clear hz hvA hlies hl hmade hA hgr2 hl8
   go_loopw [4, 5] (fun o i wr => ∃ k : Nat, k ≤ 2001 ∧ i = .int .i64 k ∧ wr.ownsRow w.heap.size 3 1 o n ((rgL (dR f k) n).map (Value.int .i64)) ∧ Below w.heap.size w wr ∧ Hid (∀ j, j < k → ¬ ∀ q, q < n → dR f j q = 0)) (fun _ i _ => 2001 - (intOf i).toNat)
   case atStart => exact ⟨0, by omega, rfl, hnw, hB2, hide (fun j hj => by omega)⟩
   case round =>
    clear hnw hB2
    obtain ⟨k, hk, rfl, hown, hB, hfirst⟩ := hrel
    obtain ⟨ao, co, rfl⟩ := own_form hown
    by_cases hlt : k < 2001
    · have hki : (k : Int) ≤ 2000 := by omega
      have hin := Ints.of_owns hown
      have hS := specRing _ _ wr hin (by rw [rgL_len]; omega)
      rw [rgL_ring (hundred hf k) n hlen.1 hlen.2] at hS
      have hD := specRound _ _ wr hin (by rw [rgL_len]; omega)
      rw [roundV_rgL (hundred hf k) hlen.1 hlen.2 (per_dR hp k), dR_next, rgL_len] at hD
      obtain ⟨g, cg, eg, hg, hc⟩ := hin.cells (by rw [rgL_len]; omega)
      rw [rgL_len] at eg hc
      injection eg with eg1 _ eg2
      subst eg1 eg2
      have hc' : ∀ i, i < n → wr.cell? ⟨g, i, none⟩ = some (.int .i64 (dR f k i : Nat)) := fun i hi => by rw [hc i hi, rgL_getD _ _ _ hi]
      have hb := hundred hf k
      have hml := mostF_le hb
      have hmz := mostF_zero (f := dR f k) (n := n)
      clear hc hin
      obtain ⟨h, hh⟩ : ∃ h, dR f k = h := ⟨_, rfl⟩
      rw [hh] at hc' hb hml hmz
      go_wp2_with (go_at_call 110; refine hS.mono ?_; clear hS; rintro e w' ⟨rfl, rfl⟩)
      go_loop [6, 7] (fun o i => ∃ j : Nat, j ≤ n ∧ i = .int .i64 j ∧ o = .int .i64 (mostF h j : Nat)) (fun _ i => n - (intOf i).toNat)
      case atStart => exact ⟨0, by omega, rfl, rfl⟩
      case round =>
       obtain ⟨j, hj, rfl, rfl⟩ := hrel
       have hmj := hml j
       by_cases hjl : j < n
       · have hcj := hc' j hjl
         have hbj := hb j
         have hms : ((mostF h (j + 1) : Nat) : Int) = if mostF h j < h j then (h j : Int) else (mostF h j : Int) := by
          show ((max (mostF h j) (h j) : Nat) : Int) = _
          split <;> omega
         have hms' := hide hms
         have hji : (j : Int) < (n : Int) := by omega
         clear hc' hb hml hmz hms hD hat hnone
         generalize h j = z at *
         generalize mostF h j = s at *
         go_wp2
         go_round
         case rel => exact ⟨j + 1, by omega, by go_num, by rw [hms'.out]⟩
         case measure => simp [intOf]; omega
       · obtain rfl : j = n := by omega
         by_cases hm0 : mostF h j = 0
         · obtain ⟨hI, hB2⟩ := hat (r := k) (by omega) (by rw [hh]; exact hmz.1 hm0) hfirst.out
           subst hI hB2
           clear hc' hb hml hmz hD hat hnone
           generalize mostF h j = s at *
           subst hm0
           go_wp2
           go_ret2
           exact ⟨rfl, hB⟩
         · have hmi : ((mostF h j : Nat) : Int) ≠ 0 := by omega
           have hmb : (((mostF h j : Nat) : Int) == 0) = false := by rw [beq_eq_false_iff_ne]; exact hmi
           have hfirst' : Hid (∀ i, i < k + 1 → ¬ ∀ q, q < j → dR f i q = 0) := hide (fun i hi => by
            by_cases e : i = k
            · subst e; rw [hh]; exact fun h => hm0 (hmz.2 h)
            · exact hfirst.out i (by omega))
           clear hc' hb hml hmz hat hnone
           generalize mostF h j = s at *
           go_wp2_with (go_at_call 111; refine hD.mono ?_; clear hD; rintro e w3 ⟨u, rfl, hown3, hB3⟩)
           go_roundw
           case rel => exact ⟨k + 1, by omega, by go_num, owns_from hown3 hB.size, hB.trans (hB3.mono hB.size), hfirst'⟩
           case measure => simp [intOf]; omega
    · obtain rfl : k = 2001 := by omega
      obtain ⟨hI, hB2⟩ := hnone fun j hj => hfirst.out j (by omega)
      subst hI hB2
      clear hat hnone hf hp
      go_wp2
      go_ret2
      exact ⟨rfl, hB⟩
theorem ints_form {w : World} {v : Value} {xs : List Int} (h : Ints w v xs) : ∃ a c, v = .slice a xs.length c := by
 rcases h with ⟨a, c, rfl, rfl⟩ | ⟨g, cap, rfl, _⟩
 · exact ⟨_, _, rfl⟩
 · exact ⟨_, _, rfl⟩
theorem ints_open {w : World} {v : Value} {xs : List Int} (h : Ints w v xs) (h0 : 1 ≤ xs.length) : ∃ g cap, v = .slice (some ⟨g, 0, none⟩) xs.length cap ∧ g < w.heap.size ∧ ∀ i, i < xs.length → w.cell? ⟨g, i, none⟩ = some (.int .i64 (xs.getD i 0)) := by
 rcases h with ⟨a, c, rfl, rfl⟩ | ⟨g, cap, rfl, hg, hc⟩
 · simp at h0
 · exact ⟨g, cap, rfl, hg, hc⟩
def withB (xs : List Int) (C : Nat) (M : Int) : Bool := decide (1 ≤ xs.length ∧ xs.length ≤ C) && xs.all (fun x => decide (0 ≤ x ∧ x ≤ M))
theorem withB_short {xs : List Int} {C : Nat} {M : Int} (h : xs.length < 1 ∨ C < xs.length) : withB xs C M = false := by
 unfold withB
 rw [Bool.and_eq_false_iff]
 exact .inl (by simp; omega)
theorem withB_not {xs : List Int} {C : Nat} {M : Int} {i : Nat} (hi : i < xs.length) (h : ¬ (0 ≤ xs.getD i 0 ∧ xs.getD i 0 ≤ M)) : withB xs C M = false := by
 unfold withB
 rw [Bool.and_eq_false_iff]
 refine .inr ?_
 rw [List.all_eq_false]
 refine ⟨xs[i], List.getElem_mem hi, ?_⟩
 rw [List.getD, eG9 hi] at h
 simpa using h
theorem withB_of {xs : List Int} {C : Nat} {M : Int} (h1 : 1 ≤ xs.length) (h2 : xs.length ≤ C) (h : ∀ i, i < xs.length → 0 ≤ xs.getD i 0 ∧ xs.getD i 0 ≤ M) : withB xs C M = true := by
 unfold withB
 rw [Bool.and_eq_true, List.all_eq_true]
 refine ⟨by simp; omega, fun x hx => ?_⟩
 obtain ⟨i, hi, rfl⟩ := List.mem_iff_getElem.1 hx
 have := h i hi
 rw [List.getD, eG9 hi] at this
 simpa using this
set_option maxHeartbeats 400000 in
theorem allWithin_in (v : Value) (xs : List Int) (C : Nat) (M : Int) (w : World) (hv : Ints w v xs) (hC : C ≤ 1000000) (hl : xs.length ≤ 1000000000) : Calls Tryz.prog 120 #[v, .int .i64 C, .int .i64 M] w fun e w' => e = .returned (.bool (withB xs C M)) ∧ w = w' := by
 by_cases h : xs.length < 1 ∨ C < xs.length
 · obtain ⟨a, c, rfl⟩ := ints_form hv
   have hr := hide (withB_short (M := M) h)
   clear hv
   generalize xs.length = nx at *
   by_cases h1 : nx < 1
   · clear h
     go_enter Tryz.func120, Tryz.ntmps120
     go_wp2
     go_ret
     exact ⟨by rw [hr.out]; rfl, rfl⟩
   · have h2 : ¬ (nx : Int) < 1 := by omega
     have h3 : (C : Int) < nx := by omega
     clear h
     go_enter Tryz.func120, Tryz.ntmps120
     go_wp2
     go_ret
     exact ⟨by rw [hr.out]; rfl, rfl⟩
 · obtain ⟨gx, cx, rfl, hgx, hcx⟩ := ints_open hv (by omega)
   clear hv
   have hno : ∀ i, i < xs.length → ¬ (0 ≤ xs.getD i 0 ∧ xs.getD i 0 ≤ M) → withB xs C M = false := fun i hi h => withB_not hi h
   have hyes : (∀ i, i < xs.length → 0 ≤ xs.getD i 0 ∧ xs.getD i 0 ≤ M) → withB xs C M = true := fun h0 => withB_of (by omega) (by omega) h0
   obtain ⟨nx, hnx⟩ : ∃ n, xs.length = n := ⟨_, rfl⟩
   rw [hnx] at h hcx hno hyes ⊢
   have h2 : ¬ (nx : Int) < 1 := by omega
   have h3 : ¬ (C : Int) < nx := by omega
   have hb : nx ≤ 1000000 := by omega
   clear hnx hl
   go_enter Tryz.func120, Tryz.ntmps120
   go_wp2
   go_loop [20] (fun n => ∃ k : Nat, k ≤ nx ∧ n = .int .i64 k ∧ Hid (∀ i, i < k → 0 ≤ xs.getD i 0 ∧ xs.getD i 0 ≤ M)) (fun n => nx - (intOf n).toNat)
   case atStart => exact ⟨0, by omega, rfl, hide (fun i hi => by omega)⟩
   case round =>
    obtain ⟨k, hk, rfl, hxk⟩ := hrel
    by_cases hlt : k < nx
    · have hc := hcx k hlt
      have hki : (k : Int) < (nx : Int) := by omega
      by_cases hxo : 0 ≤ xs.getD k 0 ∧ xs.getD k 0 ≤ M
      · have hxk' : Hid (∀ i, i < k + 1 → 0 ≤ xs.getD i 0 ∧ xs.getD i 0 ≤ M) := hide (fun i hi => by
       by_cases e : i = k
       · subst e; exact hxo
       · exact hxk.out i (by omega))
        obtain ⟨z, hz⟩ : ∃ z, xs.getD k 0 = z := ⟨_, rfl⟩
        rw [hz] at hc hxo
        obtain ⟨hz1, hz2⟩ := hxo
        clear hz hcx hxk hno hyes
        go_wp2_with (go_at_call 55; refine (within_t _ _ _ (by assumption) (by assumption)).mono ?_; rintro e w' ⟨rfl, rfl⟩)
        go_round
        case rel => exact ⟨k + 1, by omega, by go_num, hxk'⟩
        case measure => simp [intOf]; omega
      · have hr := hide (hno k hlt hxo)
        obtain ⟨z, hz⟩ : ∃ z, xs.getD k 0 = z := ⟨_, rfl⟩
        rw [hz] at hc hxo
        have hzb : z < 0 ∨ M < z := by omega
        clear hz hcx hxk hxo hno hyes
        go_wp2_with (go_at_call 55; refine (within_f _ _ _ (by assumption)).mono ?_; rintro e w' ⟨rfl, rfl⟩)
        go_ret
        exact ⟨by rw [hr.out]; rfl, rfl⟩
    · obtain rfl : k = nx := by omega
      have hr := hide (hyes hxk.out)
      clear hcx hxk hno hyes
      go_wp2
      go_ret
      exact ⟨by rw [hr.out]; rfl, rfl⟩
end
section
open Go.RowKit Go.BigFrame
def cz (f : Nat → Nat) (n i : Nat) : Nat := if i < n then f i else 0
theorem cz_in {f : Nat → Nat} {n i : Nat} (h : i < n) : cz f n i = f i := if_pos h
def crA (g : Nat → Nat) (n : Nat) : Array Value := #[.int .i64 (g 0 : Nat), .int .i64 (g 1 : Nat), .int .i64 (g 2 : Nat), .int .i64 (g 3 : Nat), .int .i64 (g 4 : Nat), .int .i64 (g 5 : Nat), .int .i64 (g 6 : Nat), .int .i64 (g 7 : Nat), .int .i64 n]
def crV (g : Nat → Nat) (n : Nat) : Value := .agg (crA g n)
theorem crA_at (g : Nat → Nat) (n : Nat) {i : Nat} (h : i < 8) : (crA g n)[i]? = some (.int .i64 (g i : Nat)) := by
 match i, h with
 | 0, _ => rfl
 | 1, _ => rfl
 | 2, _ => rfl
 | 3, _ => rfl
 | 4, _ => rfl
 | 5, _ => rfl
 | 6, _ => rfl
 | 7, _ => rfl
theorem crA_count (g : Nat → Nat) (n : Nat) : (crA g n)[8]? = some (.int .i64 n) := rfl
theorem crA_set (g : Nat → Nat) (n : Nat) {k : Nat} (h : k < 8) (z : Nat) : (crA g n).setIfInBounds k (.int .i64 (z : Nat)) = crA (fun i => if i = k then z else g i) n := by
 match k, h with
 | 0, _ => rfl
 | 1, _ => rfl
 | 2, _ => rfl
 | 3, _ => rfl
 | 4, _ => rfl
 | 5, _ => rfl
 | 6, _ => rfl
 | 7, _ => rfl
theorem crA_congr {g h : Nat → Nat} (n : Nat) (e : ∀ i, i < 8 → g i = h i) : crA g n = crA h n := by
 unfold crA
 rw [e 0 (by omega), e 1 (by omega), e 2 (by omega), e 3 (by omega), e 4 (by omega), e 5 (by omega), e 6 (by omega), e 7 (by omega)]
def CrAt (W : World) (b : Nat) (g : Nat → Nat) (n : Nat) : Prop := W.heap[b]? = some (.cells (crA g n) 158 (0, 0))
theorem CrAt.lt {W : World} {b n : Nat} {g : Nat → Nat} (h : CrAt W b g n) : b < W.heap.size := (gE9.1 h).1
theorem CrAt.cell {W : World} {b n : Nat} {g : Nat → Nat} (h : CrAt W b g n) {i : Nat} (hi : i < 8) : W.cell? ⟨b, i, none⟩ = some (.int .i64 (g i : Nat)) := by
 simp [World.cell?, show W.heap[b]? = _ from h, crA_at g n hi]
theorem CrAt.count {W : World} {b n : Nat} {g : Nat → Nat} (h : CrAt W b g n) : W.cell? ⟨b, 8, none⟩ = some (.int .i64 n) := by
 simp [World.cell?, show W.heap[b]? = _ from h, crA_count g n]
theorem CrAt.frozen {W : World} {b n : Nat} {g : Nat → Nat} (h : CrAt W b g n) (i : Nat) : W.frozen? ⟨b, i, none⟩ = false := by simp [World.frozen?, show W.heap[b]? = _ from h]
theorem CrAt.new (W : World) (g : Nat → Nat) (n : Nat) : CrAt (W.alloc (.cells (crA g n) 158)) W.heap.size g n := aN9 W _
theorem CrAt.of_block {W W' : World} {b n : Nat} {g : Nat → Nat} (h : CrAt W b g n) (hb : W'.heap[b]? = W.heap[b]?) : CrAt W' b g n := hb.trans h
theorem CrAt.kept {W W' : World} {row : Option Nat} {b n : Nat} {g : Nat → Nat} (h : CrAt W b g n) (hg : W.grownBy W' row) (hne : some b ≠ row) : CrAt W' b g n := (hg.block b h.lt hne).trans h
theorem CrAt.alloc {W : World} {b n : Nat} {g : Nat → Nat} (h : CrAt W b g n) (o : Obj) : CrAt (W.alloc o) b g n := h.kept (World.grownBy_alloc W o none) (by simp)
theorem cr_block {W : World} {b : Nat} {cur : Array Value} {t : TypeId} (h : W.heap[b]? = some (.cells cur t (0, 0))) (p : Nat) (v : Value) : (W.setCell ⟨b, p, none⟩ v).heap[b]? = some (.cells (cur.setIfInBounds p v) t (0, 0)) := by
 obtain ⟨hlt, hk⟩ := gE9.1 h
 show (W.heap.modify b _)[b]? = _
 rw [Array.getElem?_eq_getElem (by rw [Array.size_modify]; exact hlt), Array.getElem_modify_self, hk]; rfl
theorem CrAt.set {W : World} {b n : Nat} {g : Nat → Nat} (h : CrAt W b g n) {k : Nat} (hk : k < 8) (z : Nat) : CrAt (W.setCell ⟨b, k, none⟩ (.int .i64 (z : Nat))) b (fun i => if i = k then z else g i) n := by
 have := cr_block h k (.int .i64 (z : Nat))
 rwa [crA_set g n hk z] at this
theorem CrAt.congr {W : World} {b n : Nat} {g h : Nat → Nat} (c : CrAt W b g n) (e : ∀ i, i < 8 → g i = h i) : CrAt W b h n := by
 unfold CrAt at *
 rw [c, crA_congr n e]
theorem kindCircle : Tryz.prog.underlying 158 = some (.struct ((match Tryz.prog.underlying 158 with | some (.struct fs) => fs | _ => #[]))) := by kernel_rfl
theorem sizeCircle (g : Nat → Nat) (n : Nat) : (Tryz.prog.info? 158).map (·.size) = some (crA g n).size := show (Tryz.prog.info? 158).map (·.size) = some 9 by kernel_rfl
theorem crA_one (g : Nat → Nat) (n : Nat) : (crA g n).all (·.oneCell') = true := by simp [crA, Value.oneCell']
theorem results_circle {fn : Func} {p : Tmp} (h : fn.results = #[.cell p 158]) (tmps : Array Value) (w : World) (b : Nat) (g : Nat → Nat) (n : Nat) (hp : tmps.getD p undef = .pointer (some ⟨b, 0, none⟩)) (hs : CrAt w b g n) :
 (results fn tmps).run Tryz.prog w = .ok (crV g n) w :=
 results_cell_row h tmps w b _ _ _ _ hp hs kindCircle rfl (sizeCircle g n)
variable {ops : Array Oper} {rest : List Oper} {o : Oper} {a : Act} {w : World} {Q : Exit → Act → World → Prop}
theorem load_cr (hgd : o.guard = none) (x : Operand) (ho : o.op = .load 158 x) (b : Nat) (hx : a.eval x = .pointer (some ⟨b, 0, none⟩)) {g : Nat → Nat} {n : Nat} (hg : CrAt w b g n)
 (h : wpList Tryz.prog ops Q rest (a.put o.dst (crV g n)) w) : wpList Tryz.prog ops Q (o :: rest) a w :=
 wpList_load_row hgd _ x ho b hx _ _ _ _ hg kindCircle rfl (sizeCircle g n) h
theorem grown_setRow (w : World) (b : Nat) (cs : Array Value) : w.grownBy (w.setRow b cs) (some b) := ⟨rfl, rfl, rfl, by simp [World.setRow], fun k _ hk => setRow_other w b k cs (fun e => hk (by rw [e]))⟩
theorem store_cr (hgd : o.guard = none) (x y : Operand) (ho : o.op = .store 158 x y) (b : Nat) (g : Nat → Nat) (n : Nat) (hx : a.eval x = .pointer (some ⟨b, 0, none⟩)) (hy : a.eval y = crV g n)
 {old : Array Value} (hb : w.heap[b]? = some (.cells old 158 (0, 0))) (hs : old.size = 9)
 (h : ∀ w', CrAt w' b g n → w.grownBy w' (some b) → wpList Tryz.prog ops Q rest (a.put o.dst undef) w') : wpList Tryz.prog ops Q (o :: rest) a w :=
 wpList_store_row hgd _ x y ho b (crA g n) hx hy _ old hb (sizeCircle g n) hs (crA_one g n) (h _ (setRow_heap w b old _ _ _ hb) (grown_setRow w b _))
theorem box_cr (hgd : o.guard = none) (x : Operand) (ho : o.op = .box 158 x) (g : Nat → Nat) (n : Nat) (hx : a.eval x = crV g n)
 (h : wpList Tryz.prog ops Q rest (a.put o.dst (.pointer (some ⟨w.heap.size, 0, none⟩))) (w.alloc (.cells (crA g n) 158))) : wpList Tryz.prog ops Q (o :: rest) a w := by
 refine wpList_plain hgd fun K hK => ?_
 unfold Oper.wp execOp
 have hr : (newVar 158 (crV g n)).run Tryz.prog w = .ok ⟨w.heap.size, 0, none⟩ (w.alloc (.cells (crA g n) 158)) := by
  unfold crV
  go_simp
 simp only [ho, hx, Instr.box, Sem.run_bind, hr, Result.andThen_ok, Sem.run_pure]
 exact hK _ _ h
end
section
open Go.RowKit
theorem arrT : Tryz.prog.underlying 156 = some (.array 8 3) := by kernel_rfl
theorem laidOut10 : laidOutB Tryz.prog = true := by kernel_rfl
theorem keyedArr : Maps.Keyed Tryz.prog 156 := Maps.Keyed.of_law (deep_law_gate laidOut10 (of_decide_eq_true (by kernel_rfl)) (of_decide_eq_true (by kernel_rfl)) (by kernel_rfl) (by kernel_rfl))
theorem wf_small {x : Nat} (h : x ≤ 1000000) : (Lit.int .i64 (x : Nat)).wf = true := WalkArith.wf_i64 (by constructor <;> omega)
theorem types_four : ∃ d, Tryz.prog.types.size + 1 = d + 4 := ⟨Tryz.prog.types.size - 3, by have : 4 ≤ Tryz.prog.types.size := of_decide_eq_true (by kernel_rfl); omega⟩
theorem key_arr (g : Nat → Nat) (hg : ∀ i, i < 8 → g i ≤ 1000000) : ∃ l, keyOf Tryz.prog 156 (.agg #[.int .i64 (g 0 : Nat), .int .i64 (g 1 : Nat), .int .i64 (g 2 : Nat), .int .i64 (g 3 : Nat), .int .i64 (g 4 : Nat), .int .i64 (g 5 : Nat), .int .i64 (g 6 : Nat), .int .i64 (g 7 : Nat)]) = some l := by
 obtain ⟨d, hd⟩ := types_four
 have h1 : Tryz.prog.keyType 156 = true := by kernel_rfl
 have h2 : Tryz.prog.cellsOf 156 = 8 := by kernel_rfl
 have h3 : Tryz.prog.cellsOf 3 = 1 := by kernel_rfl
 have w0 := wf_small (hg 0 (by omega))
 have w1 := wf_small (hg 1 (by omega))
 have w2 := wf_small (hg 2 (by omega))
 have w3 := wf_small (hg 3 (by omega))
 have w4 := wf_small (hg 4 (by omega))
 have w5 := wf_small (hg 5 (by omega))
 have w6 := wf_small (hg 6 (by omega))
 have w7 := wf_small (hg 7 (by omega))
 refine Option.isSome_iff_exists.1 ?_
 unfold keyOf
 rw [arrT, hd]
 simp [h1, Value.formed, h2, Value.cells, Program.keyLits, h3, Tryz.underlying3, w0, w1, w2, w3, w4, w5, w6, w7, List.range, List.range.loop]
theorem equal_arr (g : Nat → Nat) (hg : ∀ i, i < 8 → g i ≤ 1000000) (w : World) : ∃ r, (Op.equalIn 10000 156 (.agg #[.int .i64 (g 0 : Nat), .int .i64 (g 1 : Nat), .int .i64 (g 2 : Nat), .int .i64 (g 3 : Nat), .int .i64 (g 4 : Nat), .int .i64 (g 5 : Nat), .int .i64 (g 6 : Nat), .int .i64 (g 7 : Nat)])
 (.agg #[.int .i64 0, .int .i64 0, .int .i64 0, .int .i64 0, .int .i64 0, .int .i64 0, .int .i64 0, .int .i64 0])).run Tryz.prog w = .ok r w ∧ (r = true ↔ ∀ i, i < 8 → g i = 0) := by
 obtain ⟨l, hl⟩ := key_arr g hg
 obtain ⟨z, hz⟩ := key_arr (fun _ => 0) (fun _ _ => by omega)
 obtain ⟨r, h1, h2⟩ := run_equal_deep (P := Tryz.prog) w (m := Tryz.prog.types.size + 1) (of_decide_eq_true (by kernel_rfl)) (k := 156) (by kernel_rfl) (by kernel_rfl) hl hz
 refine ⟨r, h1, h2.trans ⟨fun e => ?_, fun e => ?_⟩⟩
 · subst e
   have := keyedArr.inj hl hz
   simp only [Value.agg.injEq, Array.mk.injEq, List.cons.injEq, Value.int.injEq, true_and, and_true] at this
   obtain ⟨a0, a1, a2, a3, a4, a5, a6, a7⟩ := this
   intro i hi
   match i, hi with
   | 0, _ => omega
   | 1, _ => omega
   | 2, _ => omega
   | 3, _ => omega
   | 4, _ => omega
   | 5, _ => omega
   | 6, _ => omega
   | 7, _ => omega
 · rw [e 0 (by omega), e 1 (by omega), e 2 (by omega), e 3 (by omega), e 4 (by omega), e 5 (by omega), e 6 (by omega), e 7 (by omega)] at hl
   rw [hl] at hz
   injection hz
end
section
open Go.RowKit Go.BigFrame
theorem implRing (v : Value) (xs : List Int) (w : World) (hv : Ints w v xs) (hl : xs.length ≤ 1000000000) : Calls Tryz.prog 174 #[v] w fun e w' => e = .returned (.bool (ringB xs)) ∧ Below w.heap.size w w' := by
 have hA := allWithin_in v xs 8 100 w hv (by omega) hl
 have e1 : withB xs 8 100 = ringB xs := rfl
 rw [e1] at hA
 generalize ringB xs = b at *
 clear hv hl e1
 go_enter Tryz.func174, Tryz.ntmps174
 go_wp2_with (go_at_call 120; refine hA.mono ?_; rintro e w' ⟨rfl, rfl⟩)
 go_ret
 exact ⟨rfl, Below.refl _ _⟩
theorem ended_in (g : Nat → Nat) (n : Nat) (hg : ∀ i, i < 8 → g i ≤ 1000000) (w : World) : Calls Tryz.prog 195 #[crV g n] w fun e w' => (∃ b, e = .returned (.bool b) ∧ (b = true ↔ ∀ i, i < 8 → g i = 0)) ∧ Below w.heap.size w w' := by
 obtain ⟨r, hr, hz⟩ := equal_arr g hg (w.alloc (.cells (crA g n) 158))
 have hz' := hide hz
 clear hz
 unfold crV
 unfold crA at *
 go_enter Tryz.func195, Tryz.ntmps195
 go_wp2
 go_ret
 exact ⟨⟨r, rfl, hz'.out⟩, (Below.refl _ w).alloc (Nat.le_refl _) _⟩
theorem ring_in (f : Nat → Nat) (n : Nat) (hn : n ≤ 8) (w : World) : Calls Tryz.prog 177 #[crV (cz f n) n] w fun e w' =>
 ∃ r, e = .returned r ∧ w'.ownsRow w.heap.size 3 1 r n ((rgL f n).map (Value.int .i64)) ∧ Below w.heap.size w w' := by
 obtain ⟨W, hW⟩ : ∃ W, w.alloc (.cells (crA (cz f n) n) 158) = W := ⟨_, rfl⟩
 have hC : CrAt W w.heap.size (cz f n) n := by rw [← hW]; exact CrAt.new w _ _
 have hB : Below w.heap.size w W := by rw [← hW]; exact (Below.refl _ w).alloc (Nat.le_refl _) _
 have hcl := clone_in w.heap.size n 8 (rgL f n) W (rgL_len f n) (by omega) (fun k u hu => by
  have hk : k < n := by
   have := (List.getElem?_eq_some_iff.1 hu).1
   simpa [rgL] using this
  rw [hC.cell (by omega), cz_in hk]
  unfold rgL at hu
  rw [List.getElem?_map, List.getElem?_map, List.getElem?_range hk] at hu
  exact hu)
 have h8 := hC.count
 have hn1 : (n : Int) ≤ 8 := by omega
 have hn0 : (0 : Int) ≤ (n : Int) := by omega
 go_enter Tryz.func177, Tryz.ntmps177
 go_wp2_with (first | (refine box_cr rfl _ rfl (cz f n) n rfl ?_; rw [hW]) | (go_at_call 96; refine hcl.mono ?_; clear hcl; rintro e w3 ⟨v, rfl, hown, hB3⟩))
 go_ret
 exact ⟨_, rfl, owns_from hown hB.size, hB.trans (hB3.mono hB.size)⟩
theorem cz_next {f : Nat → Nat} {n k : Nat} (g : Nat → Nat) (hk : k < n) (h : ∀ i, i < 8 → g i = cz (dF f) k i) : ∀ i, i < 8 → (if i = k then dF f k else g i) = cz (dF f) (k + 1) i := fun i hi => by
 by_cases e : i = k
 · subst e; rw [if_pos rfl, cz_in (by omega)]
 · rw [if_neg e, h i hi]
   unfold cz
   by_cases h2 : i < k
   · rw [if_pos h2, if_pos (by omega)]
   · rw [if_neg h2, if_neg (by omega)]
theorem grown_cell (W : World) (b p : Nat) (v : Value) : W.grownBy (W.setCell ⟨b, p, none⟩ v) (some b) := ⟨rfl, rfl, rfl, by simp [World.setCell], fun k _ hk => Below.heap_setCell _ _ _ k (fun e => hk (by simp [e]))⟩
set_option maxRecDepth 100000 in
set_option maxHeartbeats 1000000 in
theorem after_in (f : Nat → Nat) (n : Nat) (h1 : 1 ≤ n) (hn : n ≤ 8) (hf : ∀ k, f k ≤ 100) (hp : per n f) (w : World) : Calls Tryz.prog 176 #[crV (cz f n) n] w fun e w' =>
 e = .returned (crV (cz (dF f) n) n) ∧ Below w.heap.size w w' := by
 obtain ⟨W, hW⟩ : ∃ W, w.alloc (.cells (crA (cz f n) n) 158) = W := ⟨_, rfl⟩
 have hC : CrAt W w.heap.size (cz f n) n := by rw [← hW]; exact CrAt.new w _ _
 have hB : Below w.heap.size w W := by rw [← hW]; exact (Below.refl _ w).alloc (Nat.le_refl _) _
 have hs : W.heap.size = w.heap.size + 1 := by rw [← hW]; simp
 have h8 := hC.count
 go_enter Tryz.func176, Tryz.ntmps176
 go_wp2_with (refine box_cr rfl _ rfl (cz f n) n rfl ?_; rw [hW])
 go_loopw [12] (fun i wr => ∃ (k : Nat) (g : Nat → Nat), k ≤ n ∧ i = .int .i64 k ∧ CrAt wr w.heap.size (cz f n) n ∧ wr.heap[w.heap.size + 1]? = some (.cells (crA (fun _ => 0) 0) 158 (0, 0)) ∧ CrAt wr (w.heap.size + 1 + 1) g n ∧ Hid (∀ i, i < 8 → g i = cz (dF f) k i) ∧ Below w.heap.size w wr) (fun i _ => n - (intOf i).toNat)
 case atStart =>
  refine ⟨0, fun _ => 0, by omega, rfl, (hC.alloc _).alloc _, ?_, ?_, hide (fun i _ => rfl), (hB.alloc hB.size _).alloc (by simp; omega) _⟩
  · have h2 := CrAt.new W (fun _ => 0) 0
    rw [hs] at h2
    exact h2.alloc _
  · have h2 := CrAt.new (W.alloc (.cells (crA (fun _ => 0) 0) 158)) (fun _ => 0) n
    rw [World.size_alloc, hs] at h2
    exact h2
 case round =>
  clear hC hB h8 hW hs
  obtain ⟨k, g, hk, rfl, hC, hR, hF, hg, hB⟩ := hrel
  have hl0 := hC.lt
  have hl2 := hF.lt
  by_cases hlt : k < n
  · obtain ⟨m, hm⟩ : ∃ m, (k + 1) % n = m := ⟨_, rfl⟩
    have hml : m < n := by rw [← hm]; exact Nat.mod_lt _ (by omega)
    have hfm : f m = f (k + 1) := by rw [← hm]; exact per_mod hp (k + 1)
    have hq : Int.tmod ((k : Int) + 1) (n : Int) = (m : Int) := by have := tmod_n (k + 1) n; rw [hm] at this; simpa using this
    have c1 := hC.cell (i := k) (by omega)
    have c2 := hC.cell (i := m) (by omega)
    have c8 := hC.count
    rw [cz_in hlt] at c1
    rw [cz_in hml, hfm] at c2
    have q1 : ∀ M : After wr, M.now.cell? ⟨w.heap.size, k, none⟩ = some (.int .i64 (f k : Nat)) := fun M => (M.ok.cell (p := ⟨w.heap.size, k, none⟩) hl0).trans c1
    have q2 : ∀ M : After wr, M.now.cell? ⟨w.heap.size, m, none⟩ = some (.int .i64 (f (k + 1) : Nat)) := fun M => (M.ok.cell (p := ⟨w.heap.size, m, none⟩) hl0).trans c2
    have q8 : ∀ M : After wr, M.now.cell? ⟨w.heap.size, 8, none⟩ = some (.int .i64 n) := fun M => (M.ok.cell (p := ⟨w.heap.size, 8, none⟩) hl0).trans c8
    have hf0 := hf k
    have hf1 := hf (k + 1)
    have hn0 : ((n : Int) == 0) = false := by rw [beq_eq_false_iff_ne]; omega
    have hki : (k : Int) < (n : Int) := by omega
    have hk8 : (k : Int) < 8 := by omega
    have hm8 : (m : Int) < 8 := by omega
    have hw1 : IntKind.i64.wrap (m : Int) = m := IntWalk.i64_in _ (by omega)
    have hnext := hide (cz_next g hlt hg.out)
    have hd : dF f k = ad (f k) (f (k + 1)) := rfl
    rw [hd, ad_max] at hnext
    have cg := hF.cell (i := k) (by omega)
    have cf := hF.frozen k
    clear hm hfm hg c1 c2 c8 hd hp hf
    generalize f k = x at *
    generalize f (k + 1) = y at *
    have hmx : ((if x < y then (y : Int) else (x : Int)) - if y < x then (y : Int) else (x : Int)) = ((max x y - min x y : Nat) : Int) := by
     split <;> split <;> omega
    have hmx' := hide hmx
    clear hmx
    go_wp2
    refine wp_region_below wr (by kernel_rfl) (by kernel_rfl) (Below.refl _ wr) ?_
    repeat (go_big_quiet_step (fail))
    refine wpQuiet_nil ?_
    rintro _ ⟨nq, rfl⟩
    have hb2 := nq.ok.block _ hl2
    have cg' := (nq.ok.cell (p := ⟨w.heap.size + 1 + 1, k, none⟩) hl2).trans cg
    have hF' : CrAt nq.now (w.heap.size + 1 + 1) g n := hF.of_block hb2
    have cf' := hF'.frozen k
    clear q1 q2 q8 cg cf
    go_wp2
    go_roundw
    case rel =>
     rw [hmx'.out]
     exact ⟨k + 1, _, by omega, by go_num, (hC.of_block (nq.ok.block _ hl0)).kept (grown_cell _ _ _ _) (by simp; omega), ((grown_cell _ _ _ _).block _ (lL9 (by omega) nq.ok.size) (by simp)).trans ((nq.ok.block _ (by omega)).trans hR), hF'.set (by omega) _, hnext,
      (hB.trans (nq.ok.mono hB.size)).setCell (p := ⟨w.heap.size + 1 + 1, k, none⟩) (by show w.heap.size ≤ w.heap.size + 1 + 1; omega) _⟩
    case measure => simp [intOf]; omega
  · obtain rfl : k = n := by omega
    have hC' := hF.congr hg.out
    clear hf hp hg
    go_wp2_with (first | (refine load_cr rfl _ rfl (w.heap.size + 1 + 1) rfl hC' ?_) | (refine store_cr rfl _ _ rfl (w.heap.size + 1) _ _ rfl rfl hR rfl ?_; intro w5 hC5 hg5))
    refine bodyPost_ret (results_circle rfl _ _ (w.heap.size + 1) _ _ rfl hC5) rfl ⟨rfl, hB.grown hg5 hB.size (fun _ e => by cases e; omega)⟩
theorem splice_circle (f : Nat → Nat) (n : Nat) (hn : n ≤ 8) :
 (splice [Value.int .i64 0, .int .i64 0, .int .i64 0, .int .i64 0, .int .i64 0, .int .i64 0, .int .i64 0, .int .i64 0, .int .i64 n] 0 ((List.range n).map fun i => Value.int .i64 (f i : Nat))).toArray = crA (cz f n) n := by
 unfold splice crA cz
 match n, hn with
 | 0, _ => rfl
 | 1, _ => rfl
 | 2, _ => rfl
 | 3, _ => rfl
 | 4, _ => rfl
 | 5, _ => rfl
 | 6, _ => rfl
 | 7, _ => rfl
 | 8, _ => rfl
set_option maxHeartbeats 1000000 in
theorem circleOf_in (v : Value) (xs : List Int) (w : World) (hv : Ints w v xs) (hs : ringB xs = true) : Calls Tryz.prog 175 #[v] w fun e w' =>
 e = .returned (crV (cz (ringF xs) xs.length) xs.length) ∧ Below w.heap.size w w' := by
 have hlen := ringB_len hs
 obtain ⟨g, cap, rfl, hg, hc⟩ := ints_open hv hlen.1
 have hcf : ∀ i, i < xs.length → w.cell? ⟨g, i, none⟩ = some (.int .i64 (ringF xs i : Nat)) := fun i hi => by rw [hc i hi, ringF_get hs hi]
 clear hc hv hs
 generalize ringF xs = f at *
 generalize xs.length = n at *
 obtain ⟨W, hW⟩ : ∃ W, (w.alloc (.cells #[.int .i64 0, .int .i64 0, .int .i64 0, .int .i64 0, .int .i64 0, .int .i64 0, .int .i64 0, .int .i64 0, .int .i64 0] 158)).alloc
  (.cells #[.int .i64 0, .int .i64 0, .int .i64 0, .int .i64 0, .int .i64 0, .int .i64 0, .int .i64 0, .int .i64 0, .int .i64 n] 158) = W := ⟨_, rfl⟩
 have hB : Below w.heap.size w W := by rw [← hW]; exact ((Below.refl _ w).alloc (Nat.le_refl _) _).alloc (by simp) _
 have hR : W.heap[w.heap.size]? = some (.cells (crA (fun _ => 0) 0) 158 (0, 0)) := by
  rw [← hW]; exact (CrAt.new w (fun _ => 0) 0).alloc _
 have hF : W.heap[w.heap.size + 1]? = some (.cells [Value.int .i64 0, .int .i64 0, .int .i64 0, .int .i64 0, .int .i64 0, .int .i64 0, .int .i64 0, .int .i64 0, .int .i64 n].toArray 158 (0, 0)) := by
  rw [← hW]
  have := aN9 (w.alloc (.cells (crA (fun _ => 0) 0) 158)) (.cells #[.int .i64 0, .int .i64 0, .int .i64 0, .int .i64 0, .int .i64 0, .int .i64 0, .int .i64 0, .int .i64 0, .int .i64 n] 158)
  rw [World.size_alloc] at this
  exact this
 have hwr : W.heap.size = w.heap.size + 2 := by rw [← hW]; simp
 have hsp := splice_circle f n hlen.2
 obtain ⟨cur, hcur⟩ : ∃ cur : List Value, cur = [Value.int .i64 0, .int .i64 0, .int .i64 0, .int .i64 0, .int .i64 0, .int .i64 0, .int .i64 0, .int .i64 0, .int .i64 n] := ⟨_, rfl⟩
 obtain ⟨cs, hcs⟩ : ∃ cs : List Value, cs = (List.range n).map fun i => Value.int .i64 (f i : Nat) := ⟨_, rfl⟩
 rw [← hcur, ← hcs] at hsp
 rw [← hcur] at hF
 have hcl : cur.length = 9 := by rw [hcur]; rfl
 have hcn : cs.length = n := by rw [hcs]; simp
 have hsrc : ∀ j u, cs[j]? = some u → W.cell? ((⟨g, 0, none⟩ : Addr).add j) = some u := fun j u hj => by
  have hj1 : j < n := by rw [← hcn]; exact (List.getElem?_eq_some_iff.1 hj).1
  have hadd : (⟨g, 0, none⟩ : Addr).add j = ⟨g, j, none⟩ := by unfold Addr.add; split <;> simp_all
  rw [hadd, hB.cell (p := ⟨g, j, none⟩) hg, hcf j hj1]
  rw [hcs, List.getElem?_map, List.getElem?_range hj1] at hj
  exact hj
 have hone : ∀ u ∈ cs, u.oneCell' = true := by
  intro u hu
  rw [hcs] at hu
  obtain ⟨i, _, rfl⟩ := List.mem_map.1 hu
  rfl
 have hsz : (Tryz.prog.info? 3).map (·.size) = some 1 := by kernel_rfl
 have hcf' := hide hcs
 have hcur' := hide hcur
 clear hcs hcur
 go_enter Tryz.func175, Tryz.ntmps175
 go_wp2_with (first
  | (refine wpList_copy_splice rfl _ _ _ _ rfl 3 Tryz.underlying28 hsz _ _ _ _ _ _ rfl rfl (w.heap.size + 1) 0 cur 158 hF cs (by rw [hcn]; show n = min n 8; omega) (fun _ => ⟨rfl, _, rfl, hsrc⟩) (by omega) hone (w.heap.size + 1) W (Below.refl _ _) (by omega) ?_; go_loud (intro w2 hG hB2; have hG2 := hG.out; rw [hsp] at hG2; have hC2 : CrAt w2 (w.heap.size + 1) (cz f n) n := hG2; have hR2 := (hB2.block _ (Nat.lt_succ_self _)).trans hR; clear hG hG2))
  | (refine load_cr rfl _ rfl (w.heap.size + 1) rfl hC2 ?_)
  | (refine store_cr rfl _ _ rfl w.heap.size _ _ rfl rfl hR2 rfl ?_; intro w5 hC5 hg5))
 refine bodyPost_ret (results_circle rfl _ _ w.heap.size _ _ rfl hC5) rfl ⟨rfl, (hB.trans (hB2.mono (by omega))).grown hg5 (lT9 hB.size hB2.size) (fun _ e => by cases e; omega)⟩
end
section
open Go Go.RowKit
variable {F : Fence} {n : Nat} {P : Program}
theorem wpIn_rangeFunc_box {α : Type} {g : Operand} {ps : Array Tmp} {assign body : Code} {Q : Exit → Act → World → Prop} {a : Act} {w : World}
 (hro : F.round = none) (h1 : 1 ≤ n) {gf : Nat} {lb : Array Value} (hg : a.eval g = .func (.func gf) #[] lb) (hFg : F.fn gf) (eg : ∀ args w, (callFunc gf args).run P w = .ok (.enter gf args) w)
 {m : Nat} {encs : Nat → α → Array Value} {Hd : Nat → List α → α → World → Prop} {K : Nat → Nat → Prop} {S Sp : Nat → List α → World → Prop}
 (hseq : SeqMem F (n - 1) P gf lb m encs Hd K S Sp w) (hps : ∀ b x, (encs b x).size = ps.size)
 (hKn : ¬ K (w.heap.size + 2) (w.heap.size + 1))
 (hS : ∀ xs W o, S (w.heap.size + 2) xs W → S (w.heap.size + 2) xs (W.putObj (w.heap.size + 1) o))
 (hSp : ∀ xs W o, Sp (w.heap.size + 2) xs W → Sp (w.heap.size + 2) xs (W.putObj (w.heap.size + 1) o))
 (I : List α → World → Prop) (Ix : Code → List α → World → Prop)
 (hI : AbidesSet (fun r => w.heap.size ≤ r ∧ r < w.heap.size + 2 + m) I) (hIx : ∀ c, AbidesSet (fun r => w.heap.size ≤ r ∧ r < w.heap.size + 2 + m) (Ix c)) (h0 : I [] w) (Ax : List α → α → Act → World → Prop)
 (hAx : ∀ pre x b W o, Ax pre x b W → Ax pre x b (W.putObj (w.heap.size + 1) o))
 (hassign : ∀ (l : Nat) (pre : List α) (x : α) (W : World) (Q' : Act → World → Prop), w.heap.size + 1 < W.heap.size → I pre W → Hd (w.heap.size + 2) pre x W →
  (∀ b W', KeepsSet (fun k => k = w.heap.size ∨ k = w.heap.size + 1 ∨ K (w.heap.size + 2) k) W W' → Ax pre x b W' → Q' b W') →
  assign.wpIn (F.inRound l) (n - 1 - 1) P (Exit.then Q' (fun _ _ _ => False)) { tmps := (ps.zip (encs (w.heap.size + 2) x)).foldl (fun t (p, v) => t.setIfInBounds p v) a.tmps, defers := [] } W)
 (hbody : ∀ (l : Nat) (pre : List α) (x : α) (b : Act) (W : World), w.heap.size + 1 < W.heap.size → Ax pre x b W →
  body.wpIn (F.inRound l) (n - 1 - 1) P (postMem (fun k => k = w.heap.size ∨ k = w.heap.size + 1 ∨ K (w.heap.size + 2) k) I Ix (pre ++ [x]) W) b W)
 (hdone : ∀ (xs : List α) (W : World), S (w.heap.size + 2) xs W → I xs W → W.heap[w.heap.size]? = some (.deferred (some [])) → Q .normal { a with defers := { target := .collected w.heap.size, args := #[] } :: a.defers } W)
 (hstop : ∀ (c : Code) (pre : List α) (W : World), Sp (w.heap.size + 2) pre W → Ix c pre W → W.heap[w.heap.size]? = some (.deferred (some [])) → c.wpIn F n P Q { a with defers := { target := .collected w.heap.size, args := #[] } :: a.defers } W) :
 (Code.rangeFunc g ps assign body).wpIn F n P Q a w := by
 refine wpIn_rangeFunc ?_
 intro fn hfn
 rw [hro]
 obtain ⟨rec, hrec⟩ : ∃ rec : LoopState → Option Code → Loop, rec = fun st pe => { state := st, pending := pe, fn, tmps := a.tmps, params := ps, assign, body, defers := w.heap.size } := ⟨_, rfl⟩
 obtain ⟨W1, hW1⟩ : ∃ W1, (w.alloc (.deferred (some []))).alloc (.loop (rec .ready none)) = W1 := ⟨_, rfl⟩
 have hL1 : W1.heap[w.heap.size + 1]? = some (.loop (rec .ready none)) := by
  rw [← hW1]; have := aN9 (w.alloc (.deferred (some []))) (.loop (rec .ready none)); rwa [World.size_alloc] at this
 have hK1 : W1.heap[w.heap.size]? = some (.deferred (some [])) := by
  rw [← hW1]; exact (Below.heap_alloc _ _ _ (by simp)).trans (aN9 w _)
 have hI1 : I [] W1 := by
  rw [← hW1]
  exact hI _ _ _ _ (hI _ _ _ _ h0 (World.grownBy_alloc w _ none) (fun _ h => by cases h)) (World.grownBy_alloc _ _ none) (fun _ h => by cases h)
 have hb1 : Below w.heap.size w W1 := by
  rw [← hW1]; exact ((Below.refl _ w).alloc (Nat.le_refl _) _).alloc (by simp) _
 have hsz : W1.heap.size = w.heap.size + 2 := by rw [← hW1]; simp
 have putI : ∀ (J : List α → World → Prop) (s : List α) (W : World) (o : Obj), AbidesSet (fun r => w.heap.size ≤ r ∧ r < w.heap.size + 2 + m) J → J s W → J s (W.putObj (w.heap.size + 1) o) := fun J s W o hJ hs =>
  hJ _ _ _ (some (w.heap.size + 1)) hs (grownBy_putObj' W _ o) (fun r e => by cases e; omega)
 refine ⟨w.heap.size + 1, [{ target := .collected w.heap.size, args := #[] }], W1, { target := .fn (.func gf) lb, args := #[.func (.yield (w.heap.size + 1)) #[] #[]] }, W1, gf,
  #[.func (.yield (w.heap.size + 1)) #[] #[]] ++ lb, W1, ?_, ?_, ?_, ?_, fun _ => h1, ?_⟩
 · rw [← hW1, hrec]; exact run_enterLoop_outer _ _ _ _ _
 · simp only [resolve, hg]
   simp [go_sem]
 · intro f' hf'; simp [Target.leads] at hf'; subst hf'; exact hFg
 · simp [invoke, go_sem, eg]
 · have hkeep : ∀ {A B : World} {row : Option Nat} {k : Nat} {o : Obj}, A.grownBy B row → (∀ r, row = some r → W1.heap.size ≤ r ∧ r < W1.heap.size + m) → k < w.heap.size + 2 → A.heap[k]? = some o → B.heap[k]? = some o := fun hg hr hk ho =>
  (hg.block _ (gE9.1 ho).1 (fun e => by have := (hr _ e.symm).1; omega)).trans ho
   have hwide : ∀ {row : Option Nat}, (∀ r, row = some r → W1.heap.size ≤ r ∧ r < W1.heap.size + m) → (∀ r, row = some r → w.heap.size ≤ r ∧ r < w.heap.size + 2 + m) := fun hr r e => by have := hr r e; omega
   have H := hseq (w.heap.size + 1)
    (fun pre W => I pre W ∧ W.heap[w.heap.size + 1]? = some (.loop (rec .ready none)) ∧ W.heap[w.heap.size]? = some (.deferred (some [])))
    (fun pre W => ∃ c, Ix c pre W ∧ W.heap[w.heap.size + 1]? = some (.loop (rec .done (some c))) ∧ W.heap[w.heap.size]? = some (.deferred (some [])))
    W1 hb1
    (fun s A B row hs hg' hr => ⟨hI s A B row hs.1 hg' (hwide hr), hkeep hg' hr (by omega) hs.2.1, hkeep hg' hr (by omega) hs.2.2⟩)
    (fun s A B row hs hg' hr => by
     obtain ⟨c, hc, hl, hk⟩ := hs
     exact ⟨c, hIx c s A B row hc hg' (hwide hr), hkeep hg' hr (by omega) hl, hkeep hg' hr (by omega) hk⟩)
   rw [hsz] at H
   refine (H ?_ ⟨hI1, hL1, hK1⟩).mono ?_
   · -- one round
     rintro pre x W ⟨hi, hl, hk⟩ hhd
     have hlt : w.heap.size + 1 < W.heap.size := (gE9.1 hl).1
     have hy := run_yield (P := P) (args := encs (w.heap.size + 2) x) hl (by rw [hrec]; exact hps _ x)
     rw [hrec] at hy
     refine ⟨fn, _, assign, body, hy, roundIn_of_wpIn hfn (hassign _ pre x W _ hlt hi hhd (fun b W0 hk0 hax => ?_))⟩
     have hput : ∀ (W : World) (o : Obj), KeepsSet (K (w.heap.size + 2)) W (W.putObj (w.heap.size + 1) o) := fun W o => KeepsSet.of_grownBy (grownBy_putObj' W _ o) (fun r e => by cases e; exact hKn)
     have hlW : W0.heap[w.heap.size + 1]? = some (.loop (rec .ready none)) := (hk0.same (w.heap.size + 1) hlt (.inr (.inl rfl))).trans hl
     have hkW : W0.heap[w.heap.size]? = some (.deferred (some [])) := (hk0.same w.heap.size (by omega) (.inl rfl)).trans hk
     have hlt0 : w.heap.size + 1 < W0.heap.size := (gE9.1 hlW).1
     refine ⟨_, run_beginRound hlW (by rw [hrec]), ?_⟩
     have hl2 : (W0.putObj (w.heap.size + 1) (.loop { rec .ready none with state := .busy })).heap[w.heap.size + 1]? = some (.loop { rec .ready none with state := .busy }) := World.putObj_heap_same hlt0
     have hk2 : (W0.putObj (w.heap.size + 1) (.loop { rec .ready none with state := .busy })).heap[w.heap.size]? = some (.deferred (some [])) := (World.putObj_heap_other (by omega)).trans hkW
     refine wpIn_mono (hbody _ pre x b _ (by simpa using hlt0) (hAx _ _ _ _ _ hax)) ?_
     have fin : ∀ (jump : Option Code) (W3 : World), KeepsSet (fun k => k = w.heap.size ∨ k = w.heap.size + 1 ∨ K (w.heap.size + 2) k) (W0.putObj (w.heap.size + 1) (.loop { rec .ready none with state := .busy })) W3 →
      (Instr.endRound (w.heap.size + 1) jump).run P W3 = .ok (.bool jump.isNone) (W3.putObj (w.heap.size + 1) (.loop (rec (if jump.isNone then .ready else .done) jump))) ∧
      (W3.putObj (w.heap.size + 1) (.loop (rec (if jump.isNone then .ready else .done) jump))).heap[w.heap.size + 1]? = some (.loop (rec (if jump.isNone then .ready else .done) jump)) ∧
      (W3.putObj (w.heap.size + 1) (.loop (rec (if jump.isNone then .ready else .done) jump))).heap[w.heap.size]? = some (.deferred (some [])) ∧
      KeepsSet (K (w.heap.size + 2)) W (W3.putObj (w.heap.size + 1) (.loop (rec (if jump.isNone then .ready else .done) jump))) := fun jump W3 hk3 => by
      have hl3 := (hk3.same (w.heap.size + 1) (by simpa using hlt0) (.inr (.inl rfl))).trans hl2
      have hk4 := (hk3.same w.heap.size (by simp; omega) (.inl rfl)).trans hk2
      have := run_endRound (P := P) jump hl3
      rw [hrec] at this ⊢
      exact ⟨this, World.putObj_heap_same (gE9.1 hl3).1, (World.putObj_heap_other (by omega)).trans hk4, (hk0.mono (fun k h => .inr (.inr h))).trans ((hput _ _).trans ((hk3.mono (fun k h => .inr (.inr h))).trans (hput _ _)))⟩
     rintro e a3 W3 hp
     cases e with
     | normal =>
       obtain ⟨hk3, hi3⟩ := hp
       obtain ⟨hr, hl4, hk4, hkk⟩ := fin none W3 hk3
       exact ⟨_, _, hr, .inl ⟨rfl, ⟨putI I _ _ _ hI hi3, hl4, hk4⟩, hkk⟩⟩
     | ret =>
       obtain ⟨hk3, hi3⟩ := hp
       obtain ⟨hr, hl4, hk4, hkk⟩ := fin (some .ret) W3 hk3
       exact ⟨_, _, hr, .inr ⟨rfl, ⟨.ret, putI (Ix .ret) _ _ _ (hIx _) hi3, hl4, hk4⟩, hkk⟩⟩
     | exit id =>
       obtain ⟨hk3, hi3⟩ := hp
       obtain ⟨hr, hl4, hk4, hkk⟩ := fin (some (.exit id)) W3 hk3
       exact ⟨_, _, hr, .inr ⟨rfl, ⟨.exit id, putI (Ix (.exit id)) _ _ _ (hIx _) hi3, hl4, hk4⟩, hkk⟩⟩
     | goto t =>
       obtain ⟨hk3, hi3⟩ := hp
       obtain ⟨hr, hl4, hk4, hkk⟩ := fin (some (.goto t)) W3 hk3
       exact ⟨_, _, hr, .inr ⟨rfl, ⟨.goto t, putI (Ix (.goto t)) _ _ _ (hIx _) hi3, hl4, hk4⟩, hkk⟩⟩
     | panic ch => exact hp.elim
     | outgrown => exact hp.elim
   · -- behind the iterator
     rintro e W2 ⟨⟨v, rfl⟩, (⟨xs, hSx, hi, hl, hk⟩ | ⟨pre, hSx, c, hi, hl, hk⟩)⟩
     · exact ⟨none, _, by have := run_endLoop (P := P) hl (by rw [hrec]; simp); rw [hrec] at this; exact this, hdone xs _ (hS _ _ _ hSx) (putI I _ _ _ hI hi) ((World.putObj_heap_other (by omega)).trans hk)⟩
     · exact ⟨some c, _, by have := run_endLoop (P := P) hl (by rw [hrec]; simp); rw [hrec] at this; exact this, hstop c pre _ (hSp _ _ _ hSx) (putI (Ix c) _ _ _ (hIx c) hi) ((World.putObj_heap_other (by omega)).trans hk)⟩
end
section
open Go.RowKit Go.Shelf
attribute [local go_sem] Oper.semAt_some
variable {F : Fence} {n : Nat} {ops : Array Oper} {rest : List Oper} {o : Oper} {a : Act} {w : World} {Q : Exit → Act → World → Prop}
theorem load_crI (hgd : o.guard = none) (x : Operand) (hop : o.op = .load 158 x) (b : Nat) (hx : a.eval x = .pointer (some ⟨b, 0, none⟩)) {g : Nat → Nat} {m : Nat} (hg : CrAt w b g m)
 (h : wpListIn F n Tryz.prog ops Q rest (a.put o.dst (crV g m)) w) : wpListIn F n Tryz.prog ops Q (o :: rest) a w := by
 refine wpListIn_plain hgd fun K hK' => ?_
 have hrun : (Instr.loadAt 158 (.pointer (some ⟨b, 0, none⟩))).run Tryz.prog w = .ok (crV g m) w := by
  simp only [Instr.loadAt, Instr.sureAddr, Sem.run_bind, Sem.run_pure, Result.andThen_ok, run_loadVar_row w b _ 158 (crA g m) _ _ hg kindCircle rfl (sizeCircle g m)]
  rfl
 unfold Oper.wpIn
 refine ⟨?_, ?_⟩
 · simp [Oper.about, hop]
 · rw [Oper.semAt_plain F _ _ (by rw [hop]; intro c hc'; cases hc')]
   simp [execOp, hop, hx, hrun, Result.andThen]
   exact hK' _ _ h
theorem store_crI (hgd : o.guard = none) (x y : Operand) (hop : o.op = .store 158 x y) (b : Nat) (g : Nat → Nat) (m : Nat) (hx : a.eval x = .pointer (some ⟨b, 0, none⟩)) (hy : a.eval y = crV g m)
 {old : Array Value} (hb : w.heap[b]? = some (.cells old 158 (0, 0))) (hs : old.size = 9)
 (h : ∀ w', CrAt w' b g m → w.grownBy w' (some b) → wpListIn F n Tryz.prog ops Q rest (a.put o.dst undef) w') : wpListIn F n Tryz.prog ops Q (o :: rest) a w := by
 refine wpListIn_plain hgd fun K hK' => ?_
 have hrun : (Instr.storeAt 158 (.pointer (some ⟨b, 0, none⟩)) (crV g m)).run Tryz.prog w = .ok () (w.setRow b (crA g m)) := by
  unfold crV
  simp only [Instr.storeAt, Instr.sureAddr, Sem.run_bind, Sem.run_pure, Result.andThen_ok, run_storeVar_row w b _ 158 old (crA g m) hb (sizeCircle g m) hs (crA_one g m)]
 unfold Oper.wpIn
 refine ⟨?_, ?_⟩
 · simp [Oper.about, hop]
 · rw [Oper.semAt_plain F _ _ (by rw [hop]; intro c hc'; cases hc')]
   simp [execOp, hop, hx, hy, hrun, Result.andThen]
   exact hK' _ _ (h _ (setRow_heap w b old _ _ _ hb) (grown_setRow w b _))
theorem roundsTo_in (g : Nat → Nat) (m : Nat) (L : Int) (w : World) : Calls Tryz.prog 194 #[crV g m, .int .i64 L] w fun e w' =>
 e = .returned (.func (.func 218) #[] #[.pointer (some ⟨w.heap.size, 0, none⟩), .pointer (some ⟨w.heap.size + 1, 0, none⟩)]) ∧ (w.alloc (.cells (crA g m) 158)).alloc (.cells #[.int .i64 L] 3) = w' := by
 have hmf : ∀ (fn : Fn) (first cap : Array Value) (w : World), (Instr.makeFunc fn first cap).run Tryz.prog w = .ok (.func fn first cap) w := fun _ _ _ _ => rfl
 go_enter Tryz.func194, Tryz.ntmps194
 go_wp2_with (refine box_cr rfl _ rfl g m rfl ?_)
 go_ret
 exact ⟨rfl, rfl⟩
set_option maxRecDepth 100000 in
set_option maxHeartbeats 1000000 in
theorem rounds_stops (n C B L m : Nat) (f : Nat → Nat) (hL : L ≤ 2000) (h1 : 1 ≤ m) (hm : m ≤ 8) (hf : ∀ k, f k ≤ 100) (hp : per m f) (hn : 1 ≤ n) (w : World) (hC : CrAt w C (cz f m) m) (hB : Boxed w B 3 (.int .i64 L)) :
 SeqMem Fence.wide n Tryz.prog 218 #[.pointer (some ⟨C, 0, none⟩), .pointer (some ⟨B, 0, none⟩)] 1 (fun _ (j : Nat) => #[.int .i64 j, crV (cz (dR f j) m) m])
  (fun _ pre j _ => pre = List.range j ∧ j ≤ L) (fun n0 k => k = n0) (fun _ xs _ => xs = List.range (L + 1)) (fun _ _ _ => True) w := by
 intro l J Jx W hW hJ hJx hY h0
 have hCW : CrAt W C (cz f m) m := hC.of_block (hW.block C hC.lt)
 have hc' : W.cell? ⟨B, 0, none⟩ = some (.int .i64 L) := (hW.cell (p := ⟨B, 0, none⟩) hB.lt).trans hB.cell
 have hBW : B < W.heap.size := lL9 hB.lt hW.size
 refine callsIn_of_wp Tryz.func218 rfl trivial ?_ rfl
 simp only [Tryz.ntmps218, List.size_toArray, List.length_cons, List.length_nil, Nat.reduceAdd, Nat.reduceSub, Array.replicate_succ, Array.replicate_zero, List.push_toArray, List.append_toArray, List.nil_append, List.cons_append]
 gi_wp2_with (first | (refine load_crI rfl _ rfl C rfl hCW ?_) | (refine store_crI rfl _ _ rfl W.heap.size _ _ rfl rfl (aN9 W _) rfl ?_; go_loud (intro w1 hC1 hg1; have hcb : w1.cell? ⟨B, 0, none⟩ = some (.int .i64 L) := (hg1.cell (by rw [World.cell?_alloc_past _ _ _ hBW]; exact hc') (by simp; omega)))))
 have hJ0 : J [] w1 := hJ _ _ _ (some W.heap.size) (hJ _ _ _ none h0 (World.grownBy_alloc W _ none) (fun _ h => by cases h)) hg1 (fun r e => by cases e; omega)
 gi_loopw [9] (fun i wr => ∃ j : Nat, j ≤ L + 1 ∧ i = .int .i64 j ∧ J (List.range j) wr ∧ CrAt wr W.heap.size (cz (dR f j) m) m) (fun i _ => L + 1 - (intOf i).toNat)
 case atStart => exact ⟨0, by omega, rfl, hJ0, hC1⟩
 case round =>
  clear hJ0 hC1 hcb hg1
  obtain ⟨j, hj, rfl, hJs, hCj⟩ := hrel
  by_cases hlt : j < L + 1
  · have hji : (j : Int) < (L : Int) + 1 := by omega
    obtain ⟨fn, tmps, assign, body, hy, hR⟩ := hY _ j wr hJs ⟨rfl, by omega⟩
    clear hY
    have hA := fun V => after_in (dR f j) m h1 hm (hundred hf j) (per_dR hp j) V
    gi_wp2_with (refine load_crI rfl _ rfl W.heap.size rfl hCj ?_)
    refine hR.mono ?_
    rintro e W3 (⟨rfl, hJ3, hk3⟩ | ⟨rfl, hJx3, hk3⟩)
    · have hC3 : CrAt W3 W.heap.size (cz (dR f j) m) m := hCj.of_block (hk3.same _ hCj.lt rfl)
      gi_wp2_with (first
       | (refine load_crI rfl _ rfl W.heap.size rfl hC3 ?_)
       | (refine ⟨trivial, ?_⟩; gi_at_call 176; refine (cW9.2 (hA _)).mono ?_; clear hA; go_loud (rintro e w4 ⟨rfl, hB4⟩; have hC4 : CrAt w4 W.heap.size (cz (dR f j) m) m := hC3.of_block (hB4.block _ hC3.lt)))
       | (refine store_crI rfl _ _ rfl W.heap.size _ _ rfl rfl hC4 rfl ?_; intro w5 hC5 hg5))
      have hJ5 := hJ _ _ _ (some W.heap.size) (hJ _ _ _ none hJ3 (⟨hB4.os, hB4.tape, hB4.output, hB4.size, fun b hb _ => hB4.block b hb⟩) (fun _ h => by cases h)) hg5 (fun r e => by cases e; omega)
      go_roundw
      case rel => exact ⟨j + 1, by omega, by go_num, by rw [List.range_succ]; exact hJ5, hC5⟩
      case measure => simp [intOf]; omega
    · gi_wp2
      refine bodyPost_ret (results_none rfl _ _ _) rfl ?_
      exact ⟨⟨_, rfl⟩, .inr ⟨_, trivial, hJx3⟩⟩
  · obtain rfl : j = L + 1 := by omega
    gi_wp2
    go_end0
    exact ⟨⟨_, rfl⟩, .inl ⟨_, rfl, hJs⟩⟩
theorem implRound (v : Value) (xs : List Int) (w : World) (hv : Ints w v xs) (_hlies : Lies v) (hl : xs.length ≤ 10000000) : Calls Tryz.prog 141 #[v] w fun e w' =>
 ∃ r, e = .returned r ∧ w'.ownsRow w.heap.size 3 1 r (roundV xs).length ((roundV xs).map (Value.int .i64)) ∧ Below w.heap.size w w' := by
 have hS := implRing v xs w hv (by omega)
 cases hs : ringB xs with
 | false =>
   rw [roundV_no hs]
   rw [hs] at hS
   clear hv
   go_enter Tryz.func141, Tryz.ntmps141
   go_wp2_with (go_at_call 174; refine hS.mono ?_; clear hS; rintro e w1 ⟨rfl, hB1⟩)
   go_ret
   exact ⟨_, rfl, World.ownsRow_nil _ _ _ _, hB1⟩
 | true =>
   rw [hs] at hS
   have hlen := ringB_len hs
   have hO := fun w1 (hB : Below w.heap.size w w1) => circleOf_in v xs w1 (hv.below hB) hs
   have hA := fun V => after_in (ringF xs) xs.length hlen.1 hlen.2 (ringF_le hs) ringF_per V
   have hG := fun V => ring_in (dF (ringF xs)) xs.length hlen.2 V
   rw [roundV_yes hs, rgL_len]
   clear hv hs hl
   generalize ringF xs = f at *
   generalize xs.length = n at *
   go_enter Tryz.func141, Tryz.ntmps141
   go_wp2_with (first
    | (go_at_call 174; refine hS.mono ?_; clear hS; rintro e w1 ⟨rfl, hB1⟩)
    | (go_at_call 175; refine (hO _ hB1).mono ?_; clear hO; rintro e w2 ⟨rfl, hB2⟩)
    | (go_at_call 176; refine (hA _).mono ?_; clear hA; rintro e w3 ⟨rfl, hB3⟩)
    | (go_at_call 177; refine (hG _).mono ?_; clear hG; rintro e w4 ⟨r, rfl, hown, hB4⟩))
   go_ret
   have h2 := hB1.trans (hB2.mono hB1.size)
   have h3 := h2.trans (hB3.mono h2.size)
   exact ⟨_, rfl, owns_from hown h3.size, h3.trans (hB4.mono h3.size)⟩
end
section
open Go.RowKit
theorem baseOk_t (b : Int) (w : World) (h1 : 2 ≤ b) (h2 : b ≤ 16) : Calls Tryz.prog 202 #[.int .i64 b] w fun e w' => e = .returned (.bool true) ∧ w = w' := by
 go_enter Tryz.func202, Tryz.ntmps202
 go_wp2
 go_ret
 exact ⟨rfl, rfl⟩
theorem baseOk_f (b : Int) (w : World) (h : b < 2 ∨ 16 < b) : Calls Tryz.prog 202 #[.int .i64 b] w fun e w' => e = .returned (.bool false) ∧ w = w' := by
 by_cases h1 : 2 ≤ b
 · have h2 : ¬ b ≤ 16 := by omega
   clear h
   go_enter Tryz.func202, Tryz.ntmps202
   go_wp2
   go_ret
   exact ⟨rfl, rfl⟩
 · clear h
   go_enter Tryz.func202, Tryz.ntmps202
   go_wp2
   go_ret
   exact ⟨rfl, rfl⟩
def UAt (w : World) (R n b : Nat) : Prop := w.heap[R]? = some (.cells #[.int .i64 n, .int .i64 b] 223 (0, 0))
theorem UAt.lt {w : World} {R n b : Nat} (h : UAt w R n b) : R < w.heap.size := (gE9.1 h).1
theorem UAt.cell0 {w : World} {R n b : Nat} (h : UAt w R n b) : w.cell? ⟨R, 0, none⟩ = some (.int .i64 n) := by rw [cell_of_row w R 0 _ _ _ h]; rfl
theorem UAt.cell1 {w : World} {R n b : Nat} (h : UAt w R n b) : w.cell? ⟨R, 1, none⟩ = some (.int .i64 b) := by rw [cell_of_row w R 1 _ _ _ h]; rfl
theorem UAt.frozen {w : World} {R n b : Nat} (h : UAt w R n b) (i : Nat) : w.frozen? ⟨R, i, none⟩ = false := by
 have h' : w.heap[R]? = some (.cells #[.int .i64 n, .int .i64 b] 223 (0, 0)) := h
 simp [World.frozen?, h']
theorem UAt.set {w : World} {R n b : Nat} (h : UAt w R n b) (q : Nat) : UAt (w.setCell ⟨R, 0, none⟩ (.int .i64 q)) R q b := by
 obtain ⟨hlt, hk⟩ := gE9.1 h
 show (w.heap.modify R _)[R]? = _
 rw [Array.getElem?_eq_getElem (by rw [Array.size_modify]; exact hlt), Array.getElem_modify_self, hk]; rfl
theorem UAt.of_block {w w' : World} {R n b : Nat} (h : UAt w R n b) (hb : w'.heap[R]? = w.heap[R]?) : UAt w' R n b := hb.trans h
theorem UAt.kept {w w' : World} {R n b : Nat} {row : Option Nat} (h : UAt w R n b) (hg : w.grownBy w' row) (hr : some R ≠ row) : UAt w' R n b := h.of_block (hg.block R h.lt hr)
theorem more_in (R n b : Nat) (w : World) (h : UAt w R n b) : Calls Tryz.prog 229 #[.pointer (some ⟨R, 0, none⟩)] w fun e w' => e = .returned (.bool (decide (0 < n))) ∧ w = w' := by
 have h0 := h.cell0
 by_cases hn : 0 < n
 · have hd : decide (0 < n) = true := by simp [hn]
   rw [hd]
   clear hd h
   go_enter Tryz.func229, Tryz.ntmps229
   go_wp2
   go_ret
   exact ⟨rfl, rfl⟩
 · obtain rfl : n = 0 := by omega
   clear hn h
   go_enter Tryz.func229, Tryz.ntmps229
   go_wp2
   go_ret
   exact ⟨rfl, rfl⟩
theorem tmod_nat (n b : Nat) : Int.tmod (n : Int) (b : Int) = ((n % b : Nat) : Int) := by rw [Int.tmod_eq_emod_of_nonneg (by omega)]; rfl
theorem tdiv_nat (n b : Nat) : Int.tdiv (n : Int) (b : Int) = ((n / b : Nat) : Int) := by rw [Int.tdiv_eq_ediv_of_nonneg (by omega)]; rfl
set_option maxHeartbeats 400000 in
theorem pull_in (R n b : Nat) (w : World) (hb : 2 ≤ b) (hb2 : b ≤ 16) (hn : n ≤ 2000000000) (h : UAt w R n b) :
 Calls Tryz.prog 230 #[.pointer (some ⟨R, 0, none⟩)] w fun e w' => e = .returned (.int .i64 ((n % b : Nat) : Int)) ∧ UAt w' R (n / b) b ∧ w.grownBy w' (some R) := by
 have h0 := h.cell0
 have h1 := h.cell1
 have hf := h.frozen 0
 have hm : Int.tmod (n : Int) (b : Int) = ((n % b : Nat) : Int) := tmod_nat n b
 have hd : Int.tdiv (n : Int) (b : Int) = ((n / b : Nat) : Int) := tdiv_nat n b
 have hq : n / b ≤ 2000000000 := lT9 (Nat.div_le_self n b) hn
 have hr : n % b < b := Nat.mod_lt n (by omega)
 have hset := h.set (n / b)
 generalize n / b = q at *
 generalize n % b = r at *
 have hw1 : IntKind.i64.wrap (r : Int) = r := IntWalk.i64_in _ (by omega)
 have hw2 : IntKind.i64.wrap (q : Int) = q := IntWalk.i64_in _ (by omega)
 have hb0 : ((b : Int) == 0) = false := by simp; omega
 go_enter Tryz.func230, Tryz.ntmps230
 go_wp2
 go_quiet (fail)
 go_wp2
 go_region
 all_goals
  go_wp2
  go_ret
  exact ⟨rfl, hset.of_block rfl, grownBy_set (w := w) (w' := w.drewN _) ⟨rfl, rfl, rfl, Nat.le_refl _, fun _ _ _ => rfl⟩ _ _⟩
end
section
open Go.RowKit Go.Shelf
attribute [local go_sem] Oper.semAt_some
def DgHd (b N : Nat) (n0 : Nat) (pre : List Nat) (x : Nat) (W : World) : Prop := ∃ m, UAt W n0 m b ∧ pre ++ x :: digs b m = digs b N ∧ x < b
def DgS (b N : Nat) (_n0 : Nat) (xs : List Nat) (_W : World) : Prop := xs = digs b N
def restAt (w : World) (R : Nat) : Nat := match w.cell? ⟨R, 0, none⟩ with
 | some v => (intOf v).toNat
 | none => 0
theorem restAt_of {w : World} {R n b : Nat} (h : UAt w R n b) : restAt w R = n := by unfold restAt; rw [h.cell0]; simp [intOf]
set_option maxRecDepth 100000 in
set_option maxHeartbeats 1000000 in
theorem digits_stops (n B1 B2 N b : Nat) (hN : N ≤ 2000000000) (hb : 2 ≤ b) (hb2 : b ≤ 16) (hn : 1 ≤ n) (w : World) (hB1 : B1 < w.heap.size) (hB2 : B2 < w.heap.size)
 (hc1 : w.cell? ⟨B1, 0, none⟩ = some (.int .i64 N)) (hc2 : w.cell? ⟨B2, 0, none⟩ = some (.int .i64 b)) :
 SeqMem Fence.wide n Tryz.prog 242 #[.pointer (some ⟨B1, 0, none⟩), .pointer (some ⟨B2, 0, none⟩)] 1 (fun _ (x : Nat) => #[.int .i64 x])
  (DgHd b N) (fun n0 k => k = n0) (DgS b N) (fun _ _ _ => True) w := by
 intro l J Jx W hW hJ hJx hY h0
 have hc1' := (hW.cell (p := ⟨B1, 0, none⟩) hB1).trans hc1
 have hc2' := (hW.cell (p := ⟨B2, 0, none⟩) hB2).trans hc2
 have hBW1 : B1 < W.heap.size := lL9 hB1 hW.size
 have hBW2 : B2 < W.heap.size := lL9 hB2 hW.size
 refine callsIn_of_wp Tryz.func242 rfl trivial ?_ rfl
 simp only [Tryz.ntmps242, List.size_toArray, List.length_cons, List.length_nil, Nat.reduceAdd, Nat.reduceSub, Array.replicate_succ, Array.replicate_zero, List.push_toArray, List.append_toArray, List.nil_append, List.cons_append]
 gi_wp2
 have hstart : UAt (W.alloc (Obj.cells #[Value.int IntKind.i64 N, Value.int IntKind.i64 b] 223)) W.heap.size N b := aN9 W _
 have hJ0 : J [] (W.alloc (Obj.cells #[Value.int IntKind.i64 N, Value.int IntKind.i64 b] 223)) := hJ _ _ _ none h0 (World.grownBy_alloc W _ none) (fun _ h => by cases h)
 clear hc1 hc2 hc1' hc2' hB1 hB2
 gi_loopw [] (fun wr => ∃ m pre, m ≤ N ∧ J pre wr ∧ UAt wr W.heap.size m b ∧ pre ++ digs b m = digs b N) (fun wr => restAt wr W.heap.size)
 case atStart => exact ⟨N, [], Nat.le_refl _, hJ0, hstart, rfl⟩
 case round =>
  obtain ⟨m, pre, hm, hJs, hU, hp⟩ := hrel
  have hM := more_in W.heap.size m b wr hU
  by_cases hlt : 0 < m
  · rw [show decide (0 < m) = true by simpa using hlt] at hM
    have hP := pull_in W.heap.size m b wr hb hb2 (by omega) hU
    rw [digs_pos hb hlt] at hp
    have hr := Nat.mod_lt m (show 0 < b by omega)
    have hle := Nat.div_le_self m b
    have hdl := Nat.div_lt_self hlt hb
    have hre := restAt_of hU
    generalize m % b = r at *
    generalize m / b = q at *
    have hpre : (pre ++ [r]) ++ digs b q = digs b N := by simpa using hp
    gi_wp2_with (first
     | (refine ⟨trivial, ?_⟩; gi_at_call 229; refine (cW9.2 hM).mono ?_; clear hM; rintro e w2 ⟨rfl, rfl⟩)
     | (refine ⟨trivial, ?_⟩; gi_at_call 230; go_loud (refine (cW9.2 hP).mono ?_; clear hP; rintro e w2 ⟨rfl, hU2, hg2⟩; have hJ2 := hJ _ _ _ (some W.heap.size) hJs hg2 (fun r e => by cases e; omega); obtain ⟨fn, tmps, assign, body, hy, hR⟩ := hY _ r w2 hJ2 ⟨q, hU2, hp, hr⟩; clear hY)))
    refine hR.mono ?_
    rintro e W3 (⟨rfl, hJ3, hk3⟩ | ⟨rfl, hJx3, hk3⟩)
    · have hU3 := hU2.of_block (hk3.same _ hU2.lt rfl)
      gi_wp2
      go_roundw
      case rel => exact ⟨q, pre ++ [r], by omega, hJ3, hU3, hpre⟩
      case measure => rw [restAt_of hU3, hre]; omega
    · gi_wp2
      refine bodyPost_ret (results_none rfl _ _ _) rfl ?_
      exact ⟨⟨_, rfl⟩, .inr ⟨_, trivial, hJx3⟩⟩
  · obtain rfl : m = 0 := by omega
    rw [show decide (0 < 0) = false by rfl] at hM
    rw [digs_zero, List.append_nil] at hp
    gi_wp2_with (refine ⟨trivial, ?_⟩; gi_at_call 229; refine (cW9.2 hM).mono ?_; clear hM; rintro e w2 ⟨rfl, rfl⟩)
    go_end0
    exact ⟨⟨_, rfl⟩, .inl ⟨_, hp, hJs⟩⟩
theorem digitsIn_in (n b : Int) (w : World) : Calls Tryz.prog 225 #[.int .i64 n, .int .i64 b] w fun e w' =>
 e = .returned (.func (.func 242) #[] #[.pointer (some ⟨w.heap.size, 0, none⟩), .pointer (some ⟨w.heap.size + 1, 0, none⟩)]) ∧ (w.alloc (.cells #[.int .i64 n] 3)).alloc (.cells #[.int .i64 b] 3) = w' := by
 have hmf : ∀ (fn : Fn) (first cap : Array Value) (w : World), (Instr.makeFunc fn first cap).run Tryz.prog w = .ok (.func fn first cap) w := fun _ _ _ _ => rfl
 go_enter Tryz.func225, Tryz.ntmps225
 go_wp2
 go_ret
 exact ⟨by simp, rfl⟩
set_option maxRecDepth 100000 in
set_option maxHeartbeats 1000000 in
theorem implCount_ok (N b : Nat) (hN : N ≤ 999999999) (hb : 2 ≤ b) (hb2 : b ≤ 16) (w : World) : Calls Tryz.prog 199 #[.int .i64 N, .int .i64 b] w fun e w' =>
 e = .returned (.int .i64 (mulL (digs b N))) ∧ Below w.heap.size w w' := by
 refine (cW9 (n := 9)).1 ?_
 refine callsIn_of_wp_marks Tryz.func199 rfl trivial ?_ rfl
 simp only [Tryz.ntmps199, List.size_toArray, List.length_cons, List.length_nil, Nat.reduceAdd, Nat.reduceSub, Array.replicate_succ, Array.replicate_zero, List.push_toArray, List.append_toArray, List.nil_append, List.cons_append]
 gi_wp2_with (first | (refine ⟨trivial, ?_⟩; gi_at_call 55; refine (cW9.2 (within_t _ _ _ (by omega) (by omega))).mono ?_; rintro e w' ⟨rfl, rfl⟩) | (refine ⟨trivial, ?_⟩; gi_at_call 202; refine (cW9.2 (baseOk_t _ _ (by omega) (by omega))).mono ?_; rintro e w' ⟨rfl, rfl⟩) | (refine ⟨trivial, ?_⟩; gi_at_call 225; refine (cW9.2 (digitsIn_in _ _ _)).mono ?_; rintro e w' ⟨rfl, rfl⟩))
 obtain ⟨W0, hW0⟩ : ∃ W0, (((w.alloc (Obj.cells #[Value.int IntKind.i64 1] 3)).alloc (Obj.cells #[Value.int IntKind.i64 N] 3)).alloc (Obj.cells #[Value.int IntKind.i64 b] 3)) = W0 := ⟨_, rfl⟩
 have hsz1 : W0.heap.size ≤ w.heap.size + 3 := by rw [← hW0]; simp
 have hsz2 : w.heap.size + 3 ≤ W0.heap.size := by rw [← hW0]; simp
 have hbs : Boxed W0 w.heap.size 3 (.int .i64 1) := by rw [← hW0]; exact ((Boxed.new w _ _).alloc _).alloc _
 have hbn : Boxed W0 (w.heap.size + 1) 3 (.int .i64 N) := by rw [← hW0]; have := Boxed.new (w.alloc (Obj.cells #[Value.int IntKind.i64 1] 3)) 3 (.int .i64 N); rw [World.size_alloc] at this; exact this.alloc _
 have hbb : Boxed W0 (w.heap.size + 1 + 1) 3 (.int .i64 b) := by rw [← hW0]; have := Boxed.new ((w.alloc (Obj.cells #[Value.int IntKind.i64 1] 3)).alloc (Obj.cells #[Value.int IntKind.i64 N] 3)) 3 (.int .i64 b); rwa [World.size_alloc, World.size_alloc] at this
 have hbel : Below w.heap.size w W0 := by rw [← hW0]; exact (((Below.refl _ w).alloc (Nat.le_refl _) _).alloc (by simp) _).alloc (by simp; omega) _
 rw [hW0]
 clear hW0
 refine wpIn_rangeFunc_mem rfl (by omega) (gf := 242) (lb := #[.pointer (some ⟨w.heap.size + 1, 0, none⟩), .pointer (some ⟨w.heap.size + 1 + 1, 0, none⟩)]) rfl trivial (enters_of Tryz.func242 (by kernel_rfl) rfl)
  (digits_stops (9 - 1) (w.heap.size + 1) (w.heap.size + 1 + 1) N b (by omega) hb hb2 (by omega) W0 (by omega) (by omega) hbn.cell hbb.cell) (fun _ _ => rfl) (by omega)
  (fun pre x W o h => by obtain ⟨m, h1, h2⟩ := h; exact ⟨m, h1.of_block (World.putObj_heap_other (by omega)), h2⟩) (fun xs W o h => h) (fun pre W o h => h)
  (fun pre W => Boxed W w.heap.size 3 (.int .i64 (mulL pre)) ∧ Below w.heap.size w W) (fun _ _ _ => False)
  (fun s A B row hs hg hr => ⟨hs.1.kept hg (fun e => by have := hr _ e.symm; omega), hs.2.grown hg hs.2.size (fun k e => by have := hr _ e; omega)⟩)
  (fun _ _ _ _ _ hs _ _ => hs) ⟨hbs, hbel⟩
  (fun x => { tmps := #[.int .i64 N, .int .i64 b, undef, undef, .int .i64 0, .pointer (some ⟨w.heap.size, 0, none⟩), .int .i64 x, .int .i64 N, .bool true, .bool false, .bool false, .int .i64 b, .bool true, .bool false, .bool false, .int .i64 N, .int .i64 b, .func (.func 242) #[] #[.pointer (some ⟨w.heap.size + 1, 0, none⟩), .pointer (some ⟨w.heap.size + 1 + 1, 0, none⟩)], .int .i64 x, undef, undef, undef, undef, undef], defers := [] }) ?assign ?body ?done ?stop
 case assign =>
  intro l x W K hK
  gi_wp2
  exact hK
 case body =>
  rintro l pre x W hlt ⟨hbx, hB⟩ ⟨m, hU, hp, hxb⟩
  have hc := hbx.cell
  have hf := hbx.frozen
  have hsum : mulL pre * (x + 1) ≤ 1000000000 := by
   have h1 := mul_le hb N
   rw [← hp, mulL_app] at h1
   simp only [mulL] at h1
   rw [← Nat.mul_assoc] at h1
   have h2 := Nat.le_mul_of_pos_right (mulL pre * (x + 1)) (mulL_pos (digs b m))
   omega
  clear hp
  have hw4 : (mulL pre : Int) * ((x : Int) + 1) = ((mulL pre * (x + 1) : Nat) : Int) := by simp
  have hw3 : IntKind.i64.wrap ((mulL pre : Int) * ((x : Int) + 1)) = ((mulL pre * (x + 1) : Nat) : Int) := by rw [hw4]; exact IntWalk.i64_in _ (by omega)
  clear hw4
  gi_wp2
  refine ⟨KeepsSet.setCell _ _ _ (by omega), ?_, hB.setCell (p := ⟨w.heap.size, 0, none⟩) (Nat.le_refl _) _⟩
  rw [mulL_snoc]
  exact hbx.set _
 case done =>
  rintro ys W hys ⟨hbx, hB⟩ hK
  obtain rfl : ys = digs b N := hys
  have hc := hbx.cell
  gi_wp2
  refine ⟨by simp, .inl ⟨_, _, rfl, run_takeDeferred hK, ?_⟩⟩
  refine ⟨_, results_tmp rfl _ _ _, rfl, ?_⟩
  exact hB.grown (grownBy_putObj' W _ _) hB.size (fun k e => by cases e; omega)
 case stop =>
  rintro c pre W _ h _
  exact h.elim
theorem implCount (n b : Int) (w : World) : Calls Tryz.prog 199 #[.int .i64 n, .int .i64 b] w fun e w' => e = .returned (.int .i64 (countV n b)) ∧ Below w.heap.size w w' := by
 by_cases h : bad1 n b
 · rw [countV_bad h]
   unfold bad1 at h
   by_cases h1 : n < 0 ∨ 999999999 < n
   all_goals
    go_enter Tryz.func199, Tryz.ntmps199
    go_wp2_with (first | (go_at_call 55; refine (within_t _ _ _ (by omega) (by omega)).mono ?_; rintro e w' ⟨rfl, rfl⟩) | (go_at_call 55; refine (within_f _ _ _ (by omega)).mono ?_; rintro e w' ⟨rfl, rfl⟩) | (go_at_call 202; refine (baseOk_f _ _ (by omega)).mono ?_; rintro e w' ⟨rfl, rfl⟩))
    go_ret
    exact ⟨rfl, Below.refl _ _⟩
 · unfold bad1 at h
   obtain ⟨N, rfl⟩ : ∃ N : Nat, n = N := ⟨n.toNat, by omega⟩
   obtain ⟨B, rfl⟩ : ∃ B : Nat, b = B := ⟨b.toNat, by omega⟩
   rw [countV_nat (by omega) (by omega) (by omega)]
   exact implCount_ok N B (by omega) (by omega) (by omega) w
def Two (n0 R1 R2 : Nat) : Prop := (R1 = n0 ∧ R2 = n0 + 1) ∨ (R1 = n0 + 1 ∧ R2 = n0)
def BsHd (b X Y : Nat) (n0 : Nat) (pre : List (Nat × Nat)) (p : Nat × Nat) (W : World) : Prop :=
 ∃ R1 R2 x y, Two n0 R1 R2 ∧ UAt W R1 x b ∧ UAt W R2 y b ∧ pre ++ p :: pairs b x y = pairs b X Y ∧ p.1 < b ∧ p.2 < b
def BsS (b X Y : Nat) (_n0 : Nat) (xs : List (Nat × Nat)) (_W : World) : Prop := xs = pairs b X Y
set_option maxRecDepth 100000 in
set_option maxHeartbeats 1000000 in
theorem beside_stops (n B1 B2 B3 X Y b : Nat) (hX : X ≤ 2000000000) (hY' : Y ≤ 2000000000) (hb : 2 ≤ b) (hb2 : b ≤ 16) (hn : 1 ≤ n) (w : World) (hB1 : B1 < w.heap.size) (hB2 : B2 < w.heap.size) (hB3 : B3 < w.heap.size)
 (hc1 : w.cell? ⟨B1, 0, none⟩ = some (.int .i64 X)) (hc2 : w.cell? ⟨B2, 0, none⟩ = some (.int .i64 b)) (hc3 : w.cell? ⟨B3, 0, none⟩ = some (.int .i64 Y)) :
 SeqMem Fence.wide n Tryz.prog 228 #[.pointer (some ⟨B1, 0, none⟩), .pointer (some ⟨B2, 0, none⟩), .pointer (some ⟨B3, 0, none⟩)] 2 (fun _ (p : Nat × Nat) => #[.int .i64 p.1, .int .i64 p.2])
  (BsHd b X Y) (fun n0 k => k = n0 ∨ k = n0 + 1) (BsS b X Y) (fun _ _ _ => True) w := by
 intro l J Jx W hW hJ hJx hY h0
 have hc1' := (hW.cell (p := ⟨B1, 0, none⟩) hB1).trans hc1
 have hc2' := (hW.cell (p := ⟨B2, 0, none⟩) hB2).trans hc2
 have hc3' := (hW.cell (p := ⟨B3, 0, none⟩) hB3).trans hc3
 have hBW1 : B1 < W.heap.size := lL9 hB1 hW.size
 have hBW2 : B2 < W.heap.size := lL9 hB2 hW.size
 have hBW3 : B3 < W.heap.size := lL9 hB3 hW.size
 refine callsIn_of_wp Tryz.func228 rfl trivial ?_ rfl
 simp only [Tryz.ntmps228, List.size_toArray, List.length_cons, List.length_nil, Nat.reduceAdd, Nat.reduceSub, Array.replicate_succ, Array.replicate_zero, List.push_toArray, List.append_toArray, List.nil_append, List.cons_append]
 have hJd : ∀ xs (w : World), J xs w → J xs w.drew := fun xs w h => hJ _ _ _ none h ⟨rfl, rfl, rfl, Nat.le_refl _, fun _ _ _ => rfl⟩ (fun _ h => by cases h)
 gi_wp2
 gi_region
 · have hU1 : UAt ((W.alloc (Obj.cells #[Value.int IntKind.i64 X, Value.int IntKind.i64 b] 223)).alloc (Obj.cells #[Value.int IntKind.i64 Y, Value.int IntKind.i64 b] 223)).drew (W.heap.size) X b := (show ((W.alloc (Obj.cells #[Value.int IntKind.i64 X, Value.int IntKind.i64 b] 223)).alloc (Obj.cells #[Value.int IntKind.i64 Y, Value.int IntKind.i64 b] 223)).heap[W.heap.size]? = some _ from (Below.heap_alloc _ _ _ (by simp)).trans (aN9 W _))
   have hU2 : UAt ((W.alloc (Obj.cells #[Value.int IntKind.i64 X, Value.int IntKind.i64 b] 223)).alloc (Obj.cells #[Value.int IntKind.i64 Y, Value.int IntKind.i64 b] 223)).drew (W.heap.size + 1) Y b := (show ((W.alloc (Obj.cells #[Value.int IntKind.i64 X, Value.int IntKind.i64 b] 223)).alloc (Obj.cells #[Value.int IntKind.i64 Y, Value.int IntKind.i64 b] 223)).heap[W.heap.size + 1]? = some _ from by have := aN9 (W.alloc (Obj.cells #[Value.int IntKind.i64 X, Value.int IntKind.i64 b] 223)) (Obj.cells #[Value.int IntKind.i64 Y, Value.int IntKind.i64 b] 223); rwa [World.size_alloc] at this)
   have hJ0 : J [] ((W.alloc (Obj.cells #[Value.int IntKind.i64 X, Value.int IntKind.i64 b] 223)).alloc (Obj.cells #[Value.int IntKind.i64 Y, Value.int IntKind.i64 b] 223)).drew := hJd _ _ (hJ _ _ _ none (hJ _ _ _ none h0 (World.grownBy_alloc W (Obj.cells #[Value.int IntKind.i64 X, Value.int IntKind.i64 b] 223) none) (fun _ h => by cases h)) (World.grownBy_alloc _ (Obj.cells #[Value.int IntKind.i64 Y, Value.int IntKind.i64 b] 223) none) (fun _ h => by cases h))
   gi_wp2
   gi_loopw [] (fun wr => ∃ x y pre, x ≤ X ∧ y ≤ Y ∧ J pre wr ∧ UAt wr (W.heap.size) x b ∧ UAt wr (W.heap.size + 1) y b ∧ pre ++ pairs b x y = pairs b X Y) (fun wr => restAt wr (W.heap.size) + restAt wr (W.heap.size + 1))
   case atStart => exact ⟨X, Y, [], Nat.le_refl _, Nat.le_refl _, hJ0, hU1, hU2, rfl⟩
   case round =>
    clear hU1 hU2 hJ0
    obtain ⟨x, y, pre, hx, hy, hJs, hU1, hU2, hp⟩ := hrel
    have hM1 := more_in _ x b wr hU1
    have hM2 := more_in _ y b wr hU2
    have hre1 := restAt_of hU1
    have hre2 := restAt_of hU2
    by_cases hlt : 0 < x + y
    · have hP1 := pull_in _ x b wr hb hb2 (by omega) hU1
      rw [pairs_pos hb hlt] at hp
      have hr1 := Nat.mod_lt x (show 0 < b by omega)
      have hr2 := Nat.mod_lt y (show 0 < b by omega)
      have hl1 := Nat.div_le_self x b
      have hl2 := Nat.div_le_self y b
      have hdl : x / b + y / b < x + y := by
       rcases Nat.eq_zero_or_pos x with h | h
       · have := Nat.div_lt_self (n := y) (k := b) (by omega) hb; omega
       · have := Nat.div_lt_self (n := x) (k := b) h hb; omega
      have hP2 : ∀ w' : World, wr.grownBy w' (some (W.heap.size)) → Calls Tryz.prog 230 #[.pointer (some ⟨W.heap.size + 1, 0, none⟩)] w' fun e w'' => e = .returned (.int .i64 ((y % b : Nat) : Int)) ∧ UAt w'' (W.heap.size + 1) (y / b) b ∧ w'.grownBy w'' (some (W.heap.size + 1)) :=
       fun w' hg => pull_in _ y b w' hb hb2 (by omega) (hU2.kept hg (by simp))
      generalize x % b = r1 at *
      generalize x / b = q1 at *
      generalize y % b = r2 at *
      generalize y / b = q2 at *
      have hpre : (pre ++ [(r1, r2)]) ++ pairs b q1 q2 = pairs b X Y := by simpa using hp
      by_cases hx0 : 0 < x
      · rw [show decide (0 < x) = true by simpa using hx0] at hM1
        gi_wp2_with (first
         | (refine ⟨trivial, ?_⟩; gi_at_call 229; refine (cW9.2 hM1).mono ?_; clear hM1; rintro e w2 ⟨rfl, rfl⟩)
         | (refine ⟨trivial, ?_⟩; gi_at_call 230; (with_reducible refine (cW9.2 hP1).mono ?_); clear hP1; rintro e w2 ⟨rfl, hU1', hg1⟩)
         | (refine ⟨trivial, ?_⟩; gi_at_call 230; go_loud (refine (cW9.2 (hP2 _ hg1)).mono ?_; clear hP2; rintro e w3 ⟨rfl, hU2', hg2⟩; have hU1'' := hU1'.kept hg2 (by simp); have hJ2 := hJ _ _ _ (some (W.heap.size + 1)) (hJ _ _ _ (some (W.heap.size)) hJs hg1 (fun r e => by cases e; omega)) hg2 (fun r e => by cases e; omega); obtain ⟨fn, tmps, assign, body, hy2, hR⟩ := hY _ (r1, r2) w3 hJ2 ⟨_, _, q1, q2, .inl ⟨rfl, rfl⟩, hU1'', hU2', hp, hr1, hr2⟩; clear hY))
         | ((with_reducible apply And.intro); exact trivial))
        refine hR.mono ?_
        rintro e W3 (⟨rfl, hJ3, hk3⟩ | ⟨rfl, hJx3, hk3⟩)
        · have hV1 := hU1''.of_block (hk3.same _ hU1''.lt (by simp))
          have hV2 := hU2'.of_block (hk3.same _ hU2'.lt (by simp))
          gi_wp2
          go_roundw
          case rel => exact ⟨q1, q2, pre ++ [(r1, r2)], by omega, by omega, hJ3, hV1, hV2, hpre⟩
          case measure => rw [restAt_of hV1, restAt_of hV2, hre1, hre2]; omega
        · gi_wp2
          refine bodyPost_ret (results_none rfl _ _ _) rfl ?_
          exact ⟨⟨_, rfl⟩, .inr ⟨_, trivial, hJx3⟩⟩
      · have hy0 : 0 < y := by omega
        rw [show decide (0 < x) = false by simpa using hx0] at hM1
        rw [show decide (0 < y) = true by simpa using hy0] at hM2
        gi_wp2_with (first
         | (refine ⟨trivial, ?_⟩; gi_at_call 229; (with_reducible refine (cW9.2 hM1).mono ?_); clear hM1; rintro e w2 ⟨rfl, rfl⟩)
         | (refine ⟨trivial, ?_⟩; gi_at_call 229; (with_reducible refine (cW9.2 hM2).mono ?_); clear hM2; rintro e w2 ⟨rfl, rfl⟩)
         | (refine ⟨trivial, ?_⟩; gi_at_call 230; (with_reducible refine (cW9.2 hP1).mono ?_); clear hP1; rintro e w2 ⟨rfl, hU1', hg1⟩)
         | (refine ⟨trivial, ?_⟩; gi_at_call 230; go_loud (refine (cW9.2 (hP2 _ hg1)).mono ?_; clear hP2; rintro e w3 ⟨rfl, hU2', hg2⟩; have hU1'' := hU1'.kept hg2 (by simp); have hJ2 := hJ _ _ _ (some (W.heap.size + 1)) (hJ _ _ _ (some (W.heap.size)) hJs hg1 (fun r e => by cases e; omega)) hg2 (fun r e => by cases e; omega); obtain ⟨fn, tmps, assign, body, hy2, hR⟩ := hY _ (r1, r2) w3 hJ2 ⟨_, _, q1, q2, .inl ⟨rfl, rfl⟩, hU1'', hU2', hp, hr1, hr2⟩; clear hY)))
        refine hR.mono ?_
        rintro e W3 (⟨rfl, hJ3, hk3⟩ | ⟨rfl, hJx3, hk3⟩)
        · have hV1 := hU1''.of_block (hk3.same _ hU1''.lt (by simp))
          have hV2 := hU2'.of_block (hk3.same _ hU2'.lt (by simp))
          gi_wp2
          go_roundw
          case rel => exact ⟨q1, q2, pre ++ [(r1, r2)], by omega, by omega, hJ3, hV1, hV2, hpre⟩
          case measure => rw [restAt_of hV1, restAt_of hV2, hre1, hre2]; omega
        · gi_wp2
          refine bodyPost_ret (results_none rfl _ _ _) rfl ?_
          exact ⟨⟨_, rfl⟩, .inr ⟨_, trivial, hJx3⟩⟩
    · obtain ⟨rfl, rfl⟩ : x = 0 ∧ y = 0 := by omega
      rw [show decide (0 < 0) = false by rfl] at hM1 hM2
      rw [pairs_zero, List.append_nil] at hp
      gi_wp2_with (first
       | (refine ⟨trivial, ?_⟩; gi_at_call 229; (with_reducible refine (cW9.2 hM1).mono ?_); clear hM1; rintro e w2 ⟨rfl, rfl⟩)
       | (refine ⟨trivial, ?_⟩; gi_at_call 229; (with_reducible refine (cW9.2 hM2).mono ?_); clear hM2; rintro e w2 ⟨rfl, rfl⟩))
      go_end0
      exact ⟨⟨_, rfl⟩, .inl ⟨_, hp, hJs⟩⟩
 · have hU1 : UAt ((W.alloc (Obj.cells #[Value.int IntKind.i64 Y, Value.int IntKind.i64 b] 223)).alloc (Obj.cells #[Value.int IntKind.i64 X, Value.int IntKind.i64 b] 223)).drew (W.heap.size + 1) X b := (show ((W.alloc (Obj.cells #[Value.int IntKind.i64 Y, Value.int IntKind.i64 b] 223)).alloc (Obj.cells #[Value.int IntKind.i64 X, Value.int IntKind.i64 b] 223)).heap[W.heap.size + 1]? = some _ from by have := aN9 (W.alloc (Obj.cells #[Value.int IntKind.i64 Y, Value.int IntKind.i64 b] 223)) (Obj.cells #[Value.int IntKind.i64 X, Value.int IntKind.i64 b] 223); rwa [World.size_alloc] at this)
   have hU2 : UAt ((W.alloc (Obj.cells #[Value.int IntKind.i64 Y, Value.int IntKind.i64 b] 223)).alloc (Obj.cells #[Value.int IntKind.i64 X, Value.int IntKind.i64 b] 223)).drew (W.heap.size) Y b := (show ((W.alloc (Obj.cells #[Value.int IntKind.i64 Y, Value.int IntKind.i64 b] 223)).alloc (Obj.cells #[Value.int IntKind.i64 X, Value.int IntKind.i64 b] 223)).heap[W.heap.size]? = some _ from (Below.heap_alloc _ _ _ (by simp)).trans (aN9 W _))
   have hJ0 : J [] ((W.alloc (Obj.cells #[Value.int IntKind.i64 Y, Value.int IntKind.i64 b] 223)).alloc (Obj.cells #[Value.int IntKind.i64 X, Value.int IntKind.i64 b] 223)).drew := hJd _ _ (hJ _ _ _ none (hJ _ _ _ none h0 (World.grownBy_alloc W (Obj.cells #[Value.int IntKind.i64 Y, Value.int IntKind.i64 b] 223) none) (fun _ h => by cases h)) (World.grownBy_alloc _ (Obj.cells #[Value.int IntKind.i64 X, Value.int IntKind.i64 b] 223) none) (fun _ h => by cases h))
   gi_wp2
   gi_loopw [] (fun wr => ∃ x y pre, x ≤ X ∧ y ≤ Y ∧ J pre wr ∧ UAt wr (W.heap.size + 1) x b ∧ UAt wr (W.heap.size) y b ∧ pre ++ pairs b x y = pairs b X Y) (fun wr => restAt wr (W.heap.size + 1) + restAt wr (W.heap.size))
   case atStart => exact ⟨X, Y, [], Nat.le_refl _, Nat.le_refl _, hJ0, hU1, hU2, rfl⟩
   case round =>
    clear hU1 hU2 hJ0
    obtain ⟨x, y, pre, hx, hy, hJs, hU1, hU2, hp⟩ := hrel
    have hM1 := more_in _ x b wr hU1
    have hM2 := more_in _ y b wr hU2
    have hre1 := restAt_of hU1
    have hre2 := restAt_of hU2
    by_cases hlt : 0 < x + y
    · have hP1 := pull_in _ x b wr hb hb2 (by omega) hU1
      rw [pairs_pos hb hlt] at hp
      have hr1 := Nat.mod_lt x (show 0 < b by omega)
      have hr2 := Nat.mod_lt y (show 0 < b by omega)
      have hl1 := Nat.div_le_self x b
      have hl2 := Nat.div_le_self y b
      have hdl : x / b + y / b < x + y := by
       rcases Nat.eq_zero_or_pos x with h | h
       · have := Nat.div_lt_self (n := y) (k := b) (by omega) hb; omega
       · have := Nat.div_lt_self (n := x) (k := b) h hb; omega
      have hP2 : ∀ w' : World, wr.grownBy w' (some (W.heap.size + 1)) → Calls Tryz.prog 230 #[.pointer (some ⟨W.heap.size, 0, none⟩)] w' fun e w'' => e = .returned (.int .i64 ((y % b : Nat) : Int)) ∧ UAt w'' (W.heap.size) (y / b) b ∧ w'.grownBy w'' (some (W.heap.size)) :=
       fun w' hg => pull_in _ y b w' hb hb2 (by omega) (hU2.kept hg (by simp))
      generalize x % b = r1 at *
      generalize x / b = q1 at *
      generalize y % b = r2 at *
      generalize y / b = q2 at *
      have hpre : (pre ++ [(r1, r2)]) ++ pairs b q1 q2 = pairs b X Y := by simpa using hp
      by_cases hx0 : 0 < x
      · rw [show decide (0 < x) = true by simpa using hx0] at hM1
        gi_wp2_with (first
         | (refine ⟨trivial, ?_⟩; gi_at_call 229; refine (cW9.2 hM1).mono ?_; clear hM1; rintro e w2 ⟨rfl, rfl⟩)
         | (refine ⟨trivial, ?_⟩; gi_at_call 230; (with_reducible refine (cW9.2 hP1).mono ?_); clear hP1; rintro e w2 ⟨rfl, hU1', hg1⟩)
         | (refine ⟨trivial, ?_⟩; gi_at_call 230; go_loud (refine (cW9.2 (hP2 _ hg1)).mono ?_; clear hP2; rintro e w3 ⟨rfl, hU2', hg2⟩; have hU1'' := hU1'.kept hg2 (by simp); have hJ2 := hJ _ _ _ (some (W.heap.size)) (hJ _ _ _ (some (W.heap.size + 1)) hJs hg1 (fun r e => by cases e; omega)) hg2 (fun r e => by cases e; omega); obtain ⟨fn, tmps, assign, body, hy2, hR⟩ := hY _ (r1, r2) w3 hJ2 ⟨_, _, q1, q2, .inr ⟨rfl, rfl⟩, hU1'', hU2', hp, hr1, hr2⟩; clear hY))
         | ((with_reducible apply And.intro); exact trivial))
        refine hR.mono ?_
        rintro e W3 (⟨rfl, hJ3, hk3⟩ | ⟨rfl, hJx3, hk3⟩)
        · have hV1 := hU1''.of_block (hk3.same _ hU1''.lt (by simp))
          have hV2 := hU2'.of_block (hk3.same _ hU2'.lt (by simp))
          gi_wp2
          go_roundw
          case rel => exact ⟨q1, q2, pre ++ [(r1, r2)], by omega, by omega, hJ3, hV1, hV2, hpre⟩
          case measure => rw [restAt_of hV1, restAt_of hV2, hre1, hre2]; omega
        · gi_wp2
          refine bodyPost_ret (results_none rfl _ _ _) rfl ?_
          exact ⟨⟨_, rfl⟩, .inr ⟨_, trivial, hJx3⟩⟩
      · have hy0 : 0 < y := by omega
        rw [show decide (0 < x) = false by simpa using hx0] at hM1
        rw [show decide (0 < y) = true by simpa using hy0] at hM2
        gi_wp2_with (first
         | (refine ⟨trivial, ?_⟩; gi_at_call 229; (with_reducible refine (cW9.2 hM1).mono ?_); clear hM1; rintro e w2 ⟨rfl, rfl⟩)
         | (refine ⟨trivial, ?_⟩; gi_at_call 229; (with_reducible refine (cW9.2 hM2).mono ?_); clear hM2; rintro e w2 ⟨rfl, rfl⟩)
         | (refine ⟨trivial, ?_⟩; gi_at_call 230; (with_reducible refine (cW9.2 hP1).mono ?_); clear hP1; rintro e w2 ⟨rfl, hU1', hg1⟩)
         | (refine ⟨trivial, ?_⟩; gi_at_call 230; go_loud (refine (cW9.2 (hP2 _ hg1)).mono ?_; clear hP2; rintro e w3 ⟨rfl, hU2', hg2⟩; have hU1'' := hU1'.kept hg2 (by simp); have hJ2 := hJ _ _ _ (some (W.heap.size)) (hJ _ _ _ (some (W.heap.size + 1)) hJs hg1 (fun r e => by cases e; omega)) hg2 (fun r e => by cases e; omega); obtain ⟨fn, tmps, assign, body, hy2, hR⟩ := hY _ (r1, r2) w3 hJ2 ⟨_, _, q1, q2, .inr ⟨rfl, rfl⟩, hU1'', hU2', hp, hr1, hr2⟩; clear hY)))
        refine hR.mono ?_
        rintro e W3 (⟨rfl, hJ3, hk3⟩ | ⟨rfl, hJx3, hk3⟩)
        · have hV1 := hU1''.of_block (hk3.same _ hU1''.lt (by simp))
          have hV2 := hU2'.of_block (hk3.same _ hU2'.lt (by simp))
          gi_wp2
          go_roundw
          case rel => exact ⟨q1, q2, pre ++ [(r1, r2)], by omega, by omega, hJ3, hV1, hV2, hpre⟩
          case measure => rw [restAt_of hV1, restAt_of hV2, hre1, hre2]; omega
        · gi_wp2
          refine bodyPost_ret (results_none rfl _ _ _) rfl ?_
          exact ⟨⟨_, rfl⟩, .inr ⟨_, trivial, hJx3⟩⟩
    · obtain ⟨rfl, rfl⟩ : x = 0 ∧ y = 0 := by omega
      rw [show decide (0 < 0) = false by rfl] at hM1 hM2
      rw [pairs_zero, List.append_nil] at hp
      gi_wp2_with (first
       | (refine ⟨trivial, ?_⟩; gi_at_call 229; (with_reducible refine (cW9.2 hM1).mono ?_); clear hM1; rintro e w2 ⟨rfl, rfl⟩)
       | (refine ⟨trivial, ?_⟩; gi_at_call 229; (with_reducible refine (cW9.2 hM2).mono ?_); clear hM2; rintro e w2 ⟨rfl, rfl⟩))
      go_end0
      exact ⟨⟨_, rfl⟩, .inl ⟨_, hp, hJs⟩⟩
theorem boxed_at {W : World} {k : Nat} (t : TypeId) (v : Value) (h : W.heap.size = k) : Boxed (W.alloc (.cells #[v] t)) k t v := h ▸ Boxed.new W t v
theorem results_cell_one {fn : Func} {p : Tmp} {ty : TypeId} (h : fn.results = #[.cell p ty]) (tmps : Array Value) (P : Program) (w : World) :
 (results fn tmps).run P w = ((asAddr (tmps.getD p undef)).run P w).andThen fun a w₁ => (loadVar ty a).run P w₁ := by
 simp only [results, h]
 simp [Sem.run_bind, Result.andThen]
theorem results_cell_bool {fn : Func} {p : Tmp} (h : fn.results = #[.cell p 4]) (tmps : Array Value) (w : World) (B : Nat) (v : Bool) (hp : tmps.getD p undef = .pointer (some ⟨B, 0, none⟩)) (hb : Boxed w B 4 (.bool v)) :
 (results fn tmps).run Tryz.prog w = .ok (.bool v) w := by
 have hc := hb.cell
 rw [results_cell_one h, hp]
 go_simp
theorem digitsBeside_in (x y b : Int) (w : World) : Calls Tryz.prog 203 #[.int .i64 x, .int .i64 y, .int .i64 b] w fun e w' =>
 e = .returned (.func (.func 228) #[] #[.pointer (some ⟨w.heap.size, 0, none⟩), .pointer (some ⟨w.heap.size + 1 + 1, 0, none⟩), .pointer (some ⟨w.heap.size + 1, 0, none⟩)]) ∧
   ((w.alloc (.cells #[.int .i64 x] 3)).alloc (.cells #[.int .i64 y] 3)).alloc (.cells #[.int .i64 b] 3) = w' := by
 have hmf : ∀ (fn : Fn) (first cap : Array Value) (w : World), (Instr.makeFunc fn first cap).run Tryz.prog w = .ok (.func fn first cap) w := fun _ _ _ _ => rfl
 go_enter Tryz.func203, Tryz.ntmps203
 go_wp2
 go_ret
 exact ⟨by simp, rfl⟩
set_option maxRecDepth 100000 in
set_option maxHeartbeats 1000000 in
theorem implCarries_ok (X Y b : Nat) (hX : X ≤ 499999999) (hY : Y ≤ 499999999) (hb : 2 ≤ b) (hb2 : b ≤ 16) (w : World) : Calls Tryz.prog 168 #[.int .i64 X, .int .i64 Y, .int .i64 b] w fun e w' =>
 e = .returned (.int .i64 (carL b 0 (pairs b X Y))) ∧ Below w.heap.size w w' := by
 refine (cW9 (n := 9)).1 ?_
 refine callsIn_of_wp_marks Tryz.func168 rfl trivial ?_ rfl
 simp only [Tryz.ntmps168, List.size_toArray, List.length_cons, List.length_nil, Nat.reduceAdd, Nat.reduceSub, Array.replicate_succ, Array.replicate_zero, List.push_toArray, List.append_toArray, List.nil_append, List.cons_append]
 gi_wp2_with (first | (refine ⟨trivial, ?_⟩; gi_at_call 55; refine (cW9.2 (within_t _ _ _ (by omega) (by omega))).mono ?_; rintro e w' ⟨rfl, rfl⟩) | (refine ⟨trivial, ?_⟩; gi_at_call 202; refine (cW9.2 (baseOk_t _ _ (by omega) (by omega))).mono ?_; rintro e w' ⟨rfl, rfl⟩) | (refine ⟨trivial, ?_⟩; gi_at_call 203; refine (cW9.2 (digitsBeside_in _ _ _ _)).mono ?_; rintro e w' ⟨rfl, rfl⟩))
 obtain ⟨W0, hW0⟩ : ∃ W0, ((((((w.alloc (Obj.cells #[Value.int IntKind.i64 b] 3)).alloc (Obj.cells #[Value.int IntKind.i64 0] 3)).alloc (Obj.cells #[Value.int IntKind.i64 0] 3)).alloc (Obj.cells #[Value.int IntKind.i64 X] 3)).alloc (Obj.cells #[Value.int IntKind.i64 Y] 3)).alloc (Obj.cells #[Value.int IntKind.i64 b] 3)) = W0 := ⟨_, rfl⟩
 have hsz1 : W0.heap.size ≤ w.heap.size + 6 := by rw [← hW0]; simp
 have hsz2 : w.heap.size + 6 ≤ W0.heap.size := by rw [← hW0]; simp
 have hb0 : Boxed W0 w.heap.size 3 (.int .i64 b) := by rw [← hW0]; exact (((((boxed_at _ _ (by simp)).alloc _).alloc _).alloc _).alloc _).alloc _
 have hb1 : Boxed W0 (w.heap.size + 1) 3 (.int .i64 0) := by rw [← hW0]; exact ((((boxed_at _ _ (by simp)).alloc _).alloc _).alloc _).alloc _
 have hb2' : Boxed W0 (w.heap.size + 1 + 1) 3 (.int .i64 0) := by rw [← hW0]; exact (((boxed_at _ _ (by simp)).alloc _).alloc _).alloc _
 have hb3 : Boxed W0 (w.heap.size + 1 + 1 + 1) 3 (.int .i64 X) := by rw [← hW0]; exact ((boxed_at _ _ (by simp)).alloc _).alloc _
 have hb4 : Boxed W0 (w.heap.size + 1 + 1 + 1 + 1) 3 (.int .i64 Y) := by rw [← hW0]; exact (boxed_at _ _ (by simp)).alloc _
 have hb5 : Boxed W0 (w.heap.size + 1 + 1 + 1 + 1 + 1) 3 (.int .i64 b) := by rw [← hW0]; exact boxed_at _ _ (by simp)
 have hbel : Below w.heap.size w W0 := by rw [← hW0]; exact ((((((Below.refl _ w).alloc (Nat.le_refl _) _).alloc (by simp) _).alloc (by simp; omega) _).alloc (by simp; omega) _).alloc (by simp; omega) _).alloc (by simp; omega) _
 rw [hW0]
 clear hW0
 refine wpIn_rangeFunc_mem rfl (by omega) (gf := 228) (lb := #[.pointer (some ⟨w.heap.size + 1 + 1 + 1, 0, none⟩), .pointer (some ⟨w.heap.size + 1 + 1 + 1 + 1 + 1, 0, none⟩), .pointer (some ⟨w.heap.size + 1 + 1 + 1 + 1, 0, none⟩)]) rfl trivial (enters_of Tryz.func228 (by kernel_rfl) rfl)
  (beside_stops (9 - 1) (w.heap.size + 1 + 1 + 1) (w.heap.size + 1 + 1 + 1 + 1 + 1) (w.heap.size + 1 + 1 + 1 + 1) X Y b (by omega) (by omega) hb hb2 (by omega) W0 (by omega) (by omega) (by omega) hb3.cell hb5.cell hb4.cell) (fun _ _ => rfl) (by omega)
  (fun pre x W o h => by obtain ⟨R1, R2, m, k, ht, h1, h2, h3⟩ := h; exact ⟨R1, R2, m, k, ht, h1.of_block (World.putObj_heap_other (by unfold Two at ht; omega)), h2.of_block (World.putObj_heap_other (by unfold Two at ht; omega)), h3⟩) (fun xs W o h => h) (fun pre W o h => h)
  (fun pre W => Boxed W w.heap.size 3 (.int .i64 b) ∧ Boxed W (w.heap.size + 1) 3 (.int .i64 (carL b 0 pre)) ∧ Boxed W (w.heap.size + 1 + 1) 3 (.int .i64 (goesOn b 0 pre)) ∧ Below w.heap.size w W) (fun _ _ _ => False)
  (fun s A B row hs hg hr => ⟨hs.1.kept hg (fun e => by have := hr _ e.symm; omega), hs.2.1.kept hg (fun e => by have := hr _ e.symm; omega), hs.2.2.1.kept hg (fun e => by have := hr _ e.symm; omega), hs.2.2.2.grown hg hs.2.2.2.size (fun k e => by have := hr _ e; omega)⟩)
  (fun _ _ _ _ _ hs _ _ => hs) ⟨hb0, hb1, hb2', hbel⟩
  (fun x => { tmps := #[.int .i64 X, .int .i64 Y, .int .i64 b, undef, undef, .pointer (some ⟨w.heap.size, 0, none⟩), .int .i64 0, .pointer (some ⟨w.heap.size + 1, 0, none⟩), .pointer (some ⟨w.heap.size + 1 + 1, 0, none⟩), .int .i64 x.1, .int .i64 x.2, .int .i64 X, .bool true, .bool false, .bool false, .int .i64 Y, .bool true, .bool false, .bool false, .bool false, .int .i64 b, .bool true, .bool false, .bool false, .int .i64 X, .int .i64 Y, .int .i64 b,
   .func (.func 228) #[] #[.pointer (some ⟨w.heap.size + 1 + 1 + 1, 0, none⟩), .pointer (some ⟨w.heap.size + 1 + 1 + 1 + 1 + 1, 0, none⟩), .pointer (some ⟨w.heap.size + 1 + 1 + 1 + 1, 0, none⟩)], .int .i64 x.1, .int .i64 x.2, undef, undef, undef, undef, undef, undef, undef, undef, undef, undef, undef], defers := [] }) ?assign ?body ?done ?stop
 case assign =>
  intro l x W K hK
  gi_wp2
  exact hK
 case body =>
  rintro l pre ⟨p, q⟩ W hlt ⟨hx0, hx1, hx2, hB⟩ ⟨R1, R2, m, k, _, _, _, hp, hpb, hqb⟩
  simp only at hpb hqb
  have hall : ∀ z ∈ pre, z.1 < b ∧ z.2 < b := fun z hz => pairs_lt hb X Y z (by rw [← hp]; simp [hz])
  have hc1 : goesOn b 0 pre ≤ 1 := goesOn_le 0 pre (by omega) hall
  have hl1 : carL b 0 pre ≤ 999999999 := by
   have h1 := carL_le 0 pre (by omega) hall
   have h2 := pairs_len hb X Y
   rw [← hp, List.length_append] at h2
   omega
  have hs1 := hide (goesOn_snoc b 0 pre (p, q))
  have hs2 := hide (carL_snoc b 0 pre (p, q))
  have hone := one_carry hpb hqb hc1
  have hdv : Int.tdiv ((p : Int) + q + goesOn b 0 pre) (b : Int) = (((p + q + goesOn b 0 pre) / b : Nat) : Int) := tdiv_nat (p + q + goesOn b 0 pre) b
  clear hp hall
  obtain ⟨c', hc'⟩ : ∃ c', (p + q + goesOn b 0 pre) / b = c' := ⟨_, rfl⟩
  simp only at hs1 hs2
  have hs1' := hide (hs1.out.trans hc')
  have hs2' := hide (hs2.out.trans (by rw [hc']))
  rw [hc'] at hdv hone
  clear hc' hs1 hs2
  have hw1 : IntKind.i64.wrap ((p : Int) + q) = (p : Int) + q := IntWalk.i64_in _ (by omega)
  have hw2 : IntKind.i64.wrap ((p : Int) + q + goesOn b 0 pre) = (p : Int) + q + goesOn b 0 pre := IntWalk.i64_in _ (by omega)
  have hw3 : IntKind.i64.wrap (c' : Int) = c' := IntWalk.i64_in _ (by omega)
  have hb0' : ((b : Int) == 0) = false := by simp; omega
  have hcc0 := hx0.cell
  have hcc1 := hx1.cell
  have hcc2 := hx2.cell
  have hf1 := hx1.frozen
  have hf2 := hx2.frozen
  gi_wp2
  refine ⟨(KeepsSet.setCell _ _ _ (by omega)).trans (KeepsSet.setCell _ _ _ (by omega)), (hx0.other (by omega) _).other (by omega) _, ?_, ?_, (hB.setCell (p := ⟨w.heap.size + 1 + 1, 0, none⟩) (by show w.heap.size ≤ w.heap.size + 1 + 1; omega) _).setCell (p := ⟨w.heap.size + 1, 0, none⟩) (by show w.heap.size ≤ w.heap.size + 1; omega) _⟩
  · rw [hs2'.out, Int.natCast_add]; exact (hx1.other (by omega) _).set _
  · rw [hs1'.out]; exact (hx2.set _).other (by omega) _
 case done =>
  rintro ys W hys ⟨hx0, hx1, hx2, hB⟩ hK
  obtain rfl : ys = pairs b X Y := hys
  have hc := hx1.cell
  gi_wp2
  refine ⟨by simp, .inl ⟨_, _, rfl, run_takeDeferred hK, ?_⟩⟩
  refine ⟨_, results_tmp rfl _ _ _, rfl, ?_⟩
  exact hB.grown (grownBy_putObj' W _ _) hB.size (fun k e => by cases e; omega)
 case stop =>
  rintro c pre W _ h _
  exact h.elim
set_option maxRecDepth 100000 in
set_option maxHeartbeats 1000000 in
theorem implUnder_ok (X Y b : Nat) (hX : X ≤ 999999999) (hY : Y ≤ 999999999) (hb : 2 ≤ b) (hb2 : b ≤ 16) (w : World) : Calls Tryz.prog 193 #[.int .i64 X, .int .i64 Y, .int .i64 b] w fun e w' =>
 e = .returned (.bool (und b X Y)) ∧ Below w.heap.size w w' := by
 refine (cW9 (n := 9)).1 ?_
 refine callsIn_of_wp_marks Tryz.func193 rfl trivial ?_ rfl
 simp only [Tryz.ntmps193, List.size_toArray, List.length_cons, List.length_nil, Nat.reduceAdd, Nat.reduceSub, Array.replicate_succ, Array.replicate_zero, List.push_toArray, List.append_toArray, List.nil_append, List.cons_append]
 gi_wp2_with (first | (refine ⟨trivial, ?_⟩; gi_at_call 55; refine (cW9.2 (within_t _ _ _ (by omega) (by omega))).mono ?_; rintro e w' ⟨rfl, rfl⟩) | (refine ⟨trivial, ?_⟩; gi_at_call 202; refine (cW9.2 (baseOk_t _ _ (by omega) (by omega))).mono ?_; rintro e w' ⟨rfl, rfl⟩) | (refine ⟨trivial, ?_⟩; gi_at_call 203; refine (cW9.2 (digitsBeside_in _ _ _ _)).mono ?_; rintro e w' ⟨rfl, rfl⟩))
 obtain ⟨W0, hW0⟩ : ∃ W0, ((((w.alloc (Obj.cells #[Value.bool false] 4)).alloc (Obj.cells #[Value.int IntKind.i64 X] 3)).alloc (Obj.cells #[Value.int IntKind.i64 Y] 3)).alloc (Obj.cells #[Value.int IntKind.i64 b] 3)) = W0 := ⟨_, rfl⟩
 have hsz1 : W0.heap.size ≤ w.heap.size + 4 := by rw [← hW0]; simp
 have hsz2 : w.heap.size + 4 ≤ W0.heap.size := by rw [← hW0]; simp
 have hb0 : Boxed W0 w.heap.size 4 (.bool false) := by rw [← hW0]; exact (((boxed_at _ _ (by simp)).alloc _).alloc _).alloc _
 have hb3 : Boxed W0 (w.heap.size + 1) 3 (.int .i64 X) := by rw [← hW0]; exact ((boxed_at _ _ (by simp)).alloc _).alloc _
 have hb4 : Boxed W0 (w.heap.size + 1 + 1) 3 (.int .i64 Y) := by rw [← hW0]; exact (boxed_at _ _ (by simp)).alloc _
 have hb5 : Boxed W0 (w.heap.size + 1 + 1 + 1) 3 (.int .i64 b) := by rw [← hW0]; exact boxed_at _ _ (by simp)
 have hbel : Below w.heap.size w W0 := by rw [← hW0]; exact ((((Below.refl _ w).alloc (Nat.le_refl _) _).alloc (by simp) _).alloc (by simp; omega) _).alloc (by simp; omega) _
 rw [hW0]
 clear hW0
 refine wpIn_rangeFunc_mem rfl (by omega) (gf := 228) (lb := #[.pointer (some ⟨w.heap.size + 1, 0, none⟩), .pointer (some ⟨w.heap.size + 1 + 1 + 1, 0, none⟩), .pointer (some ⟨w.heap.size + 1 + 1, 0, none⟩)]) rfl trivial (enters_of Tryz.func228 (by kernel_rfl) rfl)
  (beside_stops (9 - 1) (w.heap.size + 1) (w.heap.size + 1 + 1 + 1) (w.heap.size + 1 + 1) X Y b (by omega) (by omega) hb hb2 (by omega) W0 (by omega) (by omega) (by omega) hb3.cell hb5.cell hb4.cell) (fun _ _ => rfl) (by omega)
  (fun pre x W o h => by obtain ⟨R1, R2, m, k, ht, h1, h2, h3⟩ := h; exact ⟨R1, R2, m, k, ht, h1.of_block (World.putObj_heap_other (by unfold Two at ht; omega)), h2.of_block (World.putObj_heap_other (by unfold Two at ht; omega)), h3⟩) (fun xs W o h => h) (fun pre W o h => h)
  (fun pre W => Boxed W w.heap.size 4 (.bool false) ∧ (∀ z ∈ pre, z.1 ≤ z.2) ∧ Below w.heap.size w W) (fun c pre W => c = .ret ∧ Boxed W w.heap.size 4 (.bool false) ∧ und b X Y = false ∧ Below w.heap.size w W)
  (fun s A B row hs hg hr => ⟨hs.1.kept hg (fun e => by have := hr _ e.symm; omega), hs.2.1, hs.2.2.grown hg hs.2.2.size (fun k e => by have := hr _ e; omega)⟩)
  (fun c s A B row hs hg hr => ⟨hs.1, hs.2.1.kept hg (fun e => by have := hr _ e.symm; omega), hs.2.2.1, hs.2.2.2.grown hg hs.2.2.2.size (fun k e => by have := hr _ e; omega)⟩) ⟨hb0, by simp, hbel⟩
  (fun x => { tmps := #[.int .i64 X, .int .i64 Y, .int .i64 b, undef, undef, undef, .pointer (some ⟨w.heap.size, 0, none⟩), .int .i64 x.1, .int .i64 x.2, .int .i64 X, .bool true, .bool false, .bool false, .int .i64 Y, .bool true, .bool false, .bool false, .bool false, .int .i64 b, .bool true, .bool false, .bool false, .int .i64 X, .int .i64 Y, .int .i64 b,
   .func (.func 228) #[] #[.pointer (some ⟨w.heap.size + 1, 0, none⟩), .pointer (some ⟨w.heap.size + 1 + 1 + 1, 0, none⟩), .pointer (some ⟨w.heap.size + 1 + 1, 0, none⟩)], .int .i64 x.1, .int .i64 x.2, undef, undef, undef], defers := [] }) ?assign ?body ?done ?stop
 case assign =>
  intro l x W K hK
  gi_wp2
  exact hK
 case body =>
  rintro l pre ⟨p, q⟩ W hlt ⟨hx0, hpre, hB⟩ ⟨R1, R2, m, k, _, _, _, hp, hpb, hqb⟩
  simp only at hpb hqb
  have hf0 := hx0.frozen
  have hc0 := hx0.cell
  by_cases hle : p ≤ q
  · have hpre' := hide (show ∀ z ∈ pre ++ [(p, q)], z.1 ≤ z.2 by
   intro z hz
   rcases List.mem_append.1 hz with h | h
   · exact hpre z h
   · obtain rfl : z = (p, q) := by simpa using h
     exact hle)
    clear hp hpre
    gi_wp2
    exact ⟨KeepsSet.refl _ _, hx0, hpre'.out, hB⟩
  · have hu := hide (show und b X Y = false by
   unfold und
   rw [List.all_eq_false]
   exact ⟨(p, q), by rw [← hp]; simp, by simpa using hle⟩)
    clear hp hpre
    gi_wp2
    exact ⟨KeepsSet.setCell _ _ _ (by omega), rfl, hx0.set _, hu.out, hB.setCell (p := ⟨w.heap.size, 0, none⟩) (Nat.le_refl _) _⟩
 case done =>
  rintro ys W hys ⟨hx0, hpre, hB⟩ hK
  obtain rfl : ys = pairs b X Y := hys
  have hu : und b X Y = true := by unfold und; rw [List.all_eq_true]; intro z hz; simpa using hpre z hz
  have hu' := hide hu
  have hf := hx0.frozen
  have hc := hx0.cell
  clear hpre hu
  gi_wp2
  have hK' : (W.setCell ⟨w.heap.size, 0, none⟩ (.bool true)).heap[W0.heap.size]? = some (.deferred (some [])) := (Below.heap_setCell _ _ _ _ (by show W0.heap.size ≠ w.heap.size; omega)).trans hK
  refine ⟨by simp, .inl ⟨_, _, rfl, run_takeDeferred hK', ?_⟩⟩
  refine ⟨_, results_cell_bool rfl _ _ w.heap.size true rfl ((hx0.set (.bool true)).kept (grownBy_putObj' _ _ _) (by simp; omega)), by rw [hu'.out], ?_⟩
  have hB1 := hB.setCell (p := ⟨w.heap.size, 0, none⟩) (Nat.le_refl _) (.bool true)
  exact hB1.grown (grownBy_putObj' _ _ _) hB1.size (fun k e => by cases e; omega)
 case stop =>
  rintro c pre W _ ⟨rfl, hx0, hu, hB⟩ hK
  have hu' := hide hu
  clear hu
  gi_wp2
  refine ⟨by simp, .inl ⟨_, _, rfl, run_takeDeferred hK, ?_⟩⟩
  refine ⟨_, results_cell_bool rfl _ _ w.heap.size false rfl (hx0.kept (grownBy_putObj' _ _ _) (by simp; omega)), by rw [hu'.out], ?_⟩
  exact hB.grown (grownBy_putObj' _ _ _) hB.size (fun k e => by cases e; omega)
end
section
open Go.RowKit Go.Shelf
set_option maxHeartbeats 400000 in
theorem implCarries (x y b : Int) (w : World) : Calls Tryz.prog 168 #[.int .i64 x, .int .i64 y, .int .i64 b] w fun e w' => e = .returned (.int .i64 (carriesV x y b)) ∧ Below w.heap.size w w' := by
 by_cases h : bad2 x y b
 · rw [carriesV_bad h]
   unfold bad2 at h
   by_cases h1 : x < 0 ∨ 499999999 < x
   case' neg => by_cases h2 : y < 0 ∨ 499999999 < y
   all_goals
    go_enter Tryz.func168, Tryz.ntmps168
    go_wp2_with (first | (go_at_call 55; refine (within_t _ _ _ (by omega) (by omega)).mono ?_; rintro e w' ⟨rfl, rfl⟩) | (go_at_call 55; refine (within_f _ _ _ (by omega)).mono ?_; rintro e w' ⟨rfl, rfl⟩) | (go_at_call 202; refine (baseOk_f _ _ (by omega)).mono ?_; rintro e w' ⟨rfl, rfl⟩))
    go_ret
    exact ⟨rfl, (Below.refl _ _).alloc (Nat.le_refl _) _⟩
 · unfold bad2 at h
   obtain ⟨X, rfl⟩ : ∃ N : Nat, x = N := ⟨x.toNat, by omega⟩
   obtain ⟨Y, rfl⟩ : ∃ N : Nat, y = N := ⟨y.toNat, by omega⟩
   obtain ⟨B, rfl⟩ : ∃ B : Nat, b = B := ⟨b.toNat, by omega⟩
   rw [carriesV_nat (by omega) (by omega) (by omega) (by omega)]
   exact implCarries_ok X Y B (by omega) (by omega) (by omega) (by omega) w
set_option maxHeartbeats 400000 in
theorem implUnder (x y b : Int) (w : World) : Calls Tryz.prog 193 #[.int .i64 x, .int .i64 y, .int .i64 b] w fun e w' => e = .returned (.bool (underV x y b)) ∧ Below w.heap.size w w' := by
 by_cases h : bad3 x y b
 · rw [underV_bad h]
   unfold bad3 at h
   have hbx := Boxed.new w 4 (.bool false)
   have hc := hbx.cell
   have hf := hbx.frozen
   by_cases h1 : x < 0 ∨ 999999999 < x
   case' neg => by_cases h2 : y < 0 ∨ 999999999 < y
   all_goals
    go_enter Tryz.func193, Tryz.ntmps193
    go_wp2_with (first | (go_at_call 55; refine (within_t _ _ _ (by omega) (by omega)).mono ?_; rintro e w' ⟨rfl, rfl⟩) | (go_at_call 55; refine (within_f _ _ _ (by omega)).mono ?_; rintro e w' ⟨rfl, rfl⟩) | (go_at_call 202; refine (baseOk_f _ _ (by omega)).mono ?_; rintro e w' ⟨rfl, rfl⟩))
    refine bodyPost_ret (results_cell_bool rfl _ _ w.heap.size false rfl hbx) rfl ?_
    exact ⟨rfl, (Below.refl _ w).alloc (Nat.le_refl _) _⟩
 · unfold bad3 at h
   obtain ⟨X, rfl⟩ : ∃ N : Nat, x = N := ⟨x.toNat, by omega⟩
   obtain ⟨Y, rfl⟩ : ∃ N : Nat, y = N := ⟨y.toNat, by omega⟩
   obtain ⟨B, rfl⟩ : ∃ B : Nat, b = B := ⟨b.toNat, by omega⟩
   rw [underV_nat (by omega) (by omega) (by omega) (by omega)]
   exact implUnder_ok X Y B (by omega) (by omega) (by omega) (by omega) w
end
section
open Go.RowKit
def oc1 (x : Nat) : Nat := (x / 2 &&& 6148914691236517205) + (x &&& 6148914691236517205)
def oc2 (x : Nat) : Nat := (x / 4 &&& 3689348814741910323) + (x &&& 3689348814741910323)
def oc3 (x : Nat) : Nat := (x / 16 + x) &&& 1085102592571150095
def oc4 (x : Nat) : Nat := x + x / 256
def oc5 (x : Nat) : Nat := x + x / 65536
def oc6 (x : Nat) : Nat := x + x / 4294967296
def oc7 (x : Nat) : Nat := x &&& 127
set_option maxRecDepth 100000 in
theorem oc_all : allB (fun n => Nat.beq (oc7 (oc6 (oc5 (oc4 (oc3 (oc2 (oc1 n))))))) (pop n 12)) 4096 = true := by decide +kernel
theorem oc_at {N : Nat} (h : N < 4096) : oc7 (oc6 (oc5 (oc4 (oc3 (oc2 (oc1 N)))))) = pop N 12 := Nat.eq_of_beq_eq_true (allB_of oc_all N h)
theorem oc_pair (x d m : Nat) (hx : x < 1000000) (hm : m < 18446744073709551616) :
 IntKind.u64.wrap (bits .and .u64 ((x : Int) / (d : Int)) (m : Int) + bits .and .u64 (x : Int) (m : Int)) = (((x / d &&& m) + (x &&& m) : Nat) : Int) := by
 have h1 : x / d ≤ x := Nat.div_le_self _ _
 have h2 : x / d &&& m ≤ x / d := Nat.and_le_left
 have h3 : x &&& m ≤ x := Nat.and_le_left
 rw [show (x : Int) / (d : Int) = ((x / d : Nat) : Int) from (Int.natCast_ediv x d).symm, bits_and_u64_nat _ _ (by omega) hm, bits_and_u64_nat _ _ (by omega) hm, ← Int.natCast_add]
 exact IntWalk.u64_in _ (by omega)
theorem oc_sum (x d : Nat) (hx : x < 1000000) : IntKind.u64.wrap ((x : Int) + (x : Int) / (d : Int)) = ((x + x / d : Nat) : Int) := by
 have h1 : x / d ≤ x := Nat.div_le_self _ _
 rw [show (x : Int) / (d : Int) = ((x / d : Nat) : Int) from (Int.natCast_ediv x d).symm, ← Int.natCast_add]
 generalize x / d = y at *
 exact IntWalk.u64_in _ (by omega)
theorem ones64_in (N : Nat) (h : N < 4096) (w : World) : Calls Tryz.prog 240 #[.int .u64 N] w fun e w' => e = .returned (.int .i64 (pop N 12)) ∧ w = w' := by
 go_enter Tryz.func240, Tryz.ntmps240
 go_wp2
 go_ret
 have b1 : oc1 N < 10000 := by
  have h2 : N / 2 &&& 6148914691236517205 ≤ N / 2 := Nat.and_le_left
  have h3 : N &&& 6148914691236517205 ≤ N := Nat.and_le_left
  unfold oc1; omega
 have e1 := oc_pair N 2 6148914691236517205 (by omega) (by decide)
 have b2 : oc2 (oc1 N) < 20000 := by
  have h2 : oc1 N / 4 &&& 3689348814741910323 ≤ oc1 N / 4 := Nat.and_le_left
  have h3 : oc1 N &&& 3689348814741910323 ≤ oc1 N := Nat.and_le_left
  unfold oc2; omega
 have e2 := oc_pair (oc1 N) 4 3689348814741910323 (by omega) (by decide)
 have b3 : oc3 (oc2 (oc1 N)) < 40000 := by
  have h2 : oc2 (oc1 N) / 16 + oc2 (oc1 N) &&& 1085102592571150095 ≤ oc2 (oc1 N) / 16 + oc2 (oc1 N) := Nat.and_le_left
  unfold oc3; omega
 have e3 : IntKind.u64.wrap (((oc2 (oc1 N) : Nat) : Int) / ((16 : Nat) : Int) + ((oc2 (oc1 N) : Nat) : Int)) = ((oc2 (oc1 N) / 16 + oc2 (oc1 N) : Nat) : Int) := by
  rw [Int.add_comm, oc_sum _ _ (by omega), Nat.add_comm]
 have e3b := bits_and_u64_nat (oc2 (oc1 N) / 16 + oc2 (oc1 N)) 1085102592571150095 (by omega) (by decide)
 have b4 : oc4 (oc3 (oc2 (oc1 N))) < 80000 := by unfold oc4; omega
 have e4 := oc_sum (oc3 (oc2 (oc1 N))) 256 (by omega)
 have b5 : oc5 (oc4 (oc3 (oc2 (oc1 N)))) < 160000 := by unfold oc5; omega
 have e5 := oc_sum (oc4 (oc3 (oc2 (oc1 N)))) 65536 (by omega)
 have b6 : oc6 (oc5 (oc4 (oc3 (oc2 (oc1 N))))) < 320000 := by unfold oc6; omega
 have e6 := oc_sum (oc5 (oc4 (oc3 (oc2 (oc1 N))))) 4294967296 (by omega)
 have e7 := and_i64 (oc6 (oc5 (oc4 (oc3 (oc2 (oc1 N)))))) 127 (by omega) (by omega)
 have e9 := oc_at h
 have g1 : IntKind.u64.wrap (bits .and .u64 ((N : Int) / 2) 6148914691236517205 + bits .and .u64 (N : Int) 6148914691236517205) = ((oc1 N : Nat) : Int) := e1
 have g2 : IntKind.u64.wrap (bits .and .u64 (((oc1 N : Nat) : Int) / 4) 3689348814741910323 + bits .and .u64 ((oc1 N : Nat) : Int) 3689348814741910323) = ((oc2 (oc1 N) : Nat) : Int) := e2
 have g3 : IntKind.u64.wrap (((oc2 (oc1 N) : Nat) : Int) / 16 + ((oc2 (oc1 N) : Nat) : Int)) = ((oc2 (oc1 N) / 16 + oc2 (oc1 N) : Nat) : Int) := e3
 have g3b : bits .and .u64 ((oc2 (oc1 N) / 16 + oc2 (oc1 N) : Nat) : Int) 1085102592571150095 = ((oc3 (oc2 (oc1 N)) : Nat) : Int) := e3b
 have g4 : IntKind.u64.wrap (((oc3 (oc2 (oc1 N)) : Nat) : Int) + ((oc3 (oc2 (oc1 N)) : Nat) : Int) / 256) = ((oc4 (oc3 (oc2 (oc1 N))) : Nat) : Int) := e4
 have g5 : IntKind.u64.wrap (((oc4 (oc3 (oc2 (oc1 N))) : Nat) : Int) + ((oc4 (oc3 (oc2 (oc1 N))) : Nat) : Int) / 65536) = ((oc5 (oc4 (oc3 (oc2 (oc1 N)))) : Nat) : Int) := e5
 have g6 : IntKind.u64.wrap (((oc5 (oc4 (oc3 (oc2 (oc1 N)))) : Nat) : Int) + ((oc5 (oc4 (oc3 (oc2 (oc1 N)))) : Nat) : Int) / 4294967296) = ((oc6 (oc5 (oc4 (oc3 (oc2 (oc1 N))))) : Nat) : Int) := e6
 have g7 : bits .and .i64 ((oc6 (oc5 (oc4 (oc3 (oc2 (oc1 N))))) : Nat) : Int) 127 = ((oc7 (oc6 (oc5 (oc4 (oc3 (oc2 (oc1 N)))))) : Nat) : Int) := e7
 rw [e9] at g7
 have g8 : wrap64 ((oc6 (oc5 (oc4 (oc3 (oc2 (oc1 N))))) : Nat) : Int) = (oc6 (oc5 (oc4 (oc3 (oc2 (oc1 N))))) : Nat) := IntWalk.wrap64_in _ (by omega)
 refine ⟨?_, rfl⟩
 show Ending.returned _ = _
 simp only [g1, g2, g3, g3b, g4, g5, g6, g8, g7]
 rfl
theorem ones_in (N : Nat) (h : N < 4096) (w : World) : Calls Tryz.prog 217 #[.int .u64 N] w fun e w' => e = .returned (.int .i64 (pop N 12)) ∧ w = w' := by
 go_enter Tryz.func217, Tryz.ntmps217
 go_wp2_with (go_at_call 240; refine (ones64_in _ h _).mono ?_; rintro e w' ⟨rfl, rfl⟩)
 go_ret
 exact ⟨rfl, rfl⟩
def sdV (N c : Nat) : Value := .agg #[.int .u64 N, .int .i64 c]
def SdAt (W : World) (b N c : Nat) : Prop := W.heap[b]? = some (.cells #[.int .u64 N, .int .i64 c] 149 (0, 0))
theorem SdAt.lt {W : World} {b N c : Nat} (h : SdAt W b N c) : b < W.heap.size := (gE9.1 h).1
theorem SdAt.cell0 {W : World} {b N c : Nat} (h : SdAt W b N c) : W.cell? ⟨b, 0, none⟩ = some (.int .u64 N) := by simp [World.cell?, show W.heap[b]? = _ from h]
theorem SdAt.cell1 {W : World} {b N c : Nat} (h : SdAt W b N c) : W.cell? ⟨b, 1, none⟩ = some (.int .i64 c) := by simp [World.cell?, show W.heap[b]? = _ from h]
theorem SdAt.frozen {W : World} {b N c : Nat} (h : SdAt W b N c) (i : Nat) : W.frozen? ⟨b, i, none⟩ = false := by simp [World.frozen?, show W.heap[b]? = _ from h]
theorem SdAt.new (W : World) (N c : Nat) : SdAt (W.alloc (.cells #[.int .u64 N, .int .i64 c] 149)) W.heap.size N c := aN9 W _
theorem SdAt.of_block {W W' : World} {b N c : Nat} (h : SdAt W b N c) (hb : W'.heap[b]? = W.heap[b]?) : SdAt W' b N c := hb.trans h
theorem SdAt.kept {W W' : World} {row : Option Nat} {b N c : Nat} (h : SdAt W b N c) (hg : W.grownBy W' row) (hne : some b ≠ row) : SdAt W' b N c := (hg.block b h.lt hne).trans h
theorem set_block {W : World} {b : Nat} {cur : Array Value} {t : TypeId} (h : W.heap[b]? = some (.cells cur t (0, 0))) (p : Nat) (v : Value) : (W.setCell ⟨b, p, none⟩ v).heap[b]? = some (.cells (cur.setIfInBounds p v) t (0, 0)) := by
 obtain ⟨hlt, hk⟩ := gE9.1 h
 show (W.heap.modify b _)[b]? = _
 rw [Array.getElem?_eq_getElem (by rw [Array.size_modify]; exact hlt), Array.getElem_modify_self, hk]; rfl
theorem SdAt.set {W : World} {b N c : Nat} (h : SdAt W b N c) (N' c' : Nat) : SdAt ((W.setCell ⟨b, 0, none⟩ (.int .u64 N')).setCell ⟨b, 1, none⟩ (.int .i64 c')) b N' c' := by
 exact set_block (set_block h 0 _) 1 _
theorem SdAt.alloc {W : World} {b N c : Nat} (h : SdAt W b N c) (o : Obj) : SdAt (W.alloc o) b N c := h.kept (World.grownBy_alloc W o none) (by simp)
theorem results_side {fn : Func} {p : Tmp} (h : fn.results = #[.cell p 149]) (tmps : Array Value) (w : World) (b N c : Nat) (hp : tmps.getD p undef = .pointer (some ⟨b, 0, none⟩)) (hs : SdAt w b N c) :
 (results fn tmps).run Tryz.prog w = .ok (sdV N c) w := by
 have hc0 := hs.cell0
 have hc1 := hs.cell1
 rw [results_cell_one h, hp]
 go_simp
 rfl
theorem cell_in (N c k : Nat) (h : N < 4096) (hk : k < 12) (w : World) : Calls Tryz.prog 173 #[sdV N c, .int .i64 k] w fun e w' => e = .returned (.int .i64 (bitF N k)) ∧ Below w.heap.size w w' := by
 have hd : N >>> k ≤ N := by rw [Nat.shiftRight_eq_div_pow]; exact Nat.div_le_self _ _
 have e1 : (N : Int) / (2 : Int) ^ k = ((N >>> k : Nat) : Int) := by rw [Nat.shiftRight_eq_div_pow]; simp
 have e2 : bits .and .u64 ((N >>> k : Nat) : Int) 1 = ((bitF N k : Nat) : Int) := by
  have := bits_and_u64_nat (N >>> k) 1 (by omega) (by omega)
  rw [Nat.and_one_is_mod] at this
  exact this
 have hb := bitF_le N k
 have e3 : wrap64 ((bitF N k : Nat) : Int) = ((bitF N k : Nat) : Int) := IntWalk.wrap64_in _ (by omega)
 have e3' := hide e3
 have e2' := hide e2
 have e1' := hide e1
 clear e1 e2 e3
 unfold sdV
 go_enter Tryz.func173, Tryz.ntmps173
 go_wp2
 go_ret
 refine ⟨?_, (Below.refl _ w).alloc (Nat.le_refl _) _⟩
 show Ending.returned (.int .i64 _) = _
 rw [e1'.out, e2'.out, e3'.out]
set_option maxRecDepth 100000 in
theorem under_in (N l : Nat) (h : N < 4096) (hk : l < 12) (w : World) : Calls Tryz.prog 170 #[sdV N (l + 1)] w fun e w' => e = .returned (sdV (downN l N) l) ∧ Below w.heap.size w w' := by
 obtain ⟨Q, hQ⟩ : ∃ Q, 2 ^ l = Q := ⟨_, rfl⟩
 have hQl : Q ≤ 4096 := by rw [← hQ]; exact lT9 (Nat.pow_le_pow_right (by omega) (by omega : l ≤ 12)) (by decide)
 have hQ1 : 1 ≤ Q := by rw [← hQ]; exact Nat.pow_pos (by omega)
 have hQi : (2 : Int) ^ l = (Q : Int) := by rw [← hQ]; simp
 have hde : downN l N = (N ^^^ (N >>> 1)) &&& (Q - 1) := by rw [← hQ, Nat.and_two_pow_sub_one_eq_mod]; rfl
 have hh : N >>> 1 ≤ N := by rw [Nat.shiftRight_eq_div_pow]; exact Nat.div_le_self _ _
 have hhi : (N : Int) / (2 : Int) = ((N >>> 1 : Nat) : Int) := by rw [Nat.shiftRight_eq_div_pow]; omega
 have hxo := bits_xor_u64_nat N (N >>> 1) (by omega) (by omega)
 have hxl : N ^^^ (N >>> 1) < 2 ^ 12 := Nat.xor_lt_two_pow (by omega) (by omega)
 have han := bits_and_u64_nat (N ^^^ (N >>> 1)) (Q - 1) (by omega) (by omega)
 rw [← hde, show ((Q - 1 : Nat) : Int) = (Q : Int) - 1 by omega] at han
 unfold sdV
 generalize N ^^^ (N >>> 1) = X at *
 generalize N >>> 1 = H at *
 generalize downN l N = D at *
 have hw1 : IntKind.u64.wrap (Q : Int) = Q := IntWalk.u64_in _ (by omega)
 have hw2 : IntKind.u64.wrap ((Q : Int) - 1) = (Q : Int) - 1 := IntWalk.u64_in _ (by omega)
 have hp0 : (0 : Int) ≤ (l : Int) := by omega
 clear hQ hde
 go_enter Tryz.func170, Tryz.ntmps170
 go_wp2
 obtain ⟨W0, hW0⟩ : ∃ W0, ((w.alloc (Obj.cells #[Value.int IntKind.u64 N, Value.int IntKind.i64 ((l : Int) + 1)] 149)).alloc (Obj.cells #[Value.int IntKind.u64 0, Value.int IntKind.i64 0] 149)) = W0 := ⟨_, rfl⟩
 have hs0 : SdAt W0 w.heap.size N (l + 1) := by rw [← hW0]; exact (SdAt.new w N (l + 1)).alloc _
 have hc0 := hs0.cell0
 have hB0 : Below w.heap.size w W0 := by rw [← hW0]; exact ((Below.refl _ w).alloc (Nat.le_refl _) _).alloc (by simp) _
 have hs1 : SdAt W0 (w.heap.size + 1) 0 0 := by
  rw [← hW0]; have := SdAt.new (w.alloc (Obj.cells #[Value.int IntKind.u64 N, Value.int IntKind.i64 ((l : Int) + 1)] 149)) 0 0; rwa [World.size_alloc] at this
 rw [hW0]
 clear hW0
 go_still_tail 12, (by kernel_rfl)
 change wpList _ _ _ _ _ W0.drew
 have hd0 := hs1.cell0
 have hd1 := hs1.cell1
 have hf0 := hs1.frozen 0
 have hf1 := hs1.frozen 1
 go_wp2
 refine bodyPost_ret (results_side rfl _ _ (w.heap.size + 1) D l rfl (hs1.set D l)) rfl ⟨rfl, ?_⟩
 exact ((hB0.setCell (p := ⟨w.heap.size + 1, 0, none⟩) (by show w.heap.size ≤ w.heap.size + 1; omega) _).setCell (p := ⟨w.heap.size + 1, 1, none⟩) (by show w.heap.size ≤ w.heap.size + 1; omega) _).drew
end
section
open Go.RowKit Go.Shelf
attribute [local go_sem] Oper.semAt_some
theorem down_in (N c : Nat) (w : World) : Calls Tryz.prog 172 #[sdV N c] w fun e w' => e = .returned (.func (.func 204) #[] #[.pointer (some ⟨w.heap.size, 0, none⟩)]) ∧ w.alloc (.cells #[.int .u64 N, .int .i64 c] 149) = w' := by
 have hmf : ∀ (fn : Fn) (first cap : Array Value) (w : World), (Instr.makeFunc fn first cap).run Tryz.prog w = .ok (.func fn first cap) w := fun _ _ _ _ => rfl
 unfold sdV
 go_enter Tryz.func172, Tryz.ntmps172
 go_wp2
 go_ret
 exact ⟨rfl, rfl⟩
def DnHd (c : Nat) (_n0 : Nat) (pre : List Nat) (x : Nat) (_W : World) : Prop := pre = List.range x ∧ x < c
def DnS (c : Nat) (_n0 : Nat) (xs : List Nat) (_W : World) : Prop := xs = List.range c
def restSd (p : Value) (W : World) : Nat :=
 match p with
 | .pointer (some a) => (match W.cell? ⟨a.block, 1, none⟩ with
   | some (.int _ n) => n.toNat
   | _ => 0)
 | _ => 0
theorem restSd_of {W : World} {b N c : Nat} (h : SdAt W b N c) : restSd (.pointer (some ⟨b, 0, none⟩)) W = c := by
 have := h.cell1
 unfold restSd
 simp [this]
theorem grown_of_below {W W' : World} (h : Below W.heap.size W W') : W.grownBy W' none := ⟨h.os, h.tape, h.output, h.size, fun b hb _ => h.block b hb⟩
set_option maxRecDepth 100000 in
set_option maxHeartbeats 1000000 in
theorem down_stops (n B N c : Nat) (hN : N < 2 ^ c) (hc : c ≤ 12) (hn : 1 ≤ n) (w : World) (hB : SdAt w B N c) :
 SeqMem Fence.wide n Tryz.prog 204 #[.pointer (some ⟨B, 0, none⟩)] 0 (fun _ (j : Nat) => #[sdV (rowB c N j) (c - j)])
  (DnHd c) (fun n0 k => n0 ≤ k) (DnS c) (fun _ _ _ => True) w := by
 intro l J Jx W hW hJ hJx hY h0
 have hBW : SdAt W B N c := hB.of_block (hW.block B hB.lt)
 have hc0 := hBW.cell0
 have hc1 := hBW.cell1
 have hN12 : N < 4096 := lL9 hN (lT9 (Nat.pow_le_pow_right (by omega) hc) (by decide))
 refine callsIn_of_wp Tryz.func204 rfl trivial ?_ rfl
 simp only [Tryz.ntmps204, List.size_toArray, List.length_cons, List.length_nil, Nat.reduceAdd, Nat.reduceSub, Array.replicate_succ, Array.replicate_zero, List.push_toArray, List.append_toArray, List.nil_append, List.cons_append]
 clear hB
 gi_wp2
 have hS0 : SdAt (W.alloc (.cells #[.int .u64 N, .int .i64 c] 149)) W.heap.size N c := SdAt.new W N c
 have hJ0 : J [] (W.alloc (.cells #[.int .u64 N, .int .i64 c] 149)) := hJ _ _ _ none h0 (World.grownBy_alloc W _ none) (fun _ h => by cases h)
 clear hc0 hc1 hBW h0
 gi_loopw [3] (fun p wr => ∃ j b : Nat, j ≤ c ∧ p = .pointer (some ⟨b, 0, none⟩) ∧ W.heap.size ≤ b ∧ SdAt wr b (rowB c N j) (c - j) ∧ J (List.range j) wr) (fun p wr => restSd p wr)
 case atStart => exact ⟨0, W.heap.size, by omega, rfl, Nat.le_refl _, hS0, hJ0⟩
 case round =>
  clear hS0 hJ0
  obtain ⟨j, b, hj, rfl, hb, hS, hJs⟩ := hrel
  have hm1 := restSd_of hS
  by_cases hlt : j < c
  · obtain ⟨d, hd⟩ : ∃ d, c - j = d + 1 := ⟨c - j - 1, by omega⟩
    have hdd : c - (j + 1) = d := by omega
    have hU := under_in (rowB c N j) d (rowB_small hN hc j) (by omega)
    have hrow : downN d (rowB c N j) = rowB c N (j + 1) := by show _ = downN (c - (j + 1)) _; rw [hdd]
    rw [hrow] at hU
    obtain ⟨fn, tmps, assign, body, hy, hR⟩ := hY _ j wr hJs ⟨rfl, hlt⟩
    clear hY
    rw [hd] at hS hy hm1
    have hc0 := hS.cell0
    have hc1 := hS.cell1
    unfold sdV at hy hU
    have hd' := hide hdd
    have hm1' := hide hm1
    clear hd hdd hrow hm1
    generalize hM : rowB c N j = M at *
    generalize hM2 : rowB c N (j + 1) = M2 at *
    have hdi : (0 : Int) < (d : Int) + 1 := by omega
    have hde : ((d + 1 : Nat) : Int) = (d : Int) + 1 := Int.natCast_succ d
    rw [hde] at hy hc1 hU
    clear hde
    have hM' := hide hM
    have hM2' := hide hM2
    clear hM hM2
    gi_wp2
    refine hR.mono ?_
    rintro e W3 (⟨rfl, hJ3, hk3⟩ | ⟨rfl, hJx3, hk3⟩)
    · have hS3 : SdAt W3 b M (d + 1) := hS.of_block (hk3.same b hS.lt hb)
      have hc30 := hS3.cell0
      have hc31 := hS3.cell1
      clear hc0 hc1
      gi_wp2_with fail
      have hS4 : SdAt (W3.alloc (.cells #[.int .u64 M, .int .i64 ((d : Int) + 1)] 149)) W3.heap.size M (d + 1) := SdAt.new W3 M (d + 1)
      refine ⟨trivial, ?_⟩
      gi_at_call 170
      refine (cW9.2 (hU _)).mono ?_
      clear hU
      rintro e w4 ⟨rfl, hB4⟩
      have hS5 : SdAt w4 W3.heap.size M (d + 1) := hS4.of_block (hB4.block _ hS4.lt)
      have h50 := hS5.cell0
      have h51 := hS5.cell1
      have h5f := hS5.frozen 0
      have h5g := hS5.frozen 1
      have hS6 := hS5.set M2 d
      have hB5 : Below W3.heap.size W3 ((w4.setCell ⟨W3.heap.size, 0, none⟩ (.int .u64 M2)).setCell ⟨W3.heap.size, 1, none⟩ (.int .i64 d)) :=
       ((((Below.refl _ W3).alloc (Nat.le_refl _) _).trans (hB4.mono (by simp))).setCell (p := ⟨W3.heap.size, 0, none⟩) (Nat.le_refl _) _).setCell (p := ⟨W3.heap.size, 1, none⟩) (Nat.le_refl _) _
      have hJ5 := hJ _ _ _ none hJ3 (grown_of_below hB5) (fun _ h => by cases h)
      have hb3 : W.heap.size ≤ W3.heap.size := lT9 hb (Nat.le_of_lt hS3.lt)
      clear hS4 hS5
      gi_wp2
      go_roundw
      case rel => exact ⟨j + 1, W3.heap.size, by omega, rfl, hb3, by rw [hM2'.out, hd'.out]; exact hS6, by rw [List.range_succ]; exact hJ5⟩
      case measure => show restSd (.pointer (some ⟨W3.heap.size, 0, none⟩)) _ < restSd (.pointer (some ⟨b, 0, none⟩)) _; rw [restSd_of hS6, hm1'.out]; omega
    · gi_wp2
      refine bodyPost_ret (results_none rfl _ _ _) rfl ?_
      exact ⟨⟨_, rfl⟩, .inr ⟨_, trivial, hJx3⟩⟩
  · obtain rfl : j = c := by omega
    rw [Nat.sub_self] at hS
    have hc1 := hS.cell1
    have hc0 := hS.cell0
    gi_wp2
    go_end0
    exact ⟨⟨_, rfl⟩, .inl ⟨_, rfl, hJs⟩⟩
structure OnAx (w0 n0 B c N : Nat) (w W : World) (pre : List Nat) (x b : Nat) : Prop where
 side : SdAt W b (rowB c N x) (c - x)
 box : Boxed W B 3 (.int .i64 (onesU c N x))
 below : Below w0 w W
 pre : pre = List.range x
 lt : x < c
 at_ : n0 ≤ b
set_option maxRecDepth 100000 in
set_option maxHeartbeats 1000000 in
theorem onesDown_in (N c : Nat) (hN : N < 2 ^ c) (hc : c ≤ 12) (w : World) : Calls Tryz.prog 192 #[sdV N c] w fun e w' => e = .returned (.int .i64 (onesN c N)) ∧ Below w.heap.size w w' := by
 have hall := hide (onesU_all hN hc)
 refine (cW9 (n := 9)).1 ?_
 unfold sdV
 refine callsIn_of_wp_marks Tryz.func192 rfl trivial ?_ rfl
 simp only [Tryz.ntmps192, List.size_toArray, List.length_cons, List.length_nil, Nat.reduceAdd, Nat.reduceSub, Array.replicate_succ, Array.replicate_zero, List.push_toArray, List.append_toArray, List.nil_append, List.cons_append]
 have hD := fun w => down_in N c w
 unfold sdV at hD
 gi_wp2_with (refine ⟨trivial, ?_⟩; gi_at_call 172; refine (cW9.2 (hD _)).mono ?_; rintro e w' ⟨rfl, rfl⟩)
 clear hD
 obtain ⟨W0, hW0⟩ : ∃ W0, ((w.alloc (Obj.cells #[Value.int IntKind.u64 N, Value.int IntKind.i64 c] 149)).alloc (Obj.cells #[Value.int IntKind.i64 0] 3)).alloc (Obj.cells #[Value.int IntKind.u64 N, Value.int IntKind.i64 c] 149) = W0 := ⟨_, rfl⟩
 have hsz1 : W0.heap.size ≤ w.heap.size + 3 := by rw [← hW0]; simp
 have hsz2 : w.heap.size + 3 ≤ W0.heap.size := by rw [← hW0]; simp
 have hbo : Boxed W0 (w.heap.size + 1) 3 (.int .i64 0) := by rw [← hW0]; exact (boxed_at _ _ (by simp)).alloc _
 have hbs : SdAt W0 (w.heap.size + 1 + 1) N c := by
  rw [← hW0]
  have := SdAt.new ((w.alloc (Obj.cells #[Value.int IntKind.u64 N, Value.int IntKind.i64 c] 149)).alloc (Obj.cells #[Value.int IntKind.i64 0] 3)) N c
  rwa [World.size_alloc, World.size_alloc] at this
 have hbel : Below w.heap.size w W0 := by rw [← hW0]; exact (((Below.refl _ w).alloc (Nat.le_refl _) _).alloc (by simp) _).alloc (by simp; omega) _
 rw [hW0]
 clear hW0
 refine wpIn_rangeFunc_box rfl (by omega) (gf := 204) (lb := #[.pointer (some ⟨w.heap.size + 1 + 1, 0, none⟩)]) rfl trivial (enters_of Tryz.func204 (by kernel_rfl) rfl)
  (down_stops (9 - 1) (w.heap.size + 1 + 1) N c hN hc (by omega) W0 hbs) (fun _ _ => rfl) (by omega)
  (fun ys W o h => h) (fun pre W o h => h)
  (fun pre W => Boxed W (w.heap.size + 1) 3 (.int .i64 (onesU c N pre.length)) ∧ Below w.heap.size w W) (fun _ _ _ => False)
  (fun s A B row hs hg hr => ⟨hs.1.kept hg (fun e => by have := hr _ e.symm; omega), hs.2.grown hg hs.2.size (fun k e => by have := hr _ e; omega)⟩)
  (fun _ _ _ _ _ hs _ _ => hs) ⟨hbo, hbel⟩
  (fun pre x b W => ∃ k, b = { tmps := #[.agg #[.int .u64 N, .int .i64 c], .pointer (some ⟨w.heap.size, 0, none⟩), .int .i64 0, .pointer (some ⟨w.heap.size + 1, 0, none⟩), .pointer (some ⟨k, 0, none⟩), .agg #[.int .u64 N, .int .i64 c],
   .func (.func 204) #[] #[.pointer (some ⟨w.heap.size + 1 + 1, 0, none⟩)], .agg #[.int .u64 (rowB c N x), .int .i64 ((c - x : Nat) : Int)], undef, undef, undef, undef, undef, undef], defers := [] } ∧ OnAx w.heap.size (W0.heap.size + 2) (w.heap.size + 1) c N w W pre x k)
  (fun pre x b W o ⟨k, hb, hO⟩ => ⟨k, hb, hO.side.of_block (World.putObj_heap_other (by have := hO.at_; omega)), hO.box.kept (grownBy_putObj' W _ _) (by simp; omega), hO.below.grown (grownBy_putObj' W _ _) hO.below.size (fun k e => by cases e; omega), hO.pre, hO.lt, hO.at_⟩) ?assign ?body ?done ?stop
 case assign =>
  rintro l pre x W Q' hlt ⟨hb, hB⟩ ⟨hpre, hx⟩ hQ
  have hpl : pre.length = x := by rw [hpre, List.length_range]
  rw [hpl] at hb
  have hQ' := hide hQ
  clear hQ hpl hall
  unfold sdV
  gi_wp2
  exact hQ'.out _ _ (KeepsSet.of_grownBy (World.grownBy_alloc W _ none) (fun _ e => by cases e)) ⟨W.heap.size, rfl, SdAt.new W _ _, hb.alloc _, hB.alloc hB.size _, hpre, hx, by omega⟩
 case body =>
  rintro l pre x b W hlt ⟨k, rfl, hO⟩
  have hA12 := onesU_le c N x
  have hP12 := pop_le12 (rowB c N x) 12
  have hnx : onesU c N (x + 1) = onesU c N x + pop (rowB c N x) 12 := rfl
  have hcall := fun V => ones_in (rowB c N x) (rowB_small hN hc x) V
  have hxc := hO.lt
  have hpl : (pre ++ [x]).length = x + 1 := by rw [List.length_append, hO.pre, List.length_range]; rfl
  have hbx := hO.box
  have hs0 := hO.side.cell0
  have hk := hO.side.lt
  have hka := hO.at_
  have hbl := hO.below
  clear hO
  rw [← hpl] at hnx
  have hnx' := hide hnx
  generalize rowB c N x = M at *
  generalize onesU c N x = A at *
  generalize pop M 12 = R at *
  have hbd := hide (show A + R ≤ 1000 by omega)
  clear hA12 hP12 hpl hall hnx
  gi_wp2
  refine wpIn_region_tail 5 (by kernel_rfl) (by kernel_rfl) (by kernel_rfl) (by decide)
   (fun s => { tmps := #[.agg #[.int .u64 N, .int .i64 c], .pointer (some ⟨w.heap.size, 0, none⟩), .int .i64 0, .pointer (some ⟨w.heap.size + 1, 0, none⟩), .pointer (some ⟨k, 0, none⟩), .agg #[.int .u64 N, .int .i64 c],
    .func (.func 204) #[] #[.pointer (some ⟨w.heap.size + 1 + 1, 0, none⟩)], .agg #[.int .u64 M, .int .i64 ((c - x : Nat) : Int)], s 0, s 1, s 2, s 3, s 4, undef], defers := [] })
   (fun V => V = W.drew) (fun _ _ => True) (fun i v _ => v = [.int .i64 A, .pointer (some ⟨k, 0, none⟩), .int .u64 M, .int .i64 R, .int .i64 ((A : Int) + R)].getD i undef)
   ⟨fun _ => undef, rfl⟩ ?put rfl (fun _ _ _ _ h _ => h) ?step ?tail
  case put =>
   intro i o s v hi ho
   rcases (show i = 0 ∨ i = 1 ∨ i = 2 ∨ i = 3 ∨ i = 4 by omega) with rfl | rfl | rfl | rfl | rfl
   all_goals
    simp at ho
    subst ho
    simp [Act.put]
  case step =>
   rintro i o s _ hi ho rfl hd Q' hQ
   have hcc := hbx.cell
   rcases (show i = 0 ∨ i = 1 ∨ i = 2 ∨ i = 3 ∨ i = 4 by omega) with rfl | rfl | rfl | rfl | rfl
   all_goals
    simp at ho
    subst ho
    simp [Act.put] at hQ
    have hQ' := hide hQ
    clear hQ
   case inl =>
    clear hd
    gi_wp2
    exact hQ'.out
   case inr.inl =>
    clear hd
    gi_wp2
    exact hQ'.out
   case inr.inr.inl =>
    have e1 : s 1 = .pointer (some ⟨k, 0, none⟩) := hd 1 (by kernel_rfl)
    clear hd
    gi_wp2
    exact hQ'.out
   case inr.inr.inr.inl =>
    have e1 : s 2 = .int .u64 M := hd 2 (by kernel_rfl)
    clear hd
    gi_wp2_with (refine ⟨trivial, ?_⟩; gi_at_call 217; refine (cW9.2 (hcall _)).mono ?_; rintro e w' ⟨rfl, rfl⟩)
    have hr := hQ'.out
    rw [e1] at hr
    exact hr
   case inr.inr.inr.inr =>
    have e1 : s 0 = .int .i64 A := hd 0 (by kernel_rfl)
    have e2 : s 3 = .int .i64 R := hd 3 (by kernel_rfl)
    have hw := hide (show IntKind.i64.wrap ((A : Int) + R) = (A : Int) + R from IntWalk.i64_in _ (by have := hbd.out; omega))
    have hbb := hbd.out
    clear hd
    gi_wp2
    exact hQ'.out
  case tail =>
   rintro s _ rfl hd
   have e1 : s 4 = .int .i64 ((A : Int) + R) := hd 4 (by omega)
   have hcc := hbx.cell
   have hff := hbx.frozen
   clear hd
   simp only [List.drop_succ_cons, List.drop_zero]
   gi_wp2
   refine ⟨(KeepsSet.setCell _ _ _ (by omega)).trans (KeepsSet.drew _ _), ?_, ?_⟩
   · rw [hnx'.out, Int.natCast_add]
     exact (hbx.set _ : Boxed (W.setCell ⟨w.heap.size + 1, 0, none⟩ (.int .i64 ((A : Int) + R))) _ _ _)
   · exact (hbl.setCell (p := ⟨w.heap.size + 1, 0, none⟩) (by show w.heap.size ≤ w.heap.size + 1; omega) _).drew
 case done =>
  rintro ys W hys ⟨hb, hB⟩ hK
  obtain rfl : ys = List.range c := hys
  rw [List.length_range, hall.out] at hb
  have hcc := hb.cell
  gi_wp2
  refine ⟨by simp, .inl ⟨_, _, rfl, run_takeDeferred hK, ?_⟩⟩
  refine ⟨_, results_tmp rfl _ _ _, rfl, ?_⟩
  exact hB.grown (grownBy_putObj' W _ _) hB.size (fun k e => by cases e; omega)
 case stop =>
  rintro cd pre W _ h _
  exact h.elim
theorem row_in (N c : Nat) (hN : N < 4096) (hc : c ≤ 12) (w : World) : Calls Tryz.prog 171 #[sdV N c] w fun e w' =>
 ∃ r, e = .returned r ∧ w'.ownsRow w.heap.size 3 1 r c ((stL (bitF N) 0 c).map (Value.int .i64)) ∧ Below w.heap.size w w' := by
 have hcell := fun k hk w => cell_in N c k hN hk w
 unfold sdV at hcell ⊢
 go_enter Tryz.func171, Tryz.ntmps171
 go_wp2_with (refine make_blk _ rfl _ _ rfl _ _ c rfl rfl (by first | rfl | omega) (by first | rfl | omega) (by omega) ?_; go_loud (intro w1 hb1 hg1))
 rw [World.size_alloc] at hb1
 have hS1 : SdAt w1 w.heap.size N c := (SdAt.new w N c).kept hg1 (by simp)
 have hB1 : Below w.heap.size w w1 := ((Below.refl _ w).alloc (Nat.le_refl _) _).grown hg1 (by simp) (fun _ e => by cases e)
 clear hg1
 go_loopw [10] (fun i wr => ∃ k : Nat, k ≤ c ∧ i = .int .i64 k ∧ BlkAt wr (w.heap.size + 1) 3 c (intsV c fun i => if i < k then (bitF N i : Int) else 0) ∧ SdAt wr w.heap.size N c ∧ Below w.heap.size w wr) (fun i _ => c - (intOf i).toNat)
 case atStart => exact ⟨0, by omega, rfl, hb1.congr (fun i _ => by rw [if_neg (by omega)]), hS1, hB1⟩
 case round =>
  clear hb1 hS1 hB1
  obtain ⟨k, hk, rfl, hb, hS, hB⟩ := hrel
  by_cases hlt : k < c
  · have hc0 := hS.cell0
    have hc1 := hS.cell1
    have hki : (k : Int) < (c : Int) := by omega
    have hcl := hcell k (by omega) wr
    clear hcell
    go_wp2_with fail
    go_at_call 173
    refine hcl.mono ?_
    clear hcl
    rintro e w2 ⟨rfl, hB2⟩
    have hb2 := hb.of_block (hB2.block _ hb.lt)
    have hS2 := hS.of_block (hB2.block _ hS.lt)
    have hcc := hb2.cell (i := k) (intsV_at hlt)
    have hff := hb2.frozen k
    have hb3 := hb2.setI (p := k) (bitF N k : Int) hlt
    have hS3 : SdAt (w2.setCell ⟨w.heap.size + 1, k, none⟩ (.int .i64 (bitF N k : Int))) w.heap.size N c := hS2.of_block (Below.heap_setCell _ _ _ _ (by show w.heap.size ≠ w.heap.size + 1; omega))
    have hB3 : Below w.heap.size w (w2.setCell ⟨w.heap.size + 1, k, none⟩ (.int .i64 (bitF N k : Int))) := (hB.trans (hB2.mono hB.size)).setCell (p := ⟨w.heap.size + 1, k, none⟩) (by show w.heap.size ≤ w.heap.size + 1; omega) _
    clear hb hS hc0 hc1 hb2 hS2 hB
    go_wp2
    go_roundw
    case rel =>
     refine ⟨k + 1, by omega, by go_num, hb3.congr (fun i _ => ?_), hS3, hB3⟩
     by_cases e : i = k
     · subst e; rw [if_pos rfl, if_pos (by omega)]
     · rw [if_neg e]
       by_cases e2 : i < k
       · rw [if_pos e2, if_pos (by omega)]
       · rw [if_neg e2, if_neg (by omega)]
    case measure => simp [intOf]; omega
  · obtain rfl : k = c := by omega
    clear hcell
    go_wp2
    go_ret
    refine ⟨_, rfl, hb.owns (stL_len _ _ _) (fun i hi => ?_) (by omega) (by omega), hB⟩
    rw [intsV_at hi, if_pos hi, stL_getD _ _ _ _ hi]; rfl
end
section
open Go.RowKit Go.Shelf
theorem implSide (v : Value) (xs : List Int) (w : World) (hv : Ints w v xs) (hl : xs.length ≤ 1000000000) : Calls Tryz.prog 74 #[v] w fun e w' => e = .returned (.bool (sideB xs)) ∧ Below w.heap.size w w' := by
 have hW := allWithin_in v xs 12 1 w hv (by omega) hl
 have hs : withB xs 12 1 = sideB xs := rfl
 rw [hs] at hW
 clear hs hv hl
 generalize sideB xs = B at *
 go_enter Tryz.func74, Tryz.ntmps74
 go_wp2_with (go_at_call 120; refine hW.mono ?_; rintro e w' ⟨rfl, rfl⟩)
 go_ret
 exact ⟨rfl, Below.refl _ _⟩
set_option maxHeartbeats 400000 in
theorem sideOf_in (v : Value) (xs : List Int) (w : World) (hv : Ints w v xs) (hs : sideB xs = true) : Calls Tryz.prog 169 #[v] w fun e w' => e = .returned (sdV (numF (natL xs) xs.length) xs.length) ∧ Below w.heap.size w w' := by
 have hl := sideB_len hs
 obtain ⟨gx, cx, rfl, hgx, hcx⟩ := ints_open hv hl.1
 have hb : ∀ i, natL xs i ≤ 1 := side_bit hs
 have hlt := fun k => numF_lt hb k
 have hcx' : ∀ i, i < xs.length → w.cell? ⟨gx, i, none⟩ = some (.int .i64 (natL xs i)) := fun i hi => by rw [hcx i hi, side_get hs hi]
 clear hv hcx hs
 generalize hF : natL xs = f at *
 generalize xs.length = n at *
 clear hF
 have hst : ∀ k, numF f (k + 1) = numF f k + f k * 2 ^ k := fun k => rfl
 unfold sdV
 go_enter Tryz.func169, Tryz.ntmps169
 go_wp2
 have hS0 : SdAt (w.alloc (.cells #[.int .u64 0, .int .i64 0] 149)) w.heap.size 0 0 := SdAt.new w 0 0
 have hB0 : Below w.heap.size w (w.alloc (.cells #[.int .u64 0, .int .i64 0] 149)) := (Below.refl _ w).alloc (Nat.le_refl _) _
 have hcy : ∀ i, i < n → (w.alloc (.cells #[.int .u64 0, .int .i64 0] 149)).cell? ⟨gx, i, none⟩ = some (Value.int IntKind.i64 (f i)) := fun i hi => (hB0.cell (p := ⟨gx, i, none⟩) hgx).trans (hcx' i hi)
 generalize w.alloc (.cells #[.int .u64 0, .int .i64 0] 149) = W1 at *
 clear hcx'
 go_loop [3, 8] (fun s i => ∃ k : Nat, k ≤ n ∧ i = .int .i64 k ∧ s = .int .u64 (numF f k)) (fun _ i => n - (intOf i).toNat)
 case atStart => exact ⟨0, by omega, rfl, rfl⟩
 case round =>
  obtain ⟨k, hk, rfl, rfl⟩ := hrel
  by_cases hk2 : k < n
  · have hc := hcy k hk2
    have hki : (k : Int) < (n : Int) := by omega
    have h2 := hlt k
    have h3 := hb k
    have h4 := hst k
    have h5 : 2 ^ k ≤ 2 ^ 11 := Nat.pow_le_pow_right (by omega) (by omega)
    have h6 : numF f k ||| f k * 2 ^ k = numF f k + f k * 2 ^ k := by
     have := Nat.two_pow_add_eq_or_of_lt h2 (f k)
     rw [Nat.mul_comm (f k), Nat.or_comm, ← this, Nat.add_comm]
    rw [← h4] at h6
    have h7 : f k * 2 ^ k ≤ 1 * 2 ^ 11 := Nat.mul_le_mul h3 h5
    have h8 := bits_or_u64_nat (numF f k) (f k * 2 ^ k) (by omega) (by omega)
    rw [h6] at h8
    have h9 : (f k : Int) * (2 : Int) ^ k = ((f k * 2 ^ k : Nat) : Int) := by simp
    clear hcy h4 h6 hb hlt hst
    obtain ⟨B, hnx⟩ : ∃ B, numF f (k + 1) = B := ⟨_, rfl⟩
    rw [hnx] at h8
    have hnx' := hide hnx
    clear hnx
    generalize numF f k = A at *
    generalize f k * 2 ^ k = Y at *
    generalize f k = x at *
    have hw : IntKind.u64.wrap (Y : Int) = Y := IntWalk.u64_in _ (by omega)
    have hA : A < 2048 := by omega
    clear h2 h5
    go_wp2
    go_round
    case rel => exact ⟨k + 1, by omega, by go_num, by rw [hnx'.out]⟩
    case measure => simp [intOf]; omega
  · obtain rfl : k = n := by omega
    have hd0 := hS0.cell0
    have hd1 := hS0.cell1
    have hf0 := hS0.frozen 0
    have hf1 := hS0.frozen 1
    clear hcy
    go_wp2
    refine bodyPost_ret (results_side rfl _ _ w.heap.size _ k rfl (hS0.set (numF f k) k)) rfl ⟨rfl, ?_⟩
    exact (hB0.setCell (p := ⟨w.heap.size, 0, none⟩) (Nat.le_refl _) _).setCell (p := ⟨w.heap.size, 1, none⟩) (Nat.le_refl _) _
theorem implUndr (v : Value) (xs : List Int) (w : World) (hv : Ints w v xs) (_hlies : Lies v) (hl : xs.length ≤ 10000000) : Calls Tryz.prog 139 #[v] w fun e w' =>
 ∃ r, e = .returned r ∧ w'.ownsRow w.heap.size 3 1 r (undrV xs).length ((undrV xs).map (Value.int .i64)) ∧ Below w.heap.size w w' := by
 have hS := implSide v xs w hv (by omega)
 by_cases hs : sideB xs = true
 · have hsl := sideB_len hs
   have hO := fun w1 (h : Ints w1 v xs) => sideOf_in v xs w1 h hs
   have hnl := numF_lt (side_bit hs) xs.length
   have hn12 : numF (natL xs) xs.length < 4096 := lL9 hnl (lT9 (Nat.pow_le_pow_right (by omega) hsl.2) (by decide))
   have hv2 : stL (bitF (downN (xs.length - 1) (numF (natL xs) xs.length))) 0 (xs.length - 1) = undrV xs := by
    rw [undrV_yes hs]
    unfold stL
    refine List.map_congr_left fun k hk => ?_
    have hk' := List.mem_range.1 hk
    show ((bitF (downN (xs.length - 1) (numF (natL xs) xs.length)) k : Nat) : Int) = _
    rw [downN_bit _ _ _ hk']
    simp only [st]
    rw [numF_bit (side_bit hs) _ _ (by omega), numF_bit (side_bit hs) _ _ (by omega)]
   have hul : (undrV xs).length = xs.length - 1 := by rw [← hv2, stL_len]
   rw [hs] at hS
   obtain ⟨l, hl1⟩ : ∃ l, xs.length = l + 1 := ⟨xs.length - 1, by omega⟩
   have hU := fun w => under_in (numF (natL xs) (l + 1)) l (by rw [← hl1]; exact hn12) (by omega) w
   have hdl := downN_lt l (numF (natL xs) (l + 1))
   have hR := fun w => row_in (downN l (numF (natL xs) (l + 1))) l (lL9 hdl (lT9 (Nat.pow_le_pow_right (by omega) (by omega : l ≤ 12)) (by decide))) (by omega) w
   have hOv := fun w1 (hB : Below w.heap.size w w1) => hO w1 (hv.below hB)
   rw [hl1, Nat.add_sub_cancel] at hv2
   rw [hl1, Nat.add_sub_cancel] at hul
   rw [hv2] at hR
   rw [hl1] at hOv
   have hul' := hide hul
   clear hv hO hnl hn12 hv2 hul hl1 hsl hs hdl
   generalize sdV (downN l (numF (natL xs) (l + 1))) l = S2 at *
   generalize sdV (numF (natL xs) (l + 1)) (l + 1) = S1 at *
   go_enter Tryz.func139, Tryz.ntmps139
   go_wp2_with (first
    | (go_at_call 74; refine hS.mono ?_; clear hS; rintro e w1 ⟨rfl, hB⟩)
    | (go_at_call 169; refine (hOv _ hB).mono ?_; clear hOv; rintro e w2 ⟨rfl, hB2⟩)
    | (go_at_call 170; refine (hU _).mono ?_; clear hU; rintro e w3 ⟨rfl, hB3⟩)
    | (go_at_call 171; refine (hR _).mono ?_; clear hR; rintro e w4 ⟨r, rfl, hown, hB4⟩))
   go_ret
   have hB23 := hB.trans ((hB2.trans (hB3.mono hB2.size)).mono hB.size)
   exact ⟨_, rfl, by rw [hul'.out]; exact owns_from hown hB23.size, hB23.trans (hB4.mono hB23.size)⟩
 · have hs' : sideB xs = false := by simpa using hs
   rw [undrV_no hs']
   rw [hs'] at hS
   clear hs hs' hv hl
   go_enter Tryz.func139, Tryz.ntmps139
   go_wp2_with (go_at_call 74; refine hS.mono ?_; rintro e w1 ⟨rfl, hB⟩)
   go_ret
   exact ⟨_, rfl, World.ownsRow_nil _ _ _ _, hB⟩
theorem onesN_side {xs : List Int} (h : sideB xs = true) : (onesN xs.length (numF (natL xs) xs.length) : Int) = onesV xs := by
 rw [onesV_yes h, ones_num (side_bit h)]
theorem implOnes (v : Value) (xs : List Int) (w : World) (hv : Ints w v xs) (_hlies : Lies v) (hl : xs.length ≤ 10000000) : Calls Tryz.prog 159 #[v] w fun e w' => e = .returned (.int .i64 (onesV xs)) ∧ Below w.heap.size w w' := by
 have hS := implSide v xs w hv (by omega)
 by_cases hs : sideB xs = true
 · have hsl := sideB_len hs
   have hO := fun w1 (h : Ints w1 v xs) => sideOf_in v xs w1 h hs
   have hnl := numF_lt (side_bit hs) xs.length
   have hD := fun w => onesDown_in (numF (natL xs) xs.length) xs.length hnl hsl.2 w
   rw [onesN_side hs] at hD
   rw [hs] at hS
   have hOv := fun w1 (hB : Below w.heap.size w w1) => hO w1 (hv.below hB)
   clear hv hO hnl hs hsl
   generalize sdV (numF (natL xs) xs.length) xs.length = S1 at *
   generalize onesV xs = V at *
   go_enter Tryz.func159, Tryz.ntmps159
   go_wp2_with (first
    | (go_at_call 74; refine hS.mono ?_; clear hS; rintro e w1 ⟨rfl, hB⟩)
    | (go_at_call 169; refine (hOv _ hB).mono ?_; clear hOv; rintro e w2 ⟨rfl, hB2⟩)
    | (go_at_call 192; refine (hD _).mono ?_; clear hD; rintro e w3 ⟨rfl, hB3⟩))
   go_ret
   exact ⟨rfl, hB.trans ((hB2.trans (hB3.mono hB2.size)).mono hB.size)⟩
 · have hs' : sideB xs = false := by simpa using hs
   rw [onesV_no hs']
   rw [hs'] at hS
   clear hs hs' hv hl
   go_enter Tryz.func159, Tryz.ntmps159
   go_wp2_with (go_at_call 74; refine hS.mono ?_; rintro e w1 ⟨rfl, hB⟩)
   go_ret
   exact ⟨rfl, hB⟩
theorem und_under {a b : Nat} (ha : a ≤ 999999999) (hb : b ≤ 999999999) : underV a b 2 = und 2 a b := by
 have := underV_nat (b := 2) ha hb (by omega) (by omega)
 exact this
set_option maxHeartbeats 400000 in
theorem implEnd (v : Value) (xs : List Int) (w : World) (hv : Ints w v xs) (_hlies : Lies v) (hl : xs.length ≤ 10000000) : Calls Tryz.prog 160 #[v] w fun e w' => e = .returned (.int .i64 (endV xs)) ∧ Below w.heap.size w w' := by
 have hS := implSide v xs w hv (by omega)
 by_cases hs : sideB xs = true
 · have hsl := sideB_len hs
   obtain ⟨gx, cx, rfl, hgx, hcx⟩ := ints_open hv hsl.1
   have hcx' : ∀ i, i < xs.length → w.cell? ⟨gx, i, none⟩ = some (.int .i64 (natL xs i)) := fun i hi => by rw [hcx i hi, side_get hs hi]
   have hb : ∀ i, natL xs i ≤ 1 := side_bit hs
   obtain ⟨m, hm⟩ : ∃ m, xs.length = m + 1 := ⟨xs.length - 1, by omega⟩
   have hall := lastU_all hb m
   have hv2 : endV xs = ((lastU (natL xs) m (m + 1) % 2 : Nat) : Int) := by rw [hall, endV_yes hs, hm]; rfl
   have hv2' := hide hv2
   have hle := lastU_le hb m
   rw [hs] at hS
   rw [hm] at hcx' hS hsl ⊢
   clear hv hcx hs hall hv2 hm
   generalize natL xs = f at *
   have hst : ∀ k, lastU f m (k + 1) = lastU f m k + (if und 2 k m = true then f k else 0) := fun k => rfl
   go_enter Tryz.func160, Tryz.ntmps160
   go_wp2_with (go_at_call 74; refine hS.mono ?_; clear hS; rintro e w1 ⟨rfl, hB1⟩)
   go_loopw [3, 11] (fun s i wr => ∃ k : Nat, k ≤ m + 1 ∧ i = .int .i64 k ∧ s = .int .i64 (lastU f m k) ∧ Below w.heap.size w wr) (fun _ i _ => m + 1 - (intOf i).toNat)
   case atStart => exact ⟨0, by omega, rfl, rfl, hB1⟩
   case round =>
    obtain ⟨k, hk, rfl, rfl, hB⟩ := hrel
    have hlk := hle k
    by_cases hk2 : k < m + 1
    · have hc := (hB.cell (p := ⟨gx, k, none⟩) hgx).trans (hcx' k hk2)
      have hki : (k : Int) < (m : Int) + 1 := by omega
      have hU := implUnder k m 2 wr
      rw [und_under (by omega) (by omega)] at hU
      have hbk := hb k
      have hsk := hst k
      have hmi : (m : Int) + 1 - 1 = m := by omega
      clear hcx' hst hle hb
      generalize lastU f m k = A at *
      generalize f k = x at *
      generalize und 2 k m = u at *
      cases u with
      | true =>
        rw [if_pos rfl] at hsk
        replace hsk := hide hsk
        go_wp2_with (go_at_call 193; refine hU.mono ?_; clear hU; rintro e w2 ⟨rfl, hB2⟩)
        go_roundw
        case rel => exact ⟨k + 1, by omega, by go_num, by rw [hsk.out]; go_num, hB.trans (hB2.mono hB.size)⟩
        case measure => simp [intOf]; omega
      | false =>
        rw [if_neg (by simp)] at hsk
        replace hsk := hide hsk
        go_wp2_with (go_at_call 193; refine hU.mono ?_; clear hU; rintro e w2 ⟨rfl, hB2⟩)
        go_roundw
        case rel => exact ⟨k + 1, by omega, by go_num, by rw [hsk.out]; rfl, hB.trans (hB2.mono hB.size)⟩
        case measure => simp [intOf]; omega
    · obtain rfl : k = m + 1 := by omega
      clear hcx' hst hb
      go_wp2
      go_ret
      exact ⟨by rw [hv2'.out]; go_num, hB⟩
 · have hs' : sideB xs = false := by simpa using hs
   rw [endV_no hs']
   rw [hs'] at hS
   clear hs hs' hv hl
   go_enter Tryz.func160, Tryz.ntmps160
   go_wp2_with (go_at_call 74; refine hS.mono ?_; rintro e w1 ⟨rfl, hB⟩)
   go_ret
   exact ⟨rfl, hB⟩
end
section
open Go.RowKit Go.Shelf
attribute [local go_sem] Oper.semAt_some
def turnU (N c k : Nat) : List Value := (List.range k).map fun j => Value.int .i64 (bitF (rowB c N j) (c - 1 - j) : Int)
theorem turnU_next (N c k : Nat) : turnU N c k ++ [Value.int .i64 (bitF (rowB c N k) (c - 1 - k) : Int)] = turnU N c (k + 1) := by simp [turnU, List.range_succ]
theorem turnU_all {xs : List Int} (h : sideB xs = true) : turnU (numF (natL xs) xs.length) xs.length xs.length = (turnV xs).map (Value.int .i64) := by
 rw [turnV_yes h]
 unfold turnU
 rw [List.map_map]
 refine List.map_congr_left fun j hj => ?_
 have hj' := List.mem_range.1 hj
 show Value.int .i64 _ = Value.int .i64 _
 rw [rowB_bit _ _ (by omega)]
 show Value.int .i64 (st (bitF (numF (natL xs) xs.length)) j (xs.length - 1 - j) : Int) = Value.int .i64 (st (natL xs) j (xs.length - 1 - j) : Int)
 rw [st_congr j _ (fun i _ h2 => numF_bit (side_bit h) xs.length i (by omega))]
structure TnAx (w0 n0 B g c N : Nat) (w W : World) (pre : List Nat) (x b : Nat) : Prop where
 side : SdAt W b (rowB c N x) (c - x)
 box : Boxed W B 28 (.slice (some ⟨g, 0, none⟩) x c)
 own : W.ownsRow w0 3 1 (.slice (some ⟨g, 0, none⟩) x c) x (turnU N c x)
 below : Below w0 w W
 pre : pre = List.range x
 lt : x < c
 at_ : n0 ≤ b
set_option maxRecDepth 100000 in
set_option maxHeartbeats 1000000 in
theorem implTurned_in (v : Value) (xs : List Int) (w : World) (hv : Ints w v xs) (hs : sideB xs = true) : Calls Tryz.prog 140 #[v] w fun e w' =>
 ∃ r, e = .returned r ∧ w'.ownsRow w.heap.size 3 1 r xs.length ((turnV xs).map (Value.int .i64)) ∧ Below w.heap.size w w' := by
 have hsl := sideB_len hs
 have hS := implSide v xs w hv (by omega)
 rw [hs] at hS
 have hO := fun w1 (hB : Below w.heap.size w w1) => sideOf_in v xs w1 (hv.below hB) hs
 have hN := numF_lt (side_bit hs) xs.length
 have hall := hide (turnU_all hs)
 obtain ⟨a, cp, rfl⟩ := ints_form hv
 have hc := hsl.2
 have hc1 := hsl.1
 clear hs hv hsl
 generalize numF (natL xs) xs.length = N at *
 generalize xs.length = c at *
 refine (cW9 (n := 9)).1 ?_
 refine callsIn_of_wp_marks Tryz.func140 rfl trivial ?_ rfl
 simp only [Tryz.ntmps140, List.size_toArray, List.length_cons, List.length_nil, Nat.reduceAdd, Nat.reduceSub, Array.replicate_succ, Array.replicate_zero, List.push_toArray, List.append_toArray, List.nil_append, List.cons_append]
 obtain ⟨i0, hi, hz0, hz1, hz2⟩ := info_parts Tryz.infoInt
 have hD := fun w => down_in N c w
 gi_wp2_with (first
  | (refine ⟨trivial, ?_⟩; gi_at_call 74; refine (cW9.2 hS).mono ?_; clear hS; rintro e w1 ⟨rfl, hB1⟩)
  | (gi_at_make; refine wpListIn_make_own _ rfl _ _ 28 rfl w.heap.size 3 i0 (.int .i64 0) 1 Tryz.underlying28 hi hz0 hz1 .i64 .i64 c c rfl rfl rfl (by rw [hz2]; omega) (by unfold maxLen; omega) hB1.size ?_; intro w2 hown hg2)
  | (refine ⟨trivial, ?_⟩; gi_at_call 169; fail))
 have hgl : w1.heap.size < w2.heap.size := by
  rcases hown.2 with ⟨h, _⟩ | ⟨g', cap', cur, h, _, hg, _⟩
  · cases h
  · cases h; exact (gE9.1 hg).1
 have hB2 : Below w.heap.size w (w2.alloc (.cells #[.slice (some ⟨w1.heap.size, 0, none⟩) 0 c] 28)) := (hB1.grown hg2 hB1.size (fun _ e => by cases e)).alloc (lT9 hB1.size hg2.size) _
 have hbx2 : Boxed (w2.alloc (.cells #[.slice (some ⟨w1.heap.size, 0, none⟩) 0 c] 28)) w2.heap.size 28 (.slice (some ⟨w1.heap.size, 0, none⟩) 0 c) := Boxed.new _ _ _
 have hown2 := hown.alloc (.cells #[.slice (some ⟨w1.heap.size, 0, none⟩) 0 c] 28)
 have hgb : w.heap.size ≤ w1.heap.size := hB1.size
 generalize w1.heap.size = g at *
 obtain ⟨W2, hW2⟩ : ∃ W2, w2.alloc (.cells #[.slice (some ⟨g, 0, none⟩) 0 c] 28) = W2 := ⟨_, rfl⟩
 have hsz : w2.heap.size < W2.heap.size := by rw [← hW2]; simp
 rw [hW2] at hB2 hbx2 hown2 ⊢
 generalize w2.heap.size = B at *
 clear hW2 hown hg2 hB1
 refine ⟨trivial, ?_⟩
 gi_at_call 169
 refine (cW9.2 (hO _ hB2)).mono ?_
 clear hO
 rintro e w4 ⟨rfl, hB4⟩
 have hbx4 : Boxed w4 B 28 (.slice (some ⟨g, 0, none⟩) 0 c) := (hB4.block _ hbx2.lt).trans hbx2
 have hown4 := own_below hown2 hB4
 have hBw4 := hB2.trans (hB4.mono hB2.size)
 have hsz4 : B < w4.heap.size := hbx4.lt
 clear hbx2 hown2 hB2 hB4 hsz
 unfold sdV at hD
 unfold sdV
 gi_wp2_with (refine ⟨trivial, ?_⟩; gi_at_call 172; refine (cW9.2 (hD _)).mono ?_; rintro e w' ⟨rfl, rfl⟩)
 clear hD
 obtain ⟨W0, hW0⟩ : ∃ W0, w4.alloc (Obj.cells #[Value.int IntKind.u64 N, Value.int IntKind.i64 c] 149) = W0 := ⟨_, rfl⟩
 have hbx0 : Boxed W0 B 28 (.slice (some ⟨g, 0, none⟩) 0 c) := by rw [← hW0]; exact hbx4.alloc _
 have hown0 : W0.ownsRow w.heap.size 3 1 (.slice (some ⟨g, 0, none⟩) 0 c) 0 [] := by rw [← hW0]; exact hown4.alloc _
 have hB0 : Below w.heap.size w W0 := by rw [← hW0]; exact hBw4.alloc hBw4.size _
 have hs0 : SdAt W0 w4.heap.size N c := by rw [← hW0]; exact SdAt.new _ _ _
 have hsz0 : w4.heap.size < W0.heap.size := by rw [← hW0]; simp
 rw [hW0]
 clear hW0 hbx4 hown4 hBw4
 generalize w4.heap.size = S at *
 refine wpIn_rangeFunc_box rfl (by omega) (gf := 204) (lb := #[.pointer (some ⟨S, 0, none⟩)]) rfl trivial (enters_of Tryz.func204 (by kernel_rfl) rfl)
  (down_stops (9 - 1) S N c hN hc (by omega) W0 hs0) (fun _ _ => rfl) (by omega)
  (fun ys W o h => h) (fun pre W o h => h)
  (fun pre W => Boxed W B 28 (.slice (some ⟨g, 0, none⟩) pre.length c) ∧ W.ownsRow w.heap.size 3 1 (.slice (some ⟨g, 0, none⟩) pre.length c) pre.length (turnU N c pre.length) ∧ Below w.heap.size w W) (fun _ _ _ => False)
  (fun s A B' row hs hg hr => ⟨hs.1.kept hg (fun e => by have := hr _ e.symm; omega), hs.2.1.kept hg (.inr (fun (e : some g = row) => by have := hr _ e.symm; omega)), hs.2.2.grown hg hs.2.2.size (fun k e => by have := hr _ e; omega)⟩)
  (fun _ _ _ _ _ hs _ _ => hs) ⟨hbx0, hown0, hB0⟩
  (fun pre x b W => ∃ k, b = { tmps := #[.slice a c cp, undef, .slice none 0 0, .pointer (some ⟨B, 0, none⟩), .pointer (some ⟨k, 0, none⟩), .slice a c cp, .bool true, .bool false, .slice a c cp, .int .i64 c, .slice (some ⟨g, 0, none⟩) 0 c, .slice a c cp, .agg #[.int .u64 N, .int .i64 c],
   .func (.func 204) #[] #[.pointer (some ⟨S, 0, none⟩)], .agg #[.int .u64 (rowB c N x), .int .i64 ((c - x : Nat) : Int)], undef, undef, undef, undef, undef, undef, undef, undef, undef], defers := [] } ∧ TnAx w.heap.size (W0.heap.size + 2) B g c N w W pre x k)
  (fun pre x b W o ⟨k, hb, hO⟩ => ⟨k, hb, hO.side.of_block (World.putObj_heap_other (by have := hO.at_; omega)), hO.box.kept (grownBy_putObj' W _ _) (by simp; omega), hO.own.kept (grownBy_putObj' W _ _) (by simp [Value.ownBlock]; omega), hO.below.grown (grownBy_putObj' W _ _) hO.below.size (fun k e => by cases e; omega), hO.pre, hO.lt, hO.at_⟩) ?assign ?body ?done ?stop
 case assign =>
  rintro l pre x W Q' hlt ⟨hb, ho, hB⟩ ⟨hpre, hx⟩ hQ
  have hpl : pre.length = x := by rw [hpre, List.length_range]
  rw [hpl] at hb ho
  have hQ' := hide hQ
  clear hQ hpl hall
  unfold sdV
  gi_wp2
  exact hQ'.out _ _ (KeepsSet.of_grownBy (World.grownBy_alloc W _ none) (fun _ e => by cases e)) ⟨W.heap.size, rfl, SdAt.new W _ _, hb.alloc _, ho.alloc _, hB.alloc hB.size _, hpre, hx, by omega⟩
 case body =>
  rintro l pre x b W hlt ⟨k, rfl, hO⟩
  have hxc := hO.lt
  have hpl : (pre ++ [x]).length = x + 1 := by rw [List.length_append, hO.pre, List.length_range]; rfl
  have hnext := turnU_next N c x
  have hM := rowB_small hN hc x
  have hcell := fun V => cell_in (rowB c N x) (c - x) (c - 1 - x) hM (by omega) V
  have hbx := hO.box
  have hsd := hO.side
  have hk := hO.side.lt
  have hka := hO.at_
  have hbl := hO.below
  have how := hO.own
  clear hO
  unfold sdV at hcell
  have hbit := bitF_le (rowB c N x) (c - 1 - x)
  generalize rowB c N x = M at *
  generalize bitF M (c - 1 - x) = z at *
  have hpl' := hide hpl
  have hnext' := hide hnext
  obtain ⟨d, hd⟩ : ∃ d, c - x = d + 1 := ⟨c - x - 1, by omega⟩
  rw [hd] at hcell hsd ⊢
  rw [show c - 1 - x = d by omega] at hcell
  have hd12 : d < 12 := by omega
  clear hpl hnext hall hd
  gi_wp2
  refine wpIn_region_kinds 7 (by kernel_rfl) (by kernel_rfl) (by kernel_rfl) (by decide)
   (fun s => { tmps := #[.slice a c cp, undef, .slice none 0 0, .pointer (some ⟨B, 0, none⟩), .pointer (some ⟨k, 0, none⟩), .slice a c cp, .bool true, .bool false, .slice a c cp, .int .i64 c, .slice (some ⟨g, 0, none⟩) 0 c, .slice a c cp, .agg #[.int .u64 N, .int .i64 c],
   .func (.func 204) #[] #[.pointer (some ⟨S, 0, none⟩)], .agg #[.int .u64 M, .int .i64 ((d + 1 : Nat) : Int)], s 0, s 1, s 2, s 3, s 4, s 5, s 6, undef, undef], defers := [] })
   [.val (.slice (some ⟨g, 0, none⟩) x c), .val (.agg #[.int .u64 M, .int .i64 ((d + 1 : Nat) : Int)]), .val (.pointer (some ⟨k, 1, none⟩)), .val (.int .i64 ((d + 1 : Nat) : Int)), .val (.int .i64 d), .val (.int .i64 z), .one (.int .i64 z)]
   ⟨fun _ => undef, rfl⟩ ?put ?step ?tail
  case put =>
   intro i o s v hi ho
   rcases (show i = 0 ∨ i = 1 ∨ i = 2 ∨ i = 3 ∨ i = 4 ∨ i = 5 ∨ i = 6 by omega) with rfl | rfl | rfl | rfl | rfl | rfl | rfl
   all_goals
    simp at ho
    subst ho
    simp [Act.put]
  case step =>
   rintro i o s V hi ho hV hd Q' hQ
   rcases (show i = 0 ∨ i = 1 ∨ i = 2 ∨ i = 3 ∨ i = 4 ∨ i = 5 ∨ i = 6 by omega) with rfl | rfl | rfl | rfl | rfl | rfl | rfl
   all_goals
    simp at ho
    subst ho
    simp [Act.put] at hQ
    have hQ' := hide hQ
    clear hQ
   case inl =>
    have hcc := (boxed_below hbx hV).cell
    clear hd
    gi_wp2
    exact hQ'.out _ _ (Below.refl _ _) rfl
   case inr.inl =>
    have h0 := (hsd.of_block (hV.block _ hsd.lt)).cell0
    have h1 := (hsd.of_block (hV.block _ hsd.lt)).cell1
    clear hd
    gi_wp2
    exact hQ'.out _ _ (Below.refl _ _) rfl
   case inr.inr.inl =>
    clear hd
    gi_wp2
    exact hQ'.out _ _ (Below.refl _ _) rfl
   case inr.inr.inr.inl =>
    have e1 : s 2 = .pointer (some ⟨k, 1, none⟩) := hd 2 (by kernel_rfl)
    have h1 := (hsd.of_block (hV.block _ hsd.lt)).cell1
    clear hd
    gi_wp2
    exact hQ'.out _ _ (Below.refl _ _) rfl
   case inr.inr.inr.inr.inl =>
    have e1 : s 3 = .int .i64 ((d + 1 : Nat) : Int) := hd 3 (by kernel_rfl)
    have hw : IntKind.i64.wrap (d : Int) = d := IntWalk.i64_in _ (by omega)
    clear hd
    gi_wp2
    exact hQ'.out _ _ (Below.refl _ _) rfl
   case inr.inr.inr.inr.inr.inl =>
    have e1 : s 1 = .agg #[.int .u64 M, .int .i64 ((d + 1 : Nat) : Int)] := hd 1 (by kernel_rfl)
    have e2 : s 4 = .int .i64 d := hd 4 (by kernel_rfl)
    clear hd
    gi_wp2_with (refine ⟨trivial, ?_⟩; gi_at_call 173; refine (cW9.2 (hcell _)).mono ?_; rintro e w' ⟨rfl, hB'⟩)
    have hr := hQ'.out
    rw [e1, e2] at hr
    exact hr _ _ hB' rfl
   case inr.inr.inr.inr.inr.inr =>
    have e1 : s 5 = .int .i64 z := hd 5 (by kernel_rfl)
    clear hd
    gi_wp2
    refine hQ'.out _ _ ((Below.refl _ V).alloc (Nat.le_refl _) _) ⟨V.heap.size, rfl, by simp, ?_⟩
    exact (Boxed.new V 3 (.int .i64 z)).cell
  case tail =>
   rintro s V hV hd
   have e0 : s 0 = .slice (some ⟨g, 0, none⟩) x c := hd 0 (by omega)
   obtain ⟨q, e6, hq, hcq⟩ : ∃ q, s 6 = .slice (some ⟨q, 0, none⟩) 1 1 ∧ q < V.heap.size ∧ V.cell? ⟨q, 0, none⟩ = some (.int .i64 z) := hd 6 (by omega)
   have hbV := boxed_below hbx hV
   have howV := owns_below how hV
   clear hd
   simp only [List.drop_succ_cons, List.drop_zero]
   refine wpListIn_append_fits _ rfl _ _ 28 rfl w.heap.size 3 i0 1 Tryz.underlying28 hi hz1 g x c _ e0 howV ⟨q, 0, none⟩ 1 1 [.int .i64 z] e6 rfl (fun j u hj => ?_) (fun u hu => by simp at hu; subst hu; rfl) (by omega) ?_
   · match j, hj with
     | 0, hj => simp at hj; subst hj; exact hcq
   · intro W3 how3 hg3
     rw [hnext'.out] at how3
     have hb3 := hbV.kept hg3 (by simp; omega)
     have hcc := hb3.cell
     have hff := hb3.frozen
     gi_wp2
     have hV3 := hV.size
     refine ⟨(⟨hV.size, fun k hk _ => hV.block k hk⟩ : KeepsSet _ W V).trans ((KeepsSet.of_grownBy hg3 (fun r e => by cases e; omega)).trans (KeepsSet.setCell _ _ _ (by omega))), ?_, ?_, ?_⟩
     · rw [hpl'.out]; exact hb3.set _
     · rw [hpl'.out]; exact how3.kept (grownBy_setCell' W3 B _) (by simp [Value.ownBlock]; omega)
     · exact ((hbl.trans (hV.mono hbl.size)).grown hg3 (lT9 hbl.size hV.size) (fun k e => by cases e; omega)).setCell (p := ⟨B, 0, none⟩) (by show w.heap.size ≤ B; omega) _
 case done =>
  rintro ys W hys ⟨hb, ho, hB⟩ hK
  obtain rfl : ys = List.range c := hys
  rw [List.length_range] at hb ho
  rw [hall.out] at ho
  have hcc := hb.cell
  gi_wp2
  refine ⟨by simp, .inl ⟨_, _, rfl, run_takeDeferred hK, ?_⟩⟩
  refine ⟨_, results_tmp rfl _ _ _, _, rfl, ?_, ?_⟩
  · exact ho.kept (grownBy_putObj' W _ _) (by simp [Value.ownBlock]; omega)
  · exact hB.grown (grownBy_putObj' W _ _) hB.size (fun k e => by cases e; omega)
 case stop =>
  rintro cd pre W _ h _
  exact h.elim
theorem implTurned (v : Value) (xs : List Int) (w : World) (hv : Ints w v xs) (_hlies : Lies v) (hl : xs.length ≤ 10000000) : Calls Tryz.prog 140 #[v] w fun e w' =>
 ∃ r, e = .returned r ∧ w'.ownsRow w.heap.size 3 1 r (turnV xs).length ((turnV xs).map (Value.int .i64)) ∧ Below w.heap.size w w' := by
 by_cases hs : sideB xs = true
 · have h := implTurned_in v xs w hv hs
   have hl2 : (turnV xs).length = xs.length := by rw [turnV_yes hs]; simp
   rw [← hl2] at h
   exact h
 · have hs' : sideB xs = false := by simpa using hs
   have hS := implSide v xs w hv (by omega)
   rw [turnV_no hs']
   rw [hs'] at hS
   clear hs hs' hv hl
   go_enter Tryz.func140, Tryz.ntmps140
   go_wp2_with (go_at_call 74; refine hS.mono ?_; rintro e w1 ⟨rfl, hB⟩)
   go_ret
   exact ⟨_, rfl, World.ownsRow_nil _ _ _ _, hB⟩
def mostN (k : Int) : Int := if k = 0 then 99 else if k = 1 then 9 else 0
theorem most_in (k : Int) (w : World) : Calls Tryz.prog 56 #[.int .i64 k] w fun e w' => e = .returned (.int .i64 (mostN k)) ∧ w = w' := by
 by_cases h0 : k = 0
 · subst h0
   go_enter Tryz.func56, Tryz.ntmps56
   go_wp2
   go_ret
   exact ⟨rfl, rfl⟩
 by_cases h1 : k = 1
 · subst h1
   go_enter Tryz.func56, Tryz.ntmps56
   go_wp2
   go_ret
   exact ⟨rfl, rfl⟩
 · have hm : mostN k = 0 := by unfold mostN; rw [if_neg h0, if_neg h1]
   rw [hm]
   have b0 : (k == 0) = false := by rw [beq_eq_false_iff_ne]; exact h0
   have b1 : (k == 1) = false := by rw [beq_eq_false_iff_ne]; exact h1
   clear h0 h1 hm
   go_enter Tryz.func56, Tryz.ntmps56
   go_wp2
   go_ret
   exact ⟨rfl, rfl⟩
theorem map_get {W : World} {g : Nat} {xs : List Int} (h : ∀ i, i < xs.length → W.cell? ⟨g, i, none⟩ = some (.int .i64 (xs.getD i 0))) : ∀ k u, (xs.map (Value.int .i64))[k]? = some u → W.cell? ⟨g, k, none⟩ = some u := fun k u hu => by
 rw [List.getElem?_map] at hu
 obtain ⟨z, hz, rfl⟩ := Option.map_eq_some_iff.1 hu
 have hk := (List.getElem?_eq_some_iff.1 hz).1
 rw [h k hk, List.getD, hz]; rfl
theorem one_cell {W : World} {q : Nat} {n : Int} (h : W.cell? ⟨q, 0, none⟩ = some (.int .i64 n)) : ∀ i, i < 1 → W.cell? ⟨q, i, none⟩ = some (.int .i64 (([n] : List Int).getD i 0)) := fun i hi => by
 obtain rfl : i = 0 := by omega
 exact h
theorem flipped_no (u : Value) (row : List Int) (n : Int) (w : World) (hu : Ints w u row) (hl : row.length ≤ 1000) (h : n < 0 ∨ (row.length : Int) - 1 < n) : Calls Tryz.prog 137 #[u, .int .i64 n] w fun e w' => e = .returned (.slice none 0 0) ∧ w = w' := by
 obtain ⟨a, c, rfl⟩ := hu.shape
 clear hu
 go_enter Tryz.func137, Tryz.ntmps137
 go_wp2_with (go_at_call 55; refine (within_f _ _ _ (by assumption)).mono ?_; rintro e w' ⟨rfl, rfl⟩)
 go_ret
 exact ⟨rfl, rfl⟩
set_option maxHeartbeats 1000000 in
theorem flipped_in (u : Value) (row : List Int) (m : Nat) (w : World) (hu : Ints w u row) (hs : sideB row = true) (hm : m < row.length) : Calls Tryz.prog 137 #[u, .int .i64 m] w fun e w' => ∃ r, e = .returned r ∧ Ints w' r (flipV row m) ∧ Below w.heap.size w w' := by
 have hl := sideB_len hs
 obtain ⟨g, c, rfl, hg, hc⟩ := hu.cells hl.1
 have hC := clone_in g row.length c row w rfl (by omega) (map_get hc)
 have hz := sideB_at hs hm
 have hfi := fun (W : World) (gb cb : Nat) (h : RowAt W gb row.length (fun i => if i = m then 1 - row.getD m 0 else row.getD i 0)) => (by
  have := flip_ints (cb := cb) h
  rwa [Int.toNat_natCast] at this : Ints W.drew (.slice (some ⟨gb, 0, none⟩) row.length cb) (flipV row m))
 have hfi' := hide hfi
 clear hc hu hg hs hfi
 have hm1 : (m : Int) ≤ (row.length : Int) - 1 := by omega
 have hl0 : 0 < row.length := hl.1
 obtain ⟨z, hzz⟩ : ∃ z, row.getD m 0 = z := ⟨_, rfl⟩
 rw [hzz] at hz
 have hz0 := hz.1
 have hz1 := hz.2
 have hzz' := hide hzz
 clear hz hzz
 go_enter Tryz.func137, Tryz.ntmps137
 go_wp2_with (first
  | (go_at_call 55; refine (within_t _ _ _ (by omega) (by assumption)).mono ?_; rintro e w' ⟨rfl, rfl⟩)
  | (go_at_call 96; refine hC.mono ?_; clear hC; go_loud (rintro e w2 ⟨r, rfl, hy, hB2⟩; obtain ⟨gb, cb, rfl, hgb, hra⟩ := RowAt.of_owns hy hl0; have hcz := hra.cell hm; rw [hzz'.out] at hcz; have hfz := hra.frozen m)))
 go_ret
 refine ⟨_, rfl, ?_, hB2.setCell (p := ⟨gb, m, none⟩) hgb _⟩
 have hset := hra.set (p := m) (1 - z)
 rw [← hzz'.out] at hset ⊢
 exact (hfi'.out _ gb cb hset)
set_option maxHeartbeats 1000000 in
theorem longer_in (u : Value) (row : List Int) (n : Int) (w : World) (hu : Ints w u row) (hs : sideB row = true) : Calls Tryz.prog 138 #[u, .int .i64 n] w fun e w' => ∃ r, e = .returned r ∧ Ints w' r (if sideB (row ++ [n]) = true then row ++ [n] else []) ∧ Below w.heap.size w w' := by
 have hl := sideB_len hs
 obtain ⟨g, c, rfl, hg, hc⟩ := hu.cells hl.1
 have hC := clone_in g row.length c row w rfl (by omega) (map_get hc)
 clear hc hu hg hs
 go_enter Tryz.func138, Tryz.ntmps138
 go_wp2_with (first
  | (go_at_call 96; refine hC.mono ?_; clear hC; go_loud (rintro e w2 ⟨r, rfl, hy, hB2⟩; obtain ⟨ay, cy, rfl⟩ := own_form hy; have hy2 := hy.alloc (.cells #[.int .i64 n] 3); have hq := (Boxed.new w2 3 (.int .i64 n)).cell; have hB3 := hB2.alloc hB2.size (.cells #[.int .i64 n] 3)))
  | (at_builtin; go_loud (refine append_row rfl _ _ rfl w.heap.size _ row.length _ rfl hy2 w2.heap.size 1 1 [n] rfl rfl (one_cell hq) (by omega) (by have := hB2.size; simp; omega) ?_; intro y w4 hy4 hg4))
  | (go_at_call 74; fail))
 have hy5 : w4.ownsRow w.heap.size 3 1 y (row ++ [n]).length ((row ++ [n]).map (Value.int .i64)) := by simpa using hy4
 have hS := implSide y (row ++ [n]) w4 (Ints.of_owns hy5) (by simp; omega)
 have hB4 : Below w.heap.size w w4 := hB3.grown hg4 hB3.size (fun k e => (hy2.lt k e).1)
 obtain ⟨ay4, cy4, rfl⟩ := own_form hy4
 cases hsd : sideB (row ++ [n]) with
 | false =>
   rw [hsd] at hS
   go_wp2_with (go_at_call 74; refine hS.mono ?_; clear hS; rintro e w' ⟨rfl, hB5⟩)
   all_goals
    go_ret
    exact ⟨_, rfl, Ints.none _ _ _, hB4.trans (hB5.mono hB4.size)⟩
 | true =>
   rw [hsd] at hS
   go_wp2_with (go_at_call 74; refine hS.mono ?_; clear hS; rintro e w' ⟨rfl, hB5⟩)
   all_goals
    go_ret
    exact ⟨_, rfl, (Ints.of_owns hy5).below hB5, hB4.trans (hB5.mono hB4.size)⟩
theorem longer_made {row : List Int} (hs : sideB row = true) (n : Int) : (if sideB (row ++ [n]) = true then row ++ [n] else []) = madeV row 1 n := by
 have hl := sideB_len hs
 by_cases h : 0 ≤ n ∧ n ≤ 1 ∧ row.length < 12
 · rw [if_pos (put_side hs h.1 h.2.1 h.2.2), made_put ⟨rfl, h.1, h.2.1, by omega⟩]
 · rw [if_neg, made_none (by omega) (by omega) (by omega) (by omega) (by omega)]
   intro h2
   have h3 := sideB_len h2
   have h4 := sideB_at h2 (i := row.length) (by simp)
   rw [List.getD, List.getElem?_append_right (Nat.le_refl _), Nat.sub_self] at h4
   simp at h3 h4
   omega
structure Af (w : World) (k n : Int) (W : World) : Prop where
 eq : w.alloc (.cells #[.int .i64 k, .int .i64 n] 39) = W
 below : Below w.heap.size w W
 c0 : W.cell? ⟨w.heap.size, 0, none⟩ = some (.int .i64 k)
 c1 : W.cell? ⟨w.heap.size, 1, none⟩ = some (.int .i64 n)
theorem Af.new (w : World) (k n : Int) : ∃ W, Af w k n W := by
 obtain ⟨d0, d1, _, _⟩ := row_at (aN9 w (.cells #[.int .i64 k, .int .i64 n] 39))
 exact ⟨_, rfl, (Below.refl _ w).alloc (Nat.le_refl _) _, d0, d1⟩
set_option maxRecDepth 100000 in
set_option maxHeartbeats 1000000 in
theorem rowAfter_0 (u : Value) (n : Int) (w W1 : World) (R : List Int) (hA : Af w 0 n W1) (hF : Calls Tryz.prog 137 #[u, .int .i64 n] W1 fun e w' => ∃ r, e = .returned r ∧ Ints w' r R ∧ Below W1.heap.size W1 w') : Calls Tryz.prog 98 #[u, .agg #[.int .i64 0, .int .i64 n]] w fun e w' => ∃ r, e = .returned r ∧ Ints w' r R ∧ Below w.heap.size w w' := by
 obtain ⟨hW1, hB0, d0, d1⟩ := hA
 have hM := most_in 0 W1
 rw [show mostN 0 = 99 from rfl] at hM
 by_cases hn : n = 0
 · subst hn
   clear hM
   go_enter Tryz.func98, Tryz.ntmps98
   go_wp2_with (go_at_call 137; refine hF.mono ?_; clear hF; rintro e w2 ⟨r, rfl, hr, hB2⟩)
   go_ret
   exact ⟨_, rfl, hr, hB0.trans (hB2.mono hB0.size)⟩
 · go_enter Tryz.func98, Tryz.ntmps98
   go_wp2_with (first
    | (go_at_call 56; refine hM.mono ?_; clear hM; rintro e w' ⟨rfl, rfl⟩)
    | (go_at_call 137; refine hF.mono ?_; clear hF; rintro e w2 ⟨r, rfl, hr, hB2⟩))
   go_ret
   exact ⟨_, rfl, hr, hB0.trans (hB2.mono hB0.size)⟩
set_option maxRecDepth 100000 in
set_option maxHeartbeats 1000000 in
theorem rowAfter_1 (u : Value) (n : Int) (w W1 : World) (R : List Int) (hA : Af w 1 n W1) (hF : Calls Tryz.prog 138 #[u, .int .i64 n] W1 fun e w' => ∃ r, e = .returned r ∧ Ints w' r R ∧ Below W1.heap.size W1 w') : Calls Tryz.prog 98 #[u, .agg #[.int .i64 1, .int .i64 n]] w fun e w' => ∃ r, e = .returned r ∧ Ints w' r R ∧ Below w.heap.size w w' := by
 obtain ⟨hW1, hB0, d0, d1⟩ := hA
 have hM := most_in 1 W1
 rw [show mostN 1 = 9 from rfl] at hM
 by_cases hn : n = 0
 · subst hn
   clear hM
   go_enter Tryz.func98, Tryz.ntmps98
   go_wp2_with (go_at_call 138; refine hF.mono ?_; clear hF; rintro e w2 ⟨r, rfl, hr, hB2⟩)
   go_ret
   exact ⟨_, rfl, hr, hB0.trans (hB2.mono hB0.size)⟩
 · go_enter Tryz.func98, Tryz.ntmps98
   go_wp2_with (first
    | (go_at_call 56; refine hM.mono ?_; clear hM; rintro e w' ⟨rfl, rfl⟩)
    | (go_at_call 138; refine hF.mono ?_; clear hF; rintro e w2 ⟨r, rfl, hr, hB2⟩))
   go_ret
   exact ⟨_, rfl, hr, hB0.trans (hB2.mono hB0.size)⟩
set_option maxRecDepth 100000 in
set_option maxHeartbeats 1000000 in
theorem rowAfter_2 (u : Value) (w W1 : World) (R : List Int) (hA : Af w 2 0 W1) (hF : Calls Tryz.prog 139 #[u] W1 fun e w' => ∃ r, e = .returned r ∧ w'.ownsRow W1.heap.size 3 1 r R.length (R.map (Value.int .i64)) ∧ Below W1.heap.size W1 w') : Calls Tryz.prog 98 #[u, .agg #[.int .i64 2, .int .i64 0]] w fun e w' => ∃ r, e = .returned r ∧ Ints w' r R ∧ Below w.heap.size w w' := by
 obtain ⟨hW1, hB0, d0, d1⟩ := hA
 go_enter Tryz.func98, Tryz.ntmps98
 go_wp2_with (go_at_call 139; refine hF.mono ?_; clear hF; rintro e w2 ⟨r, rfl, hr, hB2⟩)
 go_ret
 exact ⟨_, rfl, Ints.of_owns hr, hB0.trans (hB2.mono hB0.size)⟩
set_option maxRecDepth 100000 in
set_option maxHeartbeats 1000000 in
theorem rowAfter_3 (u : Value) (w W1 : World) (R : List Int) (hA : Af w 3 0 W1) (hF : Calls Tryz.prog 140 #[u] W1 fun e w' => ∃ r, e = .returned r ∧ w'.ownsRow W1.heap.size 3 1 r R.length (R.map (Value.int .i64)) ∧ Below W1.heap.size W1 w') : Calls Tryz.prog 98 #[u, .agg #[.int .i64 3, .int .i64 0]] w fun e w' => ∃ r, e = .returned r ∧ Ints w' r R ∧ Below w.heap.size w w' := by
 obtain ⟨hW1, hB0, d0, d1⟩ := hA
 go_enter Tryz.func98, Tryz.ntmps98
 go_wp2_with (go_at_call 140; refine hF.mono ?_; clear hF; rintro e w2 ⟨r, rfl, hr, hB2⟩)
 go_ret
 exact ⟨_, rfl, Ints.of_owns hr, hB0.trans (hB2.mono hB0.size)⟩
set_option maxRecDepth 100000 in
set_option maxHeartbeats 1000000 in
theorem rowAfter_4 (u : Value) (w W1 : World) (R : List Int) (hA : Af w 4 0 W1) (hF : Calls Tryz.prog 141 #[u] W1 fun e w' => ∃ r, e = .returned r ∧ w'.ownsRow W1.heap.size 3 1 r R.length (R.map (Value.int .i64)) ∧ Below W1.heap.size W1 w') : Calls Tryz.prog 98 #[u, .agg #[.int .i64 4, .int .i64 0]] w fun e w' => ∃ r, e = .returned r ∧ Ints w' r R ∧ Below w.heap.size w w' := by
 obtain ⟨hW1, hB0, d0, d1⟩ := hA
 go_enter Tryz.func98, Tryz.ntmps98
 go_wp2_with (go_at_call 141; refine hF.mono ?_; clear hF; rintro e w2 ⟨r, rfl, hr, hB2⟩)
 go_ret
 exact ⟨_, rfl, Ints.of_owns hr, hB0.trans (hB2.mono hB0.size)⟩
set_option maxRecDepth 100000 in
set_option maxHeartbeats 1000000 in
theorem rowAfter_none (u : Value) (k n : Int) (w W1 : World) (hA : Af w k n W1) (h0 : k ≠ 0) (h1 : k ≠ 1) (h : n ≠ 0 ∨ (k ≠ 2 ∧ k ≠ 3 ∧ k ≠ 4)) : Calls Tryz.prog 98 #[u, .agg #[.int .i64 k, .int .i64 n]] w fun e w' => e = .returned (.slice none 0 0) ∧ Below w.heap.size w w' := by
 obtain ⟨hW1, hB0, d0, d1⟩ := hA
 have hM := most_in k W1
 rw [show mostN k = 0 by unfold mostN; rw [if_neg h0, if_neg h1]] at hM
 by_cases hn : n = 0
 · subst hn
   obtain ⟨k2, k3, k4⟩ := h.resolve_left (fun h => h rfl)
   have b0 : (k == 0) = false := by rw [beq_eq_false_iff_ne]; exact h0
   have b1 : (k == 1) = false := by rw [beq_eq_false_iff_ne]; exact h1
   have b2 : (k == 2) = false := by rw [beq_eq_false_iff_ne]; exact k2
   have b3 : (k == 3) = false := by rw [beq_eq_false_iff_ne]; exact k3
   have b4 : (k == 4) = false := by rw [beq_eq_false_iff_ne]; exact k4
   clear h h0 h1 k2 k3 k4 hM
   go_enter Tryz.func98, Tryz.ntmps98
   go_wp2
   go_ret
   exact ⟨rfl, hB0⟩
 · clear h h0 h1
   go_enter Tryz.func98, Tryz.ntmps98
   go_wp2_with (go_at_call 56; refine hM.mono ?_; clear hM; rintro e w' ⟨rfl, rfl⟩)
   go_ret
   exact ⟨rfl, hB0⟩
theorem rowAfter_in (u : Value) (row : List Int) (k n : Int) (w : World) (hu : Ints w u row) (hs : sideB row = true) : Calls Tryz.prog 98 #[u, dV k n] w fun e w' => ∃ r, e = .returned r ∧ Ints w' r (madeV row k n) ∧ Below w.heap.size w w' := by
 have hlen := sideB_len hs
 obtain ⟨W1, hA⟩ := Af.new w k n
 have hu0 := hu.below hA.below
 have hlies : Lies u := by
  obtain ⟨g, c, rfl, _, _⟩ := hu0.cells hlen.1
  exact .inr ⟨_, _, _, rfl⟩
 unfold dV
 by_cases k0 : k = 0
 · subst k0
   refine rowAfter_0 u n w W1 _ hA ?_
   by_cases hn : 0 ≤ n ∧ n ≤ (row.length : Int) - 1
   · obtain ⟨m, rfl⟩ : ∃ m : Nat, n = m := ⟨n.toNat, by omega⟩
     rw [made_flip ⟨rfl, hn⟩, Int.toNat_natCast]
     exact flipped_in u row m W1 hu0 hs (by omega)
   · rw [made_none (by omega) (by omega) (by omega) (by omega) (by omega)]
     exact (flipped_no u row n W1 hu0 (by omega) (by omega)).mono fun e w' ⟨he, hw⟩ => ⟨_, he, Ints.none _ _ _, hw ▸ Below.refl _ _⟩
 by_cases k1 : k = 1
 · subst k1
   have hF := longer_in u row n W1 hu0 hs
   rw [longer_made hs] at hF
   exact rowAfter_1 u n w W1 _ hA hF
 by_cases hn : n = 0
 · subst hn
   by_cases k2 : k = 2
   · subst k2
     exact rowAfter_2 u w W1 _ hA (implUndr u row W1 hu0 hlies (by omega))
   by_cases k3 : k = 3
   · subst k3
     exact rowAfter_3 u w W1 _ hA (implTurned u row W1 hu0 hlies (by omega))
   by_cases k4 : k = 4
   · subst k4
     exact rowAfter_4 u w W1 _ hA (implRound u row W1 hu0 hlies (by omega))
   · rw [made_none (by omega) (by omega) (by omega) (by omega) (by omega)]
     exact (rowAfter_none u k 0 w W1 hA k0 k1 (.inr ⟨k2, k3, k4⟩)).mono fun e w' ⟨he, hw⟩ => ⟨_, he, Ints.none _ _ _, hw⟩
 · rw [made_none (by omega) (by omega) (by omega) (by omega) (by omega)]
   exact (rowAfter_none u k n w W1 hA k0 k1 (.inl hn)).mono fun e w' ⟨he, hw⟩ => ⟨_, he, Ints.none _ _ _, hw⟩
def OwnDk (W : World) (base : Nat) (v : Value) (d : Dk) : Prop :=
 ∃ mid x p, v = .agg #[x, p] ∧ base ≤ mid ∧ mid ≤ W.heap.size ∧ OwnI W base mid x d.1.length (fun i => d.1.getD i 0) ∧ OwnRows W mid p d.2
theorem OwnDk.deskI {W : World} {base : Nat} {v : Value} {d : Dk} (h : OwnDk W base v d) : DeskI W v d := by
 obtain ⟨mid, x, p, rfl, _, _, h1, h2⟩ := h
 exact ⟨x, p, rfl, h1.ints, h2.ownSS.rowsI.past⟩
theorem OwnRows.nil (W : World) (base : Nat) : OwnRows W base (.slice none 0 0) [] := ⟨[], rfl, World.ownsRow_nil _ _ _ _, fun j h => absurd h (Nat.not_lt_zero j), fun _ j _ h => absurd h (Nat.not_lt_zero j)⟩
theorem OwnDk.none (W : World) (base : Nat) (hb : base ≤ W.heap.size) : OwnDk W base (.agg #[.slice none 0 0, .slice none 0 0]) ([], []) :=
 ⟨base, _, _, rfl, Nat.le_refl _, hb, .inl ⟨rfl, _, _, rfl⟩, OwnRows.nil _ _⟩
theorem OwnRows.keep {W W' : World} {base : Nat} {v : Value} {rows : List (List Int)} (h : OwnRows W base v rows) {b : Nat} {cur : Array Value} {t : TypeId} (hb : W.heap[b]? = some (.cells cur t (0, 0))) (h1 : 28 ≠ t) (h2 : 3 ≠ t) (hg : W.grownBy W' (some b)) : OwnRows W' base v rows := by
 obtain ⟨us, l, o, r, ne⟩ := h
 exact ⟨us, l, own_kept o hg (own_not o hb h1), fun j hj => own_kept (r j hj) hg (own_not (r j hj) hb h2), ne⟩
theorem OwnRows.below {W W' : World} {base : Nat} {v : Value} {rows : List (List Int)} (h : OwnRows W base v rows) (hB : Below W.heap.size W W') : OwnRows W' base v rows := by
 obtain ⟨us, l, o, r, ne⟩ := h
 exact ⟨us, l, own_below o hB, fun j hj => own_below (r j hj) hB, ne⟩
theorem OwnRows.form {W : World} {base : Nat} {v : Value} {rows : List (List Int)} (h : OwnRows W base v rows) : ∃ a c, v = .slice a rows.length c := by
 obtain ⟨us, l, o, _⟩ := h
 obtain ⟨a, c, e⟩ := own_form o
 exact ⟨a, c, by rw [e, l]⟩
theorem own_block {W : World} {base n : Nat} {e : TypeId} {v : Value} {xs : List Value} (h : W.ownsRow base e 1 v n xs) : v.ownBlock = .none ∨ ∃ b, v.ownBlock = some b ∧ base ≤ b ∧ b < W.heap.size := by
 rcases h.2 with ⟨rfl, _⟩ | ⟨b, cap, cur, rfl, hb, hg, _⟩
 · exact .inl rfl
 · exact .inr ⟨b, rfl, hb, (gE9.1 hg).1⟩
theorem own_pos {W : World} {base n : Nat} {e : TypeId} {v : Value} {xs : List Value} (h : W.ownsRow base e 1 v n xs) (hn : 0 < n) : ∃ b, v.ownBlock = some b ∧ base ≤ b ∧ b < W.heap.size := by
 rcases h.2 with ⟨rfl, h0⟩ | ⟨b, cap, cur, rfl, hb, hg, _⟩
 · omega
 · exact ⟨b, rfl, hb, (gE9.1 hg).1⟩
theorem OwnRows.push {W V W' : World} {base : Nat} {v v' u : Value} {rows : List (List Int)} {row : List Int} (h0 : 0 < row.length) (hb : base ≤ W.heap.size)
 (hu : V.ownsRow W.heap.size 3 1 u row.length (row.map (Value.int .i64))) (us : List Value) (hus : us.length = rows.length) (ho : V.ownsRow base 28 1 v us.length us)
 (hr : ∀ j, j < rows.length → V.ownsRow base 3 1 (us.getD j undef) (rows.getD j []).length ((rows.getD j []).map (Value.int .i64)) ∧ ((us.getD j undef).ownBlock = .none ∨ ∃ b, (us.getD j undef).ownBlock = some b ∧ b < W.heap.size))
 (hne : ∀ i j, i < j → j < rows.length → (us.getD i undef).ownBlock ≠ (us.getD j undef).ownBlock)
 (hv : W'.ownsRow base 28 1 v' (us.length + 1) (us ++ [u])) (hg : V.grownBy W' v.ownBlock) : OwnRows W' base v' (rows ++ [row]) := by
 refine ⟨us ++ [u], by simp [hus], by rw [List.length_append]; exact hv, fun j hj => ?_, fun i j hij hj => ?_⟩
 · by_cases e : j < rows.length
   · rw [List.getD, List.getElem?_append_left (by omega), List.getD, List.getElem?_append_left e]
     exact (hr j e).1.kept hg (own_apart (hr j e).1 ho)
   · have : j = rows.length := by simp at hj; omega
     subst this
     rw [List.getD, ← hus, List.getElem?_append_right (Nat.le_refl _), List.getD, hus, List.getElem?_append_right (Nat.le_refl _), Nat.sub_self]
     exact own_from (hu.kept hg (own_apart hu ho)) hb
 · by_cases e : j < rows.length
   · rw [List.getD, List.getElem?_append_left (by omega), List.getD, List.getElem?_append_left (by omega)]
     exact hne i j hij e
   · have : j = rows.length := by simp at hj; omega
     subst this
     rw [List.getD, List.getElem?_append_left (by omega), List.getD, ← hus, List.getElem?_append_right (Nat.le_refl _), Nat.sub_self]
     obtain ⟨b, e1, e2, _⟩ := own_pos hu h0
     rcases (hr i hij).2 with e3 | ⟨c, e3, e4⟩
     · show (us.getD i undef).ownBlock ≠ u.ownBlock
       rw [e1, e3]; exact fun e => by cases e
     · show (us.getD i undef).ownBlock ≠ u.ownBlock
       rw [e1, e3]
       intro e
       injection e with e
       omega
theorem OwnRows.open_ {W V : World} {base : Nat} {v : Value} {rows : List (List Int)} (h : OwnRows W base v rows) (hB : Below W.heap.size W V) : ∃ us : List Value, us.length = rows.length ∧ V.ownsRow base 28 1 v us.length us ∧
 (∀ j, j < rows.length → V.ownsRow base 3 1 (us.getD j undef) (rows.getD j []).length ((rows.getD j []).map (Value.int .i64)) ∧ ((us.getD j undef).ownBlock = .none ∨ ∃ b, (us.getD j undef).ownBlock = some b ∧ b < W.heap.size)) ∧
 ∀ i j, i < j → j < rows.length → (us.getD i undef).ownBlock ≠ (us.getD j undef).ownBlock := by
 obtain ⟨us, l, o, r, ne⟩ := h
 refine ⟨us, l, own_below o hB, fun j hj => ⟨own_below (r j hj) hB, ?_⟩, ne⟩
 rcases own_block (r j hj) with h | ⟨b, h1, _, h2⟩
 · exact .inl h
 · exact .inr ⟨b, h1, h2⟩
structure Dof (w : World) (b : Nat) (x : Value) (row : List Int) (rows : List (List Int)) (pv : Value) (W : World) : Prop where
 below : Below w.heap.size w W
 res : W.heap[w.heap.size]? = some (.cells #[.slice none 0 0, .slice none 0 0] 31 (0, 0))
 out : W.heap[b]? = some (.cells #[x, pv] 31 (0, 0))
 lt : w.heap.size < b
 now : OwnI W (w.heap.size + 1) b x row.length (fun i => row.getD i 0)
 past : OwnRows W b pv rows
theorem Dof.more {w : World} {b : Nat} {x pv : Value} {row : List Int} {rows : List (List Int)} {W V : World} (h : Dof w b x row rows pv W) (hV : Below W.heap.size W V) : Dof w b x row rows pv V :=
 ⟨h.below.trans (hV.mono h.below.size), (hV.block _ (gE9.1 h.res).1).trans h.res, (hV.block _ (gE9.1 h.out).1).trans h.out, h.lt, h.now.below hV, h.past.below hV⟩
theorem Dof.push {w : World} {b : Nat} {x pv : Value} {row R : List Int} {rows : List (List Int)} {W V V' : World} {u v' : Value} (h : Dof w b x row rows pv W) (hV : Below W.heap.size W V) (h0 : 0 < R.length)
 (hu : V.ownsRow W.heap.size 3 1 u R.length (R.map (Value.int .i64))) (us : List Value) (hus : us.length = rows.length) (ho : V.ownsRow b 28 1 pv us.length us)
 (hr : ∀ j, j < rows.length → V.ownsRow b 3 1 (us.getD j undef) (rows.getD j []).length ((rows.getD j []).map (Value.int .i64)) ∧ ((us.getD j undef).ownBlock = .none ∨ ∃ q, (us.getD j undef).ownBlock = some q ∧ q < W.heap.size))
 (hne : ∀ i j, i < j → j < rows.length → (us.getD i undef).ownBlock ≠ (us.getD j undef).ownBlock)
 (hv : V'.ownsRow b 28 1 v' (us.length + 1) (us ++ [u])) (hg : V.grownBy V' pv.ownBlock) : V'.heap[b]? = some (.cells #[x, pv] 31 (0, 0)) ∧ Dof w b x row (rows ++ [R]) v' (V'.setCell ⟨b, 1, .none⟩ v') := by
 have hb : b ≤ W.heap.size := Nat.le_of_lt (gE9.1 h.out).1
 have hpast := OwnRows.push h0 hb hu us hus ho hr hne hv hg
 have hm := h.more hV
 have hlt := h.lt
 have n0 : pv.ownBlock ≠ some w.heap.size := own_old ho hlt
 have n2 : pv.ownBlock ≠ some b := own_not ho hm.out (by decide)
 have k0 := (hg.block _ (gE9.1 hm.res).1 (fun e => n0 e.symm)).trans hm.res
 have k2 := (hg.block _ (gE9.1 hm.out).1 (fun e => n2 e.symm)).trans hm.out
 have hs := grownBy_setAt V' b 1 v'
 refine ⟨k2, ⟨?_, (hs.block _ (gE9.1 k0).1 (fun e => by injection e with e; omega)).trans k0, set_cells k2 1 v', hlt, ?_, OwnRows.keep hpast k2 (by decide) (by decide) hs⟩⟩
 · exact (hm.below.grown hg hm.below.size (fun k e => by have := ho.lt k e; omega)).setCell (p := ⟨b, 1, .none⟩) (by show w.heap.size ≤ b; omega) _
 · exact (hm.now.grown hg (fun k e => by have := ho.lt k e; omega)).grown hs (fun k e => by injection e with e; omega)
theorem Dof.done {w : World} {b : Nat} {x pv : Value} {row : List Int} {rows : List (List Int)} {W : World} (h : Dof w b x row rows pv W) : OwnDk ((W.setCell ⟨w.heap.size, 0, .none⟩ x).setCell ⟨w.heap.size, 1, .none⟩ pv) w.heap.size (.agg #[x, pv]) (row, rows) ∧ Below w.heap.size w ((W.setCell ⟨w.heap.size, 0, .none⟩ x).setCell ⟨w.heap.size, 1, .none⟩ pv) := by
 have g0 := grownBy_setAt W w.heap.size 0 x
 have g1 := grownBy_setAt (W.setCell ⟨w.heap.size, 0, .none⟩ x) w.heap.size 1 pv
 have hlt := h.lt
 have hb : b < W.heap.size := (gE9.1 h.out).1
 have k0 := set_cells h.res 0 x
 refine ⟨⟨b, x, pv, rfl, by omega, lT9 (Nat.le_of_lt hb) (lT9 g0.size g1.size), ?_, ?_⟩, ?_⟩
 · have h1 := (h.now.grown g0 (fun k e => by injection e with e; omega)).grown g1 (fun k e => by injection e with e; omega)
   rcases h1 with h1 | ⟨g, c, e, h2, h3, h4⟩
   · exact .inl h1
   · exact .inr ⟨g, c, e, by omega, h3, h4⟩
 · exact OwnRows.keep (OwnRows.keep h.past h.res (by decide) (by decide) g0) k0 (by decide) (by decide) g1
 · exact (h.below.setCell (p := ⟨w.heap.size, 0, .none⟩) (Nat.le_refl _) _).setCell (p := ⟨w.heap.size, 1, .none⟩) (Nat.le_refl _) _
set_option maxRecDepth 100000 in
set_option maxHeartbeats 2000000 in
theorem deskOf_lt (w : World) (u : Value) (row : List Int) (rows : List (List Int)) (a : Option Addr) (cp N G o : Nat) (ha : 0 < N → a = some ⟨G, o, none⟩) (hN : rows.length = N) (hN8 : N ≤ 7) (hG : 0 < N → G < w.heap.size) (hrows : ∀ k, k < N → ∃ u, w.cell? ⟨G, o + k, none⟩ = some u ∧ Ints w u (rows.getD k [])) (hr : ∀ j, j < N → 1 ≤ (rows.getD j []).length ∧ (rows.getD j []).length ≤ 12) (hu : Ints w u row) (h1 : 1 ≤ row.length) (h2 : row.length ≤ 12) :
 Calls Tryz.prog 52 #[u, .slice a N cp] w fun e w' => ∃ x, e = .returned x ∧ OwnDk w' w.heap.size x (row, rows) ∧ Below w.heap.size w w' := by
 obtain ⟨g, c, rfl, hg, hc⟩ := hu.cells h1
 have hN8i : (N : Int) - 8 < 0 := by omega
 have hB0 : Below w.heap.size w (w.alloc (.cells #[.slice none 0 0, .slice none 0 0] 31)) := (Below.refl _ w).alloc (Nat.le_refl _) _
 have hres := aN9 w (.cells #[.slice none 0 0, .slice none 0 0] 31)
 have hsz := Nat.le_of_eq (World.size_alloc w (.cells #[.slice none 0 0, .slice none 0 0] 31)).symm
 obtain ⟨W0, hW0⟩ : ∃ W0, w.alloc (.cells #[.slice none 0 0, .slice none 0 0] 31) = W0 := ⟨_, rfl⟩
 rw [hW0] at hB0 hres hsz
 have hC := clone_in g row.length c row W0 rfl (by omega) (map_get (fun i hi => (hB0.cell (p := ⟨g, i, none⟩) hg).trans (hc i hi)))
 clear hc
 refine (cW9 (n := 9)).1 ?_
 refine callsIn_of_wp Tryz.func52 rfl trivial ?_ rfl
 simp only [Tryz.ntmps52, List.size_toArray, List.length_cons, List.length_nil, Nat.reduceAdd, Nat.reduceSub, Array.replicate_succ, Array.replicate_zero, List.push_toArray, List.append_toArray, List.nil_append, List.cons_append]
 gi_wp2_with (refine ⟨trivial, ?_⟩; gi_at_call 96; refine (cW9.2 hC).mono ?_; clear hC; go_loud (rintro e w2 ⟨r, rfl, hy, hB2⟩; obtain ⟨ay, cy, rfl⟩ := own_form hy))
 have hs2 := hB2.size
 have hB3 : Below w.heap.size w w2 := hB0.trans (hB2.mono hB0.size)
 have hx : OwnI w2 (w.heap.size + 1) w2.heap.size (.slice ay row.length cy) row.length (fun i => row.getD i 0) := by
  obtain ⟨gy, cy', e1, e2, e3⟩ := RowAt.of_owns hy (by omega)
  exact .inr ⟨gy, cy', e1, by omega, e3.lt, e3⟩
 have hD0 : Dof w w2.heap.size (.slice ay row.length cy) row (rows.take 0) (.slice none 0 0) (w2.alloc (.cells #[.slice ay row.length cy, .slice none 0 0] 31)) :=
  ⟨hB3.alloc hB3.size _, (Below.heap_alloc _ _ _ (by omega)).trans ((hB2.block _ (by omega)).trans hres), aN9 w2 _, by omega, hx.below ((Below.refl _ _).alloc (Nat.le_refl _) _), OwnRows.nil _ _⟩
 clear hy hB2 hB3 hB0 hres hsz hx hW0 hs2
 generalize w2.alloc (.cells #[.slice ay row.length cy, .slice none 0 0] 31) = W3 at *
 generalize w2.heap.size = b at *
 gi_loopw [18] (fun i wr => ∃ k : Nat, k ≤ N ∧ i = .int .i64 k ∧ ∃ pv, Dof w b (.slice ay row.length cy) row (rows.take k) pv wr) (fun i _ => N - (intOf i).toNat)
 case atStart => exact ⟨0, by omega, rfl, _, hD0⟩
 case round =>
  clear hD0
  obtain ⟨k, hk, rfl, pv, hDk⟩ := hrel
  by_cases hlt : k < N
  · have hki : (k : Int) < (N : Int) := by omega
    obtain rfl := ha (by omega)
    have hG := hG (by omega)
    obtain ⟨uu, huc, huu⟩ := hrows k hlt
    have hrk := hr k hlt
    obtain ⟨gu, cu, rfl, hgu, hcu⟩ := huu.cells hrk.1
    have htake : rows.take (k + 1) = rows.take k ++ [rows.getD k []] := by
     rw [List.take_add_one, eG9 (by omega), List.getD, eG9 (by omega)]; rfl
    obtain ⟨R, hR⟩ : ∃ R, rows.getD k [] = R := ⟨_, rfl⟩
    rw [hR] at huc hcu hrk htake
    have huc2 := (hDk.below.cell (p := ⟨G, o + k, none⟩) hG).trans huc
    have hcl : ∀ V, Below wr.heap.size wr V → Calls Tryz.prog 96 #[.slice (some ⟨gu, 0, none⟩) R.length cu] V fun e w' => ∃ v, e = .returned v ∧ w'.ownsRow V.heap.size 3 1 v R.length (R.map (Value.int .i64)) ∧ Below V.heap.size V w' := fun V hV =>
     clone_in gu R.length cu R V rfl (by omega) (map_get (fun i hi => (hV.cell (p := ⟨gu, i, none⟩) (lL9 hgu hDk.below.size)).trans ((hDk.below.cell (p := ⟨gu, i, none⟩) hgu).trans (hcu i hi))))
    have hwb := hDk.below.size
    have hblt := hDk.lt
    have hbs := (gE9.1 hDk.out).1
    have hDk' := hide hDk
    clear hDk huc huu hcu hR hrows hr
    gi_wp2
    refine wpIn_region_kinds 5 (by kernel_rfl) (by kernel_rfl) (by kernel_rfl) (by decide)
     (fun s => { tmps := #[.slice (some ⟨g, 0, none⟩) row.length c, .slice (some ⟨G, o, none⟩) N cp, undef, undef, .pointer (some ⟨w.heap.size, 0, none⟩), .pointer (some ⟨b, 0, none⟩), undef, .slice (some ⟨gu, 0, none⟩) R.length cu, .slice (some ⟨g, 0, none⟩) row.length c, .slice ay row.length cy, .agg #[.slice ay row.length cy, .slice none 0 0], .slice (some ⟨G, o, none⟩) N cp, .slice (some ⟨G, o, none⟩) N cp, .int .i64 N, .int .i64 ((N : Int) - 8), .int .i64 0, .slice (some ⟨G, o, none⟩) N cp, .int .i64 N, .int .i64 k, .bool true, .pointer (some ⟨G, o + k, none⟩), .slice (some ⟨gu, 0, none⟩) R.length cu, s 0, s 1, s 2, s 3, s 4, u27, u28, u29, undef], defers := [] })
     [.val (.pointer (some ⟨b, 1, none⟩)), .val pv, .val (.slice (some ⟨gu, 0, none⟩) R.length cu), .own wr.heap.size R.length (R.map (Value.int .i64)), .oneOwn wr.heap.size R.length (R.map (Value.int .i64))]
     ⟨fun j => #[u22, u23, u24, u25, u26].getD j undef, rfl⟩ ?put ?step ?tail
    case put =>
     intro i o s v hi ho
     rcases (show i = 0 ∨ i = 1 ∨ i = 2 ∨ i = 3 ∨ i = 4 by omega) with rfl | rfl | rfl | rfl | rfl
     all_goals
      simp at ho
      subst ho
      simp [Act.put]
    case step =>
     rintro i o s V hi ho hV hd Q' hQ
     rcases (show i = 0 ∨ i = 1 ∨ i = 2 ∨ i = 3 ∨ i = 4 by omega) with rfl | rfl | rfl | rfl | rfl
     all_goals
      simp at ho
      subst ho
      simp [Act.put] at hQ
      have hQ' := hide hQ
      clear hQ
     case inl =>
      clear hd
      gi_wp2
      exact hQ'.out _ _ (Below.refl _ _) rfl
     case inr.inl =>
      have e1 : s 0 = .pointer (some ⟨b, 1, none⟩) := hd 0 (by kernel_rfl)
      have hcc : V.cell? ⟨b, 1, none⟩ = some pv := by unfold World.cell?; rw [(hDk'.out.more hV).out]; rfl
      clear hd
      gi_wp2
      exact hQ'.out _ _ (Below.refl _ _) rfl
     case inr.inr.inl =>
      clear hd
      gi_wp2
      exact hQ'.out _ _ (Below.refl _ _) rfl
     case inr.inr.inr.inl =>
      have e1 : s 2 = .slice (some ⟨gu, 0, none⟩) R.length cu := hd 2 (by kernel_rfl)
      have hcV := hcl V hV
      clear hd
      gi_wp2_with (refine ⟨trivial, ?_⟩; gi_at_call 96; refine (cW9.2 hcV).mono ?_; rintro e w' ⟨r, rfl, hown', hB'⟩)
      have hr := hQ'.out
      rw [e1] at hr
      exact hr _ _ hB' (own_from hown' hV.size)
     case inr.inr.inr.inr =>
      have e1 : V.ownsRow wr.heap.size 3 1 (s 3) R.length (R.map (Value.int .i64)) := hd 3 (by kernel_rfl)
      clear hd
      obtain ⟨ar, cr, er⟩ := own_form e1
      rw [er] at e1
      gi_wp2
      exact hQ'.out _ _ ((Below.refl _ V).alloc (Nat.le_refl _) _) ⟨V.heap.size, .slice ar R.length cr, rfl, by simp, (Boxed.new V 28 (.slice ar R.length cr)).cell, e1.alloc _⟩
    case tail =>
     rintro s V hV hd
     have e1 : s 1 = pv := hd 1 (by omega)
     obtain ⟨q, u0, e9, hq, hcq, hu0⟩ : ∃ q u, s 4 = .slice (some ⟨q, 0, none⟩) 1 1 ∧ q < V.heap.size ∧ V.cell? ⟨q, 0, none⟩ = some u ∧ V.ownsRow wr.heap.size 3 1 u R.length (R.map (Value.int .i64)) := hd 4 (by omega)
     clear hd
     obtain ⟨us, hul, huo, hur, hune⟩ := hDk'.out.past.open_ hV
     have hus : us.length ≤ 9 := by rw [hul, List.length_take]; omega
     have hVs := hV.size
     simp only [List.drop_succ_cons, List.drop_zero]
     refine append_slice_in rfl _ _ rfl (by obtain ⟨ar, cr, rfl⟩ := own_form hu0; rfl) b pv us.length us e1 huo q e9 hcq (by omega) (by omega) ?_
     intro v' w' how hgr
     obtain ⟨k2, hnew⟩ := hDk'.out.push hV hrk.1 hu0 us hul huo hur hune how hgr
     rw [← htake] at hnew
     obtain ⟨c0, c1, f0, f1⟩ := row_at k2
     obtain ⟨a', c', e'⟩ := hnew.past.form
     rw [List.length_take, Nat.min_eq_left (by omega)] at e'
     rw [e'] at hnew
     have hnew' := hide hnew
     subst e'
     clear hnew hgr how huo hur hune hDk' hu0 hcq k2
     gi_wp2
     go_roundw
     case rel => exact ⟨k + 1, by omega, by go_num, _, hnew'.out⟩
     case measure => simp [intOf]; omega
  · have hki : ¬ ((k : Nat) : Int) < (N : Int) := by omega
    rw [List.take_of_length_le (by omega)] at hDk
    obtain ⟨a', c', e'⟩ := hDk.past.form
    rw [hN] at e'
    subst e'
    obtain ⟨c0, c1, f0, f1⟩ := row_at hDk.out
    obtain ⟨r0, r1, g0, g1⟩ := row_at hDk.res
    have hres := desk_set hDk.res (.slice ay row.length cy) (.slice a' N c')
    have hdone := hide hDk.done
    clear hDk hrows hr
    gi_wp2
    refine bodyPost_ret (results_desk rfl _ _ w.heap.size _ _ rfl hres) rfl ⟨_, rfl, hdone.out.1, hdone.out.2⟩
set_option maxRecDepth 100000 in
set_option maxHeartbeats 2000000 in
theorem deskOf_8 (w : World) (u : Value) (row : List Int) (rows : List (List Int)) (cp G o : Nat) (hN : rows.length = 8) (hG : G < w.heap.size) (hrows : ∀ k, k < 8 → ∃ u, w.cell? ⟨G, o + k, none⟩ = some u ∧ Ints w u (rows.getD k [])) (hr : ∀ j, j < 8 → 1 ≤ (rows.getD j []).length ∧ (rows.getD j []).length ≤ 12) (hu : Ints w u row) (h1 : 1 ≤ row.length) (h2 : row.length ≤ 12) :
 Calls Tryz.prog 52 #[u, .slice (some ⟨G, o, none⟩) 8 cp] w fun e w' => ∃ x, e = .returned x ∧ OwnDk w' w.heap.size x (row, rows) ∧ Below w.heap.size w w' := by
 obtain ⟨g, c, rfl, hg, hc⟩ := hu.cells h1
 have hB0 : Below w.heap.size w (w.alloc (.cells #[.slice none 0 0, .slice none 0 0] 31)) := (Below.refl _ w).alloc (Nat.le_refl _) _
 have hres := aN9 w (.cells #[.slice none 0 0, .slice none 0 0] 31)
 have hsz := Nat.le_of_eq (World.size_alloc w (.cells #[.slice none 0 0, .slice none 0 0] 31)).symm
 obtain ⟨W0, hW0⟩ : ∃ W0, w.alloc (.cells #[.slice none 0 0, .slice none 0 0] 31) = W0 := ⟨_, rfl⟩
 rw [hW0] at hB0 hres hsz
 have hC := clone_in g row.length c row W0 rfl (by omega) (map_get (fun i hi => (hB0.cell (p := ⟨g, i, none⟩) hg).trans (hc i hi)))
 clear hc
 refine (cW9 (n := 9)).1 ?_
 refine callsIn_of_wp Tryz.func52 rfl trivial ?_ rfl
 simp only [Tryz.ntmps52, List.size_toArray, List.length_cons, List.length_nil, Nat.reduceAdd, Nat.reduceSub, Array.replicate_succ, Array.replicate_zero, List.push_toArray, List.append_toArray, List.nil_append, List.cons_append]
 gi_wp2_with (refine ⟨trivial, ?_⟩; gi_at_call 96; refine (cW9.2 hC).mono ?_; clear hC; go_loud (rintro e w2 ⟨r, rfl, hy, hB2⟩; obtain ⟨ay, cy, rfl⟩ := own_form hy))
 have hs2 := hB2.size
 have hB3 : Below w.heap.size w w2 := hB0.trans (hB2.mono hB0.size)
 have hx : OwnI w2 (w.heap.size + 1) w2.heap.size (.slice ay row.length cy) row.length (fun i => row.getD i 0) := by
  obtain ⟨gy, cy', e1, e2, e3⟩ := RowAt.of_owns hy (by omega)
  exact .inr ⟨gy, cy', e1, by omega, e3.lt, e3⟩
 have hD0 : Dof w w2.heap.size (.slice ay row.length cy) row (rows.take 0) (.slice none 0 0) (w2.alloc (.cells #[.slice ay row.length cy, .slice none 0 0] 31)) :=
  ⟨hB3.alloc hB3.size _, (Below.heap_alloc _ _ _ (by omega)).trans ((hB2.block _ (by omega)).trans hres), aN9 w2 _, by omega, hx.below ((Below.refl _ _).alloc (Nat.le_refl _) _), OwnRows.nil _ _⟩
 clear hy hB2 hB3 hB0 hres hsz hx hW0 hs2
 generalize w2.alloc (.cells #[.slice ay row.length cy, .slice none 0 0] 31) = W3 at *
 generalize w2.heap.size = b at *
 gi_loopw [18] (fun i wr => ∃ k : Nat, k ≤ 8 ∧ i = .int .i64 k ∧ ∃ pv, Dof w b (.slice ay row.length cy) row (rows.take k) pv wr) (fun i _ => 8 - (intOf i).toNat)
 case atStart => exact ⟨0, by omega, rfl, _, hD0⟩
 case round =>
  clear hD0
  obtain ⟨k, hk, rfl, pv, hDk⟩ := hrel
  by_cases hlt : k < 8
  · have hki : (k : Int) < (8 : Int) := by omega
    obtain ⟨uu, huc, huu⟩ := hrows k hlt
    have hrk := hr k hlt
    obtain ⟨gu, cu, rfl, hgu, hcu⟩ := huu.cells hrk.1
    have htake : rows.take (k + 1) = rows.take k ++ [rows.getD k []] := by
     rw [List.take_add_one, eG9 (by omega), List.getD, eG9 (by omega)]; rfl
    obtain ⟨R, hR⟩ : ∃ R, rows.getD k [] = R := ⟨_, rfl⟩
    rw [hR] at huc hcu hrk htake
    have huc2 := (hDk.below.cell (p := ⟨G, o + k, none⟩) hG).trans huc
    have hcl : ∀ V, Below wr.heap.size wr V → Calls Tryz.prog 96 #[.slice (some ⟨gu, 0, none⟩) R.length cu] V fun e w' => ∃ v, e = .returned v ∧ w'.ownsRow V.heap.size 3 1 v R.length (R.map (Value.int .i64)) ∧ Below V.heap.size V w' := fun V hV =>
     clone_in gu R.length cu R V rfl (by omega) (map_get (fun i hi => (hV.cell (p := ⟨gu, i, none⟩) (lL9 hgu hDk.below.size)).trans ((hDk.below.cell (p := ⟨gu, i, none⟩) hgu).trans (hcu i hi))))
    have hwb := hDk.below.size
    have hblt := hDk.lt
    have hbs := (gE9.1 hDk.out).1
    have hDk' := hide hDk
    clear hDk huc huu hcu hR hrows hr
    gi_wp2
    refine wpIn_region_kinds 5 (by kernel_rfl) (by kernel_rfl) (by kernel_rfl) (by decide)
     (fun s => { tmps := #[.slice (some ⟨g, 0, none⟩) row.length c, .slice (some ⟨G, o, none⟩) 8 cp, undef, undef, .pointer (some ⟨w.heap.size, 0, none⟩), .pointer (some ⟨b, 0, none⟩), undef, .slice (some ⟨gu, 0, none⟩) R.length cu, .slice (some ⟨g, 0, none⟩) row.length c, .slice ay row.length cy, .agg #[.slice ay row.length cy, .slice none 0 0], .slice (some ⟨G, o, none⟩) 8 cp, .slice (some ⟨G, o, none⟩) 8 cp, .int .i64 8, .int .i64 0, .int .i64 0, .slice (some ⟨G, o, none⟩) 8 cp, .int .i64 8, .int .i64 k, .bool true, .pointer (some ⟨G, o + k, none⟩), .slice (some ⟨gu, 0, none⟩) R.length cu, s 0, s 1, s 2, s 3, s 4, u27, u28, u29, undef], defers := [] })
     [.val (.pointer (some ⟨b, 1, none⟩)), .val pv, .val (.slice (some ⟨gu, 0, none⟩) R.length cu), .own wr.heap.size R.length (R.map (Value.int .i64)), .oneOwn wr.heap.size R.length (R.map (Value.int .i64))]
     ⟨fun j => #[u22, u23, u24, u25, u26].getD j undef, rfl⟩ ?put ?step ?tail
    case put =>
     intro i o s v hi ho
     rcases (show i = 0 ∨ i = 1 ∨ i = 2 ∨ i = 3 ∨ i = 4 by omega) with rfl | rfl | rfl | rfl | rfl
     all_goals
      simp at ho
      subst ho
      simp [Act.put]
    case step =>
     rintro i o s V hi ho hV hd Q' hQ
     rcases (show i = 0 ∨ i = 1 ∨ i = 2 ∨ i = 3 ∨ i = 4 by omega) with rfl | rfl | rfl | rfl | rfl
     all_goals
      simp at ho
      subst ho
      simp [Act.put] at hQ
      have hQ' := hide hQ
      clear hQ
     case inl =>
      clear hd
      gi_wp2
      exact hQ'.out _ _ (Below.refl _ _) rfl
     case inr.inl =>
      have e1 : s 0 = .pointer (some ⟨b, 1, none⟩) := hd 0 (by kernel_rfl)
      have hcc : V.cell? ⟨b, 1, none⟩ = some pv := by unfold World.cell?; rw [(hDk'.out.more hV).out]; rfl
      clear hd
      gi_wp2
      exact hQ'.out _ _ (Below.refl _ _) rfl
     case inr.inr.inl =>
      clear hd
      gi_wp2
      exact hQ'.out _ _ (Below.refl _ _) rfl
     case inr.inr.inr.inl =>
      have e1 : s 2 = .slice (some ⟨gu, 0, none⟩) R.length cu := hd 2 (by kernel_rfl)
      have hcV := hcl V hV
      clear hd
      gi_wp2_with (refine ⟨trivial, ?_⟩; gi_at_call 96; refine (cW9.2 hcV).mono ?_; rintro e w' ⟨r, rfl, hown', hB'⟩)
      have hr := hQ'.out
      rw [e1] at hr
      exact hr _ _ hB' (own_from hown' hV.size)
     case inr.inr.inr.inr =>
      have e1 : V.ownsRow wr.heap.size 3 1 (s 3) R.length (R.map (Value.int .i64)) := hd 3 (by kernel_rfl)
      clear hd
      obtain ⟨ar, cr, er⟩ := own_form e1
      rw [er] at e1
      gi_wp2
      exact hQ'.out _ _ ((Below.refl _ V).alloc (Nat.le_refl _) _) ⟨V.heap.size, .slice ar R.length cr, rfl, by simp, (Boxed.new V 28 (.slice ar R.length cr)).cell, e1.alloc _⟩
    case tail =>
     rintro s V hV hd
     have e1 : s 1 = pv := hd 1 (by omega)
     obtain ⟨q, u0, e9, hq, hcq, hu0⟩ : ∃ q u, s 4 = .slice (some ⟨q, 0, none⟩) 1 1 ∧ q < V.heap.size ∧ V.cell? ⟨q, 0, none⟩ = some u ∧ V.ownsRow wr.heap.size 3 1 u R.length (R.map (Value.int .i64)) := hd 4 (by omega)
     clear hd
     obtain ⟨us, hul, huo, hur, hune⟩ := hDk'.out.past.open_ hV
     have hus : us.length ≤ 9 := by rw [hul, List.length_take]; omega
     have hVs := hV.size
     simp only [List.drop_succ_cons, List.drop_zero]
     refine append_slice_in rfl _ _ rfl (by obtain ⟨ar, cr, rfl⟩ := own_form hu0; rfl) b pv us.length us e1 huo q e9 hcq (by omega) (by omega) ?_
     intro v' w' how hgr
     obtain ⟨k2, hnew⟩ := hDk'.out.push hV hrk.1 hu0 us hul huo hur hune how hgr
     rw [← htake] at hnew
     obtain ⟨c0, c1, f0, f1⟩ := row_at k2
     obtain ⟨a', c', e'⟩ := hnew.past.form
     rw [List.length_take, Nat.min_eq_left (by omega)] at e'
     rw [e'] at hnew
     have hnew' := hide hnew
     subst e'
     clear hnew hgr how huo hur hune hDk' hu0 hcq k2
     gi_wp2
     go_roundw
     case rel => exact ⟨k + 1, by omega, by go_num, _, hnew'.out⟩
     case measure => simp [intOf]; omega
  · have hki : ¬ ((k : Nat) : Int) < (8 : Int) := by omega
    rw [List.take_of_length_le (by omega)] at hDk
    obtain ⟨a', c', e'⟩ := hDk.past.form
    rw [hN] at e'
    subst e'
    obtain ⟨c0, c1, f0, f1⟩ := row_at hDk.out
    obtain ⟨r0, r1, g0, g1⟩ := row_at hDk.res
    have hres := desk_set hDk.res (.slice ay row.length cy) (.slice a' 8 c')
    have hdone := hide hDk.done
    clear hDk hrows hr
    gi_wp2
    refine bodyPost_ret (results_desk rfl _ _ w.heap.size _ _ rfl hres) rfl ⟨_, rfl, hdone.out.1, hdone.out.2⟩
set_option maxRecDepth 100000 in
set_option maxHeartbeats 2000000 in
theorem deskOf_9 (w : World) (u : Value) (row : List Int) (rows : List (List Int)) (cp G o : Nat) (hN : rows.length = 8) (hG : G < w.heap.size) (hrows : ∀ k, k < 8 → ∃ u, w.cell? ⟨G, (o + 1) + k, none⟩ = some u ∧ Ints w u (rows.getD k [])) (hr : ∀ j, j < 8 → 1 ≤ (rows.getD j []).length ∧ (rows.getD j []).length ≤ 12) (hcp : 9 ≤ cp) (hu : Ints w u row) (h1 : 1 ≤ row.length) (h2 : row.length ≤ 12) :
 Calls Tryz.prog 52 #[u, .slice (some ⟨G, o, none⟩) 9 cp] w fun e w' => ∃ x, e = .returned x ∧ OwnDk w' w.heap.size x (row, rows) ∧ Below w.heap.size w w' := by
 obtain ⟨g, c, rfl, hg, hc⟩ := hu.cells h1
 have hB0 : Below w.heap.size w (w.alloc (.cells #[.slice none 0 0, .slice none 0 0] 31)) := (Below.refl _ w).alloc (Nat.le_refl _) _
 have hres := aN9 w (.cells #[.slice none 0 0, .slice none 0 0] 31)
 have hsz := Nat.le_of_eq (World.size_alloc w (.cells #[.slice none 0 0, .slice none 0 0] 31)).symm
 obtain ⟨W0, hW0⟩ : ∃ W0, w.alloc (.cells #[.slice none 0 0, .slice none 0 0] 31) = W0 := ⟨_, rfl⟩
 rw [hW0] at hB0 hres hsz
 have hC := clone_in g row.length c row W0 rfl (by omega) (map_get (fun i hi => (hB0.cell (p := ⟨g, i, none⟩) hg).trans (hc i hi)))
 clear hc
 refine (cW9 (n := 9)).1 ?_
 refine callsIn_of_wp Tryz.func52 rfl trivial ?_ rfl
 simp only [Tryz.ntmps52, List.size_toArray, List.length_cons, List.length_nil, Nat.reduceAdd, Nat.reduceSub, Array.replicate_succ, Array.replicate_zero, List.push_toArray, List.append_toArray, List.nil_append, List.cons_append]
 gi_wp2_with (refine ⟨trivial, ?_⟩; gi_at_call 96; refine (cW9.2 hC).mono ?_; clear hC; go_loud (rintro e w2 ⟨r, rfl, hy, hB2⟩; obtain ⟨ay, cy, rfl⟩ := own_form hy))
 have hs2 := hB2.size
 have hB3 : Below w.heap.size w w2 := hB0.trans (hB2.mono hB0.size)
 have hx : OwnI w2 (w.heap.size + 1) w2.heap.size (.slice ay row.length cy) row.length (fun i => row.getD i 0) := by
  obtain ⟨gy, cy', e1, e2, e3⟩ := RowAt.of_owns hy (by omega)
  exact .inr ⟨gy, cy', e1, by omega, e3.lt, e3⟩
 have hD0 : Dof w w2.heap.size (.slice ay row.length cy) row (rows.take 0) (.slice none 0 0) (w2.alloc (.cells #[.slice ay row.length cy, .slice none 0 0] 31)) :=
  ⟨hB3.alloc hB3.size _, (Below.heap_alloc _ _ _ (by omega)).trans ((hB2.block _ (by omega)).trans hres), aN9 w2 _, by omega, hx.below ((Below.refl _ _).alloc (Nat.le_refl _) _), OwnRows.nil _ _⟩
 clear hy hB2 hB3 hB0 hres hsz hx hW0 hs2
 generalize w2.alloc (.cells #[.slice ay row.length cy, .slice none 0 0] 31) = W3 at *
 generalize w2.heap.size = b at *
 gi_loopw [18] (fun i wr => ∃ k : Nat, k ≤ 8 ∧ i = .int .i64 k ∧ ∃ pv, Dof w b (.slice ay row.length cy) row (rows.take k) pv wr) (fun i _ => 8 - (intOf i).toNat)
 case atStart => exact ⟨0, by omega, rfl, _, hD0⟩
 case round =>
  clear hD0
  obtain ⟨k, hk, rfl, pv, hDk⟩ := hrel
  by_cases hlt : k < 8
  · have hki : (k : Int) < (8 : Int) := by omega
    obtain ⟨uu, huc, huu⟩ := hrows k hlt
    have hrk := hr k hlt
    obtain ⟨gu, cu, rfl, hgu, hcu⟩ := huu.cells hrk.1
    have htake : rows.take (k + 1) = rows.take k ++ [rows.getD k []] := by
     rw [List.take_add_one, eG9 (by omega), List.getD, eG9 (by omega)]; rfl
    obtain ⟨R, hR⟩ : ∃ R, rows.getD k [] = R := ⟨_, rfl⟩
    rw [hR] at huc hcu hrk htake
    have huc2 := (hDk.below.cell (p := ⟨G, (o + 1) + k, none⟩) hG).trans huc
    have hcl : ∀ V, Below wr.heap.size wr V → Calls Tryz.prog 96 #[.slice (some ⟨gu, 0, none⟩) R.length cu] V fun e w' => ∃ v, e = .returned v ∧ w'.ownsRow V.heap.size 3 1 v R.length (R.map (Value.int .i64)) ∧ Below V.heap.size V w' := fun V hV =>
     clone_in gu R.length cu R V rfl (by omega) (map_get (fun i hi => (hV.cell (p := ⟨gu, i, none⟩) (lL9 hgu hDk.below.size)).trans ((hDk.below.cell (p := ⟨gu, i, none⟩) hgu).trans (hcu i hi))))
    have hwb := hDk.below.size
    have hblt := hDk.lt
    have hbs := (gE9.1 hDk.out).1
    have hDk' := hide hDk
    clear hDk huc huu hcu hR hrows hr
    gi_wp2
    refine wpIn_region_kinds 5 (by kernel_rfl) (by kernel_rfl) (by kernel_rfl) (by decide)
     (fun s => { tmps := #[.slice (some ⟨g, 0, none⟩) row.length c, .slice (some ⟨G, o, none⟩) 9 cp, undef, undef, .pointer (some ⟨w.heap.size, 0, none⟩), .pointer (some ⟨b, 0, none⟩), undef, .slice (some ⟨gu, 0, none⟩) R.length cu, .slice (some ⟨g, 0, none⟩) row.length c, .slice ay row.length cy, .agg #[.slice ay row.length cy, .slice none 0 0], .slice (some ⟨G, o, none⟩) 9 cp, .slice (some ⟨G, o, none⟩) 9 cp, .int .i64 9, .int .i64 1, .int .i64 1, .slice (some ⟨G, o + 1, none⟩) 8 (cp - 1), .int .i64 8, .int .i64 k, .bool true, .pointer (some ⟨G, (o + 1) + k, none⟩), .slice (some ⟨gu, 0, none⟩) R.length cu, s 0, s 1, s 2, s 3, s 4, u27, u28, u29, undef], defers := [] })
     [.val (.pointer (some ⟨b, 1, none⟩)), .val pv, .val (.slice (some ⟨gu, 0, none⟩) R.length cu), .own wr.heap.size R.length (R.map (Value.int .i64)), .oneOwn wr.heap.size R.length (R.map (Value.int .i64))]
     ⟨fun j => #[u22, u23, u24, u25, u26].getD j undef, rfl⟩ ?put ?step ?tail
    case put =>
     intro i o s v hi ho
     rcases (show i = 0 ∨ i = 1 ∨ i = 2 ∨ i = 3 ∨ i = 4 by omega) with rfl | rfl | rfl | rfl | rfl
     all_goals
      simp at ho
      subst ho
      simp [Act.put]
    case step =>
     rintro i o s V hi ho hV hd Q' hQ
     rcases (show i = 0 ∨ i = 1 ∨ i = 2 ∨ i = 3 ∨ i = 4 by omega) with rfl | rfl | rfl | rfl | rfl
     all_goals
      simp at ho
      subst ho
      simp [Act.put] at hQ
      have hQ' := hide hQ
      clear hQ
     case inl =>
      clear hd
      gi_wp2
      exact hQ'.out _ _ (Below.refl _ _) rfl
     case inr.inl =>
      have e1 : s 0 = .pointer (some ⟨b, 1, none⟩) := hd 0 (by kernel_rfl)
      have hcc : V.cell? ⟨b, 1, none⟩ = some pv := by unfold World.cell?; rw [(hDk'.out.more hV).out]; rfl
      clear hd
      gi_wp2
      exact hQ'.out _ _ (Below.refl _ _) rfl
     case inr.inr.inl =>
      clear hd
      gi_wp2
      exact hQ'.out _ _ (Below.refl _ _) rfl
     case inr.inr.inr.inl =>
      have e1 : s 2 = .slice (some ⟨gu, 0, none⟩) R.length cu := hd 2 (by kernel_rfl)
      have hcV := hcl V hV
      clear hd
      gi_wp2_with (refine ⟨trivial, ?_⟩; gi_at_call 96; refine (cW9.2 hcV).mono ?_; rintro e w' ⟨r, rfl, hown', hB'⟩)
      have hr := hQ'.out
      rw [e1] at hr
      exact hr _ _ hB' (own_from hown' hV.size)
     case inr.inr.inr.inr =>
      have e1 : V.ownsRow wr.heap.size 3 1 (s 3) R.length (R.map (Value.int .i64)) := hd 3 (by kernel_rfl)
      clear hd
      obtain ⟨ar, cr, er⟩ := own_form e1
      rw [er] at e1
      gi_wp2
      exact hQ'.out _ _ ((Below.refl _ V).alloc (Nat.le_refl _) _) ⟨V.heap.size, .slice ar R.length cr, rfl, by simp, (Boxed.new V 28 (.slice ar R.length cr)).cell, e1.alloc _⟩
    case tail =>
     rintro s V hV hd
     have e1 : s 1 = pv := hd 1 (by omega)
     obtain ⟨q, u0, e9, hq, hcq, hu0⟩ : ∃ q u, s 4 = .slice (some ⟨q, 0, none⟩) 1 1 ∧ q < V.heap.size ∧ V.cell? ⟨q, 0, none⟩ = some u ∧ V.ownsRow wr.heap.size 3 1 u R.length (R.map (Value.int .i64)) := hd 4 (by omega)
     clear hd
     obtain ⟨us, hul, huo, hur, hune⟩ := hDk'.out.past.open_ hV
     have hus : us.length ≤ 9 := by rw [hul, List.length_take]; omega
     have hVs := hV.size
     simp only [List.drop_succ_cons, List.drop_zero]
     refine append_slice_in rfl _ _ rfl (by obtain ⟨ar, cr, rfl⟩ := own_form hu0; rfl) b pv us.length us e1 huo q e9 hcq (by omega) (by omega) ?_
     intro v' w' how hgr
     obtain ⟨k2, hnew⟩ := hDk'.out.push hV hrk.1 hu0 us hul huo hur hune how hgr
     rw [← htake] at hnew
     obtain ⟨c0, c1, f0, f1⟩ := row_at k2
     obtain ⟨a', c', e'⟩ := hnew.past.form
     rw [List.length_take, Nat.min_eq_left (by omega)] at e'
     rw [e'] at hnew
     have hnew' := hide hnew
     subst e'
     clear hnew hgr how huo hur hune hDk' hu0 hcq k2
     gi_wp2
     go_roundw
     case rel => exact ⟨k + 1, by omega, by go_num, _, hnew'.out⟩
     case measure => simp [intOf]; omega
  · have hki : ¬ ((k : Nat) : Int) < (8 : Int) := by omega
    rw [List.take_of_length_le (by omega)] at hDk
    obtain ⟨a', c', e'⟩ := hDk.past.form
    rw [hN] at e'
    subst e'
    obtain ⟨c0, c1, f0, f1⟩ := row_at hDk.out
    obtain ⟨r0, r1, g0, g1⟩ := row_at hDk.res
    have hres := desk_set hDk.res (.slice ay row.length cy) (.slice a' 8 c')
    have hdone := hide hDk.done
    clear hDk hrows hr
    gi_wp2
    refine bodyPost_ret (results_desk rfl _ _ w.heap.size _ _ rfl hres) rfl ⟨_, rfl, hdone.out.1, hdone.out.2⟩
end
section
open Go.RowKit Go.Shelf
def lastR (past : List (List Int)) : List (List Int) := past.drop (past.length - 8)
theorem pastV_last {past : List (List Int)} (h : past.length ≤ 8) (row : List Int) : lastR (past ++ [row]) = pastV past row := by
 unfold lastR pastV
 split
 · rename_i h8
   rw [show (past ++ [row]).length - 8 = 0 by simp; omega, List.drop_zero]
 · rw [show (past ++ [row]).length - 8 = 1 by simp; omega, List.drop_one]
theorem lastR_le {past : List (List Int)} (h : past.length ≤ 8) : lastR past = past := by
 unfold lastR
 rw [show past.length - 8 = 0 by omega, List.drop_zero]
theorem deskOf_in (u p : Value) (row : List Int) (past : List (List Int)) (w : World) (hu : Ints w u row) (h1 : 1 ≤ row.length) (h2 : row.length ≤ 12) (hp : PastI w p past) (hl : past.length ≤ 8) (hr : ∀ j, j < past.length → 1 ≤ (past.getD j []).length ∧ (past.getD j []).length ≤ 12) :
 Calls Tryz.prog 52 #[u, p] w fun e w' => ∃ x, e = .returned x ∧ OwnDk w' w.heap.size x (row, past) ∧ Below w.heap.size w w' := by
 obtain ⟨a, c, rfl, hrows⟩ := hp
 by_cases h8 : past.length = 8
 · obtain ⟨G, o, rfl, hG, hc⟩ := hrows (by omega)
   rw [h8] at hc hr ⊢
   exact deskOf_8 w u row past c G o h8 hG hc hr hu h1 h2
 · by_cases h0 : 0 < past.length
   · obtain ⟨G, o, rfl, hG, hc⟩ := hrows h0
     exact deskOf_lt w u row past _ c past.length G o (fun _ => rfl) rfl (by omega) (fun _ => hG) hc hr hu h1 h2
   · exact deskOf_lt w u row past a c past.length 0 0 (fun h => absurd h h0) rfl (by omega) (fun h => absurd h h0) (fun k hk => absurd hk (by omega)) hr hu h1 h2
theorem deskOf_full (u : Value) (row : List Int) (past : List (List Int)) (G o cp : Nat) (w : World) (hu : Ints w u row) (h1 : 1 ≤ row.length) (h2 : row.length ≤ 12) (hl : past.length = 9) (hcp : 9 ≤ cp) (hG : G < w.heap.size) (hc : ∀ k, k < 9 → ∃ u, w.cell? ⟨G, o + k, none⟩ = some u ∧ Ints w u (past.getD k []))
 (hr : ∀ j, j < past.length → 1 ≤ (past.getD j []).length ∧ (past.getD j []).length ≤ 12) :
 Calls Tryz.prog 52 #[u, .slice (some ⟨G, o, none⟩) 9 cp] w fun e w' => ∃ x, e = .returned x ∧ OwnDk w' w.heap.size x (row, past.tail) ∧ Below w.heap.size w w' := by
 have ht : ∀ k, past.tail.getD k [] = past.getD (k + 1) [] := fun k => by
  rw [List.getD, List.getD, List.getElem?_tail]
 exact deskOf_9 w u row past.tail cp G o (by simp [hl]) hG (fun k hk => by
  obtain ⟨v, e1, e2⟩ := hc (k + 1) (by omega)
  rw [ht k, show o + 1 + k = o + (k + 1) by omega]
  exact ⟨v, e1, e2⟩) (fun j hj => by rw [ht j]; exact hr (j + 1) (by omega)) hcp hu h1 h2
set_option maxRecDepth 100000 in
set_option maxHeartbeats 2000000 in
theorem grow_nil (n : Nat) (h1 : 1 ≤ n) (hn : n ≤ 9) (w : World) : Calls Tryz.prog 142 #[.slice none 0 0, .int .i64 n] w fun e w' =>
 ∃ v, e = .returned v ∧ w'.ownsRow w.heap.size 28 1 v 0 [] ∧ v.ownBlock ≠ none ∧ Below w.heap.size w w' := by
 obtain ⟨i0, hi, hz0, hz1, hz2⟩ := info_rows Tryz.infoRow
 have hold : (Builtin.firstCells i0.size 0 (.slice none 0 0)).run Tryz.prog w.drew = .ok (([] : List Value).toArray) w.drew := run_firstCells_none w.drew i0.size 0 0 0
 have hrz : ∀ ty, (Builtin.append_ #[29, 3] ty #[.slice none 0 0, .int .i64 n]).run Tryz.prog w =
  .ok (.slice (some ⟨w.heap.size, 0, none⟩) n (grownCap w n 0 28)) (w.drew.alloc (.cells (([] : List Value).toArray ++ Builtin.zeroCells (Value.slice none 0 0).cells n ++ Builtin.zeroCells (Value.slice none 0 0).cells (grownCap w n 0 28 - n)) 28)) := fun ty => by
  have h := Lib.run_append_grow_zeros (P := Tryz.prog) w 29 3 ty 28 i0 (.slice none 0 0) .i64 .i64 Tryz.underlying29 Tryz.underlying3 hi hz0 none 0 0 [] hold n (by omega) (by omega) (by omega) (by omega) (by rw [hz2]; omega) (by rw [Nat.zero_add]; exact growslice_fits (by omega) (by rw [hz2]; omega))
  rw [Nat.zero_add] at h
  exact h
 have hge := grownCap_ge w n 0 28
 have hcm := grownCap_le_maxLen w n 0 28 (by unfold maxLen; omega)
 have hown : (w.drew.alloc (.cells (([] : List Value).toArray ++ Builtin.zeroCells (Value.slice none 0 0).cells n ++ Builtin.zeroCells (Value.slice none 0 0).cells (grownCap w n 0 28 - n)) 28)).ownsRow w.heap.size 28 1
  (.slice (some ⟨w.heap.size, 0, none⟩) 0 (grownCap w n 0 28)) 0 [] := by
  refine ⟨rfl, .inr ⟨w.heap.size, _, _, rfl, Nat.le_refl _, aN9 w.drew _, by omega, hcm, ?_, by simp⟩⟩
  simp only [Array.size_append, List.size_toArray, size_zeroCells, List.length_nil, Value.cells]
  simp
  omega
 have hB : Below w.heap.size w (w.drew.alloc (.cells (([] : List Value).toArray ++ Builtin.zeroCells (Value.slice none 0 0).cells n ++ Builtin.zeroCells (Value.slice none 0 0).cells (grownCap w n 0 28 - n)) 28)) :=
  (Below.refl w.heap.size w).drew.alloc (Nat.le_refl _) _
 generalize grownCap w n 0 28 = C at *
 generalize w.drew.alloc _ = W1 at *
 have hn1 : (n : Int) > 0 := by omega
 unfold maxLen at hcm
 go_enter Tryz.func142, Tryz.ntmps142
 go_wp2_with (at_builtin; refine Lib.wpList_append_run _ rfl _ _ _ _ rfl _ _ rfl rfl _ _ (hrz _) ?_)
 all_goals
  go_ret
  exact ⟨_, rfl, hown, by simp [Value.ownBlock], hB⟩
theorem append_rows {ops : Array Oper} {rest : List Oper} {o : Oper} {a : Act} {Q : Exit → Act → World → Prop} {w : World} (hgd : o.guard = none) (s x : Operand)
    (ho : o.op = .call { callee := .builtin .append, args := #[s, x], argTypes := #[29, 29] })
    (base : Nat) (v : Value) (n : Nat) (xs : List Value) (hs : a.eval s = v) (hown : w.ownsRow base 28 1 v n xs) (hnn : v.ownBlock ≠ none) (ad : Option Addr) (m c : Nat) (us : List Value) (hx : a.eval x = .slice ad m c) (hl : us.length = m)
    (hc : 0 < m → ∃ G o, ad = some ⟨G, o, none⟩ ∧ ∀ j, j < m → w.cell? ⟨G, o + j, none⟩ = some (us.getD j undef)) (h1 : ∀ u ∈ us, u.oneCell' = true) (hn : n + m ≤ 1000) (hbase : base ≤ w.heap.size)
    (h : ∀ v' w', w'.ownsRow base 28 1 v' (n + m) (xs ++ us) → v'.ownBlock ≠ none → w.grownBy w' v.ownBlock → wpList Tryz.prog ops Q rest (a.put o.dst v') w') :
    wpList Tryz.prog ops Q (o :: rest) a w := by
  obtain ⟨i0, hi, hz0, hz1, hz2⟩ := info_rows Tryz.infoRow
  by_cases h0 : 0 < m
  · obtain ⟨G, off, rfl, hcell⟩ := hc h0
    refine wpList_append_own _ hgd s x 29 ho base 28 i0 (.slice none 0 0) 1 24 Tryz.underlying29 hi hz0 hz1 hz2 rfl (by decide) v n xs hs hown ⟨G, off, none⟩ m c us hx (by omega) ?_ h1 ?_ ?_ hbase ?_
    · intro j u hj
      have hjl := (List.getElem?_eq_some_iff.1 hj).1
      have hadd : (⟨G, off, none⟩ : Addr).add j = ⟨G, off + j, none⟩ := by unfold Addr.add; split <;> simp_all
      rw [hadd, hcell j (by omega), List.getD, hj]; rfl
    · unfold maxLen; omega
    · omega
    · intro v' w' h2 h3 _
      refine h v' w' h2 ?_ h3
      obtain ⟨b, e, _⟩ := own_pos h2 (by omega)
      rw [e]; exact fun e => by cases e
  · obtain rfl : m = 0 := by omega
    obtain rfl : us = [] := List.length_eq_zero_iff.1 hl
    rcases hown.2 with ⟨rfl, _⟩ | ⟨B, cap, cur, rfl, hB, hg, hc1, hc2, hc3, hc4⟩
    · exact absurd rfl hnn
    · have hfc : (Builtin.firstCells i0.size 0 (.slice ad 0 c)).run Tryz.prog w = .ok (([] : List Value).toArray) w := by
        cases ad with
        | none => exact run_firstCells_none w i0.size 0 0 c
        | some q => exact run_firstCells_some w i0.size 0 q 0 c [] (by simp) (fun j v hj => by simp at hj)
      have hrun : (Builtin.append_ #[29, 29] o.type #[.slice (some ⟨B, 0, none⟩) n cap, .slice ad 0 c]).run Tryz.prog w = .ok (.slice (some ⟨B, 0, none⟩) n cap) w := by
        have hst := run_storeCells_cells (P := Tryz.prog) B (0 + n * i0.size) [] 0 w (fun j hj => absurd hj (Nat.not_lt_zero j)) (fun j hj => absurd hj (Nat.not_lt_zero j)) (by simp)
        simp only [Nat.add_zero] at hst
        simp [Builtin.append_, run_underlying Tryz.underlying29, sizeOf, typeInfo, hi, Builtin.lenOf, hc1, hfc, Addr.add_lit]
        simp at hst
        rw [hst]; rfl
      refine Lib.wpList_append_run _ hgd s x 29 29 ho _ _ hs hx _ _ hrun ?_
      refine h _ _ ?_ hnn ⟨rfl, rfl, rfl, Nat.le_refl _, fun _ _ _ => rfl⟩
      simpa using hown
theorem rows_values {W : World} {a : Option Addr} {n c : Nat} {rows : List (List Int)} (h : PastI W (.slice a n c) rows) : n = rows.length ∧ ∃ us : List Value, us.length = rows.length ∧ (0 < rows.length → ∃ G o, a = some ⟨G, o, none⟩ ∧ G < W.heap.size ∧ ∀ j, j < rows.length → W.cell? ⟨G, o + j, none⟩ = some (us.getD j undef)) ∧ ∀ j, j < rows.length → Ints W (us.getD j undef) (rows.getD j []) := by
 obtain ⟨a', c', e, h⟩ := h
 cases e
 refine ⟨rfl, ?_⟩
 by_cases h0 : 0 < rows.length
 · obtain ⟨G, o, rfl, hG, hr⟩ := h h0
   refine ⟨(List.range rows.length).map fun j => (W.cell? ⟨G, o + j, none⟩).getD undef, by simp, fun _ => ⟨G, o, rfl, hG, fun j hj => ?_⟩, fun j hj => ?_⟩
   · obtain ⟨u, h1, _⟩ := hr j hj
     rw [List.getD, List.getElem?_map, List.getElem?_range hj, Option.map_some, Option.getD_some, h1]; rfl
   · obtain ⟨u, h1, h2⟩ := hr j hj
     rw [List.getD, List.getElem?_map, List.getElem?_range hj]
     show Ints W ((W.cell? ⟨G, o + j, none⟩).getD undef) _
     rw [h1]; exact h2
 · have e : rows = [] := List.length_eq_zero_iff.1 (by omega)
   subst e
   exact ⟨[], rfl, fun h => absurd h h0, fun j hj => absurd hj (Nat.not_lt_zero j)⟩
set_option maxRecDepth 100000 in
set_option maxHeartbeats 2000000 in
theorem concat_in (q : Nat) (a : Option Addr) (n c q2 : Nat) (vr : Value) (rows : List (List Int)) (row : List Int) (w : World) (hq0 : w.cell? ⟨q, 0, none⟩ = some (.slice a n c)) (hq1 : w.cell? ⟨q, 1, none⟩ = some (.slice (some ⟨q2, 0, none⟩) 1 1)) (hq2 : w.cell? ⟨q2, 0, none⟩ = some vr)
 (hr : Ints w vr row) (hp : PastI w (.slice a n c) rows) (hn : rows.length ≤ 8) : Calls Tryz.prog 100 #[.slice (some ⟨q, 0, none⟩) 2 2] w fun e w' =>
 ∃ G cp, e = .returned (.slice (some ⟨G, 0, none⟩) (rows.length + 1) cp) ∧ rows.length + 1 ≤ cp ∧ w.heap.size ≤ G ∧ G < w'.heap.size ∧ (∀ k, k < rows.length + 1 → ∃ u, w'.cell? ⟨G, 0 + k, none⟩ = some u ∧ Ints w' u ((rows ++ [row]).getD k [])) ∧ Below w.heap.size w w' := by
 obtain ⟨rfl, us, hul, huc, hui⟩ := rows_values hp
 have hq0l := World.block_lt_of_cell? w _ hq0
 have hq2l := World.block_lt_of_cell? w _ hq2
 have hlt : ∀ j, j < rows.length → (us.getD j undef).oneCell' = true := fun j hj => by obtain ⟨x, y, e⟩ := (hui j hj).shape; rw [e]; rfl
 have hvr : vr.oneCell' = true := by obtain ⟨x, y, e⟩ := hr.shape; rw [e]; rfl
 have hGr := grow_nil (rows.length + 1) (by omega) (by omega) w
 obtain ⟨n, hne⟩ : ∃ n, rows.length = n := ⟨_, rfl⟩
 rw [hne] at hul huc hui hlt hGr hn hq0 hp ⊢
 have h1 : ∀ u ∈ us, u.oneCell' = true := fun u hu => by
  obtain ⟨j, hj, rfl⟩ := List.getElem_of_mem hu
  have := hlt j (by omega)
  rwa [List.getD, eG9 hj] at this
 have hwr : ((n + 1 : Nat) : Int) = (n : Int) + 1 := by omega
 rw [hwr] at hGr
 have hfin : ∀ (v' : Value) (w' : World), w'.ownsRow w.heap.size 28 1 v' (n + 1) (us ++ [vr]) → Below w.heap.size w w' → ∃ G cp, v' = .slice (some ⟨G, 0, none⟩) (n + 1) cp ∧ n + 1 ≤ cp ∧ w.heap.size ≤ G ∧ G < w'.heap.size ∧ (∀ k, k < n + 1 → ∃ u, w'.cell? ⟨G, 0 + k, none⟩ = some u ∧ Ints w' u ((rows ++ [row]).getD k [])) := fun v' w' ho hB => by
  rcases ho.2 with ⟨_, h0⟩ | ⟨G, cp, cur, rfl, hb, hg, hc1, _⟩
  · omega
  · refine ⟨G, cp, rfl, hc1, hb, (gE9.1 hg).1, fun k hk => ?_⟩
    have h2 := ho.cellAt k (by omega)
    rw [Nat.zero_add]
    by_cases e : k < n
    · rw [List.getElem?_append_left (by omega)] at h2
      refine ⟨us.getD k undef, ?_, ?_⟩
      · rw [List.getD, eG9 (by omega)]
        rw [eG9 (by omega)] at h2
        exact h2
      · rw [List.getD, List.getD, List.getElem?_append_left (by omega)]
        exact (hui k e).below hB
    · have : k = n := by omega
      subst this
      rw [← hul, List.getElem?_append_right (Nat.le_refl _), Nat.sub_self] at h2
      rw [← hul]
      refine ⟨vr, h2, ?_⟩
      rw [List.getD, hul, ← hne, List.getElem?_append_right (Nat.le_refl _), Nat.sub_self]
      exact hr.below hB
 have hfin' := hide hfin
 have hn0 : ¬ ((n : Int) < 0) := by omega
 have hn1 : ¬ ((n : Int) + 1 < 0) := by omega
 clear hfin hui hp hr hlt hne
 go_enter Tryz.func100, Tryz.ntmps100
 go_wp2
 refine wp_loop_rounds 3 ?_
 rw [rounds_succ]
 go_wp2
 rw [rounds_succ]
 go_wp2
 rw [rounds_succ]
 go_wp2_with (go_at_call 142; go_loud (refine hGr.mono ?_); clear hGr; rintro e w2 ⟨v, rfl, hv, hvn, hB2⟩)
 have hB2s := hB2.size
 have c0 := (hB2.cell (p := ⟨q, 0, none⟩) hq0l).trans hq0
 have hcW : 0 < n → ∃ G o, a = some ⟨G, o, none⟩ ∧ ∀ j, j < n → w2.cell? ⟨G, o + j, none⟩ = some (us.getD j undef) := fun h => by
  obtain ⟨G, o, e, hG, hc⟩ := huc h
  exact ⟨G, o, e, fun j hj => (hB2.cell (p := ⟨G, o + j, none⟩) hG).trans (hc j hj)⟩
 clear huc hq0
 refine wp_loop_rounds 3 ?_
 rw [rounds_succ]
 go_wp2_with (at_builtin; go_loud (refine append_rows rfl _ _ rfl w.heap.size _ 0 [] rfl hv hvn a n c us rfl hul hcW h1 (by omega) hB2s ?_); intro v3 w3 hv3 hv3n hg3)
 rw [Nat.zero_add, List.nil_append] at hv3
 have hB3 : Below w.heap.size w w3 := hB2.grown hg3 hB2s (fun k e => (hv.lt k e).1)
 have hB3s := hB3.size
 have c1 := (hB3.cell (p := ⟨q, 1, none⟩) hq0l).trans hq1
 have c2 := (hB3.cell (p := ⟨q2, 0, none⟩) hq2l).trans hq2
 have c3 : 0 < 1 → ∃ G o, (some ⟨q2, 0, none⟩ : Option Addr) = some ⟨G, o, none⟩ ∧ ∀ j, j < 1 → w3.cell? ⟨G, o + j, none⟩ = some (([vr] : List Value).getD j undef) := fun _ => ⟨q2, 0, rfl, fun j hj => by
  obtain rfl : j = 0 := by omega
  exact c2⟩
 have h1' : ∀ u ∈ ([vr] : List Value), u.oneCell' = true := fun u hu => by simp at hu; subst hu; exact hvr
 clear hcW h1 c0 hq1 hq2 hg3 hB2 hv hvn
 rw [rounds_succ]
 go_wp2_with (at_builtin; go_loud (refine append_rows rfl _ _ rfl w.heap.size _ n us rfl hv3 hv3n (some ⟨q2, 0, none⟩) 1 1 [vr] rfl rfl c3 h1' (by omega) hB3s ?_); intro v4 w4 hv4 hv4n hg4)
 have hB4 : Below w.heap.size w w4 := hB3.grown hg4 hB3s (fun k e => (hv3.lt k e).1)
 obtain ⟨G, cp, rfl, h5, h6, h7, h8⟩ := hfin'.out v4 w4 hv4 hB4
 clear hfin' hv4 hg4 c3 h1' hv3
 rw [rounds_succ]
 go_wp2
 go_ret
 exact ⟨G, cp, rfl, h5, h6, h7, h8, hB4⟩
set_option maxHeartbeats 1000000 in
theorem equal_in (v u : Value) (xs ys : List Int) (w : World) (hv : Ints w v xs) (hu : Ints w u ys) (hl : xs.length ≤ 1000000000) : Calls Tryz.prog 99 #[v, u] w fun e w' => e = .returned (.bool (decide (xs = ys))) ∧ Below w.heap.size w w' := by
 by_cases hll : xs.length = ys.length
 · by_cases h0 : xs.length = 0
   · have hr := hide (same_all hll (fun k hk => by omega))
     obtain ⟨a, c, rfl⟩ := hv.shape
     obtain ⟨a2, c2, rfl⟩ := hu.shape
     rw [← hll, h0]
     clear hv hu
     go_enter Tryz.func99, Tryz.ntmps99
     go_wp2
     refine wp_loop_rounds 1 ?_
     rw [rounds_succ]
     go_wp2
     go_ret
     exact ⟨ret_bool hr.out.symm, Below.refl _ _⟩
   · obtain ⟨g, c, rfl, hg, hc⟩ := hv.cells (by omega)
     obtain ⟨g2, c2, rfl, hg2, hc2⟩ := hu.cells (by omega)
     have hno := fun k => same_not (xs := xs) (ys := ys) (k := k)
     have hall := same_all hll
     rw [← hll] at hc2 ⊢
     generalize decide (xs = ys) = res at *
     generalize xs.length = n at *
     clear hv hu hll
     go_enter Tryz.func99, Tryz.ntmps99
     go_wp2
     go_loopw [13] (fun i wr => ∃ k : Nat, k ≤ n ∧ i = .int .i64 k ∧ Below w.heap.size w wr ∧ Hid (∀ i, i < k → xs.getD i 0 = ys.getD i 0)) (fun i _ => n - (intOf i).toNat)
     case atStart => exact ⟨0, by omega, rfl, Below.refl _ _, hide (fun i hi => by omega)⟩
     case round =>
      obtain ⟨k, hk, rfl, hB, hkk⟩ := hrel
      by_cases hlt : k < n
      · have hki : (k : Int) < (n : Int) := by omega
        have c1 := (hB.cell (p := ⟨g, k, none⟩) hg).trans (hc k hlt)
        have c3 := (hB.cell (p := ⟨g2, k, none⟩) hg2).trans (hc2 k hlt)
        by_cases he : xs.getD k 0 = ys.getD k 0
        · have hkk' : Hid (∀ i, i < k + 1 → xs.getD i 0 = ys.getD i 0) := hide (fun i hi => by
         by_cases e : i = k
         · subst e; exact he
         · exact hkk.out i (by omega))
          rw [← he] at c3
          clear hc hc2 hno hall hkk he
          generalize xs.getD k 0 = z at *
          go_wp2
          go_quiet (fail)
          go_wp2
          go_roundw
          case rel => exact ⟨k + 1, by omega, by go_num, ⟨hB.os, hB.tape, hB.output, hB.size, hB.block⟩, hkk'⟩
          case measure => simp [intOf]; omega
        · have hr := hide (hno k he)
          generalize xs.getD k 0 = z at *
          generalize ys.getD k 0 = y at *
          clear hc hc2 hno hall hkk
          go_wp2
          go_quiet (fail)
          go_wp2
          go_ret
          exact ⟨ret_bool hr.out.symm, ⟨hB.os, hB.tape, hB.output, hB.size, hB.block⟩⟩
      · obtain rfl : k = n := by omega
        have hr := hide (hall hkk.out)
        have hki : ¬ ((k : Nat) : Int) < (k : Int) := by omega
        clear hc hc2 hno hall hkk
        go_wp2
        go_ret
        exact ⟨ret_bool hr.out.symm, hB⟩
 · have hr : Hid (decide (xs = ys) = false) := hide (decide_eq_false fun e => hll (by rw [e]))
   obtain ⟨a, c, rfl⟩ := hv.shape
   obtain ⟨a2, c2, rfl⟩ := hu.shape
   generalize decide (xs = ys) = res at *
   have hb : ¬ ((xs.length : Int) = (ys.length : Int)) := by omega
   generalize xs.length = n at *
   generalize ys.length = m at *
   clear hv hu
   go_enter Tryz.func99, Tryz.ntmps99
   go_wp2
   go_ret
   exact ⟨ret_bool hr.out.symm, Below.refl _ _⟩
set_option maxHeartbeats 2000000 in
theorem implDeskOk (v : Value) (d : Dk) (w : World) (hv : DeskI w v d) (hs : DkS d) : Calls Tryz.prog 23 #[v] w fun e w' => e = .returned (.bool (deskB d)) ∧ Below w.heap.size w w' := by
 obtain ⟨x, p, rfl, hx, hp⟩ := hv
 have hB0 : Below w.heap.size w (w.alloc (.cells #[x, p] 31)) := (Below.refl _ w).alloc (Nat.le_refl _) _
 have hx0 := implSide x d.1 _ (hx.below hB0) (by have := hs.1; omega)
 have hp0 := hp.below hB0
 obtain ⟨d0, d1⟩ := desk_box (w := w) (x := x) (p := p) (t := 31)
 obtain ⟨a, c, rfl, hr⟩ := hp0
 have hno := fun k (hk : k < d.2.length) => deskB_no hk
 have hend := deskB_end (d := d)
 have hsm := hs.2.2
 have hn := hs.2.1
 obtain ⟨W0, hW0⟩ : ∃ W0, w.alloc (.cells #[x, .slice a d.2.length c] 31) = W0 := ⟨_, rfl⟩
 rw [hW0] at hB0 hx0 hr d0 d1
 have hbl : w.heap.size < W0.heap.size := by rw [← hW0]; simp
 have hrow : sideB d.1 = false → deskB d = false := fun h => by
  cases hd : deskB d with
  | false => rfl
  | true => have := (deskB_is.1 hd).2.1; rw [h] at this; cases this
 have hlong : ¬ d.2.length ≤ 8 → deskB d = false := fun h => by
  cases hd : deskB d with
  | false => rfl
  | true => exact absurd (deskB_is.1 hd).2.2 h
 generalize d.2.length = n at *
 generalize deskB d = res at *
 obtain ⟨row, past⟩ := d
 simp only at hr hno hend hsm hx0 hrow
 clear hx hp hs
 cases hsd : sideB row with
 | false =>
   rw [hsd] at hx0
   have hq := hide (hrow hsd)
   clear hno hend hr hrow hsm hlong
   go_enter Tryz.func23, Tryz.ntmps23
   go_wp2_with (go_at_call 74; refine hx0.mono ?_; clear hx0; rintro e w2 ⟨rfl, hB2⟩)
   go_ret
   exact ⟨ret_bool hq.out.symm, hB0.trans (hB2.mono hB0.size)⟩
 | true =>
   rw [hsd] at hx0
   by_cases h8 : n ≤ 8
   · have h8' : ¬ (n : Int) > 8 := by omega
     clear hlong hrow
     go_enter Tryz.func23, Tryz.ntmps23
     go_wp2_with (go_at_call 74; refine hx0.mono ?_; clear hx0; go_loud (rintro e w2 ⟨rfl, hB2⟩; have d1' := (hB2.cell (p := ⟨w.heap.size, 1, none⟩) hbl).trans d1))
     have hB3 : Below w.heap.size w w2 := hB0.trans (hB2.mono hB0.size)
     clear d0 d1 d1'
     go_loopw [18] (fun i wr => ∃ k : Nat, k ≤ n ∧ i = .int .i64 k ∧ Below w2.heap.size w2 wr ∧ Hid (∀ j, j < k → sideB (past.getD j []) = true)) (fun i _ => n - (intOf i).toNat)
     case atStart => exact ⟨0, by omega, rfl, Below.refl _ _, hide (fun i hi => by omega)⟩
     case round =>
      obtain ⟨k, hk, rfl, hBr, hall⟩ := hrel
      by_cases hlt : k < n
      · obtain ⟨G, o, rfl, hG, hc⟩ := hr (by omega)
        obtain ⟨u, huc, hu⟩ := hc k hlt
        have hki : (k : Int) < (n : Int) := by omega
        have huc' := (hBr.cell (p := ⟨G, o + k, none⟩) (lL9 hG hB2.size)).trans ((hB2.cell (p := ⟨G, o + k, none⟩) hG).trans huc)
        have hS := implSide u (past.getD k []) wr ((hu.below hB2).below hBr) (by have := hsm k; omega)
        obtain ⟨ua, uc, rfl⟩ := hu.shape
        cases hsd2 : sideB (past.getD k []) with
        | false =>
          have hq := hide (hno k hlt hsd2)
          rw [hsd2] at hS
          clear hc hno hend hall hsd2 hr hu huc hsm
          go_wp2_with (go_at_call 74; refine hS.mono ?_; clear hS; rintro e w3 ⟨rfl, hB4⟩)
          go_ret
          exact ⟨ret_bool hq.out.symm, (hB3.trans (hBr.mono hB3.size)).trans (hB4.mono (lT9 hB3.size hBr.size))⟩
        | true =>
          have hall' : Hid (∀ i, i < k + 1 → sideB (past.getD i []) = true) := hide (fun i hi => by
           by_cases e : i = k
           · subst e; exact hsd2
           · exact hall.out i (by omega))
          rw [hsd2] at hS
          clear hc hno hend hall hsd2 hu huc hsm
          go_wp2_with (go_at_call 74; refine hS.mono ?_; clear hS; rintro e w3 ⟨rfl, hB4⟩)
          go_roundw
          case rel => exact ⟨k + 1, by omega, by go_num, hBr.trans (hB4.mono hBr.size), hall'⟩
          case measure => simp [intOf]; omega
      · obtain rfl : k = n := by omega
        have hq := hide (hend hall.out)
        have hki : ¬ ((k : Nat) : Int) < (k : Int) := by omega
        clear hr hno hend hall hlt hsm
        go_wp2
        go_ret
        refine ⟨ret_bool ?_, hB3.trans (hBr.mono hB3.size)⟩
        rw [hq.out, hsd, decide_eq_true h8]; rfl
   · have h8' : (n : Int) > 8 := by omega
     have hq := hide (hlong h8)
     clear hno hend hr hrow hsm hlong
     go_enter Tryz.func23, Tryz.ntmps23
     go_wp2_with (go_at_call 74; refine hx0.mono ?_; clear hx0; go_loud (rintro e w2 ⟨rfl, hB2⟩; have d1' := (hB2.cell (p := ⟨w.heap.size, 1, none⟩) hbl).trans d1))
     go_ret
     exact ⟨ret_bool hq.out.symm, hB0.trans (hB2.mono hB0.size)⟩
theorem OwnRows.old {W W' : World} {base b : Nat} {v : Value} {rows : List (List Int)} (h : OwnRows W base v rows) (hb : b < base) (hg : W.grownBy W' (some b)) : OwnRows W' base v rows := by
 obtain ⟨us, l, o, r, ne⟩ := h
 exact ⟨us, l, own_kept o hg (own_old o hb), fun j hj => own_kept (r j hj) hg (own_old (r j hj) hb), ne⟩
theorem OwnDk.form {W : World} {base : Nat} {v : Value} {d : Dk} (h : OwnDk W base v d) : ∃ a b c e, v = .agg #[.slice a d.1.length b, .slice c d.2.length e] := by
 obtain ⟨mid, x, p, rfl, h1, h2, h3, h4⟩ := h
 obtain ⟨c, e, rfl⟩ := h4.form
 rcases h3 with ⟨h0, a, b, rfl⟩ | ⟨g, cap, rfl, _⟩
 · exact ⟨a, b, c, e, by rw [h0]⟩
 · exact ⟨_, _, _, _, rfl⟩
theorem OwnDk.old {W W' : World} {base b : Nat} {v : Value} {d : Dk} (h : OwnDk W base v d) (hb : b < base) (hg : W.grownBy W' (some b)) : OwnDk W' base v d := by
 obtain ⟨mid, x, p, rfl, h1, h2, h3, h4⟩ := h
 exact ⟨mid, x, p, rfl, h1, lT9 h2 hg.size, h3.grown hg (fun k e => by injection e with e; omega), h4.old (by omega) hg⟩
theorem OwnDk.down {W : World} {base base' : Nat} {v : Value} {d : Dk} (h : OwnDk W base v d) (hb : base' ≤ base) : OwnDk W base' v d := by
 obtain ⟨mid, x, p, rfl, h1, h2, h3, h4⟩ := h
 refine ⟨mid, x, p, rfl, by omega, h2, ?_, h4⟩
 rcases h3 with h3 | ⟨g, c, e, h5, h6⟩
 · exact .inl h3
 · exact .inr ⟨g, c, e, by omega, h6⟩
theorem OwnDk.below {W W' : World} {base : Nat} {v : Value} {d : Dk} (h : OwnDk W base v d) (hB : Below W.heap.size W W') : OwnDk W' base v d := by
 obtain ⟨mid, x, p, rfl, h1, h2, h3, h4⟩ := h
 exact ⟨mid, x, p, rfl, h1, lT9 h2 hB.size, h3.below hB, h4.below hB⟩
theorem OwnDk.result {W : World} {base base' b : Nat} {x p : Value} {d : Dk} (h : OwnDk W base (.agg #[x, p]) d) (hb : b < base) (hb' : base' ≤ base) : OwnDk ((W.setCell ⟨b, 0, .none⟩ x).setCell ⟨b, 1, .none⟩ p) base' (.agg #[x, p]) d :=
 ((h.old hb (grownBy_setAt W b 0 x)).old hb (grownBy_setAt _ b 1 p)).down hb'
end
section
open Go.RowKit Go.Shelf
attribute [local go_sem] Oper.semAt_some
theorem deskOf_last (u : Value) (row : List Int) (past : List (List Int)) (G cp : Nat) (w : World) (hu : Ints w u row) (h1 : 1 ≤ row.length) (h2 : row.length ≤ 12) (hl : past.length ≤ 9) (hcp : past.length ≤ cp) (hG : G < w.heap.size) (hc : ∀ k, k < past.length → ∃ u, w.cell? ⟨G, 0 + k, none⟩ = some u ∧ Ints w u (past.getD k []))
 (hr : ∀ j, j < past.length → 1 ≤ (past.getD j []).length ∧ (past.getD j []).length ≤ 12) :
 Calls Tryz.prog 52 #[u, .slice (some ⟨G, 0, none⟩) past.length cp] w fun e w' => ∃ x, e = .returned x ∧ OwnDk w' w.heap.size x (row, lastR past) ∧ Below w.heap.size w w' := by
 by_cases h9 : past.length = 9
 · have h := deskOf_full u row past G 0 cp w hu h1 h2 h9 (by omega) hG (fun k hk => hc k (by omega)) hr
   have ht : past.tail = lastR past := by unfold lastR; rw [h9, show 9 - 8 = 1 from rfl, List.drop_one]
   rw [h9, ← ht]
   exact h
 · rw [lastR_le (by omega)]
   exact deskOf_in u _ row past w hu h1 h2 ⟨_, cp, rfl, fun _ => ⟨G, 0, rfl, hG, hc⟩⟩ (by omega) hr
theorem build_two (W : World) (x p : Value) : ((W.alloc (.cells #[x] 28)).alloc (.cells #[p, .slice (some ⟨W.heap.size, 0, none⟩) 1 1] 29)).cell? ⟨W.heap.size + 1, 0, none⟩ = some p ∧
 ((W.alloc (.cells #[x] 28)).alloc (.cells #[p, .slice (some ⟨W.heap.size, 0, none⟩) 1 1] 29)).cell? ⟨W.heap.size + 1, 1, none⟩ = some (.slice (some ⟨W.heap.size, 0, none⟩) 1 1) ∧
 ((W.alloc (.cells #[x] 28)).alloc (.cells #[p, .slice (some ⟨W.heap.size, 0, none⟩) 1 1] 29)).cell? ⟨W.heap.size, 0, none⟩ = some x := by
 have h1 := aN9 (W.alloc (.cells #[x] 28)) (.cells #[p, .slice (some ⟨W.heap.size, 0, none⟩) 1 1] 29)
 rw [World.size_alloc] at h1
 have h2 : ((W.alloc (.cells #[x] 28)).alloc (.cells #[p, .slice (some ⟨W.heap.size, 0, none⟩) 1 1] 29)).heap[W.heap.size]? = some (.cells #[x] 28 (0, 0)) := (Below.heap_alloc _ _ _ (by rw [World.size_alloc]; omega)).trans (aN9 W _)
 exact ⟨by unfold World.cell?; rw [h1]; rfl, by unfold World.cell?; rw [h1]; rfl, by unfold World.cell?; rw [h2]; rfl⟩
structure Dx (w : World) (x p : Value) (d : Dk) (k n : Int) : Prop where
 now : Ints w x d.1
 past : PastI w p d.2
 desk : deskB d = true
 after : ∀ V, Do1 w x p k n V → Calls Tryz.prog 98 #[x, dV k n] V fun e w' => ∃ r, e = .returned r ∧ Ints w' r (madeV d.1 k n) ∧ Below V.heap.size V w'
 keep : ∀ V, Do1 w x p k n V → Calls Tryz.prog 52 #[x, p] V fun e w' => ∃ y, e = .returned y ∧ OwnDk w' V.heap.size y d ∧ Below V.heap.size V w'
theorem Dx.new {w : World} {x p : Value} {d : Dk} (k n : Int) (hx : Ints w x d.1) (hp : PastI w p d.2) (hb : deskB d = true) : Dx w x p d k n := by
 obtain ⟨h1, h2, h3⟩ := deskB_is.1 hb
 have hl := sideB_len h2
 refine ⟨hx, hp, hb, fun V hV => rowAfter_in x d.1 k n V (hx.below hV.below) h2, fun V hV => ?_⟩
 exact deskOf_in x p d.1 d.2 V (hx.below hV.below) hl.1 hl.2 (hp.below hV.below) h3 (fun j hj => sideB_len (h1 _ (by rw [List.getD, eG9 hj]; exact List.getElem_mem hj)))
theorem Do1.result {w : World} {x p y1 y2 : Value} {k n : Int} {d : Dk} {V W : World} (hD : Do1 w x p k n V) (h : OwnDk W V.heap.size (.agg #[y1, y2]) d) (hB : Below V.heap.size V W) :
 W.heap[w.heap.size + 2]? = some (.cells #[.slice .none 0 0, .slice .none 0 0] 31 (0, 0)) ∧ OwnDk ((W.setCell ⟨w.heap.size + 2, 0, .none⟩ y1).setCell ⟨w.heap.size + 2, 1, .none⟩ y2) w.heap.size (.agg #[y1, y2]) d ∧ Below w.heap.size w ((W.setCell ⟨w.heap.size + 2, 0, .none⟩ y1).setCell ⟨w.heap.size + 2, 1, .none⟩ y2) := by
 have hs := hD.size
 refine ⟨(hB.block _ (by omega)).trans hD.res, h.result (by omega) (by omega), ?_⟩
 exact ((hD.below.trans (hB.mono hD.below.size)).setCell (p := ⟨w.heap.size + 2, 0, .none⟩) (by show w.heap.size ≤ w.heap.size + 2; omega) _).setCell (p := ⟨w.heap.size + 2, 1, .none⟩) (by show w.heap.size ≤ w.heap.size + 2; omega) _
set_option maxRecDepth 100000 in
set_option maxHeartbeats 2000000 in
theorem implDo_no (v : Value) (d : Dk) (k n : Int) (w : World) (hv : DeskI w v d) (hs : DkS d) (hb : deskB d = false) : Calls Tryz.prog 54 #[v, dV k n] w fun e w' =>
 ∃ x, e = .returned (.tuple #[x, .bool (doV d k n).2]) ∧ OwnDk w' w.heap.size x (doV d k n).1 ∧ Below w.heap.size w w' := by
 obtain ⟨x, p, rfl, hx, hp⟩ := hv
 have hD := Do1.new w x p k n
 obtain ⟨W1, hW1⟩ : ∃ W1, ((w.alloc (.cells #[x, p] 31)).alloc (.cells #[.int .i64 k, .int .i64 n] 39)).alloc (.cells #[.slice none 0 0, .slice none 0 0] 31) = W1 := ⟨_, rfl⟩
 rw [hW1] at hD
 have hOK := implDeskOk (.agg #[x, p]) d W1 ⟨x, p, rfl, hx.below hD.below, hp.below hD.below⟩ hs
 rw [hb] at hOK
 rw [doV_no hb]
 obtain ⟨a0, a1, _, _⟩ := row_at hD.desk
 unfold dV
 clear hx hp hs hb
 go_enter Tryz.func54, Tryz.ntmps54
 go_wp2_with (go_at_call 23; go_loud (refine hOK.mono ?_; clear hOK; rintro e W2 ⟨rfl, hB2⟩; have hD2 := hD.more hB2; obtain ⟨r0, r1, g0, g1⟩ := row_at hD2.res))
 have hs2 := hD2.size
 obtain ⟨h1, h2, h3⟩ := hD2.result (OwnDk.none W2 W2.heap.size (Nat.le_refl _)) (Below.refl _ _)
 exact bodyPost_ret (results_desk2 rfl _ _ (w.heap.size + 2) _ _ rfl (desk_set h1 _ _)) rfl ⟨_, rfl, h2, h3⟩
end
end Go.Proofs.YtiaaefapbcjgmaaGreatDoor
