/-
  Parts of the proofs, laid together: BaseZ, Draw12a, Draw12b, Draw12c, Draw12e, Draw12g, Draw12h, Draw12i, Draw9, DrawBig3, DrawL12, DrawM12, L12Y, LawKit14, Laws12u, MadeRd, MathZ, NumF12, R12Z, Reader2, RegRd, S12Z, Sels, SpecZ.
-/
import Derived.WalkKit
import Derived.Laws.Concat
import Derived.Laws.Strings2
import Derived.OrdersIn
import Derived.TacticsIn
import Derived.Test.YtiaaefapbcjgmaaGreatDoorProg
import Derived.OwnWalkIn
import Derived.Deep.RegionLaw
import Derived.RangeFuncBox
import Derived.Laws.DeepStrings4
import Derived.Laws.Cover1
import Derived.Maps.AppendAt
import Derived.WalkSpells
import Derived.RangeFuncNested
import Derived.RangeFuncBound
import Derived.RangeFuncCalls
import Derived.RangeFuncLeaves
import Derived.BigRegion
import Derived.Shelf.Abstract
import Derived.Shelf.RegionOpen
import Derived.TacticsInMore
import Derived.LoopNIn
import Derived.LoopIn
import Derived.Deep.QuietTactic
import Derived.BigQuiet
import Derived.Below
import Derived.Laws.BytesString
import Derived.Deep.RegionWith
import Derived.DeepKeys5
import Derived.Maps.Keyed
import Derived.Deep.DeepCutAuto
import Derived.Laws.AppendOwnNone
import Derived.Laws.CopyOwn
import Derived.StillTailTactics
import Derived.Maps.OwnSet
import Derived.Laws.Bits64
import Derived.Laws.Bits64b
import Derived.Lib.AppendZeros
import Derived.Lib.AppendZerosOnto
import Derived.ControlIn
import Derived.Lib.AtoiAll
import Derived.Lib.AtoiAllCases
import Derived.Lib.ItoaNum
import Derived.Lib.ItoaMem
import Derived.Lib.SplitLaws
import Derived.Lib.AppendIntMem
import Derived.WideLaws
import Derived.Lib.SlicesS
import Derived.BigCall
import Derived.Maps.Own
import Derived.Maps.OwnOps
import Derived.StringKeys
import Derived.Shelf.Strings.BuilderK
import Derived.Lib.FrozenHead
import Derived.Tactics
import Derived.Tactics2
import Derived.Defers
import Derived.Laws.Pointers
import Derived.Laws.LoneSync
import Derived.RegionTactic
import Derived.RegionCalls
import Derived.ChangeAlike
import Derived.Laws.EntriesVeiled
import Derived.Test.YtiaaefapbcjgmaaGreatDoorLay12
import Derived.Test.YtiaaefapbcjgmaaGreatDoorLay6
import Derived.Test.YtiaaefapbcjgmaaGreatDoorPa0
import Derived.Test.YtiaaefapbcjgmaaGreatDoorPa1
import Derived.Test.YtiaaefapbcjgmaaGreatDoorPa2
import Derived.Test.YtiaaefapbcjgmaaGreatDoorPa3
import Derived.Test.YtiaaefapbcjgmaaGreatDoorPa4
namespace Go.Proofs.YtiaaefapbcjgmaaGreatDoor

theorem deed_len (k n : Int) : (deedT k n).length ≤ 8 := by
  by_cases h : deedT k n = []
  · rw [h]; simp
  · exact (deed_ok (deedT_is h)).2.2.1

def newV (xs : List Int) : Dk := if sideB xs = true then (xs, []) else ([], [])

theorem do_not {d : Dk} (h : deskB d = true) {k n : Int} (hd : (doV d k n).2 = false) : (doV d k n).1 = d := by
  unfold doV at hd ⊢
  rw [if_pos h] at hd ⊢
  split at hd
  · cases hd
  · rename_i h1
    rw [if_neg h1]
    split at hd
    · rename_i h2
      rw [if_pos h2]
    · cases hd

theorem line_same {d : Dk} (h : deskB d = true) (s : List Nat) : (lineV d s).2 = [111, 107] ∨ (lineV d s).1 = d := by
  cases hr : readD s with
  | none => rw [lineV_ask h hr]; exact .inr rfl
  | some a =>
    rw [lineV_deed h hr]
    cases hd : (doV d a.1 a.2).2 with
    | true => exact .inl rfl
    | false => exact .inr (do_not h hd)

theorem line_empty {d : Dk} (h : deskB d = true) : lineV d [] = (d, whatT) := by
  rw [lineV_ask h (by decide +kernel)]
  rfl
end Go.Proofs.YtiaaefapbcjgmaaGreatDoor
namespace Go.Proofs.YtiaaefapbcjgmaaGreatDoor
open Go.RowKit

theorem alive_in (w : World) : Calls Tryz.prog 19 #[] w fun e w' => e = .returned (.bool true) ∧ Below w.heap.size w w' := by
  have h1 := hide (show cellV 4 2 = 6 by decide)
  have h2 := hide (show cellV (-1) 0 = -1 by decide)
  go_enter Tryz.func19, Tryz.ntmps19
  go_wp2_with (first | (go_at_call 63; (with_reducible refine (implCell 4 2 _).mono ?_); rw [h1.out]; rintro e w1 ⟨rfl, hB1⟩) | (go_at_call 63; (with_reducible refine (implCell (-1) 0 _).mono ?_); rw [h2.out]; rintro e w2 ⟨rfl, hB2⟩))
  go_ret
  exact ⟨rfl, hB1.trans (hB2.mono hB1.size)⟩

set_option maxHeartbeats 400000 in
theorem sameInts_in (v u : Value) (xs : List Int) (w : World) (hn : xs.length ≤ 1000000000) (hv : Ints w v xs) (hu : Ints w u xs) :
    Calls Tryz.prog 28 #[v, u] w fun e w' => e = .returned (.bool true) ∧ Below w.heap.size w w' := by
  rcases hv with ⟨a, c, rfl, rfl⟩ | ⟨g, cap, rfl, hg, hc⟩
  · have hu' : ∃ a' c', u = .slice a' 0 c' := by
      rcases hu with ⟨a', c', rfl, _⟩ | ⟨g, cap, rfl, _⟩
      · exact ⟨_, _, rfl⟩
      · exact ⟨_, _, rfl⟩
    obtain ⟨a', c', rfl⟩ := hu'
    clear hu
    go_enter Tryz.func28, Tryz.ntmps28
    go_wp2
    refine wp_loop_rounds 1 ?_
    rw [rounds_succ]
    go_wp2
    go_ret
    exact ⟨rfl, Below.refl _ _⟩
  · have hu' : ∃ a' c', u = .slice a' xs.length c' := by
      rcases hu with ⟨a', c', rfl, h⟩ | ⟨g, cap, rfl, _⟩
      · exact ⟨_, _, by rw [h]; rfl⟩
      · exact ⟨_, _, rfl⟩
    obtain ⟨a', c', rfl⟩ := hu'
    go_enter Tryz.func28, Tryz.ntmps28
    go_wp2
    go_loopw [5] (fun i wr => ∃ k : Nat, k ≤ xs.length ∧ i = .int .i64 k ∧ Below w.heap.size w wr) (fun i _ => xs.length - (intOf i).toNat)
    case atStart => exact ⟨0, Nat.zero_le _, rfl, Below.refl _ _⟩
    case round =>
      obtain ⟨k, hk, rfl, hB⟩ := hrel
      by_cases hlt : k < xs.length
      · have h1 : wr.cell? ⟨g, k, none⟩ = some (.int .i64 (xs.getD k 0)) := (hB.cell (by exact hg)).trans (hc k hlt)
        rcases hu with ⟨_, _, _, h⟩ | ⟨g2, cap2, h, hg2, hc2⟩
        · subst h; exact absurd hlt (by simp)
        · cases h
          have h2 : wr.cell? ⟨g2, k, none⟩ = some (.int .i64 (xs.getD k 0)) := (hB.cell (by exact hg2)).trans (hc2 k hlt)
          clear hc hc2
          obtain ⟨z, hz⟩ : ∃ z, z = xs.getD k 0 := ⟨_, rfl⟩
          rw [← hz] at h1 h2
          clear hz
          go_wp2
          go_region
          all_goals
            go_wp2
            go_roundw
            case rel => exact ⟨k + 1, by omega, by go_num, hB.drew⟩
            case measure => simp [intOf]; omega
      · obtain rfl : k = xs.length := by omega
        go_wp2
        go_ret
        exact ⟨rfl, hB⟩
end Go.Proofs.YtiaaefapbcjgmaaGreatDoor
namespace Go.Proofs.YtiaaefapbcjgmaaGreatDoor
open Go.RowKit

theorem xor_i64 (a b : Nat) (ha : a < 4294967296) (hb : b < 4294967296) : bits .xor .i64 (a : Int) (b : Int) = ((a ^^^ b : Nat) : Int) := by
  have hx : a ^^^ b < 2 ^ 32 := Nat.xor_lt_two_pow (by omega) (by omega)
  have h1 : (BitVec.ofInt 64 (a : Int)).toNat = a := by
    rw [BitVec.ofInt_natCast, BitVec.toNat_ofNat]; exact Nat.mod_eq_of_lt (by omega)
  have h2 : (BitVec.ofInt 64 (b : Int)).toNat = b := by
    rw [BitVec.ofInt_natCast, BitVec.toNat_ofNat]; exact Nat.mod_eq_of_lt (by omega)
  show IntKind.i64.wrap ((BitVec.ofInt 64 (a : Int) ^^^ BitVec.ofInt 64 (b : Int)).toNat : Int) = _
  rw [BitVec.toNat_xor, h1, h2]
  exact IntWalk.i64_in _ (by omega)

theorem xor_nonneg (T : Int) (h0 : 0 ≤ T) (h1 : T ≤ 2000000000) : 0 ≤ bits .xor .i64 T (T / 64) := by
  obtain ⟨t, rfl⟩ : ∃ t : Nat, T = t := ⟨T.toNat, by omega⟩
  rw [show (t : Int) / 64 = ((t / 64 : Nat) : Int) by omega, xor_i64 _ _ (by omega) (by omega)]
  omega

/-- All blocks but R lie as they lay, and none is new. -/
def Only (R : Nat) (w w' : World) : Prop := ∀ k, k ≠ R → w'.heap[k]? = w.heap[k]?

theorem only_set (w : World) (R : Nat) (v : Value) : Only R w (w.setCell ⟨R, 1, none⟩ v) := fun k hk => Below.heap_setCell _ _ _ k hk

/-- What pick leaves. -/
def Picked (W0 : World) (R : Nat) (a : Option Addr) (len cap p : Nat) (n : Int) (w : World) (e : Ending) (w' : World) : Prop :=
  ∃ x : Int, e = .returned (.int .i64 x) ∧ 0 ≤ x ∧ (n < 1 → x = 0) ∧ (1 ≤ n → x < n) ∧ Rd W0 R a len cap w' (p + 1) ∧ w.grownBy w' (some R) ∧ Only R w w'

set_option maxHeartbeats 400000 in
theorem pick_in (W0 : World) (R len cap p : Nat) (a : Option Addr) (n : Int) (w : World) (hb : Bytes W0 a len) (h : Rd W0 R a len cap w p) (hp : p ≤ 1000000) :
    Calls Tryz.prog 42 #[.pointer (some ⟨R, 0, none⟩), .int .i64 n] w (Picked W0 R a len cap p n w) := by
  have hc0 := h.cell0
  have hc1 := h.cell1
  have hf1 := h.frozen 1
  have hset := h.set (p + 1)
  have hd0 : (w.setCell ⟨R, 1, none⟩ (.int .i64 ((p : Int) + 1))).cell? ⟨R, 0, none⟩ = some (.slice a len cap) := hset.cell0
  have hd1 : (w.setCell ⟨R, 1, none⟩ (.int .i64 ((p : Int) + 1))).cell? ⟨R, 1, none⟩ = some (.int .i64 ((p : Int) + 1)) := hset.cell1
  have hgr : w.grownBy (w.setCell ⟨R, 1, none⟩ (.int .i64 ((p : Int) + 1))) (some R) := grownBy_set (grownBy_refl _ _) _ _
  by_cases hn1 : n < 1
  · go_enter Tryz.func42, Tryz.ntmps42
    go_wp2
    go_ret
    exact ⟨0, rfl, by omega, fun _ => rfl, fun h => by omega, hset, hgr, only_set _ _ _⟩
  · by_cases hl : len = 0
    · subst hl
      go_enter Tryz.func42, Tryz.ntmps42
      go_wp2
      go_ret
      exact ⟨0, rfl, by omega, fun _ => rfl, fun h => by omega, hset, hgr, only_set _ _ _⟩
    · obtain ⟨hlen, hbb⟩ := hb
      obtain ⟨b, off, rfl, hbW, z, hz, hcells⟩ := hbb (by omega)
      have hl1 : ((len : Int) == 0) = false := by simp; omega
      by_cases hpl : p < len
      · have hcp : (w.setCell ⟨R, 1, none⟩ (.int .i64 ((p : Int) + 1))).cell? ⟨b, off + p, none⟩ = some (.int .u8 (z p)) := (hset.1.cell (by exact hbW)).trans (hcells p hpl)
        have hzp := hz p
        generalize z p = zp at hcp hzp
        clear hcells hz hbb
        go_enter Tryz.func42, Tryz.ntmps42
        go_wp2
        go_ret
        exact ⟨zp % n, rfl, Int.emod_nonneg _ (by omega), fun h => by omega, fun _ => Int.emod_lt_of_pos _ (by omega), hset, hgr, only_set _ _ _⟩
      · obtain ⟨m1, hm1, hq1⟩ : ∃ m1 : Nat, m1 < len ∧ Int.tmod (p : Int) (len : Int) = (m1 : Int) := ⟨p % len, Nat.mod_lt _ (by omega), by rw [Int.tmod_eq_emod_of_nonneg (by omega)]; rfl⟩
        obtain ⟨m2, hm2, hq2⟩ : ∃ m2 : Nat, m2 < len ∧ Int.tmod ((p : Int) * 7 + 3) (len : Int) = (m2 : Int) := ⟨(p * 7 + 3) % len, Nat.mod_lt _ (by omega), by rw [Int.tmod_eq_emod_of_nonneg (by omega)]; rfl⟩
        obtain ⟨q, hq0, hqp, hq3⟩ : ∃ q : Int, 0 ≤ q ∧ q ≤ 1000000 ∧ Int.tdiv (p : Int) (len : Int) = q := ⟨_, Int.tdiv_nonneg (by omega) (by omega), by rw [Int.tdiv_eq_ediv_of_nonneg (by omega)]; have := Int.ediv_le_self (a := (p : Int)) (len : Int) (by omega); omega, rfl⟩
        have hcp1 : (w.setCell ⟨R, 1, none⟩ (.int .i64 ((p : Int) + 1))).cell? ⟨b, off + m1, none⟩ = some (.int .u8 (z m1)) := (hset.1.cell (by exact hbW)).trans (hcells m1 hm1)
        have hcp2 : (w.setCell ⟨R, 1, none⟩ (.int .i64 ((p : Int) + 1))).cell? ⟨b, off + m2, none⟩ = some (.int .u8 (z m2)) := (hset.1.cell (by exact hbW)).trans (hcells m2 hm2)
        have hz1 := hz m1
        have hz2 := hz m2
        generalize z m1 = z1 at hcp1 hz1
        generalize z m2 = z2 at hcp2 hz2
        clear hcells hz hbb
        have hw1 : IntKind.i64.wrap (z1 * 131) = z1 * 131 := IntWalk.i64_in _ (by omega)
        have hw2 : IntKind.i64.wrap (z2 * 1117) = z2 * 1117 := IntWalk.i64_in _ (by omega)
        have hw3 : IntKind.i64.wrap (z1 * 131 + z2 * 1117) = z1 * 131 + z2 * 1117 := IntWalk.i64_in _ (by omega)
        have hw4 : IntKind.i64.wrap ((p : Int) * 29) = (p : Int) * 29 := IntWalk.i64_in _ (by omega)
        have hw5 : IntKind.i64.wrap (z1 * 131 + z2 * 1117 + (p : Int) * 29) = z1 * 131 + z2 * 1117 + (p : Int) * 29 := IntWalk.i64_in _ (by omega)
        have hw6 : IntKind.i64.wrap (q * 53) = q * 53 := IntWalk.i64_in _ (by omega)
        have hw7 : IntKind.i64.wrap (z1 * 131 + z2 * 1117 + (p : Int) * 29 + q * 53) = z1 * 131 + z2 * 1117 + (p : Int) * 29 + q * 53 := IntWalk.i64_in _ (by omega)
        have hw8 : IntKind.i64.wrap ((p : Int) * 7) = (p : Int) * 7 := IntWalk.i64_in _ (by omega)
        have hw9 : IntKind.i64.wrap ((p : Int) * 7 + 3) = (p : Int) * 7 + 3 := IntWalk.i64_in _ (by omega)
        have hw10 : IntKind.i64.wrap (q : Int) = q := IntWalk.i64_in _ (by omega)
        have hw11 : IntKind.i64.wrap (m1 : Int) = m1 := IntWalk.i64_in _ (by omega)
        have hw12 : IntKind.i64.wrap (m2 : Int) = m2 := IntWalk.i64_in _ (by omega)
        go_enter Tryz.func42, Tryz.ntmps42
        go_wp2
        go_quiet (fail)
        clear hw1 hw2 hw3 hw4 hw5 hw6 hw7 hw8 hw9 hw10 hw11 hw12 hq1 hq2 hq3
        obtain ⟨T, hT, hT0, hT1⟩ : ∃ T : Int, z1 * 131 + z2 * 1117 + (p : Int) * 29 + q * 53 = T ∧ 0 ≤ T ∧ T ≤ 2000000000 := ⟨_, rfl, by omega, by omega⟩
        rw [hT]
        clear hT
        have hx := xor_nonneg T hT0 hT1
        generalize hX : bits .xor .i64 T (T / 64) = X at hx
        go_wp2
        go_ret
        have hD : w.grownBy ((w.setCell ⟨R, 1, none⟩ (.int .i64 ((p : Int) + 1))).drewN nq) (some R) := ⟨hgr.os, hgr.tape, hgr.output, hgr.size, hgr.block⟩
        have hS : Rd W0 R (some ⟨b, off, none⟩) len cap ((w.setCell ⟨R, 1, none⟩ (.int .i64 ((p : Int) + 1))).drewN nq) (p + 1) := ⟨⟨hset.1.os, hset.1.tape, hset.1.output, hset.1.size, hset.1.block⟩, hset.2.1, hset.2.2⟩
        exact ⟨X % n, rfl, Int.emod_nonneg _ (by omega), fun h => by omega, fun _ => Int.emod_lt_of_pos _ (by omega), hS, hD, only_set _ _ _⟩

theorem wrap_fits (n : Int) : Fits (IntKind.i64.wrap n) := by
  unfold Fits IntKind.wrap
  simp [IntKind.signed, IntKind.bits]
  split <;> omega

theorem wrap64_fits (n : Int) : Fits (wrap64 n) := by
  unfold Fits wrap64; omega

/-- It returns one, two, three numbers. -/
def Int1 (e : Ending) : Prop := ∃ x : Int, Fits x ∧ e = .returned (.int .i64 x)

/-- The reader that is opened. -/
def Opened (W0 : World) (a : Option Addr) (e : Ending) (w' : World) : Prop :=
  ∃ R len cap, e = .returned (.pointer (some ⟨R, 0, none⟩)) ∧ Bytes W0 a len ∧ Rd W0 R a len cap w' 0

theorem open_in (w : World) (a : Option Addr) (len cap : Nat) (zs : List Int) (h : IsRow .u8 w a len cap zs) : Calls Tryz.prog 39 #[.slice a len cap] w (Opened w a) := by
  have hRd : ∀ n c : Nat, Rd w w.heap.size a n c (w.alloc (.cells #[.slice a n c, .int .i64 0] 109)) 0 := fun n c => ⟨(Below.refl _ w).alloc (Nat.le_refl _) _, Nat.le_refl _, heap_alloc_new w _⟩
  have hcap : len ≤ cap := by rcases h with ⟨_, h0, h1, _⟩ | ⟨_, _, hl, _⟩ <;> omega
  by_cases hl : 2000 < len
  · have hb := h.bytes (n := 2000) (by omega) (Nat.le_refl _)
    have hcp : (2000 : Int) ≤ cap := by omega
    rcases h with ⟨_, h0, _⟩ | ⟨x, rfl, _⟩
    · omega
    · go_enter Tryz.func39, Tryz.ntmps39
      go_wp2
      go_ret
      exact ⟨_, _, _, rfl, hb, hRd _ _⟩
  · have hb := h.bytes (n := len) (Nat.le_refl _) (by omega)
    go_enter Tryz.func39, Tryz.ntmps39
    go_wp2
    go_ret
    exact ⟨_, _, _, rfl, hb, hRd _ _⟩
end Go.Proofs.YtiaaefapbcjgmaaGreatDoor
namespace Go.Proofs.YtiaaefapbcjgmaaGreatDoor
open Go.RowKit

set_option maxRecDepth 100000 in
set_option maxHeartbeats 1000000 in
theorem specNew (v : Value) (xs : List Int) (w : World) (hv : Ints w v xs) (hl : xs.length ≤ 1000000000) : Calls Tryz.prog 93 #[v] w fun e w' =>
    ∃ x, e = .returned (.tuple #[.agg #[x, .slice none 0 0], .bool (sideB xs)]) ∧ w'.ownsRow w.heap.size 3 1 x (newV xs).1.length ((newV xs).1.map (Value.int .i64)) ∧ Below w.heap.size w w' := by
  have hB0 : Below w.heap.size w (w.alloc (.cells #[.slice none 0 0, .slice none 0 0] 31)) := (Below.refl _ w).alloc (Nat.le_refl _) _
  have hS := specSide v xs _ (hv.below hB0) hl
  have hb := World.alloc_heap_new w (.cells #[.slice none 0 0, .slice none 0 0] 31)
  have hset := desk_set hb
  obtain ⟨d0, d1, f0, f1⟩ := row_at hb
  cases hsd : sideB xs with
  | false =>
    have hnv : newV xs = ([], []) := by unfold newV; rw [hsd]; rfl
    rw [hnv]
    rw [hsd] at hS
    clear hb
    obtain ⟨W0, hW0⟩ : ∃ W0, w.alloc (.cells #[.slice none 0 0, .slice none 0 0] 31) = W0 := ⟨_, rfl⟩
    rw [hW0] at hS hset d0 d1 f0 f1 hB0
    go_enter Tryz.func93, Tryz.ntmps93
    go_wp2_with (go_at_call 51; refine hS.mono ?_; clear hS; rintro e w' ⟨rfl, rfl⟩)
    refine bodyPost_ret (results_desk2 rfl _ _ w.heap.size _ _ rfl (hset _ _)) rfl ⟨_, rfl, World.ownsRow_nil _ _ _ _, ?_⟩
    exact (hB0.setCell (p := ⟨w.heap.size, 0, none⟩) (Nat.le_refl _) _).setCell (p := ⟨w.heap.size, 1, none⟩) (Nat.le_refl _) _
  | true =>
    have hlen := sideB_len hsd
    have hnv : newV xs = (xs, []) := by unfold newV; rw [hsd]; rfl
    rw [hnv]
    rw [hsd] at hS
    obtain ⟨g, c, rfl, hg, hc⟩ := hv.cells hlen.1
    have hs0 := World.size_alloc w (.cells #[.slice none 0 0, .slice none 0 0] 31)
    obtain ⟨W0, hW0⟩ : ∃ W0, w.alloc (.cells #[.slice none 0 0, .slice none 0 0] 31) = W0 := ⟨_, rfl⟩
    rw [hW0] at hS hB0 hb hs0
    have hs1 := Nat.le_of_eq hs0
    have hs2 := Nat.le_of_eq hs0.symm
    clear hs0
    have hcz : ∀ i, i < xs.length → (W0.alloc (.cells #[] 3)).cell? ⟨g, i, none⟩ = some (.int .i64 (xs.getD i 0)) := fun i hi => ((hB0.alloc hB0.size (.cells #[] 3)).cell (p := ⟨g, i, none⟩) hg).trans (hc i hi)
    have hmade : (W0.alloc (.cells #[] 3)).ownsRow (w.heap.size + 1) 3 1 (.slice (some ⟨W0.heap.size, 0, none⟩) 0 0) 0 [] := World.ownsRow_made _ _ _ (by omega) (by decide) rfl
    have hba : (W0.alloc (.cells #[] 3)).heap[w.heap.size]? = some (.cells #[.slice none 0 0, .slice none 0 0] 31 (0, 0)) := (Below.heap_alloc _ _ _ (by omega)).trans hb
    have hBa : Below w.heap.size w (W0.alloc (.cells #[] 3)) := hB0.alloc hB0.size _
    have hsz := Nat.le_of_eq (World.size_alloc W0 (.cells #[] 3)).symm
    clear hset d0 d1 f0 f1 hv hc
    go_enter Tryz.func93, Tryz.ntmps93
    go_wp2_with (first
      | (go_at_call 51; refine hS.mono ?_; clear hS; rintro e w' ⟨rfl, rfl⟩)
      | (at_builtin; go_loud (refine append_row rfl _ _ rfl (w.heap.size + 1) _ 0 [] rfl hmade g xs.length c xs rfl rfl hcz (by omega) (by omega) ?_; intro y w2 hy hg2; replace hg2 : (W0.alloc (.cells #[] 3)).grownBy w2 (some W0.heap.size) := hg2; rw [Nat.zero_add, List.nil_append] at hy; obtain ⟨ay, cy, rfl⟩ := own_form hy; have hb2 := (hg2.block w.heap.size (by omega) (fun e => by injection e with e; omega)).trans hba; obtain ⟨d0, d1, f0, f1⟩ := row_at hb2)))
    have hset := desk_set hb2 (.slice ay xs.length cy) (.slice none 0 0)
    refine bodyPost_ret (results_desk2 rfl _ _ w.heap.size _ _ rfl hset) rfl ⟨_, rfl, ?_, ?_⟩
    · have h1 := own_kept hy (grownBy_setAt w2 w.heap.size 0 (.slice ay xs.length cy)) (own_old hy (by omega))
      exact own_from (own_kept h1 (grownBy_setAt _ w.heap.size 1 (.slice none 0 0)) (own_old h1 (by omega))) (by omega)
    · exact ((hBa.grown hg2 hBa.size (fun k e => by injection e with e; omega)).setCell (p := ⟨w.heap.size, 0, none⟩) (Nat.le_refl _) _).setCell (p := ⟨w.heap.size, 1, none⟩) (Nat.le_refl _) _
end Go.Proofs.YtiaaefapbcjgmaaGreatDoor
namespace Go.Proofs.YtiaaefapbcjgmaaGreatDoor
open Go.RowKit Go.BigFrame

set_option maxRecDepth 100000 in
set_option maxHeartbeats 1000000 in
theorem sameRowsP_in (v u : Value) (rows : List (List Int)) (w : World) (hn : rows.length ≤ 1000000) (hlen : ∀ j, j < rows.length → (rows.getD j []).length ≤ 1000000) (hv : PastI w v rows) (hu : PastI w u rows) :
    Calls Tryz.prog 62 #[v, u] w fun e w' => e = .returned (.bool true) ∧ Below w.heap.size w w' := by
  obtain ⟨a, c, rfl, hv⟩ := hv
  obtain ⟨a', c', rfl, hu⟩ := hu
  obtain ⟨n, hn'⟩ : ∃ n, rows.length = n := ⟨_, rfl⟩
  rw [hn'] at hn hlen hv hu ⊢
  clear hn'
  go_enter Tryz.func62, Tryz.ntmps62
  go_wp2
  go_loopw [5] (fun i wr => ∃ k : Nat, k ≤ n ∧ i = .int .i64 k ∧ Below w.heap.size w wr) (fun i _ => n - (intOf i).toNat)
  case atStart => exact ⟨0, Nat.zero_le _, rfl, Below.refl _ _⟩
  case round =>
    obtain ⟨k, hk, rfl, hB⟩ := hrel
    by_cases hlt : k < n
    · obtain ⟨G, o, rfl, hG, hr⟩ := hv (by omega)
      obtain ⟨G', o', rfl, hG', hr'⟩ := hu (by omega)
      obtain ⟨x, hx1, hx2⟩ := hr k hlt
      obtain ⟨y, hy1, hy2⟩ := hr' k hlt
      have hlk := hlen k hlt
      have h3 : ∀ m : After w, Calls Tryz.prog 28 #[x, y] m.now fun e w' => e = .returned (.bool true) ∧ Below m.now.heap.size m.now w' := fun m => sameInts_in x y _ m.now (by omega) (hx2.below m.ok) (hy2.below m.ok)
      obtain ⟨ax, cx, rfl⟩ := hx2.shape
      obtain ⟨ay, cy, rfl⟩ := hy2.shape
      have h1 : ∀ m : After w, m.now.cell? ⟨G, o + k, none⟩ = some (.slice ax (rows.getD k []).length cx) := fun m => (m.ok.cell (p := ⟨G, o + k, none⟩) hG).trans hx1
      have h2 : ∀ m : After w, m.now.cell? ⟨G', o' + k, none⟩ = some (.slice ay (rows.getD k []).length cy) := fun m => (m.ok.cell (p := ⟨G', o' + k, none⟩) hG').trans hy1
      have hki : (k : Int) < (n : Int) := by omega
      generalize (rows.getD k []).length = l at *
      clear hr hr' hx1 hx2 hy1 hy2 hlen hv hu
      go_wp2
      refine wp_region_below w (by kernel_rfl) (by kernel_rfl) hB ?_
      repeat (go_big_quiet_step ((go_at_call 28; with_reducible exact after_of (h3 _))))
      refine wpQuiet_nil ?_
      rintro _ ⟨nq, rfl⟩
      clear h1 h2 h3
      go_wp2
      go_roundw
      case rel => exact ⟨k + 1, by omega, by go_num, nq.ok⟩
      case measure => simp [intOf]; omega
    · obtain rfl : k = n := by omega
      clear hv hu hlen
      go_wp2
      go_ret
      exact ⟨rfl, hB⟩

set_option maxRecDepth 100000 in
set_option maxHeartbeats 1000000 in
theorem sameDesk_in (v u : Value) (d : Dk) (w : World) (hs : d.1.length ≤ 1000000 ∧ d.2.length ≤ 1000000 ∧ ∀ j, j < d.2.length → (d.2.getD j []).length ≤ 1000000) (hv : DeskI w v d) (hu : DeskI w u d) : Calls Tryz.prog 18 #[v, u] w fun e w' => e = .returned (.bool true) ∧ Below w.heap.size w w' := by
  obtain ⟨x, p, rfl, hx, hp⟩ := hv
  obtain ⟨y, q, rfl, hy, hq⟩ := hu
  have hB : Below w.heap.size w ((w.alloc (.cells #[x, p] 31)).alloc (.cells #[y, q] 31)) := ((Below.refl _ w).alloc (Nat.le_refl _) _).alloc (by rw [World.size_alloc]; omega) _
  have k1 := World.alloc_heap_new (w.alloc (.cells #[x, p] 31)) (.cells #[y, q] 31)
  rw [World.size_alloc] at k1
  have k0 : ((w.alloc (.cells #[x, p] 31)).alloc (.cells #[y, q] 31)).heap[w.heap.size]? = some (.cells #[x, p] 31 (0, 0)) := (Below.heap_alloc _ _ _ (by rw [World.size_alloc]; omega)).trans (World.alloc_heap_new w _)
  obtain ⟨W0, hW0⟩ : ∃ W0, (w.alloc (.cells #[x, p] 31)).alloc (.cells #[y, q] 31) = W0 := ⟨_, rfl⟩
  rw [hW0] at hB k0 k1
  have l0 := (Array.getElem?_eq_some_iff.1 k0).1
  have l1 := (Array.getElem?_eq_some_iff.1 k1).1
  have hI := sameInts_in x y d.1 W0 (by omega) (hx.below hB) (hy.below hB)
  have hR := fun V (hV : Below W0.heap.size W0 V) => sameRowsP_in p q d.2 V hs.2.1 hs.2.2 ((hp.below hB).below hV) ((hq.below hB).below hV)
  obtain ⟨xa, xc, rfl⟩ := hx.shape
  obtain ⟨ya, yc, rfl⟩ := hy.shape
  obtain ⟨pa, pc, rfl, _⟩ := hp
  obtain ⟨qa, qc, rfl, _⟩ := hq
  obtain ⟨c0, c1, _, _⟩ := row_at k0
  obtain ⟨e0, e1, _, _⟩ := row_at k1
  clear hx hy hs
  go_enter Tryz.func18, Tryz.ntmps18
  go_wp2_with (first
    | (go_at_call 28; go_loud (refine hI.mono ?_; clear hI; rintro e w2 ⟨rfl, hB2⟩; obtain ⟨c0, c1, _, _⟩ := row_at ((hB2.block _ l0).trans k0); obtain ⟨e0, e1, _, _⟩ := row_at ((hB2.block _ l1).trans k1)))
    | (go_at_call 62; go_loud (refine (hR _ hB2).mono ?_; clear hR; rintro e w3 ⟨rfl, hB3⟩)))
  go_ret
  exact ⟨rfl, hB.trans ((hB2.trans (hB3.mono hB2.size)).mono hB.size)⟩

theorem noDesk_in (v : Value) (w : World) (hv : DeskI w v ([], [])) : Calls Tryz.prog 22 #[v] w fun e w' => e = .returned (.bool true) ∧ Below w.heap.size w w' := by
  obtain ⟨x, p, rfl, hx, hp⟩ := hv
  have hB : Below w.heap.size w (w.alloc (.cells #[x, p] 31)) := (Below.refl _ w).alloc (Nat.le_refl _) _
  have k0 := World.alloc_heap_new w (.cells #[x, p] 31)
  have hD : ∀ W, DeskI W (.agg #[.slice none 0 0, .slice none 0 0]) ([], []) := fun W => ⟨_, _, rfl, .inl ⟨_, _, rfl, rfl⟩, none, 0, rfl, fun h => absurd h (Nat.lt_irrefl 0)⟩
  have hS := sameDesk_in (.agg #[x, p]) (.agg #[.slice none 0 0, .slice none 0 0]) ([], []) _ ⟨by simp, by simp, fun j hj => by simp at hj⟩ ⟨x, p, rfl, hx.below hB, hp.below hB⟩ (hD _)
  obtain ⟨xa, xc, rfl⟩ := hx.shape
  obtain ⟨pa, pc, rfl, _⟩ := hp
  simp only [List.length_nil] at *
  obtain ⟨W0, hW0⟩ : ∃ W0, w.alloc (.cells #[.slice xa 0 xc, .slice pa 0 pc] 31) = W0 := ⟨_, rfl⟩
  rw [hW0] at hB k0 hS
  obtain ⟨c0, c1, _, _⟩ := row_at k0
  clear hx
  go_enter Tryz.func22, Tryz.ntmps22
  go_wp2_with (go_at_call 18; refine hS.mono ?_; rintro e w2 ⟨rfl, hB2⟩)
  go_ret
  exact ⟨rfl, hB.trans (hB2.mono hB.size)⟩
end Go.Proofs.YtiaaefapbcjgmaaGreatDoor
namespace Go.Proofs.YtiaaefapbcjgmaaGreatDoor
open Go

theorem wpIn_region_tailL {F : Fence} {n : Nat} {P : Program} {id : Nat} {ops : Array Oper} {Q : Exit → Act → World → Prop} {a : Act} {w : World} (m : Nat) (hm : P.follows .mixedOrders = true) (hb : backB ops = true) (ht : tailB ops m = true) (hsz : m < ops.size)
    (fr : (Nat → Value) → Act) (C : (Nat → Bool) → World → Prop) (G : World → World → Prop) (Φ : Nat → Value → World → Prop)
    (h0 : ∃ s, a = fr s) (hput : ∀ i o s v, i < m → ops[i]? = some o → (fr s).put o.dst v = fr (fun j => if j = i then v else s j))
    (hC : C (fun _ => false) w.drew) (hG : ∀ k v W W', Φ k v W → G W W' → Φ k v W')
    (hstep : ∀ L i o s W, i < m → L i = false → ops[i]? = some o → C L W → (∀ k, depB ops i k = true → Φ k (s k) W) → ∀ Q' : Exit → Act → World → Prop,
      (∀ v W', C (fun j => if j = i then true else L j) W' → G W W' → Φ i v W' → Q' .normal ((fr s).put o.dst v) W') → wpListIn F n P ops Q' [o] (fr s) W)
    (htail : ∀ L s W, C L W → (∀ k, k < m → L k = true) → (∀ k, k < m → Φ k (s k) W) → wpListIn F n P ops Q (ops.toList.drop m) (fr s) W) : (Code.region id ops true).wpIn F n P Q a w := by
  have hdrop : ∀ d (h : d < ops.size), ops.toList.drop d = ops[d] :: ops.toList.drop (d + 1) := fun d h => by
    rw [List.drop_eq_getElem_cons (by simpa using h)]; simp
  refine wpIn_region_any hm (wpAnyIn_inv2 hb (fun L b W => Shut ops L ∧ (((∀ j, m ≤ j → j < ops.size → L j = false) ∧ ∃ s, b = fr s ∧ C L W ∧ ∀ k, L k = true → Φ k (s k) W) ∨
    (∃ d, m < d ∧ d ≤ ops.size ∧ (∀ j, j < ops.size → (L j = true ↔ j < d)) ∧ wpListIn F n P ops Q (ops.toList.drop d) b W))) ?_ ?_ _ _ _ _ (by simp) ?_ ?_)
  · rintro L b W i o ho hLi hde ⟨hS, (⟨hno, s, rfl, hCW, hΦ⟩ | ⟨d, hd1, hd2, hd3, hd4⟩)⟩ K hK
    · obtain ⟨hi, ho'⟩ := Array.getElem?_eq_some_iff.1 ho
      have hS' := shut_next ho hde hS
      by_cases him : i < m
      · have hst := hstep L i o s W him hLi ho hCW (fun k hk => hΦ k (dep_of ho hde hk)) (fun e b' W' => match e with | .normal => K b' W' | e => Q e b' W')
          (fun v W' h1 h2 h3 => hK _ _ ⟨hS', .inl ⟨fun j hj1 hj2 => (by dsimp only; rw [if_neg (by omega)]; exact hno j hj1 hj2), fun j => if j = i then v else s j, hput i o s v him ho, h1, fun k hk => (by
            by_cases e : k = i
            · subst e; simpa using h3
            · simp only [if_neg e] at hk ⊢
              exact hG k _ W W' (hΦ k hk) h2)⟩⟩)
        unfold wpOpIn
        rw [ho]
        simp only [wpListIn] at hst
        exact hst
      · have hall : ∀ k, k < i → L k = true := fun k hk => by
          have := tail_of ht hS' (by omega) hi (if_pos rfl) hk
          rwa [if_neg (by omega)] at this
        have him2 : i = m := by
          rcases Nat.lt_or_ge m i with h | h
          · have h1 := hall m h
            rw [hno m (Nat.le_refl _) hsz] at h1
            cases h1
          · omega
        subst him2
        have hl := htail L s W hCW (fun k hk => hall k hk) (fun k hk => hΦ k (hall k hk))
        rw [hdrop _ hi, ho'] at hl
        refine wpOp_of_list ho hl (fun b' W' h' => hK _ _ ⟨hS', .inr ⟨i + 1, by omega, by omega, fun j hj => ?_, h'⟩⟩)
        dsimp only
        by_cases e : j = i
        · rw [if_pos e]; exact ⟨fun _ => by omega, fun _ => rfl⟩
        · rw [if_neg e]
          refine ⟨fun h => ?_, fun h => hall j (by omega)⟩
          rcases Nat.lt_or_ge j i with h2 | h2
          · omega
          · rw [hno j h2 hj] at h; cases h
    · obtain ⟨hi, ho'⟩ := Array.getElem?_eq_some_iff.1 ho
      have hS' := shut_next ho hde hS
      have hid : d ≤ i := by
        rcases Nat.lt_or_ge i d with h | h
        · rw [(hd3 i hi).2 h] at hLi; cases hLi
        · exact h
      have hall : ∀ k, k < i → L k = true := fun k hk => by
        have := tail_of ht hS' (by omega) hi (if_pos rfl) hk
        rwa [if_neg (by omega)] at this
      have hid2 : i = d := by
        rcases Nat.lt_or_ge d i with h | h
        · have := (hd3 d (by omega)).1 (hall d h); omega
        · omega
      subst hid2
      rw [hdrop _ hi, ho'] at hd4
      refine wpOp_of_list ho hd4 (fun b' W' h' => hK _ _ ⟨hS', .inr ⟨i + 1, by omega, by omega, fun j hj => ?_, h'⟩⟩)
      dsimp only
      by_cases e : j = i
      · rw [if_pos e]; exact ⟨fun _ => by omega, fun _ => rfl⟩
      · rw [if_neg e]
        have := hd3 j hj
        exact ⟨fun h => by have := this.1 h; omega, fun h => this.2 (by omega)⟩
  · rintro L b W hL ⟨_, (⟨hno, _⟩ | ⟨d, hd1, hd2, hd3, hd4⟩)⟩
    · have := hno m (Nat.le_refl _) hsz
      rw [hL m hsz] at this; cases this
    · have hds : d = ops.size := by
        rcases Nat.lt_or_ge d ops.size with h | h
        · have := (hd3 d h).1 (hL d h); omega
        · omega
      subst hds
      rw [List.drop_of_length_le (by simp)] at hd4
      exact hd4
  · unfold unl
    simp
  · have hfn : (fun j => (Array.replicate ops.size false).getD j false) = fun _ => false := by
      funext j
      rw [Array.getD_eq_getD_getElem?]
      by_cases e : j < ops.size
      · rw [Array.getElem?_replicate, if_pos e]; rfl
      · rw [Array.getElem?_eq_none (by simp; omega)]; rfl
    rw [hfn]
    obtain ⟨s, hs⟩ := h0
    exact ⟨fun _ _ (h : false = true) => (by cases h), .inl ⟨fun _ _ _ => rfl, s, hs, hC, fun _ (h : false = true) => (by cases h)⟩⟩

theorem wpIn_region_storeL {F : Fence} {n : Nat} {P : Program} {id : Nat} {ops : Array Oper} {Q : Exit → Act → World → Prop} {a : Act} {w : World} (p m : Nat) (hm : P.follows .mixedOrders = true) (hb : backB ops = true) (ht : tailB ops m = true) (hpm : p < m) (hsz : m < ops.size)
    (fr : (Nat → Value) → Act) (C : (Nat → Bool) → World → Prop) (G : World → World → Prop) (Φ : Bool → Nat → Value → World → Prop)
    (h0 : ∃ s, a = fr s) (hput : ∀ i o s v, i < m → ops[i]? = some o → (fr s).put o.dst v = fr (fun j => if j = i then v else s j))
    (hC : C (fun _ => false) w.drew) (hG : ∀ c k v W W', Φ c k v W → G W W' → Φ c k v W')
    (hstep : ∀ L i o s W, i < m → i ≠ p → L i = false → (L p = true → needs ops p ops.size i = false) → ops[i]? = some o → C L W → (∀ k, depB ops i k = true → Φ (L p) k (s k) W) → ∀ Q' : Exit → Act → World → Prop,
      (∀ v W', C (fun j => if j = i then true else L j) W' → G W W' → Φ (L p) i v W' → Q' .normal ((fr s).put o.dst v) W') → wpListIn F n P ops Q' [o] (fr s) W)
    (hmid : ∀ L o s W, L p = false → ops[p]? = some o → C L W → (∀ k, depB ops p k = true → Φ false k (s k) W) → ∀ Q' : Exit → Act → World → Prop,
      (∀ v W', C (fun j => if j = p then true else L j) W' → (∀ k, k ≠ p → Φ false k (s k) W → Φ true k (s k) W') → Φ true p v W' → Q' .normal ((fr s).put o.dst v) W') → wpListIn F n P ops Q' [o] (fr s) W)
    (htail : ∀ L s W, C L W → (∀ k, k < m → L k = true) → (∀ k, k < m → Φ true k (s k) W) → wpListIn F n P ops Q (ops.toList.drop m) (fr s) W) : (Code.region id ops true).wpIn F n P Q a w := by
  have hdrop : ∀ d (h : d < ops.size), ops.toList.drop d = ops[d] :: ops.toList.drop (d + 1) := fun d h => by
    rw [List.drop_eq_getElem_cons (by simpa using h)]; simp
  refine wpIn_region_any hm (wpAnyIn_inv2 hb (fun L b W => Shut ops L ∧ (((∀ j, m ≤ j → j < ops.size → L j = false) ∧ ∃ s, b = fr s ∧ C L W ∧ ∀ k, L k = true → Φ (L p) k (s k) W) ∨
    (∃ d, m < d ∧ d ≤ ops.size ∧ (∀ j, j < ops.size → (L j = true ↔ j < d)) ∧ wpListIn F n P ops Q (ops.toList.drop d) b W))) ?_ ?_ _ _ _ _ (by simp) ?_ ?_)
  · rintro L b W i o ho hLi hde ⟨hS, (⟨hno, s, rfl, hCW, hΦ⟩ | ⟨d, hd1, hd2, hd3, hd4⟩)⟩ K hK
    · obtain ⟨hi, ho'⟩ := Array.getElem?_eq_some_iff.1 ho
      have hS' := shut_next ho hde hS
      by_cases him : i < m
      · by_cases hip : i = p
        · subst hip
          rw [hLi] at hΦ
          have hL1 : (fun j => if j = i then true else L j) i = true := if_pos rfl
          have hst := hmid L o s W hLi ho hCW (fun k hk => hΦ k (dep_of ho hde hk)) (fun e b' W' => match e with | .normal => K b' W' | e => Q e b' W')
            (fun v W' h1 h2 h3 => hK _ _ ⟨hS', .inl ⟨fun j hj1 hj2 => (by dsimp only; rw [if_neg (by omega)]; exact hno j hj1 hj2), fun j => if j = i then v else s j, hput i o s v him ho, h1, fun k hk => (by
              rw [hL1]
              by_cases e : k = i
              · subst e; simpa using h3
              · simp only [if_neg e] at hk ⊢
                exact h2 k e (hΦ k hk))⟩⟩)
          unfold wpOpIn
          rw [ho]
          simp only [wpListIn] at hst
          exact hst
        · have hLp : (fun j => if j = i then true else L j) p = L p := if_neg (fun e => hip e.symm)
          have hst := hstep L i o s W him hip hLi (fun hc => (by
            cases hn : needs ops p ops.size i with
            | false => rfl
            | true => have := needs_of hS hc _ _ hn; rw [hLi] at this; cases this)) ho hCW (fun k hk => hΦ k (dep_of ho hde hk)) (fun e b' W' => match e with | .normal => K b' W' | e => Q e b' W')
            (fun v W' h1 h2 h3 => hK _ _ ⟨hS', .inl ⟨fun j hj1 hj2 => (by dsimp only; rw [if_neg (by omega)]; exact hno j hj1 hj2), fun j => if j = i then v else s j, hput i o s v him ho, h1, fun k hk => (by
              rw [hLp]
              by_cases e : k = i
              · subst e; simpa using h3
              · simp only [if_neg e] at hk ⊢
                exact hG _ k _ W W' (hΦ k hk) h2)⟩⟩)
          unfold wpOpIn
          rw [ho]
          simp only [wpListIn] at hst
          exact hst
      · have hall : ∀ k, k < i → L k = true := fun k hk => by
          have := tail_of ht hS' (by omega) hi (if_pos rfl) hk
          rwa [if_neg (by omega)] at this
        have him2 : i = m := by
          rcases Nat.lt_or_ge m i with h | h
          · have h1 := hall m h
            rw [hno m (Nat.le_refl _) hsz] at h1
            cases h1
          · omega
        subst him2
        have hLp := hall p hpm
        rw [hLp] at hΦ
        have hl := htail L s W hCW (fun k hk => hall k hk) (fun k hk => hΦ k (hall k hk))
        rw [hdrop _ hi, ho'] at hl
        refine wpOp_of_list ho hl (fun b' W' h' => hK _ _ ⟨hS', .inr ⟨i + 1, by omega, by omega, fun j hj => ?_, h'⟩⟩)
        dsimp only
        by_cases e : j = i
        · rw [if_pos e]; exact ⟨fun _ => by omega, fun _ => rfl⟩
        · rw [if_neg e]
          refine ⟨fun h => ?_, fun h => hall j (by omega)⟩
          rcases Nat.lt_or_ge j i with h2 | h2
          · omega
          · rw [hno j h2 hj] at h; cases h
    · obtain ⟨hi, ho'⟩ := Array.getElem?_eq_some_iff.1 ho
      have hS' := shut_next ho hde hS
      have hid : d ≤ i := by
        rcases Nat.lt_or_ge i d with h | h
        · rw [(hd3 i hi).2 h] at hLi; cases hLi
        · exact h
      have hall : ∀ k, k < i → L k = true := fun k hk => by
        have := tail_of ht hS' (by omega) hi (if_pos rfl) hk
        rwa [if_neg (by omega)] at this
      have hid2 : i = d := by
        rcases Nat.lt_or_ge d i with h | h
        · have := (hd3 d (by omega)).1 (hall d h); omega
        · omega
      subst hid2
      rw [hdrop _ hi, ho'] at hd4
      refine wpOp_of_list ho hd4 (fun b' W' h' => hK _ _ ⟨hS', .inr ⟨i + 1, by omega, by omega, fun j hj => ?_, h'⟩⟩)
      dsimp only
      by_cases e : j = i
      · rw [if_pos e]; exact ⟨fun _ => by omega, fun _ => rfl⟩
      · rw [if_neg e]
        have := hd3 j hj
        exact ⟨fun h => by have := this.1 h; omega, fun h => this.2 (by omega)⟩
  · rintro L b W hL ⟨_, (⟨hno, _⟩ | ⟨d, hd1, hd2, hd3, hd4⟩)⟩
    · have := hno m (Nat.le_refl _) hsz
      rw [hL m hsz] at this; cases this
    · have hds : d = ops.size := by
        rcases Nat.lt_or_ge d ops.size with h | h
        · have := (hd3 d h).1 (hL d h); omega
        · omega
      subst hds
      rw [List.drop_of_length_le (by simp)] at hd4
      exact hd4
  · unfold unl
    simp
  · have hfn : (fun j => (Array.replicate ops.size false).getD j false) = fun _ => false := by
      funext j
      rw [Array.getD_eq_getD_getElem?]
      by_cases e : j < ops.size
      · rw [Array.getElem?_replicate, if_pos e]; rfl
      · rw [Array.getElem?_eq_none (by simp; omega)]; rfl
    rw [hfn]
    obtain ⟨s, hs⟩ := h0
    exact ⟨fun _ _ (h : false = true) => (by cases h), .inl ⟨fun _ _ _ => rfl, s, hs, hC, fun _ (h : false = true) => (by cases h)⟩⟩

theorem cnt_le (L : Nat → Bool) : ∀ n, cnt L n ≤ n
  | 0 => Nat.le_refl _
  | n + 1 => by
    have := cnt_le L n
    unfold cnt; split <;> omega

theorem cnt_none : ∀ n, cnt (fun _ => false) n = 0
  | 0 => rfl
  | n + 1 => by unfold cnt; rw [cnt_none n]; rfl

theorem cnt_same (L : Nat → Bool) (i : Nat) : ∀ n, n ≤ i → cnt (fun j => if j = i then true else L j) n = cnt L n
  | 0, _ => rfl
  | n + 1, h => by unfold cnt; rw [cnt_same L i n (by omega), if_neg (show ¬ n = i by omega)]

theorem cnt_next (L : Nat → Bool) (i : Nat) (h : L i = false) : ∀ n, i < n → cnt (fun j => if j = i then true else L j) n = cnt L n + 1
  | 0, hi => by omega
  | n + 1, hi => by
    unfold cnt
    by_cases e : i = n
    · subst e; rw [cnt_same L i i (Nat.le_refl _), if_pos rfl, h]; simp
    · rw [cnt_next L i h n (by omega), if_neg (fun h : n = i => e h.symm)]; omega

theorem wp_region_pred {P : Program} {id : Nat} {ops : Array Oper} {Q : Exit → Act → World → Prop} {a : Act} {w : World} (hm : P.follows .mixedOrders = true) (hb : backB ops = true)
    (fr : (Nat → Value) → Act) (C : Nat → World → Prop) (G : World → World → Prop) (Φ : Nat → Value → World → Prop)
    (h0 : ∃ s, a = fr s) (hput : ∀ i o s v, ops[i]? = some o → (fr s).put o.dst v = fr (fun j => if j = i then v else s j))
    (hC : C 0 w.drew) (hG : ∀ k v W W', Φ k v W → G W W' → Φ k v W')
    (hstep : ∀ i o s W c, c < ops.size → ops[i]? = some o → C c W → (∀ k, (o.after.any fun e => Region.binds .any e && e.on == k) = true → Φ k (s k) W) → ∀ Q' : Exit → Act → World → Prop,
      (∀ v W', C (c + 1) W' → G W W' → Φ i v W' → Q' .normal ((fr s).put o.dst v) W') → wpListIn Fence.wide 9 P ops Q' [o] (fr s) W)
    (hfin : ∀ s W, (∃ c, C c W) → (∀ k, k < ops.size → Φ k (s k) W) → Q .normal (fr s) W) : (Code.region id ops true).wp P Q a w := by
  refine (wpIn_wide (n := 9)).1 (wpIn_region_inv hm hb (fun L b W => ∃ s, b = fr s ∧ C (cnt L ops.size) W ∧ ∀ k, L k = true → Φ k (s k) W) ?_ ?_ ?_)
  · obtain ⟨s, hs⟩ := h0
    exact ⟨s, hs, by rw [cnt_none]; exact hC, fun k h => by cases h⟩
  · rintro L b W i o ho hLi hde ⟨s, rfl, hCW, hΦ⟩ Q' hQ'
    have hi : i < ops.size := (Array.getElem?_eq_some_iff.1 ho).1
    have hc : cnt L ops.size < ops.size := by
      have h1 := cnt_next L i hLi ops.size hi
      have h2 := cnt_le (fun j => if j = i then true else L j) ops.size
      omega
    refine hstep i o s W _ hc ho hCW (fun k hk => ?_) Q' (fun v W' h1 h2 h3 => ?_)
    · rw [← Array.any_toList, List.any_eq_true] at hk
      obtain ⟨e, he, hek⟩ := hk
      rw [Array.mem_toList_iff] at he
      rw [Array.all_eq_true_iff_forall_mem] at hde
      have h1 := hde e he
      rw [Bool.and_eq_true] at hek
      rw [hek.1] at h1
      have h2 : e.on = k := by simpa using hek.2
      subst h2
      exact hΦ _ (by simpa using h1)
    · refine hQ' _ _ ⟨fun j => if j = i then v else s j, hput i o s v ho, by rw [cnt_next L i hLi ops.size hi]; exact h1, fun k hk => ?_⟩
      by_cases e : k = i
      · subst e; simpa using h3
      · simp only [if_neg e] at hk ⊢
        exact hG k _ W W' (hΦ k hk) h2
  · rintro L b W hall ⟨s, rfl, hCW, hΦ⟩
    exact hfin s W ⟨_, hCW⟩ (fun k hk => hΦ k (hall k hk))
end Go.Proofs.YtiaaefapbcjgmaaGreatDoor
namespace Go.Proofs.YtiaaefapbcjgmaaGreatDoor
open Go.RowKit
attribute [local go_sem] Oper.semAt_some

theorem doV_rows (d : Dk) (k n : Int) : RowsOk (doV d k n).1 := by
  cases hb : deskB d with
  | false => rw [doV_no hb]; exact rowsOk_none
  | true => exact RowsOk.of (do_desk hb k n)
end Go.Proofs.YtiaaefapbcjgmaaGreatDoor
namespace Go.Proofs.YtiaaefapbcjgmaaGreatDoor
open Go.RowKit Go.Shelf
attribute [local go_sem] Oper.semAt_some

set_option maxRecDepth 100000 in
set_option maxHeartbeats 1000000 in
theorem specNumF : ∀ (f n : Nat), n < 10 ^ (f + 1) → n ≤ 9223372036854775807 → f ≤ 20 → ∀ w : World, Calls Tryz.prog 67 #[.int .i64 n] w fun e w' => e = .returned (.string (str (decF f n))) ∧ Below w.heap.size w w' := by
  intro f
  induction f with
  | zero =>
    intro n hn _ _ w
    have h10 : n < 10 := by simpa using hn
    have hni : (n : Int) < 10 := by omega
    have hc := fun w => byte_text (48 + n) (w.alloc (.cells #[.int .u8 (48 + n : Nat)] 5)) w.heap.size (Boxed.new w 5 _).cell
    rw [decF_low 0 n h10]
    obtain ⟨S, hS⟩ : ∃ S, str [48 + n] = S := ⟨_, rfl⟩
    rw [hS] at hc ⊢
    have hcast : ((48 + n : Nat) : Int) = 48 + (n : Int) := by omega
    simp only [hcast] at hc
    have hw1 : IntKind.i64.wrap (48 + (n : Int)) = 48 + (n : Int) := IntWalk.i64_in _ (by omega)
    have hw2 : IntKind.u8.wrap (48 + (n : Int)) = 48 + (n : Int) := IntWalk.u8_in _ (by omega)
    have hmx : ¬ (n : Int) < 0 := by omega
    clear hS hn h10 hcast
    go_enter Tryz.func67, Tryz.ntmps67
    go_wp2
    go_ret
    exact ⟨rfl, (Below.refl _ w).alloc (Nat.le_refl _) _⟩
  | succ f ih =>
    intro n hn hn18 hf w
    by_cases h10 : n < 10
    · have hb := ih n (by have : 10 ^ 1 ≤ 10 ^ (f + 1) := Nat.pow_le_pow_right (by omega) (by omega); omega) hn18 (by omega) w
      rw [decF_low _ n h10] at hb ⊢
      exact hb
    · have hni : ¬ (n : Int) < 10 := by omega
      have hqd : n / 10 < 10 ^ (f + 1) := by rw [Nat.div_lt_iff_lt_mul (by decide)]; rwa [Nat.pow_succ] at hn
      have hI := fun V => ih (n / 10) hqd (by omega) (by omega) V
      have hd : decF (f + 1) n = decF f (n / 10) ++ [48 + n % 10] := by conv => lhs; unfold decF; rw [if_neg h10]
      rw [hd]
      have hl := decF_len f (n / 10)
      have happ := str_app (decF f (n / 10)) [48 + n % 10]
      have hs1 := str_size (decF f (n / 10))
      have hs2 := str_size [48 + n % 10]
      have hq1 : Int.tmod (n : Int) 10 = ((n % 10 : Nat) : Int) := tmod_n n 10
      have hq2 : Int.tdiv (n : Int) 10 = ((n / 10 : Nat) : Int) := tdiv_n n 10
      have hr := Nat.mod_lt n (show 0 < 10 by decide)
      have hp := Nat.div_le_self n 10
      generalize n / 10 = p at *
      generalize n % 10 = r at *
      have hc := fun (W : World) (q : Nat) h => byte_text (48 + r) W q h
      obtain ⟨X, hX⟩ : ∃ X, str (decF f p) = X := ⟨_, rfl⟩
      obtain ⟨Y, hY⟩ : ∃ Y, str [48 + r] = Y := ⟨_, rfl⟩
      obtain ⟨Z, hZ⟩ : ∃ Z, str (decF f p ++ [48 + r]) = Z := ⟨_, rfl⟩
      rw [hX] at hI hs1 happ
      rw [hY] at hc hs2 happ
      rw [hZ] at happ ⊢
      have hXs : X.size ≤ 100 := by omega
      have hYs : Y.size ≤ 100 := by simp at hs2; omega
      have hw1 : IntKind.i64.wrap (r : Int) = r := IntWalk.i64_in _ (by omega)
      have hw2 : IntKind.i64.wrap (48 + (r : Int)) = 48 + (r : Int) := IntWalk.i64_in _ (by omega)
      have hw3 : IntKind.u8.wrap (48 + (r : Int)) = 48 + (r : Int) := IntWalk.u8_in _ (by omega)
      have hw4 : IntKind.i64.wrap (p : Int) = p := IntWalk.i64_in _ (by omega)
      have hcast : ((48 + r : Nat) : Int) = 48 + (r : Int) := by omega
      simp only [hcast] at hc
      clear ih hn hd hX hY hZ hs1 hs2 hqd hl hcast
      refine (callsIn_wide (n := 9)).1 ?_
      refine callsIn_of_wp Tryz.func67 rfl trivial ?_ rfl
      simp only [Tryz.ntmps67, List.size_toArray, List.length_cons, List.length_nil, Nat.reduceAdd, Nat.reduceSub, Array.replicate_succ, Array.replicate_zero, List.push_toArray, List.append_toArray, List.nil_append, List.cons_append]
      gi_wp2
      refine wpIn_region_kinds 9 (by kernel_rfl) (by kernel_rfl) (by kernel_rfl) (by decide)
        (fun s => { tmps := #[.int .i64 n, undef, .string ⟨#[]⟩, .int .i64 n, .bool false, undef, undef, undef, undef, undef, undef, s 0, s 1, s 2, s 3, s 4, s 5, s 6, s 7, s 8, undef], defers := [] })
        [.val (.int .i64 n), .val (.int .i64 p), .val (.string X), .val (.int .i64 n), .val (.int .i64 r), .val (.int .i64 (48 + (r : Int))), .val (.int .u8 (48 + (r : Int))), .one (.int .u8 (48 + (r : Int))), .val (.string Y)]
        ⟨fun _ => undef, rfl⟩ ?put ?step ?tail
      case put =>
        intro i o s v hi ho
        rcases (show i = 0 ∨ i = 1 ∨ i = 2 ∨ i = 3 ∨ i = 4 ∨ i = 5 ∨ i = 6 ∨ i = 7 ∨ i = 8 by omega) with rfl | rfl | rfl | rfl | rfl | rfl | rfl | rfl | rfl
        all_goals
          simp at ho
          subst ho
          simp [Act.put]
      case step =>
        rintro i o s V hi ho hV hd Q' hQ
        rcases (show i = 0 ∨ i = 1 ∨ i = 2 ∨ i = 3 ∨ i = 4 ∨ i = 5 ∨ i = 6 ∨ i = 7 ∨ i = 8 by omega) with rfl | rfl | rfl | rfl | rfl | rfl | rfl | rfl | rfl
        all_goals
          simp at ho
          subst ho
          simp [Act.put] at hQ
          have hQ' := hide hQ
          clear hQ
        case inl =>
          clear hd
          gi_wp2
          exact hQ'.out _ _ (Below.refl _ _) rfl
        case inr.inl =>
          have e1 : s 0 = .int .i64 n := hd 0 (by kernel_rfl)
          clear hd
          gi_wp2
          exact hQ'.out _ _ (Below.refl _ _) rfl
        case inr.inr.inl =>
          have e1 : s 1 = .int .i64 p := hd 1 (by kernel_rfl)
          clear hd
          gi_wp2_with (refine ⟨trivial, ?_⟩; gi_at_call 67; refine (callsIn_wide.2 (hI _)).mono ?_; rintro e w' ⟨rfl, hB'⟩)
          have hr' := hQ'.out
          rw [e1] at hr'
          exact hr' _ _ hB' rfl
        case inr.inr.inr.inl =>
          clear hd
          gi_wp2
          exact hQ'.out _ _ (Below.refl _ _) rfl
        case inr.inr.inr.inr.inl =>
          have e1 : s 3 = .int .i64 n := hd 3 (by kernel_rfl)
          clear hd
          gi_wp2
          exact hQ'.out _ _ (Below.refl _ _) rfl
        case inr.inr.inr.inr.inr.inl =>
          have e1 : s 4 = .int .i64 r := hd 4 (by kernel_rfl)
          clear hd
          gi_wp2
          exact hQ'.out _ _ (Below.refl _ _) rfl
        case inr.inr.inr.inr.inr.inr.inl =>
          have e1 : s 5 = .int .i64 (48 + (r : Int)) := hd 5 (by kernel_rfl)
          clear hd
          gi_wp2
          exact hQ'.out _ _ (Below.refl _ _) rfl
        case inr.inr.inr.inr.inr.inr.inr.inl =>
          have e1 : s 6 = .int .u8 (48 + (r : Int)) := hd 6 (by kernel_rfl)
          clear hd
          gi_wp2
          exact hQ'.out _ _ ((Below.refl _ V).alloc (Nat.le_refl _) _) ⟨V.heap.size, rfl, by simp, (Boxed.new V 5 _).cell⟩
        case inr.inr.inr.inr.inr.inr.inr.inr =>
          obtain ⟨q, e1, hq, hcq⟩ : ∃ q, s 7 = .slice (some ⟨q, 0, none⟩) 1 1 ∧ q < V.heap.size ∧ V.cell? ⟨q, 0, none⟩ = some (.int .u8 (48 + (r : Int))) := hd 7 (by kernel_rfl)
          have hcv := hc V q hcq
          clear hd hc
          gi_wp2
          exact hQ'.out _ _ (Below.refl _ _) rfl
      case tail =>
        rintro s V hV hd
        have e2 : s 2 = .string X := hd 2 (by omega)
        have e8 : s 8 = .string Y := hd 8 (by omega)
        clear hd
        simp only [List.drop_succ_cons, List.drop_zero]
        gi_wp2
        refine bodyPost_ret (results_tmp rfl _ _ _) rfl ⟨rfl, hV⟩
end Go.Proofs.YtiaaefapbcjgmaaGreatDoor
namespace Go.Proofs.YtiaaefapbcjgmaaGreatDoor
open Go.RowKit

theorem odd_any (W0 : World) (R len cap p : Nat) (a : Option Addr) (n : Int) (w : World) (hb : Bytes W0 a len) (h : Rd W0 R a len cap w p) (hp : p ≤ 900000) (hn : 0 < n) (hn2 : n ≤ 1000) :
    Calls Tryz.prog 49 #[.pointer (some ⟨R, 0, none⟩), .int .i64 n] w fun e w' => ∃ b, e = .returned (.bool b) ∧ Rd W0 R a len cap w' (p + 1) ∧ w.grownBy w' (some R) := by
  have hw1 : IntKind.i64.wrap (n - 1) = n - 1 := IntWalk.i64_in _ (by omega)
  go_enter Tryz.func49, Tryz.ntmps49
  go_wp2_with fail
  go_at_call 42
  refine (pick_in W0 R len cap _ a _ _ hb h (by omega)).mono ?_
  rintro e w2 ⟨k, rfl, _, _, _, hR2, hgr, _⟩
  go_wp2
  go_ret
  exact ⟨_, rfl, hR2, hgr⟩
end Go.Proofs.YtiaaefapbcjgmaaGreatDoor
namespace Go.Proofs.YtiaaefapbcjgmaaGreatDoor
open Go Go.RowKit

theorem puts_of {ops : Array Oper} {m : Nat} {L : List (Option Tmp × Nat)} {a : Act} (hL : dstsOf ops m = L) (hok : okPuts L = true) (i : Nat) (o : Oper) (s : Nat → Value) (v : Value) (hi : i < m) (ho : ops[i]? = some o) : (putsOf L a s).put o.dst v = putsOf L a (fun j => if j = i then v else s j) := by
  refine puts_put s o.dst i v L a hok ?_
  rw [← hL]
  unfold dstsOf
  refine List.mem_map.2 ⟨i, List.mem_range.2 hi, ?_⟩
  rw [ho]
  rfl

/-- A region that draws its order and moves a reader on, by no more than K an operation. -/
theorem wpIn_region_rd {F : Fence} {n : Nat} {id : Nat} {ops : Array Oper} {Q : Exit → Act → World → Prop} {a : Act} {w : World} (W0 : World) (R len cap p : Nat) (ad : Option Addr) (K m : Nat) (L : List (Option Tmp × Nat)) (hK : K ≤ 200) (hm : Tryz.prog.follows .mixedOrders = true) (hb : backB ops = true) (ht : tailB ops m = true) (hsz : m < ops.size) (hsz2 : ops.size ≤ 100)
    (hL : dstsOf ops m = L) (hok : okPuts L = true) (hR : Rd W0 R ad len cap w p) (Φ : Nat → Value → World → Prop) (hΦ : ∀ k v V V', Φ k v V → V.grownBy V' (some R) → Φ k v V')
    (hstep : ∀ i o s V q, i < m → ops[i]? = some o → q ≤ p + 20000 → Rd W0 R ad len cap V q → w.grownBy V (some R) → (∀ k, depB ops i k = true → Φ k (s k) V) → ∀ Q' : Exit → Act → World → Prop,
      (∀ v V' q', q' ≤ q + K → Rd W0 R ad len cap V' q' → V.grownBy V' (some R) → Φ i v V' → Q' .normal ((putsOf L a s).put o.dst v) V') → wpListIn F n Tryz.prog ops Q' [o] (putsOf L a s) V)
    (htail : ∀ s V q, q ≤ p + K * ops.size → Rd W0 R ad len cap V q → w.grownBy V (some R) → (∀ k, k < m → Φ k (s k) V) → wpListIn F n Tryz.prog ops Q (ops.toList.drop m) (putsOf L a s) V) : (Code.region id ops true).wpIn F n Tryz.prog Q a w := by
  refine wpIn_region_tailL m hm hb ht hsz (putsOf L a) (fun Ls V => w.grownBy V (some R) ∧ ∃ q, q ≤ p + K * cnt Ls ops.size ∧ Rd W0 R ad len cap V q) (fun V V' => V.grownBy V' (some R)) Φ (puts_self a L hok) (puts_of hL hok) ⟨grownBy_drew (grownBy_refl _ _), p, by omega, hR.drew⟩ hΦ ?_ ?_
  · rintro Ls i o s V him hLi ho ⟨hg, q, hq, hRV⟩ hd Q' hQ'
    have hi : i < ops.size := by omega
    have h1 := cnt_le Ls ops.size
    have h2 : K * cnt Ls ops.size ≤ 200 * 100 := Nat.mul_le_mul hK (by omega)
    exact hstep i o s V q him ho (by omega) hRV hg hd Q' (fun v V' q' hq' h3 h4 h5 => hQ' v V' ⟨hg.trans h4, q', by rw [cnt_next Ls i hLi ops.size hi, Nat.mul_succ]; omega, h3⟩ h4 h5)
  · rintro Ls s V ⟨hg, q, hq, hRV⟩ _ hd
    have h1 := cnt_le Ls ops.size
    have h2 : K * cnt Ls ops.size ≤ K * ops.size := Nat.mul_le_mul_left K h1
    exact htail s V q (by omega) hRV hg hd
end Go.Proofs.YtiaaefapbcjgmaaGreatDoor
namespace Go.Proofs.YtiaaefapbcjgmaaGreatDoor
open Go Go.RowKit
attribute [local go_sem] Oper.semAt_some

theorem row_atD {W : World} {b : Nat} {x y : Value} {t : TypeId} (h : W.heap[b]? = some (.cells #[x, y] t (0, 0))) : W.cell? ⟨b, 0, none⟩ = some x ∧ W.cell? ⟨b, 1, none⟩ = some y ∧ W.frozen? ⟨b, 0, none⟩ = false ∧ W.frozen? ⟨b, 1, none⟩ = false :=
  ⟨by unfold World.cell?; rw [h]; rfl, by unfold World.cell?; rw [h]; rfl, by unfold World.frozen?; rw [h]; rfl, by unfold World.frozen?; rw [h]; rfl⟩

theorem grownBy_setAtD (W : World) (b i : Nat) (v : Value) : W.grownBy (W.setCell ⟨b, i, none⟩ v) (some b) :=
  ⟨rfl, rfl, rfl, (KeepsWalks.setCell W _ v).size, fun k _ hk => Below.heap_setCell _ _ _ k (fun e => hk (by rw [e]))⟩

theorem odd_zero (w : World) (R : Nat) : Calls Tryz.prog 49 #[.pointer (some ⟨R, 0, none⟩), .int .i64 0] w fun e w' => e = .returned (.bool false) ∧ w = w' := by
  go_enter Tryz.func49, Tryz.ntmps49
  go_wp2
  go_ret
  exact ⟨rfl, rfl⟩

set_option maxHeartbeats 2000000 in
theorem l20Side0_in (W0 : World) (R len cap p : Nat) (a : Option Addr) (w : World) (hb : Bytes W0 a len) (h : Rd W0 R a len cap w p) (hp : p ≤ 800000) :
    Calls Tryz.prog 87 #[.pointer (some ⟨R, 0, none⟩), .int .i64 0] w fun e w' => ∃ (v : Value) (xs : List Int), e = .returned v ∧ w'.ownsRow w.heap.size 3 1 v xs.length (xs.map (Value.int .i64)) ∧ 1 ≤ xs.length ∧ xs.length ≤ 12 ∧ ∃ p', p' ≤ p + 13 ∧ Rd W0 R a len cap w' p' ∧ w.grownBy w' (some R) := by
  have hRw : R < w.heap.size := (Array.getElem?_eq_some_iff.1 h.2.2).1
  have hW0R := h.2.1
  go_enter Tryz.func87, Tryz.ntmps87
  go_wp2_with fail
  go_at_call 42
  refine (pick_in W0 R len cap _ a _ _ hb (h.alloc _) (by omega)).mono ?_
  rintro e w2 ⟨x, rfl, hx0, _, hx1, hR2, hgr2, _⟩
  replace hx1 := hx1 (by omega)
  have hg0 : w.grownBy w2 (some R) := (World.grownBy_alloc w _ _).trans hgr2
  have hs2 := hgr2.size
  obtain ⟨N, rfl⟩ : ∃ N : Nat, x = N := ⟨x.toNat, by omega⟩
  have hmade : (w.alloc (.cells #[] 3)).ownsRow w.heap.size 3 1 (.slice (some ⟨w.heap.size, 0, none⟩) 0 0) 0 [] := World.ownsRow_made _ _ _ (Nat.le_refl _) (by decide) rfl
  go_wp2
  go_loopw [5, 6] (fun out n wr => ∃ (j : Nat) (zs : List Int), j ≤ N + 1 ∧ n = .int .i64 ((N : Int) + 1 - (j : Nat)) ∧ zs.length = j ∧ wr.ownsRow w.heap.size 3 1 out zs.length (zs.map (Value.int .i64)) ∧ w.grownBy wr (some R) ∧ Rd W0 R a len cap wr (p + 1 + j)) (fun _ n _ => (intOf n).toNat)
  case atStart => exact ⟨0, [], by omega, by go_num, rfl, hmade.kept hgr2 (.inr (by simp [Value.ownBlock]; omega)), hg0, hR2⟩
  case round =>
    obtain ⟨j, zs, hj, rfl, hz, hown, hgr, hR⟩ := hrel
    by_cases hjn : j ≤ N
    · have hc : (0 : Int) < (N : Int) + 1 - (j : Int) := by omega
      have hw1 : IntKind.i64.wrap ((N : Int) + 1 - (j : Int) - 1) = (N : Int) + 1 - (j : Int) - 1 := IntWalk.i64_in _ (by omega)
      have hs := hgr.size
      go_wp2_with (first
        | (go_at_call 42; refine (pick_in W0 R len cap _ a _ _ hb hR (by omega)).mono ?_; rintro e w3 ⟨x, rfl, _, _, _, hR3, hgr3, _⟩; have hown3 := hown.kept hgr3 (.inr (fun e => by have := hown.lt R e; omega)); have hs3 := hgr3.size)
        | (at_builtin; refine append_one rfl _ _ rfl w.heap.size _ _ _ rfl hown3 rfl (by omega) (by omega) ?_; intro v' w4 hown4 hgr4))
      all_goals
        have hgr4' : (w3.alloc (.cells #[.int .i64 x] 3)).grownBy w4 u5.ownBlock := hgr4
        go_roundw
        case rel =>
          have hbl : ∀ k, u5.ownBlock = some k → w.heap.size ≤ k := fun k e => (hown.lt k e).1
          refine ⟨j + 1, zs ++ [x], by omega, by go_num, by simp [hz], by simpa using hown4, ?_, ?_⟩
          · exact ((hgr.trans hgr3).andThen (World.grownBy_alloc _ _ none) (fun _ e => by cases e)).andThen hgr4' (fun k e => .inl (hbl k e))
          · rw [show p + 1 + (j + 1) = p + 1 + j + 1 by omega]
            exact (hR3.alloc _).kept hgr4' (fun e => by have := hbl R e.symm; omega) (fun k e => by have := hbl k e; omega)
        case measure => simp [intOf]; omega
    · obtain rfl : j = N + 1 := by omega
      have hc : ¬ (0 : Int) < (N : Int) + 1 - (((N + 1 : Nat)) : Int) := by omega
      have hl12 : zs.length ≤ 12 := by omega
      have hl1 : 1 ≤ zs.length := by omega
      go_wp2_with fail
      go_at_call 49
      refine (odd_zero wr R).mono ?_
      rintro e w3 ⟨rfl, rfl⟩
      go_wp2
      go_ret
      exact ⟨_, zs, rfl, hown, hl1, hl12, _, (by omega : p + 1 + (N + 1) ≤ p + 13), hR, hgr⟩

theorem pickF_in (W0 : World) (R len cap p : Nat) (a : Option Addr) (n : Int) (w : World) (hb : Bytes W0 a len) (h : Rd W0 R a len cap w p) (hp : p ≤ 1000000) :
    Calls Tryz.prog 42 #[.pointer (some ⟨R, 0, none⟩), .int .i64 n] w fun e w' => ∃ x : Int, e = .returned (.int .i64 x) ∧ 0 ≤ x ∧ (n ≤ 1000 → x ≤ 1000) ∧ Rd W0 R a len cap w' (p + 1) ∧ w.grownBy w' (some R) :=
  (pick_in W0 R len cap p a n w hb h hp).mono fun e w' ⟨x, h1, h2, h3, h4, h5, h6, _⟩ => ⟨x, h1, h2, fun hn => by
    by_cases hh : n < 1
    · rw [h3 hh]; omega
    · have := h4 (by omega); omega, h5, h6⟩

theorem Rd.lt {W0 w : World} {R len cap p : Nat} {a : Option Addr} (h : Rd W0 R a len cap w p) : R < w.heap.size := (Array.getElem?_eq_some_iff.1 h.2.2).1

/-- Eight kinds, one of which is picked. -/
def kindsL : List Int := [0, 0, 1, 1, 2, 3, 4, 5]

theorem kinds_in (i : Nat) : 0 ≤ kindsL.getD i 0 ∧ kindsL.getD i 0 ≤ 5 := by
  match i with
  | 0 => decide
  | 1 => decide
  | 2 => decide
  | 3 => decide
  | 4 => decide
  | 5 => decide
  | 6 => decide
  | 7 => decide
  | (n + 8) => simp [kindsL]

theorem quo59 (x : Nat) (h : x < 60) : ∃ y : Nat, y ≤ 1 ∧ Int.tdiv (x : Int) 59 = (y : Int) := ⟨x / 59, by omega, by rw [Int.tdiv_eq_ediv_of_nonneg (by omega)]; rfl⟩

/-- A deed that is drawn: its variable is block b, the result's block r. -/
structure Dd (W0 : World) (R len cap : Nat) (a : Option Addr) (w : World) (b : Nat) (k n : Int) (V : World) (q : Nat) : Prop where
  rd : Rd W0 R a len cap V q
  gr : w.grownBy V (some R)
  box : V.heap[b]? = some (.cells #[.int .i64 k, .int .i64 n] 39 (0, 0))
  res : V.heap[w.heap.size]? = some (.cells #[.int .i64 0, .int .i64 0] 39 (0, 0))
  lo : w.heap.size + 1 ≤ b
  rw_ : R < w.heap.size

theorem Dd.move {W0 : World} {R len cap : Nat} {a : Option Addr} {w : World} {b : Nat} {k n : Int} {V V' : World} {q q' : Nat} (h : Dd W0 R len cap a w b k n V q) (h1 : Rd W0 R a len cap V' q') (h2 : V.grownBy V' (some R)) : Dd W0 R len cap a w b k n V' q' := by
  have h3 := h.lo
  have h4 := h.rw_
  exact ⟨h1, h.gr.trans h2, (h2.block b (Array.getElem?_eq_some_iff.1 h.box).1 (fun e => by injection e with e; omega)).trans h.box, (h2.block _ (Array.getElem?_eq_some_iff.1 h.res).1 (fun e => by injection e with e; omega)).trans h.res, h3, h4⟩

theorem Dd.set1 {W0 : World} {R len cap : Nat} {a : Option Addr} {w : World} {b : Nat} {k n : Int} {V : World} {q : Nat} (h : Dd W0 R len cap a w b k n V q) (x : Int) : Dd W0 R len cap a w b k x (V.setCell ⟨b, 1, .none⟩ (.int .i64 x)) q := by
  have h3 := h.lo
  have h4 := h.rw_
  have h5 := h.rd.2.1
  have g := grownBy_setAtD V b 1 (.int .i64 x)
  exact ⟨h.rd.kept g (fun e => by injection e with e; omega) (fun k e => by injection e with e; omega), h.gr.andThen g (fun k e => .inl (by injection e with e; omega)), set_cells h.box 1 _, (g.block _ (Array.getElem?_eq_some_iff.1 h.res).1 (fun e => by injection e with e; omega)).trans h.res, h3, h4⟩

/-- The deed is handed back. -/
theorem Dd.done {W0 : World} {R len cap : Nat} {a : Option Addr} {w : World} {b : Nat} {k n : Int} {V : World} {q : Nat} (h : Dd W0 R len cap a w b k n V q) :
    ((V.setCell ⟨w.heap.size, 0, .none⟩ (.int .i64 k)).setCell ⟨w.heap.size, 1, .none⟩ (.int .i64 n)).heap[w.heap.size]? = some (.cells #[.int .i64 k, .int .i64 n] 39 (0, 0)) ∧
    Rd W0 R a len cap ((V.setCell ⟨w.heap.size, 0, .none⟩ (.int .i64 k)).setCell ⟨w.heap.size, 1, .none⟩ (.int .i64 n)) q ∧ w.grownBy ((V.setCell ⟨w.heap.size, 0, .none⟩ (.int .i64 k)).setCell ⟨w.heap.size, 1, .none⟩ (.int .i64 n)) (some R) := by
  have h4 := h.rw_
  have h5 := h.rd.2.1
  have g := grownBy_setAtD V w.heap.size 0 (.int .i64 k)
  have g2 := grownBy_setAtD (V.setCell ⟨w.heap.size, 0, .none⟩ (.int .i64 k)) w.heap.size 1 (.int .i64 n)
  exact ⟨set_cells (set_cells h.res 0 _) 1 _, (h.rd.kept g (fun e => by injection e with e; omega) (fun k e => by injection e with e; omega)).kept g2 (fun e => by injection e with e; omega) (fun k e => by injection e with e; omega),
    (h.gr.andThen g (fun k e => .inl (by injection e with e; omega))).andThen g2 (fun k e => .inl (by injection e with e; omega))⟩

theorem grown_cell12 {W W' : World} {R g : Nat} (h : W.grownBy W' (some R)) (h1 : g < W.heap.size) (h2 : g ≠ R) (i : Nat) : W'.cell? ⟨g, i, none⟩ = W.cell? ⟨g, i, none⟩ := by
  unfold World.cell?
  rw [h.block g h1 (fun e => h2 (by injection e))]

set_option maxRecDepth 100000 in
set_option maxHeartbeats 4000000 in
theorem l20Deed_in (W0 : World) (R len cap p : Nat) (a : Option Addr) (w : World) (hb : Bytes W0 a len) (h : Rd W0 R a len cap w p) (hp : p ≤ 800000) (rv : Option Addr) (rn rc : Nat) (hrn : rn ≤ 13) :
    Calls Tryz.prog 94 #[.pointer (some ⟨R, 0, none⟩), .slice rv rn rc] w fun e w' => (∃ k n, Fits k ∧ Fits n ∧ e = .returned (dV k n)) ∧ ∃ p', p' ≤ p + 30 ∧ Rd W0 R a len cap w' p' ∧ w.grownBy w' (some R) := by
  have hRw := h.lt
  have hW0R := h.2.1
  refine (callsIn_wide (n := 9)).1 ?_
  refine callsIn_of_wp Tryz.func94 rfl trivial ?_ rfl
  simp only [Tryz.ntmps94, List.size_toArray, List.length_cons, List.length_nil, Nat.reduceAdd, Nat.reduceSub, Array.replicate_succ, Array.replicate_zero, List.push_toArray, List.append_toArray, List.nil_append, List.cons_append]
  have hg1 : w.grownBy (w.alloc (.cells #[.int .i64 0, .int .i64 0] 39)) (some R) := World.grownBy_alloc w _ _
  have k1 := World.alloc_heap_new w (.cells #[.int .i64 0, .int .i64 0] 39)
  have hR1 := h.alloc (.cells #[.int .i64 0, .int .i64 0] 39)
  have z1 := World.size_alloc w (.cells #[.int .i64 0, .int .i64 0] 39)
  obtain ⟨w1, hw1⟩ : ∃ w1, w.alloc (.cells #[.int .i64 0, .int .i64 0] 39) = w1 := ⟨_, rfl⟩
  rw [hw1] at hg1 k1 hR1 z1
  have z1' : w.heap.size + 1 ≤ w1.heap.size := by omega
  clear z1
  gi_wp2
  refine wpIn_region_rd W0 R len cap p a 1 12 [(some 6, 0), (some 7, 1), (some 8, 2), (some 9, 3), (some 10, 4), (some 11, 5), (some 12, 6), (some 13, 7), (some 14, 8), (some 15, 9), (some 16, 10), (some 5, 11)] (by omega) (by kernel_rfl) (by kernel_rfl) (by kernel_rfl) (by decide) (by decide) (by rfl) (by decide) hR1
    (fun i v V => match i with | 0 => ∃ g, v = .slice (some ⟨g, 0, none⟩) 8 8 ∧ g ≠ R ∧ g < V.heap.size ∧ ∀ j, j < 8 → V.cell? ⟨g, j, none⟩ = some (.int .i64 (kindsL.getD j 0)) | 1 => v = .pointer (some ⟨R, 0, none⟩) | 2 => ∃ x : Nat, x < 8 ∧ v = .int .i64 x | 3 => ∃ g j, v = .pointer (some ⟨g, j, none⟩) ∧ g ≠ R ∧ g < V.heap.size ∧ ∃ z : Int, 0 ≤ z ∧ z ≤ 5 ∧ V.cell? ⟨g, j, none⟩ = some (.int .i64 z) | 4 => ∃ z : Int, 0 ≤ z ∧ z ≤ 5 ∧ v = .int .i64 z | 5 => v = .pointer (some ⟨R, 0, none⟩) | 6 => ∃ x : Nat, x < 60 ∧ v = .int .i64 x | 7 => ∃ x : Nat, x ≤ 1 ∧ v = .int .i64 x | 8 => ∃ z : Int, 0 ≤ z ∧ z ≤ 6 ∧ v = .int .i64 z | 9 => ∃ z : Int, 0 ≤ z ∧ z ≤ 11 ∧ v = .int .i64 z | 10 => ∃ z : Int, 0 ≤ z ∧ z ≤ 11 ∧ v = .agg #[.int .i64 z, .int .i64 0] | 11 => ∃ b, v = .pointer (some ⟨b, 0, none⟩) ∧ w1.heap.size ≤ b ∧ V.heap[b]? = some (.cells #[.int .i64 0, .int .i64 0] 39 (0, 0)) | _ => True)
    (fun i v V V' h hg => match i, h with | 0, h => (by obtain ⟨g, h1, h2, h3, h4⟩ := h; exact ⟨g, h1, h2, Nat.lt_of_lt_of_le h3 hg.size, fun j hj => (grown_cell12 hg h3 h2 j).trans (h4 j hj)⟩) | 1, h => h | 2, h => h | 3, h => (by obtain ⟨g, j, h1, h2, h3, z, h4, h5, h6⟩ := h; exact ⟨g, j, h1, h2, Nat.lt_of_lt_of_le h3 hg.size, z, h4, h5, (grown_cell12 hg h3 h2 j).trans h6⟩) | 4, h => h | 5, h => h | 6, h => h | 7, h => h | 8, h => h | 9, h => h | 10, h => h | 11, h => (by obtain ⟨b, h1, h2, h3⟩ := h; exact ⟨b, h1, h2, (hg.block b (Array.getElem?_eq_some_iff.1 h3).1 (fun e => by injection e with e; omega)).trans h3⟩) | (_ + 12), _ => trivial)
    ?step ?tail
  case step =>
    rintro i oo s V q hi ho hqb hRV hgV hd Q' hQ
    rcases (show i = 0 ∨ i = 1 ∨ i = 2 ∨ i = 3 ∨ i = 4 ∨ i = 5 ∨ i = 6 ∨ i = 7 ∨ i = 8 ∨ i = 9 ∨ i = 10 ∨ i = 11 by omega) with rfl | rfl | rfl | rfl | rfl | rfl | rfl | rfl | rfl | rfl | rfl | rfl
    all_goals
      simp at ho
      subst ho
      simp only [putsOf, Act.put, List.setIfInBounds_toArray, List.set_cons_succ, List.set_cons_zero] at hQ ⊢
      have hQ' := hide hQ
      clear hQ
    · clear hd
      have hk := World.alloc_heap_new V (.cells #[.int .i64 0, .int .i64 0, .int .i64 1, .int .i64 1, .int .i64 2, .int .i64 3, .int .i64 4, .int .i64 5] 3)
      have zV := hRV.lt
      have zV2 := World.size_alloc V (.cells #[.int .i64 0, .int .i64 0, .int .i64 1, .int .i64 1, .int .i64 2, .int .i64 3, .int .i64 4, .int .i64 5] 3)
      gi_wp2
      have hr := hQ'.out
      refine hr _ _ q (by omega) (hRV.alloc _) (World.grownBy_alloc _ _ _) ⟨V.heap.size, rfl, by omega, by rw [World.size_alloc]; omega, fun j hj => ?_⟩
      rw [World.cell?_alloc_at _ _ _ _ rfl]
      rcases (show j = 0 ∨ j = 1 ∨ j = 2 ∨ j = 3 ∨ j = 4 ∨ j = 5 ∨ j = 6 ∨ j = 7 by omega) with rfl | rfl | rfl | rfl | rfl | rfl | rfl | rfl <;> rfl
    · clear hd
      gi_wp2
      have hr := hQ'.out
      exact hr _ _ q (by omega) hRV (grownBy_refl _ _) rfl
    · have e1 : s 1 = .pointer (some ⟨R, 0, none⟩) := hd 1 (by kernel_rfl)
      clear hd
      gi_wp2_with (refine ⟨trivial, ?_⟩; gi_at_call 42; go_loud (refine (callsIn_wide.2 (pick_in W0 R len cap q a 8 V hb hRV (by omega))).mono ?_; rintro e V9 ⟨x, rfl, hx0, _, hx1, hR9, hg9, _⟩))
      have hx := hx1 (by omega)
      obtain ⟨y, rfl⟩ : ∃ y : Nat, x = y := ⟨x.toNat, by omega⟩
      have hr := hQ'.out
      simp only [e1] at hr ⊢
      exact hr _ _ (q + 1) (by omega) hR9 hg9 ⟨y, by omega, rfl⟩
    · obtain ⟨g, e1, h2, h3, h4⟩ : ∃ g, s 0 = .slice (some ⟨g, 0, none⟩) 8 8 ∧ g ≠ R ∧ g < V.heap.size ∧ ∀ j, j < 8 → V.cell? ⟨g, j, none⟩ = some (.int .i64 (kindsL.getD j 0)) := hd 0 (by kernel_rfl)
      obtain ⟨y, hy, e2⟩ : ∃ x : Nat, x < 8 ∧ s 2 = .int .i64 x := hd 2 (by kernel_rfl)
      clear hd
      have hyi : (y : Int) < 8 := by omega
      have hc := h4 y hy
      have hkz := kinds_in y
      obtain ⟨z, hz⟩ : ∃ z, kindsL.getD y 0 = z := ⟨_, rfl⟩
      rw [hz] at hc hkz
      clear h4 hz
      gi_wp2
      have hr := hQ'.out
      simp only [e1, e2] at hr ⊢
      exact hr _ _ q (by omega) hRV (grownBy_refl _ _) ⟨g, _, rfl, h2, h3, z, hkz.1, hkz.2, by simpa using hc⟩
    · obtain ⟨g, j, e1, h2, h3, z, h4, h5, h6⟩ : ∃ g j, s 3 = .pointer (some ⟨g, j, none⟩) ∧ g ≠ R ∧ g < V.heap.size ∧ ∃ z : Int, 0 ≤ z ∧ z ≤ 5 ∧ V.cell? ⟨g, j, none⟩ = some (.int .i64 z) := hd 3 (by kernel_rfl)
      clear hd
      gi_wp2
      have hr := hQ'.out
      simp only [e1] at hr ⊢
      exact hr _ _ q (by omega) hRV (grownBy_refl _ _) ⟨z, h4, h5, rfl⟩
    · clear hd
      gi_wp2
      have hr := hQ'.out
      exact hr _ _ q (by omega) hRV (grownBy_refl _ _) rfl
    · have e1 : s 5 = .pointer (some ⟨R, 0, none⟩) := hd 5 (by kernel_rfl)
      clear hd
      gi_wp2_with (refine ⟨trivial, ?_⟩; gi_at_call 42; go_loud (refine (callsIn_wide.2 (pick_in W0 R len cap q a 60 V hb hRV (by omega))).mono ?_; rintro e V9 ⟨x, rfl, hx0, _, hx1, hR9, hg9, _⟩))
      have hx := hx1 (by omega)
      obtain ⟨y, rfl⟩ : ∃ y : Nat, x = y := ⟨x.toNat, by omega⟩
      have hr := hQ'.out
      simp only [e1] at hr ⊢
      exact hr _ _ (q + 1) (by omega) hR9 hg9 ⟨y, by omega, rfl⟩
    · obtain ⟨x, hx, e1⟩ : ∃ x : Nat, x < 60 ∧ s 6 = .int .i64 x := hd 6 (by kernel_rfl)
      clear hd
      obtain ⟨y, hy, hq⟩ := quo59 x hx
      have hw : IntKind.i64.wrap (y : Int) = y := IntWalk.i64_in _ (by omega)
      gi_wp2
      have hr := hQ'.out
      simp only [e1] at hr ⊢
      exact hr _ _ q (by omega) hRV (grownBy_refl _ _) ⟨y, hy, rfl⟩
    · obtain ⟨x, hx, e1⟩ : ∃ x : Nat, x ≤ 1 ∧ s 7 = .int .i64 x := hd 7 (by kernel_rfl)
      clear hd
      have hw : IntKind.i64.wrap ((x : Int) * 6) = (x : Int) * 6 := IntWalk.i64_in _ (by omega)
      gi_wp2
      have hr := hQ'.out
      simp only [e1] at hr ⊢
      exact hr _ _ q (by omega) hRV (grownBy_refl _ _) ⟨(x : Int) * 6, by omega, by omega, rfl⟩
    · obtain ⟨x, hx0, hx1, e1⟩ : ∃ z : Int, 0 ≤ z ∧ z ≤ 5 ∧ s 4 = .int .i64 z := hd 4 (by kernel_rfl)
      obtain ⟨y, hy0, hy1, e2⟩ : ∃ z : Int, 0 ≤ z ∧ z ≤ 6 ∧ s 8 = .int .i64 z := hd 8 (by kernel_rfl)
      clear hd
      have hw : IntKind.i64.wrap (x + y) = x + y := IntWalk.i64_in _ (by omega)
      gi_wp2
      have hr := hQ'.out
      simp only [e1, e2] at hr ⊢
      exact hr _ _ q (by omega) hRV (grownBy_refl _ _) ⟨x + y, by omega, by omega, rfl⟩
    · obtain ⟨x, hx0, hx1, e1⟩ : ∃ z : Int, 0 ≤ z ∧ z ≤ 11 ∧ s 9 = .int .i64 z := hd 9 (by kernel_rfl)
      clear hd
      gi_wp2
      have hr := hQ'.out
      simp only [e1] at hr ⊢
      exact hr _ _ q (by omega) hRV (grownBy_refl _ _) ⟨x, hx0, hx1, rfl⟩
    · clear hd
      have zg := hgV.size
      gi_wp2
      have hr := hQ'.out
      exact hr _ _ q (by omega) (hRV.alloc _) (World.grownBy_alloc _ _ _) ⟨V.heap.size, rfl, zg, World.alloc_heap_new V _⟩
  case tail =>
    rintro s V q hqb hRV hgV hd
    replace hqb : q ≤ p + 13 := hqb
    obtain ⟨k, hk0, hk1, f10⟩ : ∃ z : Int, 0 ≤ z ∧ z ≤ 11 ∧ s 10 = .agg #[.int .i64 z, .int .i64 0] := hd 10 (by omega)
    obtain ⟨b, f11, hb11, kb⟩ : ∃ b, s 11 = .pointer (some ⟨b, 0, none⟩) ∧ w1.heap.size ≤ b ∧ V.heap[b]? = some (.cells #[.int .i64 0, .int .i64 0] 39 (0, 0)) := hd 11 (by omega)
    clear hd
    have zb := (Array.getElem?_eq_some_iff.1 kb).1
    obtain ⟨e0, e1, g0, g1⟩ := row_atD kb
    have hgw := hg1.trans hgV
    have hr1 := (hgV.block _ (Array.getElem?_eq_some_iff.1 k1).1 (fun e => by injection e with e; omega)).trans k1
    have gs := grownBy_setAtD V b 0 (.int .i64 k)
    have gs2 := grownBy_setAtD (V.setCell ⟨b, 0, none⟩ (.int .i64 k)) b 1 (.int .i64 0)
    have hD : Dd W0 R len cap a w b k 0 ((V.setCell ⟨b, 0, none⟩ (.int .i64 k)).setCell ⟨b, 1, none⟩ (.int .i64 0)) q := ⟨(hRV.kept gs (fun e => by injection e with e; omega) (fun k e => by injection e with e; omega)).kept gs2 (fun e => by injection e with e; omega) (fun k e => by injection e with e; omega), (hgw.andThen gs (fun k e => .inl (by injection e with e; omega))).andThen gs2 (fun k e => .inl (by injection e with e; omega)), set_cells (set_cells kb 0 _) 1 _, (gs2.block _ (Nat.lt_of_lt_of_le (Array.getElem?_eq_some_iff.1 hr1).1 gs.size) (fun e => by injection e with e; omega)).trans ((gs.block _ (Array.getElem?_eq_some_iff.1 hr1).1 (fun e => by injection e with e; omega)).trans hr1), by omega, hRw⟩
    clear gs gs2 hr1 hgw hgV hRV kb k1 hg1 hR1 hw1
    simp only [putsOf, Act.put, List.setIfInBounds_toArray, List.set_cons_succ, List.set_cons_zero]
    simp only [List.drop_succ_cons, List.drop_zero]
    rcases (show k = 0 ∨ k = 1 ∨ 2 ≤ k by omega) with rfl | rfl | hk2
    · obtain ⟨c0, c1, f0, f1⟩ := row_atD hD.box
      obtain ⟨r0, r1, t0, t1⟩ := row_atD hD.res
      gi_wp2_with fail
      all_goals
        refine ⟨trivial, ?_⟩
        gi_at_call 42
        refine (callsIn_wide.2 (pickF_in W0 R len cap _ a _ _ hb hD.rd (by omega))).mono ?_
        rintro e V2 ⟨x, rfl, hx0, hx1, hR2, hg2⟩
        replace hx1 := hx1 (by omega)
        have h2' := hD.move hR2 hg2
        clear hR2 hg2
        obtain ⟨c0, c1, f0, f1⟩ := row_atD h2'.box
        obtain ⟨r0, r1, t0, t1⟩ := row_atD h2'.res
        have h4 := h2'.set1 x
        have hy : 0 ≤ x ∧ x ≤ 1000 := ⟨hx0, hx1⟩
        clear h2'
        have hO := odd_any W0 R len cap _ a 40 _ hb h4.rd (by omega) (by omega) (by omega)
        gi_wp2_with fail
        refine ⟨trivial, ?_⟩
        gi_at_call 49
        refine (callsIn_wide.2 hO).mono ?_
        rintro e V3 ⟨bo, rfl, hR3, hg3⟩
        have h3 := h4.move hR3 hg3
        clear hR3 hg3 hO
        obtain ⟨c0, c1, f0, f1⟩ := row_atD h3.box
        obtain ⟨r0, r1, t0, t1⟩ := row_atD h3.res
        have hd3 := hide h3.done
        cases bo with
        | false =>
          gi_wp2
          (try simp only [Exit.inBlock, Exit.then])
          exact bodyPost_ret (results_cell_row rfl _ _ w.heap.size _ #[.int .i64 0, .int .i64 x] (0, 0) _ rfl hd3.out.1 Tryz.underlying39 rfl (by kernel_rfl)) rfl ⟨⟨0, x, by unfold Fits; omega, by unfold Fits; omega, rfl⟩, _, by omega, hd3.out.2⟩
        | true =>
          clear hd3
          have hA4 := World.grownBy_alloc V3 (.cells #[.int .i64 (-1), .int .i64 2, .int .i64 12, .int .i64 100] 3) (some R)
          have h3a := h3.move (h3.rd.alloc _) hA4
          have z3 := h3.rd.lt
          have l4 := World.size_alloc V3 (.cells #[.int .i64 (-1), .int .i64 2, .int .i64 12, .int .i64 100] 3)
          have hlit : ∀ i : Nat, i < 4 → ∃ z : Int, -1 ≤ z ∧ z ≤ 100 ∧ (V3.alloc (.cells #[.int .i64 (-1), .int .i64 2, .int .i64 12, .int .i64 100] 3)).cell? ⟨V3.heap.size, i, none⟩ = some (.int .i64 z) := fun i hi => by
            rw [World.cell?_alloc_at _ _ _ _ rfl]
            rcases (show i = 0 ∨ i = 1 ∨ i = 2 ∨ i = 3 by omega) with rfl | rfl | rfl | rfl
            · exact ⟨-1, by omega, by omega, rfl⟩
            · exact ⟨2, by omega, by omega, rfl⟩
            · exact ⟨12, by omega, by omega, rfl⟩
            · exact ⟨100, by omega, by omega, rfl⟩
          have hlith := hide hlit
          clear hlit
          gi_wp2_with fail
          refine ⟨trivial, ?_⟩
          gi_at_call 42
          refine (callsIn_wide.2 (pick_in W0 R len cap _ a _ _ hb h3a.rd (by omega))).mono ?_
          rintro e V4 ⟨y, rfl, hy0, _, hy1, hR4, hg4, _⟩
          have hy2 := hy1 (by omega)
          obtain ⟨j, rfl⟩ : ∃ j : Nat, y = j := ⟨y.toNat, by omega⟩
          have hji : (j : Int) < 4 := by omega
          obtain ⟨z, hz0, hz1, hc⟩ := hlith.out j (by omega)
          have hc4 := (grown_cell12 hg4 (by omega) (by omega) j).trans hc
          have h5 := h3a.move hR4 hg4
          have h6 := h5.set1 z
          clear hc hlith hR4 hg4 hA4 l4 hy1
          obtain ⟨c0, c1, f0, f1⟩ := row_atD h5.box
          obtain ⟨r0, r1, t0, t1⟩ := row_atD h5.res
          have hd6 := hide h6.done
          obtain ⟨c0', c1', f0', f1'⟩ := row_atD h6.box
          obtain ⟨r0', r1', t0', t1'⟩ := row_atD h6.res
          gi_wp2
          (try simp only [Exit.inBlock, Exit.then])
          exact bodyPost_ret (results_cell_row rfl _ _ w.heap.size _ #[.int .i64 0, .int .i64 z] (0, 0) _ rfl hd6.out.1 Tryz.underlying39 rfl (by kernel_rfl)) rfl ⟨⟨0, z, by unfold Fits; omega, by unfold Fits; omega, rfl⟩, _, by omega, hd6.out.2⟩
    · obtain ⟨c0, c1, f0, f1⟩ := row_atD hD.box
      obtain ⟨r0, r1, t0, t1⟩ := row_atD hD.res
      gi_wp2_with fail
      all_goals
        refine ⟨trivial, ?_⟩
        gi_at_call 42
        refine (callsIn_wide.2 (pickF_in W0 R len cap _ a _ _ hb hD.rd (by omega))).mono ?_
        rintro e V2 ⟨x, rfl, hx0, hx1, hR2, hg2⟩
        replace hx1 := hx1 (by omega)
        have h2' := hD.move hR2 hg2
        clear hR2 hg2
        obtain ⟨c0, c1, f0, f1⟩ := row_atD h2'.box
        obtain ⟨r0, r1, t0, t1⟩ := row_atD h2'.res
        have h4 := h2'.set1 x
        have hy : 0 ≤ x ∧ x ≤ 1000 := ⟨hx0, hx1⟩
        clear h2'
        have hO := odd_any W0 R len cap _ a 40 _ hb h4.rd (by omega) (by omega) (by omega)
        gi_wp2_with fail
        refine ⟨trivial, ?_⟩
        gi_at_call 49
        refine (callsIn_wide.2 hO).mono ?_
        rintro e V3 ⟨bo, rfl, hR3, hg3⟩
        have h3 := h4.move hR3 hg3
        clear hR3 hg3 hO
        obtain ⟨c0, c1, f0, f1⟩ := row_atD h3.box
        obtain ⟨r0, r1, t0, t1⟩ := row_atD h3.res
        have hd3 := hide h3.done
        cases bo with
        | false =>
          gi_wp2
          (try simp only [Exit.inBlock, Exit.then])
          exact bodyPost_ret (results_cell_row rfl _ _ w.heap.size _ #[.int .i64 1, .int .i64 x] (0, 0) _ rfl hd3.out.1 Tryz.underlying39 rfl (by kernel_rfl)) rfl ⟨⟨1, x, by unfold Fits; omega, by unfold Fits; omega, rfl⟩, _, by omega, hd3.out.2⟩
        | true =>
          clear hd3
          have hA4 := World.grownBy_alloc V3 (.cells #[.int .i64 (-1), .int .i64 2, .int .i64 12, .int .i64 100] 3) (some R)
          have h3a := h3.move (h3.rd.alloc _) hA4
          have z3 := h3.rd.lt
          have l4 := World.size_alloc V3 (.cells #[.int .i64 (-1), .int .i64 2, .int .i64 12, .int .i64 100] 3)
          have hlit : ∀ i : Nat, i < 4 → ∃ z : Int, -1 ≤ z ∧ z ≤ 100 ∧ (V3.alloc (.cells #[.int .i64 (-1), .int .i64 2, .int .i64 12, .int .i64 100] 3)).cell? ⟨V3.heap.size, i, none⟩ = some (.int .i64 z) := fun i hi => by
            rw [World.cell?_alloc_at _ _ _ _ rfl]
            rcases (show i = 0 ∨ i = 1 ∨ i = 2 ∨ i = 3 by omega) with rfl | rfl | rfl | rfl
            · exact ⟨-1, by omega, by omega, rfl⟩
            · exact ⟨2, by omega, by omega, rfl⟩
            · exact ⟨12, by omega, by omega, rfl⟩
            · exact ⟨100, by omega, by omega, rfl⟩
          have hlith := hide hlit
          clear hlit
          gi_wp2_with fail
          refine ⟨trivial, ?_⟩
          gi_at_call 42
          refine (callsIn_wide.2 (pick_in W0 R len cap _ a _ _ hb h3a.rd (by omega))).mono ?_
          rintro e V4 ⟨y, rfl, hy0, _, hy1, hR4, hg4, _⟩
          have hy2 := hy1 (by omega)
          obtain ⟨j, rfl⟩ : ∃ j : Nat, y = j := ⟨y.toNat, by omega⟩
          have hji : (j : Int) < 4 := by omega
          obtain ⟨z, hz0, hz1, hc⟩ := hlith.out j (by omega)
          have hc4 := (grown_cell12 hg4 (by omega) (by omega) j).trans hc
          have h5 := h3a.move hR4 hg4
          have h6 := h5.set1 z
          clear hc hlith hR4 hg4 hA4 l4 hy1
          obtain ⟨c0, c1, f0, f1⟩ := row_atD h5.box
          obtain ⟨r0, r1, t0, t1⟩ := row_atD h5.res
          have hd6 := hide h6.done
          obtain ⟨c0', c1', f0', f1'⟩ := row_atD h6.box
          obtain ⟨r0', r1', t0', t1'⟩ := row_atD h6.res
          gi_wp2
          (try simp only [Exit.inBlock, Exit.then])
          exact bodyPost_ret (results_cell_row rfl _ _ w.heap.size _ #[.int .i64 1, .int .i64 z] (0, 0) _ rfl hd6.out.1 Tryz.underlying39 rfl (by kernel_rfl)) rfl ⟨⟨1, z, by unfold Fits; omega, by unfold Fits; omega, rfl⟩, _, by omega, hd6.out.2⟩
    · have hk0' : (k == 0) = false := by simp; omega
      have hk1' : (k == 1) = false := by simp; omega
      obtain ⟨c0, c1, f0, f1⟩ := row_atD hD.box
      obtain ⟨r0, r1, t0, t1⟩ := row_atD hD.res
      have hO := odd_any W0 R len cap _ a 40 _ hb hD.rd (by omega) (by omega) (by omega)
      gi_wp2_with fail
      refine ⟨trivial, ?_⟩
      gi_at_call 49
      refine (callsIn_wide.2 hO).mono ?_
      rintro e V3 ⟨bo, rfl, hR3, hg3⟩
      have h3 := hD.move hR3 hg3
      clear hR3 hg3 hO
      obtain ⟨c0, c1, f0, f1⟩ := row_atD h3.box
      obtain ⟨r0, r1, t0, t1⟩ := row_atD h3.res
      have hd3 := hide h3.done
      cases bo with
      | false =>
        gi_wp2
        (try simp only [Exit.inBlock, Exit.then])
        exact bodyPost_ret (results_cell_row rfl _ _ w.heap.size _ #[.int .i64 k, .int .i64 0] (0, 0) _ rfl hd3.out.1 Tryz.underlying39 rfl (by kernel_rfl)) rfl ⟨⟨k, 0, by unfold Fits; omega, by unfold Fits; omega, rfl⟩, _, by omega, hd3.out.2⟩
      | true =>
        clear hd3
        have hA4 := World.grownBy_alloc V3 (.cells #[.int .i64 (-1), .int .i64 2, .int .i64 12, .int .i64 100] 3) (some R)
        have h3a := h3.move (h3.rd.alloc _) hA4
        have z3 := h3.rd.lt
        have l4 := World.size_alloc V3 (.cells #[.int .i64 (-1), .int .i64 2, .int .i64 12, .int .i64 100] 3)
        have hlit : ∀ i : Nat, i < 4 → ∃ z : Int, -1 ≤ z ∧ z ≤ 100 ∧ (V3.alloc (.cells #[.int .i64 (-1), .int .i64 2, .int .i64 12, .int .i64 100] 3)).cell? ⟨V3.heap.size, i, none⟩ = some (.int .i64 z) := fun i hi => by
          rw [World.cell?_alloc_at _ _ _ _ rfl]
          rcases (show i = 0 ∨ i = 1 ∨ i = 2 ∨ i = 3 by omega) with rfl | rfl | rfl | rfl
          · exact ⟨-1, by omega, by omega, rfl⟩
          · exact ⟨2, by omega, by omega, rfl⟩
          · exact ⟨12, by omega, by omega, rfl⟩
          · exact ⟨100, by omega, by omega, rfl⟩
        have hlith := hide hlit
        clear hlit
        gi_wp2_with fail
        refine ⟨trivial, ?_⟩
        gi_at_call 42
        refine (callsIn_wide.2 (pick_in W0 R len cap _ a _ _ hb h3a.rd (by omega))).mono ?_
        rintro e V4 ⟨y, rfl, hy0, _, hy1, hR4, hg4, _⟩
        have hy2 := hy1 (by omega)
        obtain ⟨j, rfl⟩ : ∃ j : Nat, y = j := ⟨y.toNat, by omega⟩
        have hji : (j : Int) < 4 := by omega
        obtain ⟨z, hz0, hz1, hc⟩ := hlith.out j (by omega)
        have hc4 := (grown_cell12 hg4 (by omega) (by omega) j).trans hc
        have h5 := h3a.move hR4 hg4
        have h6 := h5.set1 z
        clear hc hlith hR4 hg4 hA4 l4 hy1
        obtain ⟨c0, c1, f0, f1⟩ := row_atD h5.box
        obtain ⟨r0, r1, t0, t1⟩ := row_atD h5.res
        have hd6 := hide h6.done
        obtain ⟨c0', c1', f0', f1'⟩ := row_atD h6.box
        obtain ⟨r0', r1', t0', t1'⟩ := row_atD h6.res
        gi_wp2
        (try simp only [Exit.inBlock, Exit.then])
        exact bodyPost_ret (results_cell_row rfl _ _ w.heap.size _ #[.int .i64 k, .int .i64 z] (0, 0) _ rfl hd6.out.1 Tryz.underlying39 rfl (by kernel_rfl)) rfl ⟨⟨k, z, by unfold Fits; omega, by unfold Fits; omega, rfl⟩, _, by omega, hd6.out.2⟩
end Go.Proofs.YtiaaefapbcjgmaaGreatDoor
namespace Go.Proofs.YtiaaefapbcjgmaaGreatDoor
open Go Go.RowKit
attribute [local go_sem] Oper.semAt_some

/-- A text of at most m bytes. -/
def TxtLe (m : Nat) (v : Value) : Prop := ∃ l : List Nat, v = .string (str l) ∧ (∀ x ∈ l, x < 256) ∧ l.length ≤ m

theorem app_le {m n t : Nat} {v u : Value} (hv : TxtLe m v) (hu : TxtLe n u) (ht : m + n ≤ t) (_hs : t ≤ 100000) :
    ∃ A, v = .string A ∧ A.size ≤ m ∧ ∃ C, u = .string C ∧ (C.size ≤ n ∧ A.size + C.size ≤ t ∧ TxtLe t (.string (A ++ C))) := by
  obtain ⟨a, rfl, ha, hb⟩ := hv
  obtain ⟨c, rfl, hc, hd⟩ := hu
  refine ⟨_, rfl, by rw [str_size]; exact hb, _, rfl, by rw [str_size]; exact hd, by rw [str_size, str_size]; omega, a ++ c, by rw [str_app], fun x hx => ?_, by rw [List.length_append]; omega⟩
  rcases List.mem_append.1 hx with h | h
  · exact ha x h
  · exact hc x h
end Go.Proofs.YtiaaefapbcjgmaaGreatDoor
namespace Go.Proofs.YtiaaefapbcjgmaaGreatDoor
open Go Go.RowKit
attribute [local go_sem] Oper.semAt_some

theorem rd_belowD {W0 w w' : World} {R len cap p : Nat} {a : Option Addr} (h : Rd W0 R a len cap w p) (hB : Below w.heap.size w w') : Rd W0 R a len cap w' p :=
  ⟨h.1.trans (hB.mono h.1.size), h.2.1, (hB.block R (Array.getElem?_eq_some_iff.1 h.2.2).1).trans h.2.2⟩
end Go.Proofs.YtiaaefapbcjgmaaGreatDoor
namespace Go.Proofs.YtiaaefapbcjgmaaGreatDoor
open Go Go.RowKit
attribute [local go_sem] Oper.semAt_some

theorem below_grownW {W V : World} (h : Below W.heap.size W V) : W.grownBy V none := ⟨h.os, h.tape, h.output, h.size, fun k hk _ => h.block k hk⟩
end Go.Proofs.YtiaaefapbcjgmaaGreatDoor
namespace Go.Proofs.YtiaaefapbcjgmaaGreatDoor
open Go.RowKit

/-- The one of four, of six numbers at a place. -/
def sel4 (i : Nat) (a b c d : Int) : Int := if i = 0 then a else if i = 1 then b else if i = 2 then c else d

theorem sel4_at {i : Nat} (hi : i < 4) (a b c d : Int) : (#[.int .i64 a, .int .i64 b, .int .i64 c, .int .i64 d] : Array Value)[i]? = some (.int .i64 (sel4 i a b c d)) := by
  match i, hi with
  | 0, _ => rfl
  | 1, _ => rfl
  | 2, _ => rfl
  | 3, _ => rfl

theorem sel4_cell {i : Nat} (hi : i < 4) (W : World) (a b c d : Int) : (W.alloc (.cells #[.int .i64 a, .int .i64 b, .int .i64 c, .int .i64 d] 3)).cell? ⟨W.heap.size, i, none⟩ = some (.int .i64 (sel4 i a b c d)) := by
  rw [World.cell?_alloc_at _ _ _ _ rfl]; exact sel4_at hi a b c d

theorem sel4_fits {i : Nat} {a b c d : Int} (ha : Fits a) (hb : Fits b) (hc : Fits c) (hd : Fits d) : Fits (sel4 i a b c d) := by
  unfold sel4; split
  · exact ha
  · split
    · exact hb
    · split
      · exact hc
      · exact hd
end Go.Proofs.YtiaaefapbcjgmaaGreatDoor
namespace Go.Proofs.YtiaaefapbcjgmaaGreatDoor
open Go.RowKit

def knAt (ks : List Kn) (k : Nat) : Kn := (ks[k]?).getD .any

/-- The law for a reader that no operation moves on by more than K. -/
theorem wp_region_reader2 {id : Nat} {ops : Array Oper} {Q : Exit → Act → World → Prop} {act : Act} {w : World} (W0 : World) (R len cap p : Nat) (a : Option Addr) (K : Nat) (hK : K ≤ 200) (hm : Tryz.prog.follows .mixedOrders = true) (hb : backB ops = true) (hsz : ops.size ≤ 100)
    (hR : Rd W0 R a len cap w p) (fr : (Nat → Value) → Act) (ks : List Kn)
    (h0 : ∃ s, act = fr s) (hput : ∀ i o s v, ops[i]? = some o → (fr s).put o.dst v = fr (fun j => if j = i then v else s j))
    (hstep : ∀ i o s W q, q ≤ p + 20000 → ops[i]? = some o → Rd W0 R a len cap W q → (∀ k, (o.after.any fun e => Region.binds .any e && e.on == k) = true → (knAt ks k).holds R (s k) W) → ∀ Q' : Exit → Act → World → Prop,
      (∀ v W' q', q' ≤ q + K → Rd W0 R a len cap W' q' → W.grownBy W' (some R) → (knAt ks i).holds R v W' → Q' .normal ((fr s).put o.dst v) W') → wpListIn Fence.wide 9 Tryz.prog ops Q' [o] (fr s) W)
    (hfin : ∀ s W q, q ≤ p + K * ops.size → Rd W0 R a len cap W q → w.grownBy W (some R) → (∀ k, k < ops.size → (knAt ks k).holds R (s k) W) → Q .normal (fr s) W) : (Code.region id ops true).wp Tryz.prog Q act w := by
  refine wp_region_pred hm hb fr (fun c W => c ≤ ops.size ∧ w.grownBy W (some R) ∧ ∃ q, q ≤ p + K * c ∧ Rd W0 R a len cap W q) (fun W W' => W.grownBy W' (some R)) (fun k v W => (knAt ks k).holds R v W) h0 hput ⟨Nat.zero_le _, grownBy_drew (grownBy_refl _ _), p, by omega, hR.drew⟩ (fun k v W W' h hg => Kn.mono _ h hg) ?_ ?_
  · rintro i o s W c hc ho ⟨_, hgw, q, hq, hRW⟩ hd Q' hQ'
    have h1 : K * c ≤ 200 * 100 := Nat.mul_le_mul hK (by omega)
    exact hstep i o s W q (by omega) ho hRW hd Q' (fun v W' q' hq' h1 h2 h3 => hQ' v W' ⟨by omega, hgw.trans h2, q', by rw [Nat.mul_succ]; omega, h1⟩ h2 h3)
  · rintro s W ⟨c, hc, hgw, q, hq, hRW⟩ hall
    have : K * c ≤ K * ops.size := Nat.mul_le_mul_left K hc
    exact hfin s W q (by omega) hRW hgw hall
end Go.Proofs.YtiaaefapbcjgmaaGreatDoor
namespace Go.Proofs.YtiaaefapbcjgmaaGreatDoor
open Go.RowKit

theorem bits_fits2 (o : BinOp) (x y : Int) : Fits (bits o .i64 x y) := by
  unfold bits
  exact wrap_fits _

/-- The reader has moved on by no more than K. -/
def Moved (W0 : World) (R : Nat) (a : Option Addr) (len cap p K : Nat) (w w' : World) : Prop := ∃ q, q ≤ p + K ∧ Rd W0 R a len cap w' q ∧ w.grownBy w' (some R)

set_option maxHeartbeats 4000000 in
set_option maxRecDepth 100000 in
theorem l20Big2 (W0 : World) (R len cap p : Nat) (a : Option Addr) (w : World) (hb : Bytes W0 a len) (h : Rd W0 R a len cap w p) (hp : p ≤ 900000) :
    Calls Tryz.prog 105 #[.pointer (some ⟨R, 0, none⟩)] w fun e w' => Int1 e ∧ Moved W0 R a len cap p 40 w w' := by
  go_enter Tryz.func105, Tryz.ntmps105
  go_upto_region 1 with fail
  refine wp_region_reader2 W0 R len cap p a 1 (by decide) (by kernel_rfl) (by kernel_rfl) (by decide) h
    (fun s => { tmps := #[.pointer (some ⟨R, 0, none⟩), undef, .int .i64 0, s 29, s 0, s 1, s 2, s 3, s 4, s 5, s 6, s 7, s 8, s 9, s 10, s 11, s 12, s 13, s 14, s 15, s 16, s 17, s 18, s 19, s 20, s 21, s 22, s 23, s 24, s 25, s 26, s 27, s 28, undef, undef, undef, undef, undef, undef, undef, undef, undef, undef, undef], defers := [] })
    [.rd, .fit, .rd, .fit, .fit, .rd, .fit, .fit, .rd, .fit, .fit, .rd, .fit, .fit, .fit, .rd, .fit, .fit, .rd, .rng 28, .fit, .rd, .fit, .fit, .lit 4, .rd, .rng 4, .adr, .fit, .fit] ?h0 ?put ?step ?fin
  case h0 => exact ⟨fun k => undef, by simp⟩
  case put =>
    intro i o s v ho
    have hi : i < 30 := (Array.getElem?_eq_some_iff.1 ho).1
    rcases (show i = 0 ∨ i = 1 ∨ i = 2 ∨ i = 3 ∨ i = 4 ∨ i = 5 ∨ i = 6 ∨ i = 7 ∨ i = 8 ∨ i = 9 ∨ i = 10 ∨ i = 11 ∨ i = 12 ∨ i = 13 ∨ i = 14 ∨ i = 15 ∨ i = 16 ∨ i = 17 ∨ i = 18 ∨ i = 19 ∨ i = 20 ∨ i = 21 ∨ i = 22 ∨ i = 23 ∨ i = 24 ∨ i = 25 ∨ i = 26 ∨ i = 27 ∨ i = 28 ∨ i = 29 by omega) with rfl | rfl | rfl | rfl | rfl | rfl | rfl | rfl | rfl | rfl | rfl | rfl | rfl | rfl | rfl | rfl | rfl | rfl | rfl | rfl | rfl | rfl | rfl | rfl | rfl | rfl | rfl | rfl | rfl | rfl
    all_goals
      simp at ho
      subst ho
      simp [Act.put]
  case step =>
    intro i o s W q hq ho hRW hd Q' hQ'
    have hi : i < 30 := (Array.getElem?_eq_some_iff.1 ho).1
    rcases (show i = 0 ∨ i = 1 ∨ i = 2 ∨ i = 3 ∨ i = 4 ∨ i = 5 ∨ i = 6 ∨ i = 7 ∨ i = 8 ∨ i = 9 ∨ i = 10 ∨ i = 11 ∨ i = 12 ∨ i = 13 ∨ i = 14 ∨ i = 15 ∨ i = 16 ∨ i = 17 ∨ i = 18 ∨ i = 19 ∨ i = 20 ∨ i = 21 ∨ i = 22 ∨ i = 23 ∨ i = 24 ∨ i = 25 ∨ i = 26 ∨ i = 27 ∨ i = 28 ∨ i = 29 by omega) with rfl | rfl | rfl | rfl | rfl | rfl | rfl | rfl | rfl | rfl | rfl | rfl | rfl | rfl | rfl | rfl | rfl | rfl | rfl | rfl | rfl | rfl | rfl | rfl | rfl | rfl | rfl | rfl | rfl | rfl
    all_goals
      simp at ho
      subst ho
      simp [Act.put] at hQ'
      have hQ := hide hQ'
      clear hQ' 
    case inl =>
      gi_wp2
      exact hQ.out _ W q (by omega) hRW (grownBy_refl _ _) rfl
    case inr.inl =>
      have e1 : s 0 = .pointer (some ⟨R, 0, none⟩) := hd 0 (by kernel_rfl)
      gi_wp2_with (refine ⟨trivial, ?_⟩; gi_at_call 42; refine (callsIn_wide.2 (pick_in W0 R len cap _ a (40) _ hb hRW (by omega))).mono ?_; rintro e W' ⟨x, rfl, hx0, hx2, hx1, hrd, hgr, _⟩)
      have hr := hQ.out
      try simp only [e1] at hr
      exact hr _ W' _ (by omega) hrd hgr ⟨x, by unfold Fits; omega, rfl⟩
    case inr.inr.inl =>
      gi_wp2
      exact hQ.out _ W q (by omega) hRW (grownBy_refl _ _) rfl
    case inr.inr.inr.inl =>
      have e1 : s 2 = .pointer (some ⟨R, 0, none⟩) := hd 2 (by kernel_rfl)
      gi_wp2_with (refine ⟨trivial, ?_⟩; gi_at_call 42; refine (callsIn_wide.2 (pick_in W0 R len cap _ a (256) _ hb hRW (by omega))).mono ?_; rintro e W' ⟨x, rfl, hx0, hx2, hx1, hrd, hgr, _⟩)
      have hr := hQ.out
      try simp only [e1] at hr
      exact hr _ W' _ (by omega) hrd hgr ⟨x, by unfold Fits; omega, rfl⟩
    case inr.inr.inr.inr.inl =>
      obtain ⟨x, hx, ex⟩ : ∃ x : Int, Fits x ∧ s 3 = .int .i64 x := hd 3 (by kernel_rfl)
      gi_wp2
      have hr := hQ.out
      try simp only [ex] at hr
      exact hr _ W q (by omega) hRW (grownBy_refl _ _) ⟨_, (by first | exact wrap_fits _ | exact wrap64_fits _ | exact bits_fits2 _ _ _ | (unfold Fits; omega)), rfl⟩
    case inr.inr.inr.inr.inr.inl =>
      gi_wp2
      exact hQ.out _ W q (by omega) hRW (grownBy_refl _ _) rfl
    case inr.inr.inr.inr.inr.inr.inl =>
      have e1 : s 5 = .pointer (some ⟨R, 0, none⟩) := hd 5 (by kernel_rfl)
      gi_wp2_with (refine ⟨trivial, ?_⟩; gi_at_call 42; refine (callsIn_wide.2 (pick_in W0 R len cap _ a (256) _ hb hRW (by omega))).mono ?_; rintro e W' ⟨x, rfl, hx0, hx2, hx1, hrd, hgr, _⟩)
      have hr := hQ.out
      try simp only [e1] at hr
      exact hr _ W' _ (by omega) hrd hgr ⟨x, by unfold Fits; omega, rfl⟩
    case inr.inr.inr.inr.inr.inr.inr.inl =>
      obtain ⟨x, hx, ex⟩ : ∃ x : Int, Fits x ∧ s 4 = .int .i64 x := hd 4 (by kernel_rfl)
      obtain ⟨y, hy, ey⟩ : ∃ x : Int, Fits x ∧ s 6 = .int .i64 x := hd 6 (by kernel_rfl)
      gi_wp2
      have hr := hQ.out
      try simp only [ex, ey] at hr
      exact hr _ W q (by omega) hRW (grownBy_refl _ _) ⟨_, (by first | exact wrap_fits _ | exact wrap64_fits _ | exact bits_fits2 _ _ _ | (unfold Fits; omega)), rfl⟩
    case inr.inr.inr.inr.inr.inr.inr.inr.inl =>
      gi_wp2
      exact hQ.out _ W q (by omega) hRW (grownBy_refl _ _) rfl
    case inr.inr.inr.inr.inr.inr.inr.inr.inr.inl =>
      have e1 : s 8 = .pointer (some ⟨R, 0, none⟩) := hd 8 (by kernel_rfl)
      gi_wp2_with (refine ⟨trivial, ?_⟩; gi_at_call 42; refine (callsIn_wide.2 (pick_in W0 R len cap _ a (250) _ hb hRW (by omega))).mono ?_; rintro e W' ⟨x, rfl, hx0, hx2, hx1, hrd, hgr, _⟩)
      have hr := hQ.out
      try simp only [e1] at hr
      exact hr _ W' _ (by omega) hrd hgr ⟨x, by unfold Fits; omega, rfl⟩
    case inr.inr.inr.inr.inr.inr.inr.inr.inr.inr.inl =>
      obtain ⟨x, hx, ex⟩ : ∃ x : Int, Fits x ∧ s 9 = .int .i64 x := hd 9 (by kernel_rfl)
      gi_wp2
      have hr := hQ.out
      try simp only [ex] at hr
      exact hr _ W q (by omega) hRW (grownBy_refl _ _) ⟨_, (by first | exact wrap_fits _ | exact wrap64_fits _ | exact bits_fits2 _ _ _ | (unfold Fits; omega)), rfl⟩
    case inr.inr.inr.inr.inr.inr.inr.inr.inr.inr.inr.inl =>
      gi_wp2
      exact hQ.out _ W q (by omega) hRW (grownBy_refl _ _) rfl
    case inr.inr.inr.inr.inr.inr.inr.inr.inr.inr.inr.inr.inl =>
      have e1 : s 11 = .pointer (some ⟨R, 0, none⟩) := hd 11 (by kernel_rfl)
      gi_wp2_with (refine ⟨trivial, ?_⟩; gi_at_call 42; refine (callsIn_wide.2 (pick_in W0 R len cap _ a (250) _ hb hRW (by omega))).mono ?_; rintro e W' ⟨x, rfl, hx0, hx2, hx1, hrd, hgr, _⟩)
      have hr := hQ.out
      try simp only [e1] at hr
      exact hr _ W' _ (by omega) hrd hgr ⟨x, by unfold Fits; omega, rfl⟩
    case inr.inr.inr.inr.inr.inr.inr.inr.inr.inr.inr.inr.inr.inl =>
      obtain ⟨x, hx, ex⟩ : ∃ x : Int, Fits x ∧ s 12 = .int .i64 x := hd 12 (by kernel_rfl)
      gi_wp2
      have hr := hQ.out
      try simp only [ex] at hr
      exact hr _ W q (by omega) hRW (grownBy_refl _ _) ⟨_, (by first | exact wrap_fits _ | exact wrap64_fits _ | exact bits_fits2 _ _ _ | (unfold Fits; omega)), rfl⟩
    case inr.inr.inr.inr.inr.inr.inr.inr.inr.inr.inr.inr.inr.inr.inl =>
      obtain ⟨x, hx, ex⟩ : ∃ x : Int, Fits x ∧ s 10 = .int .i64 x := hd 10 (by kernel_rfl)
      obtain ⟨y, hy, ey⟩ : ∃ x : Int, Fits x ∧ s 13 = .int .i64 x := hd 13 (by kernel_rfl)
      gi_wp2
      have hr := hQ.out
      try simp only [ex, ey] at hr
      exact hr _ W q (by omega) hRW (grownBy_refl _ _) ⟨_, (by first | exact wrap_fits _ | exact wrap64_fits _ | exact bits_fits2 _ _ _ | (unfold Fits; omega)), rfl⟩
    case inr.inr.inr.inr.inr.inr.inr.inr.inr.inr.inr.inr.inr.inr.inr.inl =>
      gi_wp2
      exact hQ.out _ W q (by omega) hRW (grownBy_refl _ _) rfl
    case inr.inr.inr.inr.inr.inr.inr.inr.inr.inr.inr.inr.inr.inr.inr.inr.inl =>
      have e1 : s 15 = .pointer (some ⟨R, 0, none⟩) := hd 15 (by kernel_rfl)
      gi_wp2_with (refine ⟨trivial, ?_⟩; gi_at_call 42; refine (callsIn_wide.2 (pick_in W0 R len cap _ a (250) _ hb hRW (by omega))).mono ?_; rintro e W' ⟨x, rfl, hx0, hx2, hx1, hrd, hgr, _⟩)
      have hr := hQ.out
      try simp only [e1] at hr
      exact hr _ W' _ (by omega) hrd hgr ⟨x, by unfold Fits; omega, rfl⟩
    case inr.inr.inr.inr.inr.inr.inr.inr.inr.inr.inr.inr.inr.inr.inr.inr.inr.inl =>
      obtain ⟨x, hx, ex⟩ : ∃ x : Int, Fits x ∧ s 14 = .int .i64 x := hd 14 (by kernel_rfl)
      obtain ⟨y, hy, ey⟩ : ∃ x : Int, Fits x ∧ s 16 = .int .i64 x := hd 16 (by kernel_rfl)
      gi_wp2
      have hr := hQ.out
      try simp only [ex, ey] at hr
      exact hr _ W q (by omega) hRW (grownBy_refl _ _) ⟨_, (by first | exact wrap_fits _ | exact wrap64_fits _ | exact bits_fits2 _ _ _ | (unfold Fits; omega)), rfl⟩
    case inr.inr.inr.inr.inr.inr.inr.inr.inr.inr.inr.inr.inr.inr.inr.inr.inr.inr.inl =>
      gi_wp2
      exact hQ.out _ W q (by omega) hRW (grownBy_refl _ _) rfl
    case inr.inr.inr.inr.inr.inr.inr.inr.inr.inr.inr.inr.inr.inr.inr.inr.inr.inr.inr.inl =>
      have e1 : s 18 = .pointer (some ⟨R, 0, none⟩) := hd 18 (by kernel_rfl)
      gi_wp2_with (refine ⟨trivial, ?_⟩; gi_at_call 42; refine (callsIn_wide.2 (pick_in W0 R len cap _ a (28) _ hb hRW (by omega))).mono ?_; rintro e W' ⟨x, rfl, hx0, hx2, hx1, hrd, hgr, _⟩)
      replace hx1 := hx1 (by omega)
      obtain ⟨y, rfl⟩ : ∃ y : Nat, x = y := ⟨x.toNat, by omega⟩
      have hr := hQ.out
      try simp only [e1] at hr
      exact hr _ W' _ (by omega) hrd hgr ⟨y, by omega, rfl⟩
    case inr.inr.inr.inr.inr.inr.inr.inr.inr.inr.inr.inr.inr.inr.inr.inr.inr.inr.inr.inr.inl =>
      obtain ⟨y, hy, ey⟩ : ∃ x : Nat, x < 28 ∧ s 19 = .int .i64 x := hd 19 (by kernel_rfl)
      have hyi : (0 : Int) ≤ (y : Int) := by omega
      gi_wp2
      have hr := hQ.out
      try simp only [ey] at hr
      exact hr _ W q (by omega) hRW (grownBy_refl _ _) ⟨_, (by first | exact wrap_fits _ | exact wrap64_fits _ | exact bits_fits2 _ _ _ | (unfold Fits; omega)), rfl⟩
    case inr.inr.inr.inr.inr.inr.inr.inr.inr.inr.inr.inr.inr.inr.inr.inr.inr.inr.inr.inr.inr.inl =>
      gi_wp2
      exact hQ.out _ W q (by omega) hRW (grownBy_refl _ _) rfl
    case inr.inr.inr.inr.inr.inr.inr.inr.inr.inr.inr.inr.inr.inr.inr.inr.inr.inr.inr.inr.inr.inr.inl =>
      have e1 : s 21 = .pointer (some ⟨R, 0, none⟩) := hd 21 (by kernel_rfl)
      gi_wp2_with (refine ⟨trivial, ?_⟩; gi_at_call 42; refine (callsIn_wide.2 (pick_in W0 R len cap _ a (2) _ hb hRW (by omega))).mono ?_; rintro e W' ⟨x, rfl, hx0, hx2, hx1, hrd, hgr, _⟩)
      have hr := hQ.out
      try simp only [e1] at hr
      exact hr _ W' _ (by omega) hrd hgr ⟨x, by unfold Fits; omega, rfl⟩
    case inr.inr.inr.inr.inr.inr.inr.inr.inr.inr.inr.inr.inr.inr.inr.inr.inr.inr.inr.inr.inr.inr.inr.inl =>
      obtain ⟨x, hx, ex⟩ : ∃ x : Int, Fits x ∧ s 20 = .int .i64 x := hd 20 (by kernel_rfl)
      obtain ⟨y, hy, ey⟩ : ∃ x : Int, Fits x ∧ s 22 = .int .i64 x := hd 22 (by kernel_rfl)
      gi_wp2
      have hr := hQ.out
      try simp only [ex, ey] at hr
      exact hr _ W q (by omega) hRW (grownBy_refl _ _) ⟨_, (by first | exact wrap_fits _ | exact wrap64_fits _ | exact bits_fits2 _ _ _ | (unfold Fits; omega)), rfl⟩
    case inr.inr.inr.inr.inr.inr.inr.inr.inr.inr.inr.inr.inr.inr.inr.inr.inr.inr.inr.inr.inr.inr.inr.inr.inl =>
      obtain ⟨x0, hx0, ex0⟩ : ∃ x : Int, Fits x ∧ s 1 = .int .i64 x := hd 1 (by kernel_rfl)
      obtain ⟨x1, hx1, ex1⟩ : ∃ x : Int, Fits x ∧ s 7 = .int .i64 x := hd 7 (by kernel_rfl)
      obtain ⟨x2, hx2, ex2⟩ : ∃ x : Int, Fits x ∧ s 17 = .int .i64 x := hd 17 (by kernel_rfl)
      obtain ⟨x3, hx3, ex3⟩ : ∃ x : Int, Fits x ∧ s 23 = .int .i64 x := hd 23 (by kernel_rfl)
      have hne := hRW.ne
      gi_wp2
      have hr := hQ.out
      try simp only [ex0, ex1, ex2, ex3] at hr
      exact hr _ _ q (by omega) (hRW.alloc _) (World.grownBy_alloc _ _ _) ⟨W.heap.size, rfl, fun e => by rw [hne] at e; exact e, by simp, fun i hi => ⟨_, sel4_fits hx0 hx1 hx2 hx3, sel4_cell hi W x0 x1 x2 x3⟩⟩
    case inr.inr.inr.inr.inr.inr.inr.inr.inr.inr.inr.inr.inr.inr.inr.inr.inr.inr.inr.inr.inr.inr.inr.inr.inr.inl =>
      gi_wp2
      exact hQ.out _ W q (by omega) hRW (grownBy_refl _ _) rfl
    case inr.inr.inr.inr.inr.inr.inr.inr.inr.inr.inr.inr.inr.inr.inr.inr.inr.inr.inr.inr.inr.inr.inr.inr.inr.inr.inl =>
      have e1 : s 25 = .pointer (some ⟨R, 0, none⟩) := hd 25 (by kernel_rfl)
      gi_wp2_with (refine ⟨trivial, ?_⟩; gi_at_call 42; refine (callsIn_wide.2 (pick_in W0 R len cap _ a (4) _ hb hRW (by omega))).mono ?_; rintro e W' ⟨x, rfl, hx0, hx2, hx1, hrd, hgr, _⟩)
      replace hx1 := hx1 (by omega)
      obtain ⟨y, rfl⟩ : ∃ y : Nat, x = y := ⟨x.toNat, by omega⟩
      have hr := hQ.out
      try simp only [e1] at hr
      exact hr _ W' _ (by omega) hrd hgr ⟨y, by omega, rfl⟩
    case inr.inr.inr.inr.inr.inr.inr.inr.inr.inr.inr.inr.inr.inr.inr.inr.inr.inr.inr.inr.inr.inr.inr.inr.inr.inr.inr.inl =>
      obtain ⟨g, e1, g1, g2, g3⟩ : ∃ g, s 24 = .slice (some ⟨g, 0, none⟩) 4 4 ∧ g ≠ R ∧ g < W.heap.size ∧ ∀ i, i < 4 → ∃ x : Int, Fits x ∧ W.cell? ⟨g, i, none⟩ = some (.int .i64 x) := hd 24 (by kernel_rfl)
      obtain ⟨y, hy, e2⟩ : ∃ x : Nat, x < 4 ∧ s 26 = .int .i64 x := hd 26 (by kernel_rfl)
      have hg := g3 y (by omega)
      clear g3
      have hyi : (y : Int) < 4 := by omega
      gi_wp2
      have hr := hQ.out
      try simp only [e1, e2] at hr
      exact hr _ W q (by omega) hRW (grownBy_refl _ _) ⟨g, y, rfl, g1, g2, hg⟩
    case inr.inr.inr.inr.inr.inr.inr.inr.inr.inr.inr.inr.inr.inr.inr.inr.inr.inr.inr.inr.inr.inr.inr.inr.inr.inr.inr.inr.inl =>
      obtain ⟨g, y, e1, _, _, x, hx, hc⟩ : ∃ g i, s 27 = .pointer (some ⟨g, i, none⟩) ∧ g ≠ R ∧ g < W.heap.size ∧ ∃ x : Int, Fits x ∧ W.cell? ⟨g, i, none⟩ = some (.int .i64 x) := hd 27 (by kernel_rfl)
      gi_wp2
      have hr := hQ.out
      try simp only [e1] at hr
      exact hr _ W q (by omega) hRW (grownBy_refl _ _) ⟨x, hx, rfl⟩
    case inr.inr.inr.inr.inr.inr.inr.inr.inr.inr.inr.inr.inr.inr.inr.inr.inr.inr.inr.inr.inr.inr.inr.inr.inr.inr.inr.inr.inr =>
      obtain ⟨x, hx, ex⟩ : ∃ x : Int, Fits x ∧ s 28 = .int .i64 x := hd 28 (by kernel_rfl)
      gi_wp2
      have hr := hQ.out
      try simp only [ex] at hr
      exact hr _ W q (by omega) hRW (grownBy_refl _ _) ⟨_, hx, rfl⟩
  case fin =>
    rintro s W q hq hRW hgW hall
    obtain ⟨x, hx, ex⟩ : ∃ x : Int, Fits x ∧ s 29 = .int .i64 x := hall 29 (by decide)
    have hq' : q ≤ p + 30 := by have := hq; exact this
    clear hq
    rw [ex]
    go_wp2_with (go_at_call 42; (with_reducible refine (pick_in W0 R len cap _ a _ _ hb (by assumption) (by omega)).mono ?_); rintro e w' ⟨x2, rfl, hx0, _, hx1, hrd, hgr, hon⟩; clear hx0 hx1 hon; replace hgW := hgW.trans hgr; clear hgr)
    all_goals
      go_ret
      refine ⟨⟨_, by first | exact wrap_fits _ | exact wrap64_fits _, rfl⟩, _, ?_, by assumption, hgW⟩
      omega
end Go.Proofs.YtiaaefapbcjgmaaGreatDoor
namespace Go.Proofs.YtiaaefapbcjgmaaGreatDoor
open Go Go.RowKit
attribute [local go_sem] Oper.semAt_some

/-- What an operation of the region leaves. -/
inductive LK where
  | ptr
  | num (n : Nat)
  | fit
  | nat
  | sl (n : Nat)
  | ad
  | tx (m : Nat)
  | any

def LK.ok (R : Nat) (V : World) (v : Value) : LK → Prop
  | .ptr => v = .pointer (some ⟨R, 0, none⟩)
  | .num n => ∃ x : Nat, x < n ∧ v = .int .i64 x
  | .fit => ∃ x : Int, Fits x ∧ v = .int .i64 x
  | .nat => ∃ x : Nat, x ≤ 9223372036854775807 ∧ v = .int .i64 x
  | .sl n => ∃ g, v = .slice (some ⟨g, 0, none⟩) n n ∧ g ≠ R ∧ g < V.heap.size ∧ ∀ j, j < n → ∃ z, TxtLe 8 z ∧ V.cell? ⟨g, j, none⟩ = some z
  | .ad => ∃ g j, v = .pointer (some ⟨g, j, none⟩) ∧ g ≠ R ∧ g < V.heap.size ∧ ∃ z, TxtLe 8 z ∧ V.cell? ⟨g, j, none⟩ = some z
  | .tx m => TxtLe m v
  | .any => True

theorem LK.kept {R : Nat} {V V' : World} {v : Value} {k : LK} (h : k.ok R V v) (hg : V.grownBy V' (some R)) : k.ok R V' v := by
  cases k with
  | ptr => exact h
  | num n => exact h
  | fit => exact h
  | nat => exact h
  | sl n =>
    obtain ⟨g, h1, h2, h3, h4⟩ := h
    exact ⟨g, h1, h2, Nat.lt_of_lt_of_le h3 hg.size, fun j hj => by obtain ⟨z, z1, z2⟩ := h4 j hj; exact ⟨z, z1, (grown_cell12 hg h3 h2 j).trans z2⟩⟩
  | ad =>
    obtain ⟨g, j, h1, h2, h3, z, h4, h6⟩ := h
    exact ⟨g, j, h1, h2, Nat.lt_of_lt_of_le h3 hg.size, z, h4, (grown_cell12 hg h3 h2 j).trans h6⟩
  | tx m => exact h
  | any => trivial

theorem grown_any {V V' : World} (h : V.grownBy V' none) (R : Nat) : V.grownBy V' (some R) := ⟨h.os, h.tape, h.output, h.size, fun k hk _ => h.block k hk (by simp)⟩

theorem txt_num (n : Nat) : TxtLe 22 (.string (str (decF 20 n))) := ⟨_, rfl, fun x hx => by have := dec_byte 20 n x hx; omega, by have := decF_len 20 n; omega⟩

theorem txt_one : TxtLe 1 (.string ⟨#[32]⟩) := ⟨[32], by kernel_rfl, by decide, by decide⟩

theorem num_in (n : Nat) (h : n ≤ 9223372036854775807) (w : World) : Calls Tryz.prog 67 #[.int .i64 n] w fun e w' => ∃ S, e = .returned (.string S) ∧ TxtLe 22 (.string S) ∧ Below w.heap.size w w' :=
  (specNumF 20 n (Nat.lt_of_le_of_lt h (by decide)) h (by omega) w).mono fun _ _ ⟨h1, h2⟩ => ⟨_, h1, txt_num n, h2⟩

/-- Texts that lie in a block just made. -/
theorem texts_cells (V : World) (L : List ByteArray) (h : ∀ S ∈ L, TxtLe 8 (.string S)) : ∀ j, j < L.length → ∃ z, TxtLe 8 z ∧ (V.alloc (.cells ((L.map Value.string).toArray) 9)).cell? ⟨V.heap.size, j, none⟩ = some z := fun j hj => by
  have hb := World.alloc_heap_new V (.cells ((L.map Value.string).toArray) 9)
  refine ⟨.string (L[j]), h _ (List.getElem_mem hj), ?_⟩
  unfold World.cell?
  rw [hb]
  simp [hj]

theorem txt_le {m n : Nat} {v : Value} (h : TxtLe m v) (hl : m ≤ n) : TxtLe n v := by
  obtain ⟨l, h1, h2, h3⟩ := h
  exact ⟨l, h1, h2, by omega⟩

set_option maxRecDepth 100000 in
set_option maxHeartbeats 8000000 in
theorem l20Line_in (W0 : World) (R len cap p : Nat) (a : Option Addr) (w : World) (hb : Bytes W0 a len) (h : Rd W0 R a len cap w p) (hp : p ≤ 700000) (rv : Option Addr) (rn rc : Nat) (hrn : rn ≤ 13) :
    Calls Tryz.prog 64 #[.pointer (some ⟨R, 0, none⟩), .slice rv rn rc] w fun e w' => (∃ v, e = .returned v ∧ TxtLe 80 v) ∧ ∃ p', p' ≤ p + 900 ∧ Rd W0 R a len cap w' p' ∧ w.grownBy w' (some R) := by
  have hRw := h.lt
  have hW0R := h.2.1
  refine (callsIn_wide (n := 9)).1 ?_
  refine callsIn_of_wp Tryz.func64 rfl trivial ?_ rfl
  simp only [Tryz.ntmps64, List.size_toArray, List.length_cons, List.length_nil, Nat.reduceAdd, Nat.reduceSub, Array.replicate_succ, Array.replicate_zero, List.push_toArray, List.append_toArray, List.nil_append, List.cons_append]
  gi_wp2_with fail
  refine ⟨trivial, ?_⟩
  gi_at_call 42
  refine (callsIn_wide.2 (pick_in W0 R len cap p a _ w hb h (by omega))).mono ?_
  rintro e w1 ⟨x, rfl, hx0, _, hx1, hR1, hg1, _⟩
  have hx2 := hx1 (by omega)
  clear hx1 h
  rcases (show x = 0 ∨ x = 1 ∨ x = 2 ∨ x = 3 ∨ x = 4 ∨ 5 ≤ x by omega) with rfl | rfl | rfl | rfl | rfl | hk
  · clear hx0 hx2
    have hcs := fun j (hj : j < 5) => (by
      have h := World.alloc_heap_new w1 (.cells #[.string ⟨#[114, 111, 119]⟩, .string ⟨#[111, 110, 101, 115]⟩, .string ⟨#[108, 97, 115, 116]⟩, .string ⟨#[101, 110, 100]⟩, .string ⟨#[98, 97, 108, 97, 110, 99, 101, 100]⟩] 9)
      rcases (show j = 0 ∨ j = 1 ∨ j = 2 ∨ j = 3 ∨ j = 4 by omega) with rfl | rfl | rfl | rfl | rfl
      · exact ⟨_, ⟨[114, 111, 119], by kernel_rfl, by decide, by decide⟩, by unfold World.cell?; rw [h]; rfl⟩
      · exact ⟨_, ⟨[111, 110, 101, 115], by kernel_rfl, by decide, by decide⟩, by unfold World.cell?; rw [h]; rfl⟩
      · exact ⟨_, ⟨[108, 97, 115, 116], by kernel_rfl, by decide, by decide⟩, by unfold World.cell?; rw [h]; rfl⟩
      · exact ⟨_, ⟨[101, 110, 100], by kernel_rfl, by decide, by decide⟩, by unfold World.cell?; rw [h]; rfl⟩
      · exact ⟨_, ⟨[98, 97, 108, 97, 110, 99, 101, 100], by kernel_rfl, by decide, by decide⟩, by unfold World.cell?; rw [h]; rfl⟩
      : ∃ z, TxtLe 80 z ∧ (w1.alloc (.cells #[.string ⟨#[114, 111, 119]⟩, .string ⟨#[111, 110, 101, 115]⟩, .string ⟨#[108, 97, 115, 116]⟩, .string ⟨#[101, 110, 100]⟩, .string ⟨#[98, 97, 108, 97, 110, 99, 101, 100]⟩] 9)).cell? ⟨w1.heap.size, j, none⟩ = some z)
    have hRa := hR1.alloc (.cells #[.string ⟨#[114, 111, 119]⟩, .string ⟨#[111, 110, 101, 115]⟩, .string ⟨#[108, 97, 115, 116]⟩, .string ⟨#[101, 110, 100]⟩, .string ⟨#[98, 97, 108, 97, 110, 99, 101, 100]⟩] 9)
    have hga : w1.grownBy (w1.alloc (.cells #[.string ⟨#[114, 111, 119]⟩, .string ⟨#[111, 110, 101, 115]⟩, .string ⟨#[108, 97, 115, 116]⟩, .string ⟨#[101, 110, 100]⟩, .string ⟨#[98, 97, 108, 97, 110, 99, 101, 100]⟩] 9)) (some R) := World.grownBy_alloc _ _ _
    have zR := hR1.lt
    have zA := World.size_alloc w1 (.cells #[.string ⟨#[114, 111, 119]⟩, .string ⟨#[111, 110, 101, 115]⟩, .string ⟨#[108, 97, 115, 116]⟩, .string ⟨#[101, 110, 100]⟩, .string ⟨#[98, 97, 108, 97, 110, 99, 101, 100]⟩] 9)
    obtain ⟨g, hgE⟩ : ∃ g, w1.heap.size = g := ⟨_, rfl⟩
    rw [hgE] at hcs zR zA
    obtain ⟨wa, hwa⟩ : ∃ wa, w1.alloc (.cells #[.string ⟨#[114, 111, 119]⟩, .string ⟨#[111, 110, 101, 115]⟩, .string ⟨#[108, 97, 115, 116]⟩, .string ⟨#[101, 110, 100]⟩, .string ⟨#[98, 97, 108, 97, 110, 99, 101, 100]⟩] 9) = wa := ⟨_, rfl⟩
    rw [hwa] at hcs hRa hga zA
    have hga1 : g < wa.heap.size := by omega
    clear zA
    gi_wp2_with fail
    refine ⟨trivial, ?_⟩
    gi_at_call 42
    refine (callsIn_wide.2 (pick_in W0 R len cap (p + 1) a _ wa hb hRa (by omega))).mono ?_
    rintro e w2 ⟨x, rfl, hx0, _, hx1, hR2, hg2, _⟩
    have hx2 := hx1 (by omega)
    obtain ⟨y, rfl⟩ : ∃ y : Nat, x = y := ⟨x.toNat, by omega⟩
    have hyi : (y : Int) < 5 := by omega
    obtain ⟨z, hz, hc⟩ := hcs y (by omega)
    have hc2 := (grown_cell12 hg2 hga1 (by omega) y).trans hc
    obtain ⟨zl, rfl, _⟩ := id hz
    have hgf := (hg1.trans hga).trans hg2
    clear hcs hc hwa hx1
    gi_wp2
    go_ret
    exact ⟨⟨_, rfl, hz⟩, p + 1 + 1, by omega, hR2, hgf⟩
  · clear hx0 hx2
    have hcs := fun j (hj : j < 5) => (by
      have h := World.alloc_heap_new w1 (.cells #[.string ⟨#[114, 111, 119]⟩, .string ⟨#[111, 110, 101, 115]⟩, .string ⟨#[108, 97, 115, 116]⟩, .string ⟨#[101, 110, 100]⟩, .string ⟨#[98, 97, 108, 97, 110, 99, 101, 100]⟩] 9)
      rcases (show j = 0 ∨ j = 1 ∨ j = 2 ∨ j = 3 ∨ j = 4 by omega) with rfl | rfl | rfl | rfl | rfl
      · exact ⟨_, ⟨[114, 111, 119], by kernel_rfl, by decide, by decide⟩, by unfold World.cell?; rw [h]; rfl⟩
      · exact ⟨_, ⟨[111, 110, 101, 115], by kernel_rfl, by decide, by decide⟩, by unfold World.cell?; rw [h]; rfl⟩
      · exact ⟨_, ⟨[108, 97, 115, 116], by kernel_rfl, by decide, by decide⟩, by unfold World.cell?; rw [h]; rfl⟩
      · exact ⟨_, ⟨[101, 110, 100], by kernel_rfl, by decide, by decide⟩, by unfold World.cell?; rw [h]; rfl⟩
      · exact ⟨_, ⟨[98, 97, 108, 97, 110, 99, 101, 100], by kernel_rfl, by decide, by decide⟩, by unfold World.cell?; rw [h]; rfl⟩
      : ∃ z, TxtLe 80 z ∧ (w1.alloc (.cells #[.string ⟨#[114, 111, 119]⟩, .string ⟨#[111, 110, 101, 115]⟩, .string ⟨#[108, 97, 115, 116]⟩, .string ⟨#[101, 110, 100]⟩, .string ⟨#[98, 97, 108, 97, 110, 99, 101, 100]⟩] 9)).cell? ⟨w1.heap.size, j, none⟩ = some z)
    have hRa := hR1.alloc (.cells #[.string ⟨#[114, 111, 119]⟩, .string ⟨#[111, 110, 101, 115]⟩, .string ⟨#[108, 97, 115, 116]⟩, .string ⟨#[101, 110, 100]⟩, .string ⟨#[98, 97, 108, 97, 110, 99, 101, 100]⟩] 9)
    have hga : w1.grownBy (w1.alloc (.cells #[.string ⟨#[114, 111, 119]⟩, .string ⟨#[111, 110, 101, 115]⟩, .string ⟨#[108, 97, 115, 116]⟩, .string ⟨#[101, 110, 100]⟩, .string ⟨#[98, 97, 108, 97, 110, 99, 101, 100]⟩] 9)) (some R) := World.grownBy_alloc _ _ _
    have zR := hR1.lt
    have zA := World.size_alloc w1 (.cells #[.string ⟨#[114, 111, 119]⟩, .string ⟨#[111, 110, 101, 115]⟩, .string ⟨#[108, 97, 115, 116]⟩, .string ⟨#[101, 110, 100]⟩, .string ⟨#[98, 97, 108, 97, 110, 99, 101, 100]⟩] 9)
    obtain ⟨g, hgE⟩ : ∃ g, w1.heap.size = g := ⟨_, rfl⟩
    rw [hgE] at hcs zR zA
    obtain ⟨wa, hwa⟩ : ∃ wa, w1.alloc (.cells #[.string ⟨#[114, 111, 119]⟩, .string ⟨#[111, 110, 101, 115]⟩, .string ⟨#[108, 97, 115, 116]⟩, .string ⟨#[101, 110, 100]⟩, .string ⟨#[98, 97, 108, 97, 110, 99, 101, 100]⟩] 9) = wa := ⟨_, rfl⟩
    rw [hwa] at hcs hRa hga zA
    have hga1 : g < wa.heap.size := by omega
    clear zA
    gi_wp2_with fail
    refine ⟨trivial, ?_⟩
    gi_at_call 42
    refine (callsIn_wide.2 (pick_in W0 R len cap (p + 1) a _ wa hb hRa (by omega))).mono ?_
    rintro e w2 ⟨x, rfl, hx0, _, hx1, hR2, hg2, _⟩
    have hx2 := hx1 (by omega)
    obtain ⟨y, rfl⟩ : ∃ y : Nat, x = y := ⟨x.toNat, by omega⟩
    have hyi : (y : Int) < 5 := by omega
    obtain ⟨z, hz, hc⟩ := hcs y (by omega)
    have hc2 := (grown_cell12 hg2 hga1 (by omega) y).trans hc
    obtain ⟨zl, rfl, _⟩ := id hz
    have hgf := (hg1.trans hga).trans hg2
    clear hcs hc hwa hx1
    gi_wp2
    go_ret
    exact ⟨⟨_, rfl, hz⟩, p + 1 + 1, by omega, hR2, hgf⟩
  · clear hx0 hx2
    have hcs := fun j (hj : j < 13) => (by
      have h := World.alloc_heap_new w1 (.cells #[.string ⟨#[]⟩, .string ⟨#[102, 108, 105, 112]⟩, .string ⟨#[102, 108, 105, 112, 32, 120]⟩, .string ⟨#[112, 117, 116, 32, 50]⟩, .string ⟨#[99, 101, 108, 108, 32, 52]⟩, .string ⟨#[99, 101, 108, 108, 32, 52, 32, 120]⟩, .string ⟨#[108, 101, 102, 116, 32, 52, 32, 50]⟩, .string ⟨#[119, 97, 121, 115, 32, 51, 49]⟩, .string ⟨#[115, 104, 97, 114, 101, 100, 32, 49]⟩, .string ⟨#[107, 101, 112, 116, 32, 53, 32, 52]⟩, .string ⟨#[32, 114, 111, 119]⟩, .string ⟨#[117, 110, 100, 101, 114, 32, 48]⟩, .string ⟨#[99, 101, 108, 108, 32, 48, 52, 32, 50]⟩] 9)
      rcases (show j = 0 ∨ j = 1 ∨ j = 2 ∨ j = 3 ∨ j = 4 ∨ j = 5 ∨ j = 6 ∨ j = 7 ∨ j = 8 ∨ j = 9 ∨ j = 10 ∨ j = 11 ∨ j = 12 by omega) with rfl | rfl | rfl | rfl | rfl | rfl | rfl | rfl | rfl | rfl | rfl | rfl | rfl
      · exact ⟨_, ⟨[], by kernel_rfl, by decide, by decide⟩, by unfold World.cell?; rw [h]; rfl⟩
      · exact ⟨_, ⟨[102, 108, 105, 112], by kernel_rfl, by decide, by decide⟩, by unfold World.cell?; rw [h]; rfl⟩
      · exact ⟨_, ⟨[102, 108, 105, 112, 32, 120], by kernel_rfl, by decide, by decide⟩, by unfold World.cell?; rw [h]; rfl⟩
      · exact ⟨_, ⟨[112, 117, 116, 32, 50], by kernel_rfl, by decide, by decide⟩, by unfold World.cell?; rw [h]; rfl⟩
      · exact ⟨_, ⟨[99, 101, 108, 108, 32, 52], by kernel_rfl, by decide, by decide⟩, by unfold World.cell?; rw [h]; rfl⟩
      · exact ⟨_, ⟨[99, 101, 108, 108, 32, 52, 32, 120], by kernel_rfl, by decide, by decide⟩, by unfold World.cell?; rw [h]; rfl⟩
      · exact ⟨_, ⟨[108, 101, 102, 116, 32, 52, 32, 50], by kernel_rfl, by decide, by decide⟩, by unfold World.cell?; rw [h]; rfl⟩
      · exact ⟨_, ⟨[119, 97, 121, 115, 32, 51, 49], by kernel_rfl, by decide, by decide⟩, by unfold World.cell?; rw [h]; rfl⟩
      · exact ⟨_, ⟨[115, 104, 97, 114, 101, 100, 32, 49], by kernel_rfl, by decide, by decide⟩, by unfold World.cell?; rw [h]; rfl⟩
      · exact ⟨_, ⟨[107, 101, 112, 116, 32, 53, 32, 52], by kernel_rfl, by decide, by decide⟩, by unfold World.cell?; rw [h]; rfl⟩
      · exact ⟨_, ⟨[32, 114, 111, 119], by kernel_rfl, by decide, by decide⟩, by unfold World.cell?; rw [h]; rfl⟩
      · exact ⟨_, ⟨[117, 110, 100, 101, 114, 32, 48], by kernel_rfl, by decide, by decide⟩, by unfold World.cell?; rw [h]; rfl⟩
      · exact ⟨_, ⟨[99, 101, 108, 108, 32, 48, 52, 32, 50], by kernel_rfl, by decide, by decide⟩, by unfold World.cell?; rw [h]; rfl⟩
      : ∃ z, TxtLe 80 z ∧ (w1.alloc (.cells #[.string ⟨#[]⟩, .string ⟨#[102, 108, 105, 112]⟩, .string ⟨#[102, 108, 105, 112, 32, 120]⟩, .string ⟨#[112, 117, 116, 32, 50]⟩, .string ⟨#[99, 101, 108, 108, 32, 52]⟩, .string ⟨#[99, 101, 108, 108, 32, 52, 32, 120]⟩, .string ⟨#[108, 101, 102, 116, 32, 52, 32, 50]⟩, .string ⟨#[119, 97, 121, 115, 32, 51, 49]⟩, .string ⟨#[115, 104, 97, 114, 101, 100, 32, 49]⟩, .string ⟨#[107, 101, 112, 116, 32, 53, 32, 52]⟩, .string ⟨#[32, 114, 111, 119]⟩, .string ⟨#[117, 110, 100, 101, 114, 32, 48]⟩, .string ⟨#[99, 101, 108, 108, 32, 48, 52, 32, 50]⟩] 9)).cell? ⟨w1.heap.size, j, none⟩ = some z)
    have hRa := hR1.alloc (.cells #[.string ⟨#[]⟩, .string ⟨#[102, 108, 105, 112]⟩, .string ⟨#[102, 108, 105, 112, 32, 120]⟩, .string ⟨#[112, 117, 116, 32, 50]⟩, .string ⟨#[99, 101, 108, 108, 32, 52]⟩, .string ⟨#[99, 101, 108, 108, 32, 52, 32, 120]⟩, .string ⟨#[108, 101, 102, 116, 32, 52, 32, 50]⟩, .string ⟨#[119, 97, 121, 115, 32, 51, 49]⟩, .string ⟨#[115, 104, 97, 114, 101, 100, 32, 49]⟩, .string ⟨#[107, 101, 112, 116, 32, 53, 32, 52]⟩, .string ⟨#[32, 114, 111, 119]⟩, .string ⟨#[117, 110, 100, 101, 114, 32, 48]⟩, .string ⟨#[99, 101, 108, 108, 32, 48, 52, 32, 50]⟩] 9)
    have hga : w1.grownBy (w1.alloc (.cells #[.string ⟨#[]⟩, .string ⟨#[102, 108, 105, 112]⟩, .string ⟨#[102, 108, 105, 112, 32, 120]⟩, .string ⟨#[112, 117, 116, 32, 50]⟩, .string ⟨#[99, 101, 108, 108, 32, 52]⟩, .string ⟨#[99, 101, 108, 108, 32, 52, 32, 120]⟩, .string ⟨#[108, 101, 102, 116, 32, 52, 32, 50]⟩, .string ⟨#[119, 97, 121, 115, 32, 51, 49]⟩, .string ⟨#[115, 104, 97, 114, 101, 100, 32, 49]⟩, .string ⟨#[107, 101, 112, 116, 32, 53, 32, 52]⟩, .string ⟨#[32, 114, 111, 119]⟩, .string ⟨#[117, 110, 100, 101, 114, 32, 48]⟩, .string ⟨#[99, 101, 108, 108, 32, 48, 52, 32, 50]⟩] 9)) (some R) := World.grownBy_alloc _ _ _
    have zR := hR1.lt
    have zA := World.size_alloc w1 (.cells #[.string ⟨#[]⟩, .string ⟨#[102, 108, 105, 112]⟩, .string ⟨#[102, 108, 105, 112, 32, 120]⟩, .string ⟨#[112, 117, 116, 32, 50]⟩, .string ⟨#[99, 101, 108, 108, 32, 52]⟩, .string ⟨#[99, 101, 108, 108, 32, 52, 32, 120]⟩, .string ⟨#[108, 101, 102, 116, 32, 52, 32, 50]⟩, .string ⟨#[119, 97, 121, 115, 32, 51, 49]⟩, .string ⟨#[115, 104, 97, 114, 101, 100, 32, 49]⟩, .string ⟨#[107, 101, 112, 116, 32, 53, 32, 52]⟩, .string ⟨#[32, 114, 111, 119]⟩, .string ⟨#[117, 110, 100, 101, 114, 32, 48]⟩, .string ⟨#[99, 101, 108, 108, 32, 48, 52, 32, 50]⟩] 9)
    obtain ⟨g, hgE⟩ : ∃ g, w1.heap.size = g := ⟨_, rfl⟩
    rw [hgE] at hcs zR zA
    obtain ⟨wa, hwa⟩ : ∃ wa, w1.alloc (.cells #[.string ⟨#[]⟩, .string ⟨#[102, 108, 105, 112]⟩, .string ⟨#[102, 108, 105, 112, 32, 120]⟩, .string ⟨#[112, 117, 116, 32, 50]⟩, .string ⟨#[99, 101, 108, 108, 32, 52]⟩, .string ⟨#[99, 101, 108, 108, 32, 52, 32, 120]⟩, .string ⟨#[108, 101, 102, 116, 32, 52, 32, 50]⟩, .string ⟨#[119, 97, 121, 115, 32, 51, 49]⟩, .string ⟨#[115, 104, 97, 114, 101, 100, 32, 49]⟩, .string ⟨#[107, 101, 112, 116, 32, 53, 32, 52]⟩, .string ⟨#[32, 114, 111, 119]⟩, .string ⟨#[117, 110, 100, 101, 114, 32, 48]⟩, .string ⟨#[99, 101, 108, 108, 32, 48, 52, 32, 50]⟩] 9) = wa := ⟨_, rfl⟩
    rw [hwa] at hcs hRa hga zA
    have hga1 : g < wa.heap.size := by omega
    clear zA
    gi_wp2_with fail
    refine ⟨trivial, ?_⟩
    gi_at_call 42
    refine (callsIn_wide.2 (pick_in W0 R len cap (p + 1) a _ wa hb hRa (by omega))).mono ?_
    rintro e w2 ⟨x, rfl, hx0, _, hx1, hR2, hg2, _⟩
    have hx2 := hx1 (by omega)
    obtain ⟨y, rfl⟩ : ∃ y : Nat, x = y := ⟨x.toNat, by omega⟩
    have hyi : (y : Int) < 13 := by omega
    obtain ⟨z, hz, hc⟩ := hcs y (by omega)
    have hc2 := (grown_cell12 hg2 hga1 (by omega) y).trans hc
    obtain ⟨zl, rfl, _⟩ := id hz
    have hgf := (hg1.trans hga).trans hg2
    clear hcs hc hwa hx1
    gi_wp2
    go_ret
    exact ⟨⟨_, rfl, hz⟩, p + 1 + 1, by omega, hR2, hgf⟩
  · clear hx0 hx2
    gi_wp2
    refine wpIn_region_rd W0 R len cap (p + 1) a 40 20 [(some 24, 0), (some 25, 1), (some 26, 2), (some 27, 3), (some 28, 4), (some 29, 5), (some 30, 6), (some 31, 7), (some 32, 8), (some 33, 9), (some 34, 10), (some 35, 11), (some 36, 12), (some 37, 13), (some 38, 14), (some 39, 15), (some 40, 16), (some 41, 17), (some 42, 18), (some 43, 19)] (by omega) (by kernel_rfl) (by kernel_rfl) (by kernel_rfl) (by decide) (by decide) (by rfl) (by decide) hR1
      (fun i v V => (([.sl 3, .ptr, .num 3, .ad, .tx 8, .ptr, .num 62, .tx 22, .tx 30, .tx 31, .ptr, .num 30, .tx 22, .tx 53, .sl 2, .ptr, .num 2, .ad, .tx 8, .tx 61] : List LK).getD i .any).ok R V v)
      (fun i v V V' h hg => @LK.kept R V V' v _ h hg)
      ?step ?tail
    case step =>
      rintro i oo s V q hi ho hqb hRV hgV hd Q' hQ
      rcases (show i = 0 ∨ i = 1 ∨ i = 2 ∨ i = 3 ∨ i = 4 ∨ i = 5 ∨ i = 6 ∨ i = 7 ∨ i = 8 ∨ i = 9 ∨ i = 10 ∨ i = 11 ∨ i = 12 ∨ i = 13 ∨ i = 14 ∨ i = 15 ∨ i = 16 ∨ i = 17 ∨ i = 18 ∨ i = 19 by omega) with rfl | rfl | rfl | rfl | rfl | rfl | rfl | rfl | rfl | rfl | rfl | rfl | rfl | rfl | rfl | rfl | rfl | rfl | rfl | rfl
      all_goals
        simp at ho
        subst ho
        simp only [putsOf, Act.put, List.setIfInBounds_toArray, List.set_cons_succ, List.set_cons_zero] at hQ ⊢
        have hQ' := hide hQ
        clear hQ
      · clear hd
        have zV := hRV.lt
        have hcs := texts_cells V [⟨#[99, 101, 108, 108, 32]⟩, ⟨#[107, 101, 112, 116, 32]⟩, ⟨#[99, 97, 114, 114, 105, 101, 115, 32]⟩] (by intro S hS; simp at hS; rcases hS with rfl | rfl | rfl; exact ⟨[99, 101, 108, 108, 32], by kernel_rfl, by decide, by decide⟩; exact ⟨[107, 101, 112, 116, 32], by kernel_rfl, by decide, by decide⟩; exact ⟨[99, 97, 114, 114, 105, 101, 115, 32], by kernel_rfl, by decide, by decide⟩)
        have hsz := World.size_alloc V (.cells #[.string ⟨#[99, 101, 108, 108, 32]⟩, .string ⟨#[107, 101, 112, 116, 32]⟩, .string ⟨#[99, 97, 114, 114, 105, 101, 115, 32]⟩] 9)
        gi_wp2
        have hr := hQ'.out
        exact hr _ _ q (by omega) (hRV.alloc _) (World.grownBy_alloc _ _ _) ⟨V.heap.size, rfl, by omega, by rw [World.size_alloc]; omega, fun j hj => by simpa using hcs j hj⟩
      · clear hd
        gi_wp2
        have hr := hQ'.out
        exact hr _ _ q (by omega) hRV (grownBy_refl _ _) rfl
      · have e1 : LK.ok R V (s 1) .ptr := hd 1 (by kernel_rfl)
        replace e1 : s 1 = .pointer (some ⟨R, 0, none⟩) := e1
        clear hd
        gi_wp2_with (refine ⟨trivial, ?_⟩; gi_at_call 42; go_loud (refine (callsIn_wide.2 (pick_in W0 R len cap q a _ V hb hRV (by omega))).mono ?_; rintro e V9 ⟨x, rfl, hx0, _, hx1, hR9, hg9, _⟩))
        have hx := hx1 (by omega)
        obtain ⟨y, rfl⟩ : ∃ y : Nat, x = y := ⟨x.toNat, by omega⟩
        have hr := hQ'.out
        simp only [e1] at hr ⊢
        exact hr _ _ (q + 1) (by omega) hR9 hg9 ⟨y, by omega, rfl⟩
      · obtain ⟨g, e1, h2, h3, h4⟩ : LK.ok R V (s 0) (.sl 3) := hd 0 (by kernel_rfl)
        obtain ⟨y, hy, e2⟩ : LK.ok R V (s 2) (.num 3) := hd 2 (by kernel_rfl)
        clear hd
        have hyi : (y : Int) < 3 := by omega
        obtain ⟨z, hz, hc⟩ := h4 y hy
        clear h4
        gi_wp2
        have hr := hQ'.out
        simp only [e1, e2] at hr ⊢
        exact hr _ _ q (by omega) hRV (grownBy_refl _ _) ⟨g, _, rfl, h2, h3, z, hz, by simpa using hc⟩
      · obtain ⟨g, j, e1, h2, h3, z, h4, h6⟩ : LK.ok R V (s 3) .ad := hd 3 (by kernel_rfl)
        clear hd
        obtain ⟨lz, rfl, _⟩ := id h4
        gi_wp2
        have hr := hQ'.out
        simp only [e1] at hr ⊢
        exact hr _ _ q (by omega) hRV (grownBy_refl _ _) h4
      · clear hd
        gi_wp2
        have hr := hQ'.out
        exact hr _ _ q (by omega) hRV (grownBy_refl _ _) rfl
      · have e1 : LK.ok R V (s 5) .ptr := hd 5 (by kernel_rfl)
        replace e1 : s 5 = .pointer (some ⟨R, 0, none⟩) := e1
        clear hd
        gi_wp2_with (refine ⟨trivial, ?_⟩; gi_at_call 42; go_loud (refine (callsIn_wide.2 (pick_in W0 R len cap q a _ V hb hRV (by omega))).mono ?_; rintro e V9 ⟨x, rfl, hx0, _, hx1, hR9, hg9, _⟩))
        have hx := hx1 (by omega)
        obtain ⟨y, rfl⟩ : ∃ y : Nat, x = y := ⟨x.toNat, by omega⟩
        have hr := hQ'.out
        simp only [e1] at hr ⊢
        exact hr _ _ (q + 1) (by omega) hR9 hg9 ⟨y, by omega, rfl⟩
      · obtain ⟨y, hy, e1⟩ : LK.ok R V (s 6) (.num 62) := hd 6 (by kernel_rfl)
        clear hd
        have hN := num_in y (by omega) V
        gi_wp2_with (refine ⟨trivial, ?_⟩; gi_at_call 67; go_loud (refine (callsIn_wide.2 hN).mono ?_; rintro e V9 ⟨S, rfl, hS, hB9⟩))
        have hr := hQ'.out
        simp only [e1] at hr ⊢
        exact hr _ _ q (by omega) (rd_belowD hRV hB9) (grown_any (below_grownW hB9) R) hS
      · have hA : TxtLe 8 (s 4) := hd 4 (by kernel_rfl)
        have hC : TxtLe 22 (s 7) := hd 7 (by kernel_rfl)
        clear hd
        obtain ⟨A, eA, zA, zC⟩ := app_le hA hC (show _ ≤ 30 by omega) (by omega)
        obtain ⟨C, eC, hAC⟩ := zC
        gi_wp2
        have hr := hQ'.out
        simp only [eA, eC] at hr ⊢
        exact hr _ _ q (by omega) hRV (grownBy_refl _ _) hAC.2.2
      · have hA : TxtLe 30 (s 8) := hd 8 (by kernel_rfl)
        clear hd
        obtain ⟨A, eA, zA, zC⟩ := app_le hA txt_one (show _ ≤ 31 by omega) (by omega)
        obtain ⟨C, eC, hAC⟩ := zC
        simp only [Value.string.injEq] at eC
        subst eC
        gi_wp2
        have hr := hQ'.out
        simp only [eA] at hr ⊢
        exact hr _ _ q (by omega) hRV (grownBy_refl _ _) hAC.2.2
      · clear hd
        gi_wp2
        have hr := hQ'.out
        exact hr _ _ q (by omega) hRV (grownBy_refl _ _) rfl
      · have e1 : LK.ok R V (s 10) .ptr := hd 10 (by kernel_rfl)
        replace e1 : s 10 = .pointer (some ⟨R, 0, none⟩) := e1
        clear hd
        gi_wp2_with (refine ⟨trivial, ?_⟩; gi_at_call 42; go_loud (refine (callsIn_wide.2 (pick_in W0 R len cap q a _ V hb hRV (by omega))).mono ?_; rintro e V9 ⟨x, rfl, hx0, _, hx1, hR9, hg9, _⟩))
        have hx := hx1 (by omega)
        obtain ⟨y, rfl⟩ : ∃ y : Nat, x = y := ⟨x.toNat, by omega⟩
        have hr := hQ'.out
        simp only [e1] at hr ⊢
        exact hr _ _ (q + 1) (by omega) hR9 hg9 ⟨y, by omega, rfl⟩
      · obtain ⟨y, hy, e1⟩ : LK.ok R V (s 11) (.num 30) := hd 11 (by kernel_rfl)
        clear hd
        have hN := num_in y (by omega) V
        gi_wp2_with (refine ⟨trivial, ?_⟩; gi_at_call 67; go_loud (refine (callsIn_wide.2 hN).mono ?_; rintro e V9 ⟨S, rfl, hS, hB9⟩))
        have hr := hQ'.out
        simp only [e1] at hr ⊢
        exact hr _ _ q (by omega) (rd_belowD hRV hB9) (grown_any (below_grownW hB9) R) hS
      · have hA : TxtLe 31 (s 9) := hd 9 (by kernel_rfl)
        have hC : TxtLe 22 (s 12) := hd 12 (by kernel_rfl)
        clear hd
        obtain ⟨A, eA, zA, zC⟩ := app_le hA hC (show _ ≤ 53 by omega) (by omega)
        obtain ⟨C, eC, hAC⟩ := zC
        gi_wp2
        have hr := hQ'.out
        simp only [eA, eC] at hr ⊢
        exact hr _ _ q (by omega) hRV (grownBy_refl _ _) hAC.2.2
      · clear hd
        have zV := hRV.lt
        have hcs := texts_cells V [⟨#[]⟩, ⟨#[32, 50]⟩] (by intro S hS; simp at hS; rcases hS with rfl | rfl; exact ⟨[], by kernel_rfl, by decide, by decide⟩; exact ⟨[32, 50], by kernel_rfl, by decide, by decide⟩)
        have hsz := World.size_alloc V (.cells #[.string ⟨#[]⟩, .string ⟨#[32, 50]⟩] 9)
        gi_wp2
        have hr := hQ'.out
        exact hr _ _ q (by omega) (hRV.alloc _) (World.grownBy_alloc _ _ _) ⟨V.heap.size, rfl, by omega, by rw [World.size_alloc]; omega, fun j hj => by simpa using hcs j hj⟩
      · clear hd
        gi_wp2
        have hr := hQ'.out
        exact hr _ _ q (by omega) hRV (grownBy_refl _ _) rfl
      · have e1 : LK.ok R V (s 15) .ptr := hd 15 (by kernel_rfl)
        replace e1 : s 15 = .pointer (some ⟨R, 0, none⟩) := e1
        clear hd
        gi_wp2_with (refine ⟨trivial, ?_⟩; gi_at_call 42; go_loud (refine (callsIn_wide.2 (pick_in W0 R len cap q a _ V hb hRV (by omega))).mono ?_; rintro e V9 ⟨x, rfl, hx0, _, hx1, hR9, hg9, _⟩))
        have hx := hx1 (by omega)
        obtain ⟨y, rfl⟩ : ∃ y : Nat, x = y := ⟨x.toNat, by omega⟩
        have hr := hQ'.out
        simp only [e1] at hr ⊢
        exact hr _ _ (q + 1) (by omega) hR9 hg9 ⟨y, by omega, rfl⟩
      · obtain ⟨g, e1, h2, h3, h4⟩ : LK.ok R V (s 14) (.sl 2) := hd 14 (by kernel_rfl)
        obtain ⟨y, hy, e2⟩ : LK.ok R V (s 16) (.num 2) := hd 16 (by kernel_rfl)
        clear hd
        have hyi : (y : Int) < 2 := by omega
        obtain ⟨z, hz, hc⟩ := h4 y hy
        clear h4
        gi_wp2
        have hr := hQ'.out
        simp only [e1, e2] at hr ⊢
        exact hr _ _ q (by omega) hRV (grownBy_refl _ _) ⟨g, _, rfl, h2, h3, z, hz, by simpa using hc⟩
      · obtain ⟨g, j, e1, h2, h3, z, h4, h6⟩ : LK.ok R V (s 17) .ad := hd 17 (by kernel_rfl)
        clear hd
        obtain ⟨lz, rfl, _⟩ := id h4
        gi_wp2
        have hr := hQ'.out
        simp only [e1] at hr ⊢
        exact hr _ _ q (by omega) hRV (grownBy_refl _ _) h4
      · have hA : TxtLe 53 (s 13) := hd 13 (by kernel_rfl)
        have hC : TxtLe 8 (s 18) := hd 18 (by kernel_rfl)
        clear hd
        obtain ⟨A, eA, zA, zC⟩ := app_le hA hC (show _ ≤ 61 by omega) (by omega)
        obtain ⟨C, eC, hAC⟩ := zC
        gi_wp2
        have hr := hQ'.out
        simp only [eA, eC] at hr ⊢
        exact hr _ _ q (by omega) hRV (grownBy_refl _ _) hAC.2.2
    case tail =>
      rintro s V q hqb hRV hgV hd
      replace hqb : q ≤ p + 1 + 40 * 21 := hqb
      have hT : TxtLe 80 (s 19) := txt_le (show TxtLe _ (s 19) from hd 19 (by omega)) (by omega)
      clear hd
      have hgw := hg1.trans hgV
      simp only [putsOf, Act.put, List.setIfInBounds_toArray, List.set_cons_succ, List.set_cons_zero]
      simp only [List.drop_succ_cons, List.drop_zero]
      generalize s 19 = z at *
      gi_wp2
      go_ret
      exact ⟨⟨_, rfl, hT⟩, q, by omega, hRV, hgw⟩
  · clear hx0 hx2
    gi_wp2
    refine wpIn_region_rd W0 R len cap (p + 1) a 40 20 [(some 46, 0), (some 47, 1), (some 48, 2), (some 49, 3), (some 50, 4), (some 51, 5), (some 52, 6), (some 53, 7), (some 54, 8), (some 55, 9), (some 56, 10), (some 57, 11), (some 58, 12), (some 59, 13), (some 60, 14), (some 61, 15), (some 62, 16), (some 63, 17), (some 64, 18), (some 65, 19)] (by omega) (by kernel_rfl) (by kernel_rfl) (by kernel_rfl) (by decide) (by decide) (by rfl) (by decide) hR1
      (fun i v V => (([.sl 3, .ptr, .num 3, .ad, .tx 8, .ptr, .fit, .nat, .tx 22, .tx 30, .tx 31, .ptr, .num 200, .tx 22, .tx 53, .tx 54, .ptr, .num 14, .tx 22, .tx 76] : List LK).getD i .any).ok R V v)
      (fun i v V V' h hg => @LK.kept R V V' v _ h hg)
      ?step ?tail
    case step =>
      rintro i oo s V q hi ho hqb hRV hgV hd Q' hQ
      rcases (show i = 0 ∨ i = 1 ∨ i = 2 ∨ i = 3 ∨ i = 4 ∨ i = 5 ∨ i = 6 ∨ i = 7 ∨ i = 8 ∨ i = 9 ∨ i = 10 ∨ i = 11 ∨ i = 12 ∨ i = 13 ∨ i = 14 ∨ i = 15 ∨ i = 16 ∨ i = 17 ∨ i = 18 ∨ i = 19 by omega) with rfl | rfl | rfl | rfl | rfl | rfl | rfl | rfl | rfl | rfl | rfl | rfl | rfl | rfl | rfl | rfl | rfl | rfl | rfl | rfl
      all_goals
        simp at ho
        subst ho
        simp only [putsOf, Act.put, List.setIfInBounds_toArray, List.set_cons_succ, List.set_cons_zero] at hQ ⊢
        have hQ' := hide hQ
        clear hQ
      · clear hd
        have zV := hRV.lt
        have hcs := texts_cells V [⟨#[108, 101, 102, 116, 32]⟩, ⟨#[111, 102, 116, 101, 110, 32]⟩, ⟨#[99, 97, 114, 114, 105, 101, 115, 32]⟩] (by intro S hS; simp at hS; rcases hS with rfl | rfl | rfl; exact ⟨[108, 101, 102, 116, 32], by kernel_rfl, by decide, by decide⟩; exact ⟨[111, 102, 116, 101, 110, 32], by kernel_rfl, by decide, by decide⟩; exact ⟨[99, 97, 114, 114, 105, 101, 115, 32], by kernel_rfl, by decide, by decide⟩)
        have hsz := World.size_alloc V (.cells #[.string ⟨#[108, 101, 102, 116, 32]⟩, .string ⟨#[111, 102, 116, 101, 110, 32]⟩, .string ⟨#[99, 97, 114, 114, 105, 101, 115, 32]⟩] 9)
        gi_wp2
        have hr := hQ'.out
        exact hr _ _ q (by omega) (hRV.alloc _) (World.grownBy_alloc _ _ _) ⟨V.heap.size, rfl, by omega, by rw [World.size_alloc]; omega, fun j hj => by simpa using hcs j hj⟩
      · clear hd
        gi_wp2
        have hr := hQ'.out
        exact hr _ _ q (by omega) hRV (grownBy_refl _ _) rfl
      · have e1 : LK.ok R V (s 1) .ptr := hd 1 (by kernel_rfl)
        replace e1 : s 1 = .pointer (some ⟨R, 0, none⟩) := e1
        clear hd
        gi_wp2_with (refine ⟨trivial, ?_⟩; gi_at_call 42; go_loud (refine (callsIn_wide.2 (pick_in W0 R len cap q a _ V hb hRV (by omega))).mono ?_; rintro e V9 ⟨x, rfl, hx0, _, hx1, hR9, hg9, _⟩))
        have hx := hx1 (by omega)
        obtain ⟨y, rfl⟩ : ∃ y : Nat, x = y := ⟨x.toNat, by omega⟩
        have hr := hQ'.out
        simp only [e1] at hr ⊢
        exact hr _ _ (q + 1) (by omega) hR9 hg9 ⟨y, by omega, rfl⟩
      · obtain ⟨g, e1, h2, h3, h4⟩ : LK.ok R V (s 0) (.sl 3) := hd 0 (by kernel_rfl)
        obtain ⟨y, hy, e2⟩ : LK.ok R V (s 2) (.num 3) := hd 2 (by kernel_rfl)
        clear hd
        have hyi : (y : Int) < 3 := by omega
        obtain ⟨z, hz, hc⟩ := h4 y hy
        clear h4
        gi_wp2
        have hr := hQ'.out
        simp only [e1, e2] at hr ⊢
        exact hr _ _ q (by omega) hRV (grownBy_refl _ _) ⟨g, _, rfl, h2, h3, z, hz, by simpa using hc⟩
      · obtain ⟨g, j, e1, h2, h3, z, h4, h6⟩ : LK.ok R V (s 3) .ad := hd 3 (by kernel_rfl)
        clear hd
        obtain ⟨lz, rfl, _⟩ := id h4
        gi_wp2
        have hr := hQ'.out
        simp only [e1] at hr ⊢
        exact hr _ _ q (by omega) hRV (grownBy_refl _ _) h4
      · clear hd
        gi_wp2
        have hr := hQ'.out
        exact hr _ _ q (by omega) hRV (grownBy_refl _ _) rfl
      · have e1 : LK.ok R V (s 5) .ptr := hd 5 (by kernel_rfl)
        replace e1 : s 5 = .pointer (some ⟨R, 0, none⟩) := e1
        clear hd
        gi_wp2_with (refine ⟨trivial, ?_⟩; gi_at_call 105; go_loud (refine (callsIn_wide.2 (l20Big2 W0 R len cap q a V hb hRV (by omega))).mono ?_; rintro e V9 ⟨⟨x, hx, rfl⟩, q9, hq9, hR9, hg9⟩))
        have hr := hQ'.out
        simp only [e1] at hr ⊢
        exact hr _ _ q9 (by omega) hR9 hg9 ⟨x, hx, rfl⟩
      · obtain ⟨x, hx, e1⟩ : LK.ok R V (s 6) .fit := hd 6 (by kernel_rfl)
        clear hd
        unfold Fits at hx
        by_cases hx0 : x < 0
        · have hm : max x 0 = 0 := by omega
          have hx1 : ¬ 0 ≤ x := by omega
          gi_wp2
          have hr := hQ'.out
          simp only [e1] at hr ⊢
          exact hr _ _ q (by omega) hRV (grownBy_refl _ _) ⟨0, by omega, by simp⟩
        · obtain ⟨y, rfl⟩ : ∃ y : Nat, x = y := ⟨x.toNat, by omega⟩
          have hm : max (y : Int) 0 = y := by omega
          gi_wp2
          have hr := hQ'.out
          simp only [e1] at hr ⊢
          exact hr _ _ q (by omega) hRV (grownBy_refl _ _) ⟨y, by omega, by simp⟩
      · obtain ⟨y, hy, e1⟩ : LK.ok R V (s 7) (.nat) := hd 7 (by kernel_rfl)
        clear hd
        have hN := num_in y (by omega) V
        gi_wp2_with (refine ⟨trivial, ?_⟩; gi_at_call 67; go_loud (refine (callsIn_wide.2 hN).mono ?_; rintro e V9 ⟨S, rfl, hS, hB9⟩))
        have hr := hQ'.out
        simp only [e1] at hr ⊢
        exact hr _ _ q (by omega) (rd_belowD hRV hB9) (grown_any (below_grownW hB9) R) hS
      · have hA : TxtLe 8 (s 4) := hd 4 (by kernel_rfl)
        have hC : TxtLe 22 (s 8) := hd 8 (by kernel_rfl)
        clear hd
        obtain ⟨A, eA, zA, zC⟩ := app_le hA hC (show _ ≤ 30 by omega) (by omega)
        obtain ⟨C, eC, hAC⟩ := zC
        gi_wp2
        have hr := hQ'.out
        simp only [eA, eC] at hr ⊢
        exact hr _ _ q (by omega) hRV (grownBy_refl _ _) hAC.2.2
      · have hA : TxtLe 30 (s 9) := hd 9 (by kernel_rfl)
        clear hd
        obtain ⟨A, eA, zA, zC⟩ := app_le hA txt_one (show _ ≤ 31 by omega) (by omega)
        obtain ⟨C, eC, hAC⟩ := zC
        simp only [Value.string.injEq] at eC
        subst eC
        gi_wp2
        have hr := hQ'.out
        simp only [eA] at hr ⊢
        exact hr _ _ q (by omega) hRV (grownBy_refl _ _) hAC.2.2
      · clear hd
        gi_wp2
        have hr := hQ'.out
        exact hr _ _ q (by omega) hRV (grownBy_refl _ _) rfl
      · have e1 : LK.ok R V (s 11) .ptr := hd 11 (by kernel_rfl)
        replace e1 : s 11 = .pointer (some ⟨R, 0, none⟩) := e1
        clear hd
        gi_wp2_with (refine ⟨trivial, ?_⟩; gi_at_call 42; go_loud (refine (callsIn_wide.2 (pick_in W0 R len cap q a _ V hb hRV (by omega))).mono ?_; rintro e V9 ⟨x, rfl, hx0, _, hx1, hR9, hg9, _⟩))
        have hx := hx1 (by omega)
        obtain ⟨y, rfl⟩ : ∃ y : Nat, x = y := ⟨x.toNat, by omega⟩
        have hr := hQ'.out
        simp only [e1] at hr ⊢
        exact hr _ _ (q + 1) (by omega) hR9 hg9 ⟨y, by omega, rfl⟩
      · obtain ⟨y, hy, e1⟩ : LK.ok R V (s 12) (.num 200) := hd 12 (by kernel_rfl)
        clear hd
        have hN := num_in y (by omega) V
        gi_wp2_with (refine ⟨trivial, ?_⟩; gi_at_call 67; go_loud (refine (callsIn_wide.2 hN).mono ?_; rintro e V9 ⟨S, rfl, hS, hB9⟩))
        have hr := hQ'.out
        simp only [e1] at hr ⊢
        exact hr _ _ q (by omega) (rd_belowD hRV hB9) (grown_any (below_grownW hB9) R) hS
      · have hA : TxtLe 31 (s 10) := hd 10 (by kernel_rfl)
        have hC : TxtLe 22 (s 13) := hd 13 (by kernel_rfl)
        clear hd
        obtain ⟨A, eA, zA, zC⟩ := app_le hA hC (show _ ≤ 53 by omega) (by omega)
        obtain ⟨C, eC, hAC⟩ := zC
        gi_wp2
        have hr := hQ'.out
        simp only [eA, eC] at hr ⊢
        exact hr _ _ q (by omega) hRV (grownBy_refl _ _) hAC.2.2
      · have hA : TxtLe 53 (s 14) := hd 14 (by kernel_rfl)
        clear hd
        obtain ⟨A, eA, zA, zC⟩ := app_le hA txt_one (show _ ≤ 54 by omega) (by omega)
        obtain ⟨C, eC, hAC⟩ := zC
        simp only [Value.string.injEq] at eC
        subst eC
        gi_wp2
        have hr := hQ'.out
        simp only [eA] at hr ⊢
        exact hr _ _ q (by omega) hRV (grownBy_refl _ _) hAC.2.2
      · clear hd
        gi_wp2
        have hr := hQ'.out
        exact hr _ _ q (by omega) hRV (grownBy_refl _ _) rfl
      · have e1 : LK.ok R V (s 16) .ptr := hd 16 (by kernel_rfl)
        replace e1 : s 16 = .pointer (some ⟨R, 0, none⟩) := e1
        clear hd
        gi_wp2_with (refine ⟨trivial, ?_⟩; gi_at_call 42; go_loud (refine (callsIn_wide.2 (pick_in W0 R len cap q a _ V hb hRV (by omega))).mono ?_; rintro e V9 ⟨x, rfl, hx0, _, hx1, hR9, hg9, _⟩))
        have hx := hx1 (by omega)
        obtain ⟨y, rfl⟩ : ∃ y : Nat, x = y := ⟨x.toNat, by omega⟩
        have hr := hQ'.out
        simp only [e1] at hr ⊢
        exact hr _ _ (q + 1) (by omega) hR9 hg9 ⟨y, by omega, rfl⟩
      · obtain ⟨y, hy, e1⟩ : LK.ok R V (s 17) (.num 14) := hd 17 (by kernel_rfl)
        clear hd
        have hN := num_in y (by omega) V
        gi_wp2_with (refine ⟨trivial, ?_⟩; gi_at_call 67; go_loud (refine (callsIn_wide.2 hN).mono ?_; rintro e V9 ⟨S, rfl, hS, hB9⟩))
        have hr := hQ'.out
        simp only [e1] at hr ⊢
        exact hr _ _ q (by omega) (rd_belowD hRV hB9) (grown_any (below_grownW hB9) R) hS
      · have hA : TxtLe 54 (s 15) := hd 15 (by kernel_rfl)
        have hC : TxtLe 22 (s 18) := hd 18 (by kernel_rfl)
        clear hd
        obtain ⟨A, eA, zA, zC⟩ := app_le hA hC (show _ ≤ 76 by omega) (by omega)
        obtain ⟨C, eC, hAC⟩ := zC
        gi_wp2
        have hr := hQ'.out
        simp only [eA, eC] at hr ⊢
        exact hr _ _ q (by omega) hRV (grownBy_refl _ _) hAC.2.2
    case tail =>
      rintro s V q hqb hRV hgV hd
      replace hqb : q ≤ p + 1 + 40 * 21 := hqb
      have hT : TxtLe 80 (s 19) := txt_le (show TxtLe _ (s 19) from hd 19 (by omega)) (by omega)
      clear hd
      have hgw := hg1.trans hgV
      simp only [putsOf, Act.put, List.setIfInBounds_toArray, List.set_cons_succ, List.set_cons_zero]
      simp only [List.drop_succ_cons, List.drop_zero]
      generalize s 19 = z at *
      gi_wp2
      go_ret
      exact ⟨⟨_, rfl, hT⟩, q, by omega, hRV, hgw⟩
  · have b0 : (x == 0) = false := by rw [beq_eq_false_iff_ne]; omega
    have b1 : (x == 1) = false := by rw [beq_eq_false_iff_ne]; omega
    have b2 : (x == 2) = false := by rw [beq_eq_false_iff_ne]; omega
    have b3 : (x == 3) = false := by rw [beq_eq_false_iff_ne]; omega
    have b4 : (x == 4) = false := by rw [beq_eq_false_iff_ne]; omega
    gi_wp2_with fail
    refine ⟨trivial, ?_⟩
    gi_at_call 94
    refine (callsIn_wide.2 (l20Deed_in W0 R len cap (p + 1) a w1 hb hR1 (by omega) rv rn rc hrn)).mono ?_
    rintro e w2 ⟨⟨dk, dn, hdk, hdn, rfl⟩, q2, hq2, hR2, hg2⟩
    have hT := specDeedText dk dn hdk hdn w2
    have hz : TxtLe 80 (.string (str (deedT dk dn))) := ⟨_, rfl, fun x hx => (deed_byte dk dn x hx).1, by have := deed_len dk dn; omega⟩
    unfold dV at *
    obtain ⟨S, hS⟩ : ∃ S, str (deedT dk dn) = S := ⟨_, rfl⟩
    rw [hS] at hT hz
    clear hS
    gi_wp2_with fail
    refine ⟨trivial, ?_⟩
    gi_at_call 86
    refine (callsIn_wide.2 hT).mono ?_
    rintro e w3 ⟨rfl, hB3⟩
    have hR3 := rd_belowD hR2 hB3
    have hgf := (hg1.trans hg2).trans (grown_any (below_grownW hB3) R)
    gi_wp2
    go_ret
    exact ⟨⟨_, rfl, hz⟩, q2, by omega, hR3, hgf⟩
end Go.Proofs.YtiaaefapbcjgmaaGreatDoor
namespace Go.Proofs.YtiaaefapbcjgmaaGreatDoor
open Go Go.RowKit

theorem below_grownAt {W W' : World} (h : Below W.heap.size W W') (row : Option Nat) : W.grownBy W' row := ⟨h.os, h.tape, h.output, h.size, fun k hk _ => h.block k hk⟩

/-- What is known of the operations' values: from the c-th on, ahead of the store and behind it. -/
def MadeR0 (c b0 : Nat) (Zp : Value → Prop) (R : World → Value → Prop) (pre : Nat → Value → World → Prop) (i : Nat) (v : Value) (V : World) : Prop :=
  (i < c → pre i v V) ∧ (i = c ∨ i = c + 1 → ∃ a1 n1 c1 a2 n2 c2 z, v = .tuple #[.agg #[.slice a1 n1 c1, .slice a2 n2 c2], z] ∧ Zp z ∧ R V (.agg #[.slice a1 n1 c1, .slice a2 n2 c2])) ∧
  (i = c + 2 → ∃ a1 n1 c1 a2 n2 c2, v = .agg #[.slice a1 n1 c1, .slice a2 n2 c2] ∧ R V (.agg #[.slice a1 n1 c1, .slice a2 n2 c2])) ∧ (i = c + 3 → Zp v) ∧
  (i = c + 4 → ∃ b, v = .pointer (some ⟨b, 0, none⟩) ∧ b0 ≤ b ∧ V.heap[b]? = some (.cells #[.slice none 0 0, .slice none 0 0] 31 (0, 0)))

def MadeR1 (c b0 : Nat) (Zp : Value → Prop) (R : World → Value → Prop) (i : Nat) (v : Value) (V : World) : Prop :=
  (i = c + 1 → ∃ x z, v = .tuple #[x, z] ∧ Zp z) ∧ (i = c + 3 → Zp v) ∧
  (i = c + 4 → ∃ b, v = .pointer (some ⟨b, 0, none⟩) ∧ b0 ≤ b ∧ ∃ a1 n1 c1 a2 n2 c2, V.heap[b]? = some (.cells #[.slice a1 n1 c1, .slice a2 n2 c2] 31 (0, 0)) ∧ R V (.agg #[.slice a1 n1 c1, .slice a2 n2 c2]))

theorem wpIn_region_madeR {F : Fence} {n : Nat} {id : Nat} {ops : Array Oper} {Q : Exit → Act → World → Prop} {a : Act} {W : World} (W0 : World) (Rr len cap p : Nat) (ad : Option Addr) (K jc : Nat) (c : Nat) (L : List (Option Tmp × Nat)) (Zp : Value → Prop) (R : World → Value → Prop)
    (hm : Tryz.prog.follows .mixedOrders = true) (hb : backB ops = true) (ht : tailB ops (c + 6) = true) (hsz : c + 6 < ops.size)
    (hdep : (depB ops (c + 1) c && depB ops (c + 2) (c + 1) && depB ops (c + 3) (c + 1) && depB ops (c + 5) (c + 2) && depB ops (c + 5) (c + 4)) = true)
    (hnd : ((List.range (c + 5)).all fun i => (i == c + 3) || needs ops (c + 5) ops.size i) = true)
    (hL : dstsOf ops (c + 6) = L) (hok : okPuts L = true) (hjc : jc < c) (hRd : Rd W0 Rr ad len cap W p) (pre : Nat → Value → World → Prop) (hpre : ∀ k v V V', pre k v V → V.grownBy V' (some Rr) → pre k v V')
    (hRb : ∀ V V' q y, R V y → Rd W0 Rr ad len cap V q → V.grownBy V' (some Rr) → R V' y)
    (hRs : ∀ V b a1 n1 c1 a2 n2 c2, R V (.agg #[.slice a1 n1 c1, .slice a2 n2 c2]) → W.heap.size ≤ b → V.heap[b]? = some (.cells #[.slice none 0 0, .slice none 0 0] 31 (0, 0)) → R ((V.setCell ⟨b, 0, none⟩ (.slice a1 n1 c1)).setCell ⟨b, 1, none⟩ (.slice a2 n2 c2)) (.agg #[.slice a1 n1 c1, .slice a2 n2 c2]))
    (hstep : ∀ i o s V q, i < c → ops[i]? = some o → Rd W0 Rr ad len cap V q → (i = jc → q = p) → W.grownBy V (some Rr) → (∀ k, k < c → depB ops i k = true → pre k (s k) V) → ∀ Q' : Exit → Act → World → Prop,
      (∀ v V' q', Rd W0 Rr ad len cap V' q' → (i ≠ jc → q' = q) → q' ≤ q + K → V.grownBy V' (some Rr) → pre i v V' → Q' .normal ((putsOf L a s).put o.dst v) V') → wpListIn F n Tryz.prog ops Q' [o] (putsOf L a s) V)
    (hcall : ∀ o s V q, ops[c]? = some o → Rd W0 Rr ad len cap V q → W.grownBy V (some Rr) → (∀ k, k < c → depB ops c k = true → pre k (s k) V) → ∀ Q' : Exit → Act → World → Prop,
      (∀ a1 n1 c1 a2 n2 c2 z V', Below V.heap.size V V' → Zp z → R V' (.agg #[.slice a1 n1 c1, .slice a2 n2 c2]) → Q' .normal ((putsOf L a s).put o.dst (.tuple #[.agg #[.slice a1 n1 c1, .slice a2 n2 c2], z])) V') → wpListIn F n Tryz.prog ops Q' [o] (putsOf L a s) V)
    (hmove : ∀ o s V y (Q' : Exit → Act → World → Prop), ops[c + 1]? = some o → s c = y → Q' .normal ((putsOf L a s).put o.dst y) V → wpListIn F n Tryz.prog ops Q' [o] (putsOf L a s) V)
    (hext0 : ∀ o s V x z (Q' : Exit → Act → World → Prop), ops[c + 2]? = some o → s (c + 1) = .tuple #[x, z] → Q' .normal ((putsOf L a s).put o.dst x) V → wpListIn F n Tryz.prog ops Q' [o] (putsOf L a s) V)
    (hext1 : ∀ o s V x z (Q' : Exit → Act → World → Prop), ops[c + 3]? = some o → s (c + 1) = .tuple #[x, z] → Q' .normal ((putsOf L a s).put o.dst z) V → wpListIn F n Tryz.prog ops Q' [o] (putsOf L a s) V)
    (halloc : ∀ o s V (Q' : Exit → Act → World → Prop), ops[c + 4]? = some o → Q' .normal ((putsOf L a s).put o.dst (.pointer (some ⟨V.heap.size, 0, none⟩))) (V.alloc (.cells #[.slice none 0 0, .slice none 0 0] 31)) → wpListIn F n Tryz.prog ops Q' [o] (putsOf L a s) V)
    (hstore : ∀ o s V b a1 n1 c1 a2 n2 c2 (Q' : Exit → Act → World → Prop), ops[c + 5]? = some o → s (c + 4) = .pointer (some ⟨b, 0, none⟩) → s (c + 2) = .agg #[.slice a1 n1 c1, .slice a2 n2 c2] → V.heap[b]? = some (.cells #[.slice none 0 0, .slice none 0 0] 31 (0, 0)) →
      Q' .normal ((putsOf L a s).put o.dst undef) ((V.setCell ⟨b, 0, none⟩ (.slice a1 n1 c1)).setCell ⟨b, 1, none⟩ (.slice a2 n2 c2)) → wpListIn F n Tryz.prog ops Q' [o] (putsOf L a s) V)
    (htail : ∀ s V b a1 n1 c1 a2 n2 c2 q z, q ≤ p + K → Rd W0 Rr ad len cap V q → W.grownBy V (some Rr) → s (c + 4) = .pointer (some ⟨b, 0, none⟩) → W.heap.size ≤ b → V.heap[b]? = some (.cells #[.slice a1 n1 c1, .slice a2 n2 c2] 31 (0, 0)) → R V (.agg #[.slice a1 n1 c1, .slice a2 n2 c2]) → s (c + 3) = z → Zp z → wpListIn F n Tryz.prog ops Q (ops.toList.drop (c + 6)) (putsOf L a s) V) : (Code.region id ops true).wpIn F n Tryz.prog Q a W := by
  simp only [Bool.and_eq_true] at hdep
  obtain ⟨⟨⟨⟨d1, d2⟩, d3⟩, d4⟩, d5⟩ := hdep
  have hRW := (Array.getElem?_eq_some_iff.1 hRd.2.2).1
  have hW0 := hRd.2.1
  refine wpIn_region_storeL (c + 5) (c + 6) hm hb ht (by omega) hsz (putsOf L a) (fun Ls V => W.grownBy V (some Rr) ∧ ∃ q, Rd W0 Rr ad len cap V q ∧ (Ls jc = false → q = p) ∧ q ≤ p + K) (fun V V' => V.grownBy V' (some Rr) ∧ ∃ q, Rd W0 Rr ad len cap V q)
    (fun ph k v V => (ph = false → MadeR0 c W.heap.size Zp R pre k v V) ∧ (ph = true → MadeR1 c W.heap.size Zp R k v V)) (puts_self a L hok) (puts_of hL hok) ⟨grownBy_drew (grownBy_refl _ _), p, hRd.drew, fun _ => rfl, by omega⟩ ?mono ?step ?mid ?tail
  case mono =>
    rintro ph k v V V' ⟨h1, h2⟩ ⟨hg, q, hq⟩
    have hbx : ∀ b, W.heap.size ≤ b → (some b : Option Nat) ≠ some Rr := fun b hb e => by injection e with e; omega
    refine ⟨fun e => ?_, fun e => ?_⟩
    · obtain ⟨f1, f2, f3, f4, f5⟩ := h1 e
      refine ⟨fun e => hpre _ _ _ _ (f1 e) hg, fun e => ?_, fun e => ?_, f4, fun e => ?_⟩
      · obtain ⟨a1, n1, c1, a2, n2, c2, z, g1, gz, g2⟩ := f2 e
        exact ⟨a1, n1, c1, a2, n2, c2, z, g1, gz, hRb _ _ _ _ g2 hq hg⟩
      · obtain ⟨a1, n1, c1, a2, n2, c2, g1, g2⟩ := f3 e
        exact ⟨a1, n1, c1, a2, n2, c2, g1, hRb _ _ _ _ g2 hq hg⟩
      · obtain ⟨b, g1, g2, g3⟩ := f5 e
        exact ⟨b, g1, g2, (hg.block _ (Array.getElem?_eq_some_iff.1 g3).1 (hbx b g2)).trans g3⟩
    · obtain ⟨f1, f2, f3⟩ := h2 e
      refine ⟨f1, f2, fun e => ?_⟩
      obtain ⟨b, g1, g2, a1, n1, c1, a2, n2, c2, g3, g4⟩ := f3 e
      exact ⟨b, g1, g2, a1, n1, c1, a2, n2, c2, (hg.block _ (Array.getElem?_eq_some_iff.1 g3).1 (hbx b g2)).trans g3, hRb _ _ _ _ g4 hq hg⟩
  case step =>
    intro Ls i o s V hi hip hLi hnp ho hV hd Q' hQ'
    obtain ⟨hgV, q, hRV, hq0, hqK⟩ := hV
    have hLj : i ≠ jc → (if jc = i then true else Ls jc) = false → q = p := fun e h => by
      rw [if_neg (fun h => e h.symm)] at h
      exact hq0 h
    by_cases e3 : i = c + 3
    · subst e3
      have hx : ∃ x z, s (c + 1) = .tuple #[x, z] ∧ Zp z := by
        cases hph : Ls (c + 5) with
        | false => rw [hph] at hd; obtain ⟨a1, n1, c1, a2, n2, c2, z, g1, gz, _⟩ := ((hd _ d3).1 rfl).2.1 (.inr rfl); exact ⟨_, z, g1, gz⟩
        | true => rw [hph] at hd; exact ((hd _ d3).2 rfl).1 rfl
      obtain ⟨x, z, hx, hz⟩ := hx
      refine hext1 o s V x z Q' ho hx (hQ' _ _ ⟨hgV, q, hRV, hLj (by omega), hqK⟩ ⟨grownBy_refl _ _, q, hRV⟩ ⟨fun _ => ⟨fun e => by omega, fun e => by omega, fun e => by omega, fun _ => hz, fun e => by omega⟩, fun _ => ⟨fun e => by omega, fun _ => hz, fun e => by omega⟩⟩)
    · have hph : Ls (c + 5) = false := by
        cases hph : Ls (c + 5) with
        | false => rfl
        | true =>
          have h1 := hnp hph
          have h2 := List.all_eq_true.1 hnd i (List.mem_range.2 (by omega))
          rw [h1] at h2
          simp at h2
          exact absurd h2 e3
      rw [hph] at hd hQ'
      have hd0 := fun k hk => (hd k hk).1 rfl
      have hq : ∀ v V', Below V.heap.size V V' → i ≠ jc → MadeR0 c W.heap.size Zp R pre i v V' → Q' .normal ((putsOf L a s).put o.dst v) V' := fun v V' h1 hj h2 =>
        hQ' v V' ⟨hgV.trans (below_grownAt h1 _), q, hRV.kept (below_grownAt h1 none) (by simp) (fun _ e => by cases e), hLj hj, hqK⟩ ⟨below_grownAt h1 _, q, hRV⟩ ⟨fun _ => h2, fun e => by cases e⟩
      by_cases ec : i < c
      · refine hstep i o s V q ec ho hRV (fun e => hq0 (by rw [← e]; exact hLi)) hgV (fun k hk hdk => (hd0 k hdk).1 hk) Q' (fun v V' q' h1 h2 h3 h4 h5 => hQ' v V' ⟨hgV.trans h4, q', h1, ?_, ?_⟩ ⟨h4, q, hRV⟩ ⟨fun _ => ⟨fun _ => h5, fun e => by omega, fun e => by omega, fun e => by omega, fun e => by omega⟩, fun e => by cases e⟩)
        · by_cases e : i = jc
          · intro h; exact absurd ((if_pos e.symm).symm.trans h : true = false) (by decide)
          · intro h; rw [h2 e]; exact hLj e h
        · by_cases e : i = jc
          · have := hq0 (by rw [← e]; exact hLi); omega
          · rw [h2 e]; exact hqK
      · by_cases e0 : i = c
        · subst e0
          exact hcall o s V q ho hRV hgV (fun k hk hdk => (hd0 k hdk).1 hk) Q' (fun a1 n1 c1 a2 n2 c2 z V' h1 hz h2 => hq _ V' h1 (by omega) ⟨fun e => by omega, fun _ => ⟨a1, n1, c1, a2, n2, c2, z, rfl, hz, h2⟩, fun e => by omega, fun e => by omega, fun e => by omega⟩)
        · by_cases e1 : i = c + 1
          · subst e1
            have h := (hd0 _ d1).2.1 (.inl rfl)
            exact hmove o s V _ Q' ho rfl (hq _ V (Below.refl _ _) (by omega) ⟨fun e => by omega, fun _ => h, fun e => by omega, fun e => by omega, fun e => by omega⟩)
          · by_cases e2 : i = c + 2
            · subst e2
              obtain ⟨a1, n1, c1, a2, n2, c2, z, g1, gz, g2⟩ := (hd0 _ d2).2.1 (.inr rfl)
              exact hext0 o s V _ _ Q' ho g1 (hq _ V (Below.refl _ _) (by omega) ⟨fun e => by omega, fun e => by omega, fun _ => ⟨a1, n1, c1, a2, n2, c2, rfl, g2⟩, fun e => by omega, fun e => by omega⟩)
            · have e4 : i = c + 4 := by omega
              subst e4
              exact halloc o s V Q' ho (hq _ _ ((Below.refl _ V).alloc (Nat.le_refl _) _) (by omega) ⟨fun e => by omega, fun e => by omega, fun e => by omega, fun e => by omega, fun _ => ⟨V.heap.size, rfl, hgV.size, World.alloc_heap_new V _⟩⟩)
  case mid =>
    intro Ls o s V hph ho hV hd Q' hQ'
    obtain ⟨hgV, q, hRV, hq0, hqK⟩ := hV
    obtain ⟨a1, n1, c1, a2, n2, c2, g1, g2⟩ := ((hd _ d4).1 rfl).2.2.1 rfl
    obtain ⟨b, g3, g4, g5⟩ := ((hd _ d5).1 rfl).2.2.2.2 rfl
    have k0 := grownBy_setAt V b 0 (.slice a1 n1 c1)
    have k1 := grownBy_setAt (V.setCell ⟨b, 0, none⟩ (.slice a1 n1 c1)) b 1 (.slice a2 n2 c2)
    have hne : (some Rr : Option Nat) ≠ some b := fun e => by injection e with e; omega
    have hlo : ∀ k, (some b : Option Nat) = some k → W0.heap.size ≤ k := fun k e => by injection e with e; omega
    refine hstore o s V b a1 n1 c1 a2 n2 c2 Q' ho g3 g1 g5 (hQ' undef _ ⟨(hgV.andThen k0 (fun k e => .inl (by injection e with e; omega))).andThen k1 (fun k e => .inl (by injection e with e; omega)), q, (hRV.kept k0 hne hlo).kept k1 hne hlo, fun h => hq0 ((if_neg (show ¬ jc = c + 5 by omega)).symm.trans h), hqK⟩ (fun k hk hΦ => ⟨fun e => (by cases e), fun _ => ?_⟩) ⟨fun e => (by cases e), fun _ => ⟨fun e => by omega, fun e => by omega, fun e => by omega⟩⟩)
    have h := hΦ.1 rfl
    refine ⟨fun e => ?_, h.2.2.2.1, fun e => ?_⟩
    · obtain ⟨_, _, _, _, _, _, z, e1, ez, _⟩ := h.2.1 (.inr e)
      exact ⟨_, z, e1, ez⟩
    · subst e
      exact ⟨b, g3, g4, a1, n1, c1, a2, n2, c2, desk_set g5 _ _, hRs V b a1 n1 c1 a2 n2 c2 g2 g4 g5⟩
  case tail =>
    intro Ls s V hV hLs hd
    obtain ⟨hgV, q, hRV, hq0, hqK⟩ := hV
    obtain ⟨b, g1, g2, a1, n1, c1, a2, n2, c2, g3, g4⟩ := ((hd (c + 4) (by omega)).2 rfl).2.2 rfl
    exact htail s V b a1 n1 c1 a2 n2 c2 q _ hqK hRV hgV g1 g2 g3 g4 rfl (((hd (c + 3) (by omega)).2 rfl).2.1 rfl)
end Go.Proofs.YtiaaefapbcjgmaaGreatDoor
namespace Go.Proofs.YtiaaefapbcjgmaaGreatDoor
open Go Go.RowKit
attribute [local go_sem] Oper.semAt_some

theorem ints_rd {W0 W W' : World} {R len cap q : Nat} {a : Option Addr} {v : Value} {xs : List Int} (h : Ints W v xs) (hR : Rd W0 R a len cap W q) (hg : W.grownBy W' (some R)) : Ints W' v xs := by
  rcases h with h | ⟨g, c, rfl, hg0, hc⟩
  · exact .inl h
  · by_cases h0 : 0 < xs.length
    · have hne : g ≠ R := fun e => by
        subst e
        have h1 := hc 0 h0
        unfold World.cell? at h1
        rw [hR.2.2] at h1
        simp at h1
      exact .inr ⟨g, c, rfl, Nat.lt_of_lt_of_le hg0 hg.size, fun i hi => (grown_cell12 hg hg0 hne i).trans (hc i hi)⟩
    · exact .inr ⟨g, c, rfl, Nat.lt_of_lt_of_le hg0 hg.size, fun i hi => absurd hi (by omega)⟩

theorem YD.deskI {base : Nat} {D : Dk} {V : World} {y : Value} (h : YD base D V y) : DeskI V y D := by
  obtain ⟨x, p, rfl, h1, h2⟩ := h
  exact ⟨x, p, rfl, h1, h2.past⟩

theorem YD.below {base : Nat} {D : Dk} {V V' : World} {y : Value} (h : YD base D V y) (hB : Below V.heap.size V V') : YD base D V' y := by
  obtain ⟨x, p, rfl, h1, h2⟩ := h
  exact ⟨x, p, rfl, h1.below hB, h2.below hB⟩

theorem YD.down {base base' : Nat} {D : Dk} {V : World} {y : Value} (h : YD base D V y) (hb : base' ≤ base) : YD base' D V y := by
  obtain ⟨x, p, rfl, h1, h2⟩ := h
  exact ⟨x, p, rfl, h1, h2.down hb⟩

theorem YD.form {base : Nat} {D : Dk} {V : World} {y : Value} (h : YD base D V y) : ∃ a b c e, y = .agg #[.slice a D.1.length b, .slice c D.2.length e] := by
  obtain ⟨x, p, rfl, h1, h2⟩ := h
  obtain ⟨a, b, rfl⟩ := h1.shape
  obtain ⟨c, e, rfl⟩ := h2.form
  exact ⟨_, _, _, _, rfl⟩

theorem YD.rd {W0 : World} {R len cap q base : Nat} {a : Option Addr} {D : Dk} {V V' : World} {y : Value} (h : YD base D V y) (hR : Rd W0 R a len cap V q) (hb : R < base) (hg : V.grownBy V' (some R)) : YD base D V' y := by
  obtain ⟨x, p, rfl, h1, h2⟩ := h
  exact ⟨x, p, rfl, ints_rd h1 hR hg, h2.old hb hg⟩

theorem YD.set {base b n1 c1 n2 c2 i m e : Nat} {a1 a2 s : Option Addr} {D : Dk} {V : World} {y : Value} (h : YD base D V y) (kb : V.heap[b]? = some (.cells #[.slice a1 n1 c1, .slice a2 n2 c2] 31 (0, 0))) : YD base D (V.setCell ⟨b, i, none⟩ (.slice s m e)) y := by
  obtain ⟨x, p, rfl, h1, h2⟩ := h
  have g := grownBy_setAt V b i (.slice s m e)
  exact ⟨x, p, rfl, ints_grown h1 kb g, h2.kept kb (by decide) (by decide) g⟩

theorem Apart.down {base base' : Nat} {y : Value} (h : Apart base y) (hb : base' ≤ base) : Apart base' y := fun x p e g e1 => ⟨Nat.le_trans hb (h x p e g e1).1, (h x p e g e1).2⟩

theorem apart_none {base : Nat} {x : Value} (h : ∀ g, x.ownBlock = some g → base ≤ g) : Apart base (.agg #[x, .slice none 0 0]) := fun x' p' e g e1 => by
  injection e with e
  simp at e
  obtain ⟨rfl, rfl⟩ := e
  exact ⟨h g e1, by simp [Value.ownBlock]⟩

theorem YD.capN {base : Nat} {D : Dk} {V : World} {y : Value} (h : YD base D V y) : CapN base y := by
  obtain ⟨x, p, rfl, _, us, hl, ho, _⟩ := h
  obtain ⟨a, c, rfl⟩ := own_form ho
  refine CapN.of (own_cap ho) fun g o t e => ?_
  subst e
  exact (ho.lt g rfl).1

/-- Sizes of a desk that was drawn. -/
def DkZ (d : Dk) : Prop := d.1.length ≤ 12 ∧ d.2.length ≤ 9 ∧ ∀ j, (d.2.getD j []).length ≤ 12

theorem DkZ.dkS {d : Dk} (h : DkZ d) : DkS d := ⟨by have := h.1; omega, by have := h.2.1; omega, fun j => by have := h.2.2 j; omega⟩

theorem RowsOk.at_ {D : Dk} (h : RowsOk D) (j : Nat) : (D.2.getD j []).length ≤ 12 := by
  by_cases hj : j < D.2.length
  · exact h.2.1 j hj
  · rw [List.getD, List.getElem?_eq_none (by omega)]; simp

theorem RowsOk.dkZ {D : Dk} (h : RowsOk D) : DkZ D := ⟨h.2.2.1, by have := h.2.2.2; omega, h.at_⟩

theorem newV_rows (xs : List Int) : RowsOk (newV xs) := by
  unfold newV
  split
  · rename_i h
    have := sideB_len h
    exact ⟨fun j hj => by simp at hj, fun j hj => by simp at hj, this.2, by simp⟩
  · exact rowsOk_none

theorem doV_past (d : Dk) (k n : Int) : (doV d k n).1.2.length ≤ d.2.length + 1 := by
  unfold doV pastV
  repeat' split
  all_goals simp
  all_goals omega

/-- A desk that is drawn: its variable is block b, the result's block that of w's size. -/
structure Dq (W0 : World) (R len cap : Nat) (a : Option Addr) (w : World) (b : Nat) (d : Dk) (x p : Value) (V : World) (q : Nat) : Prop where
  rd : Rd W0 R a len cap V q
  gr : w.grownBy V (some R)
  box : V.heap[b]? = some (.cells #[x, p] 31 (0, 0))
  res : V.heap[w.heap.size]? = some (.cells #[.slice none 0 0, .slice none 0 0] 31 (0, 0))
  lo : w.heap.size + 1 ≤ b
  rw_ : R < w.heap.size
  yd : YD (w.heap.size + 1) d V (.agg #[x, p])
  rows : DkZ d

theorem Dq.move {W0 : World} {R len cap : Nat} {a : Option Addr} {w : World} {b : Nat} {d : Dk} {x p : Value} {V V' : World} {q q' : Nat} (h : Dq W0 R len cap a w b d x p V q) (h1 : Rd W0 R a len cap V' q') (h2 : V.grownBy V' (some R)) : Dq W0 R len cap a w b d x p V' q' := by
  have h3 := h.lo
  have h4 := h.rw_
  exact ⟨h1, h.gr.trans h2, (h2.block b (Array.getElem?_eq_some_iff.1 h.box).1 (fun e => by injection e with e; omega)).trans h.box, (h2.block _ (Array.getElem?_eq_some_iff.1 h.res).1 (fun e => by injection e with e; omega)).trans h.res, h3, h4, h.yd.rd h.rd (by omega) h2, h.rows⟩

theorem Dq.set0 {W0 : World} {R len cap : Nat} {a : Option Addr} {w : World} {b : Nat} {d : Dk} {V : World} {q n1 c1 n2 c2 m e : Nat} {a1 a2 s : Option Addr} {xs : List Int} (h : Dq W0 R len cap a w b d (.slice a1 n1 c1) (.slice a2 n2 c2) V q) (hx : Ints V (.slice s m e) xs) (hl : xs.length ≤ 12) :
    Dq W0 R len cap a w b (xs, d.2) (.slice s m e) (.slice a2 n2 c2) (V.setCell ⟨b, 0, .none⟩ (.slice s m e)) q := by
  have h3 := h.lo
  have h4 := h.rw_
  have h5 := h.rd.2.1
  have g := grownBy_setAt V b 0 (.slice s m e)
  obtain ⟨x', p', e1, _, h7⟩ := h.yd
  injection e1 with e1
  simp at e1
  obtain ⟨rfl, rfl⟩ := e1
  exact ⟨h.rd.kept g (fun e => by injection e with e; omega) (fun k e => by injection e with e; omega), h.gr.andThen g (fun k e => .inl (by injection e with e; omega)), set_cells h.box 0 _,
    (g.block _ (Array.getElem?_eq_some_iff.1 h.res).1 (fun e => by injection e with e; omega)).trans h.res, h3, h4, ⟨_, _, rfl, ints_grown hx h.box g, h7.kept h.box (by decide) (by decide) g⟩, hl, h.rows.2.1, h.rows.2.2⟩

/-- The desk is handed back. -/
theorem Dq.done {W0 : World} {R len cap : Nat} {a : Option Addr} {w : World} {b : Nat} {d : Dk} {V : World} {q n1 c1 n2 c2 : Nat} {a1 a2 : Option Addr} (h : Dq W0 R len cap a w b d (.slice a1 n1 c1) (.slice a2 n2 c2) V q) :
    ((V.setCell ⟨w.heap.size, 0, .none⟩ (.slice a1 n1 c1)).setCell ⟨w.heap.size, 1, .none⟩ (.slice a2 n2 c2)).heap[w.heap.size]? = some (.cells #[.slice a1 n1 c1, .slice a2 n2 c2] 31 (0, 0)) ∧
    YD w.heap.size d ((V.setCell ⟨w.heap.size, 0, .none⟩ (.slice a1 n1 c1)).setCell ⟨w.heap.size, 1, .none⟩ (.slice a2 n2 c2)) (.agg #[.slice a1 n1 c1, .slice a2 n2 c2]) ∧
    Rd W0 R a len cap ((V.setCell ⟨w.heap.size, 0, .none⟩ (.slice a1 n1 c1)).setCell ⟨w.heap.size, 1, .none⟩ (.slice a2 n2 c2)) q ∧ w.grownBy ((V.setCell ⟨w.heap.size, 0, .none⟩ (.slice a1 n1 c1)).setCell ⟨w.heap.size, 1, .none⟩ (.slice a2 n2 c2)) (some R) := by
  have h4 := h.rw_
  have h5 := h.rd.2.1
  have g := grownBy_setAt V w.heap.size 0 (.slice a1 n1 c1)
  have k := set_cells h.res 0 (.slice a1 n1 c1)
  have g2 := grownBy_setAt (V.setCell ⟨w.heap.size, 0, .none⟩ (.slice a1 n1 c1)) w.heap.size 1 (.slice a2 n2 c2)
  exact ⟨desk_set h.res _ _, ((h.yd.set h.res).set k).down (by omega), (h.rd.kept g (fun e => by injection e with e; omega) (fun k e => by injection e with e; omega)).kept g2 (fun e => by injection e with e; omega) (fun k e => by injection e with e; omega),
    (h.gr.andThen g (fun k e => .inl (by injection e with e; omega))).andThen g2 (fun k e => .inl (by injection e with e; omega))⟩

/-- A row more of before: what is handed back. -/
theorem Dq.grow {W0 : World} {R len cap : Nat} {a : Option Addr} {w : World} {b : Nat} {d : Dk} {V W : World} {q n1 c1 n2 c2 n3 c3 : Nat} {a1 a2 a3 : Option Addr} {u : Value} {us : List Value} (h : Dq W0 R len cap a w b d (.slice a1 n1 c1) (.slice a2 n2 c2) V q) (hap : Apart (w.heap.size + 1) (.agg #[.slice a1 n1 c1, .slice a2 n2 c2])) (hl : us.length = d.2.length)
    (huo : V.ownsRow (w.heap.size + 1) 28 1 (.slice a2 n2 c2) us.length us) (hur : ∀ j, j < d.2.length → V.ownsRow (w.heap.size + 1) 3 1 (us.getD j undef) (d.2.getD j []).length ((d.2.getD j []).map (Value.int .i64)))
    (hu : V.ownsRow (w.heap.size + 1) 3 1 u 0 []) (how : W.ownsRow (w.heap.size + 1) 28 1 (.slice a3 n3 c3) (us.length + 1) (us ++ [u])) (hg : V.grownBy W (Value.ownBlock (.slice a2 n2 c2))) (hd : d.2.length ≤ 8) :
    Dq W0 R len cap a w b (d.1, d.2 ++ [[]]) (.slice a1 n1 c1) (.slice a3 n3 c3) (W.setCell ⟨b, 1, .none⟩ (.slice a3 n3 c3)) q := by
  have h3 := h.lo
  have h4 := h.rw_
  have h5 := h.rd.2.1
  have hlo : ∀ k, Value.ownBlock (.slice a2 n2 c2) = some k → w.heap.size + 1 ≤ k := fun k e => (huo.lt k e).1
  have nR : (some R : Option Nat) ≠ Value.ownBlock (.slice a2 n2 c2) := fun e => by have := hlo R e.symm; omega
  have nb : (some b : Option Nat) ≠ Value.ownBlock (.slice a2 n2 c2) := fun e => own_not huo h.box (by decide) e.symm
  have nr : (some w.heap.size : Option Nat) ≠ Value.ownBlock (.slice a2 n2 c2) := fun e => by have := hlo _ e.symm; omega
  have hbox : W.heap[b]? = _ := (hg.block b (Array.getElem?_eq_some_iff.1 h.box).1 (fun e => nb e)).trans h.box
  have hres : W.heap[w.heap.size]? = _ := (hg.block _ (Array.getElem?_eq_some_iff.1 h.res).1 (fun e => nr e)).trans h.res
  have hrd := h.rd.kept hg nR (fun k e => by have := hlo k e; omega)
  have hgr := h.gr.andThen hg (fun k e => .inl (by have := hlo k e; omega))
  have hO : OwnSS W (w.heap.size + 1) (.slice a3 n3 c3) (d.2 ++ [[]]) := OwnSS.push hl huo hur (row := []) hu how hg
  obtain ⟨x', p', e1, h6, _⟩ := h.yd
  injection e1 with e1
  simp at e1
  obtain ⟨rfl, rfl⟩ := e1
  have hI := ints_apart h6 hg (fun g e1 e2 => (hap _ _ rfl g e1).2 e2)
  have g := grownBy_setAt W b 1 (.slice a3 n3 c3)
  refine ⟨hrd.kept g (fun e => by injection e with e; omega) (fun k e => by injection e with e; omega), hgr.andThen g (fun k e => .inl (by injection e with e; omega)), set_cells hbox 1 _,
    (g.block _ (Array.getElem?_eq_some_iff.1 hres).1 (fun e => by injection e with e; omega)).trans hres, h3, h4, ⟨_, _, rfl, ints_grown hI hbox g, hO.kept hbox (by decide) (by decide) g⟩, h.rows.1, by simp; omega, fun j => ?_⟩
  show ((d.2 ++ [[]]).getD j []).length ≤ 12
  have h7 := h.rows.2.2 j
  by_cases hj : j < d.2.length
  · rw [List.getD, List.getElem?_append_left hj]; exact h7
  · rw [List.getD, List.getElem?_append_right (by omega)]
    rcases Nat.eq_zero_or_pos (j - d.2.length) with e | e
    · rw [e]; simp
    · rw [List.getElem?_eq_none (by simp; omega)]; simp

theorem Dq.put {W0 : World} {R len cap : Nat} {a : Option Addr} {w : World} {b : Nat} {d D : Dk} {V : World} {q n1 c1 n2 c2 m1 e1 m2 e2 : Nat} {a1 a2 s1 s2 : Option Addr} (h : Dq W0 R len cap a w b d (.slice a1 n1 c1) (.slice a2 n2 c2) V q) (hY : YD (w.heap.size + 1) D V (.agg #[.slice s1 m1 e1, .slice s2 m2 e2])) (hr : DkZ D) :
    Dq W0 R len cap a w b D (.slice s1 m1 e1) (.slice s2 m2 e2) ((V.setCell ⟨b, 0, .none⟩ (.slice s1 m1 e1)).setCell ⟨b, 1, .none⟩ (.slice s2 m2 e2)) q := by
  have h3 := h.lo
  have h4 := h.rw_
  have h5 := h.rd.2.1
  have g := grownBy_setAt V b 0 (.slice s1 m1 e1)
  have k := set_cells h.box 0 (.slice s1 m1 e1)
  have g2 := grownBy_setAt (V.setCell ⟨b, 0, .none⟩ (.slice s1 m1 e1)) b 1 (.slice s2 m2 e2)
  exact ⟨(h.rd.kept g (fun e => by injection e with e; omega) (fun k e => by injection e with e; omega)).kept g2 (fun e => by injection e with e; omega) (fun k e => by injection e with e; omega),
    (h.gr.andThen g (fun k e => .inl (by injection e with e; omega))).andThen g2 (fun k e => .inl (by injection e with e; omega)), desk_set h.box _ _,
    (g2.block _ (Nat.lt_of_lt_of_le (Array.getElem?_eq_some_iff.1 h.res).1 g.size) (fun e => by injection e with e; omega)).trans ((g.block _ (Array.getElem?_eq_some_iff.1 h.res).1 (fun e => by injection e with e; omega)).trans h.res), h3, h4, (hY.set h.box).set k, hr⟩

set_option maxRecDepth 100000 in
set_option maxHeartbeats 4000000 in
theorem l20Desk_in (W0 : World) (R len cap p : Nat) (a : Option Addr) (n : Int) (hn : 0 < n) (hn2 : n ≤ 1000) (w : World) (hb : Bytes W0 a len) (h : Rd W0 R a len cap w p) (hp : p ≤ 600000) :
    Calls Tryz.prog 48 #[.pointer (some ⟨R, 0, none⟩), .int .i64 n] w fun e w' => ∃ y d, e = .returned y ∧ YD w.heap.size d w' y ∧ LoN w.heap.size y ∧ DkZ d ∧ ∃ p', p' ≤ p + 300 ∧ Rd W0 R a len cap w' p' ∧ w.grownBy w' (some R) := by
  have hRw := h.lt
  have hW0R := h.2.1
  refine (callsIn_wide (n := 9)).1 ?_
  refine callsIn_of_wp Tryz.func48 rfl trivial ?_ rfl
  simp only [Tryz.ntmps48, List.size_toArray, List.length_cons, List.length_nil, Nat.reduceAdd, Nat.reduceSub, Array.replicate_succ, Array.replicate_zero, List.push_toArray, List.append_toArray, List.nil_append, List.cons_append]
  have hg1 : w.grownBy (w.alloc (.cells #[.slice none 0 0, .slice none 0 0] 31)) (some R) := World.grownBy_alloc w _ _
  have k1 := World.alloc_heap_new w (.cells #[.slice none 0 0, .slice none 0 0] 31)
  have hR1 := h.alloc (.cells #[.slice none 0 0, .slice none 0 0] 31)
  have z1 := World.size_alloc w (.cells #[.slice none 0 0, .slice none 0 0] 31)
  obtain ⟨w1, hw1⟩ : ∃ w1, w.alloc (.cells #[.slice none 0 0, .slice none 0 0] 31) = w1 := ⟨_, rfl⟩
  rw [hw1] at hg1 k1 hR1 z1
  have z1' : w.heap.size + 1 ≤ w1.heap.size := by omega
  clear z1
  gi_wp2_with fail
  refine ⟨trivial, ?_⟩
  gi_at_call 87
  refine (callsIn_wide.2 (l20Side0_in W0 R len cap p a w1 hb hR1 (by omega))).mono ?_
  rintro e w2 ⟨v, xs, rfl, hv, hx1, hx2, q2, hq2, hR2, hg2⟩
  have hvi := Ints.of_owns hv
  have hnr := newV_rows xs
  gi_wp2_with fail
  refine ⟨trivial, ?_⟩
  gi_at_call 93
  refine (callsIn_wide.2 (specNew v xs w2 hvi (by omega))).mono ?_
  rintro e w3 ⟨x, rfl, hx, hB3⟩
  have hxi := Ints.of_owns hx
  have hxlo' := hide (show ∀ g, x.ownBlock = some g → w.heap.size + 1 ≤ g from fun g e => by have h9 := (hx.lt g e).1; have h8 := hg2.size; omega)
  have hn2' : (newV xs).2 = [] := by unfold newV; split <;> rfl
  obtain ⟨xa, xc, rfl⟩ := own_form hx
  have hR3 := hR2.kept (below_grownAt hB3 none) (by simp) (fun _ e => by cases e)
  have hg3 := (hg1.trans hg2).trans (below_grownAt hB3 (some R))
  have hres3 := (hB3.block _ (by have := (Array.getElem?_eq_some_iff.1 k1).1; have := hg2.size; omega)).trans ((hg2.block _ (Array.getElem?_eq_some_iff.1 k1).1 (fun e => by injection e with e; omega)).trans k1)
  have z3 : w1.heap.size ≤ w3.heap.size := Nat.le_trans hg2.size hB3.size
  obtain ⟨D, hD⟩ : ∃ D, newV xs = D := ⟨_, rfl⟩
  rw [hD] at hxi hnr hn2' ⊢
  have hxl0 := hxlo'.out
  rw [hD] at hxl0
  have hxloh := hide hxl0
  clear hxl0 hxlo'
  have hb0 := World.alloc_heap_new w3 (.cells #[.slice xa D.1.length xc, .slice none 0 0] 31)
  have hba := (Below.refl _ w3).alloc (Nat.le_refl _) (.cells #[.slice xa D.1.length xc, .slice none 0 0] 31)
  have hQ0 : Dq W0 R len cap a w w3.heap.size D (.slice xa D.1.length xc) (.slice none 0 0) (w3.alloc (.cells #[.slice xa D.1.length xc, .slice none 0 0] 31)) q2 :=
    ⟨hR3.alloc _, hg3.trans (World.grownBy_alloc _ _ _), hb0, (Below.heap_alloc _ _ _ (Array.getElem?_eq_some_iff.1 hres3).1).trans hres3, by omega, hRw, ⟨_, _, rfl, hxi.below hba, by rw [hn2']; exact ⟨[], rfl, World.ownsRow_nil _ _ _ _, fun j hj => by simp at hj⟩⟩, hnr.dkZ⟩
  gi_wp2_with fail
  obtain ⟨V0, hV0⟩ : ∃ V0, w3.alloc (.cells #[.slice xa D.1.length xc, .slice none 0 0] 31) = V0 := ⟨_, rfl⟩
  rw [hV0] at hQ0 ⊢
  obtain ⟨b, hbe⟩ : ∃ b, w3.heap.size = b := ⟨_, rfl⟩
  rw [hbe] at hQ0 ⊢
  clear hV0 hbe hb0 hba hres3 hR3 hg3 hxi hx hB3 hvi hv hR2 hg2 hR1 hg1 hw1 k1 z3 z1'
  refine ⟨trivial, ?_⟩
  gi_at_call 42
  refine (callsIn_wide.2 (pick_in W0 R len cap q2 a 6 V0 hb hQ0.rd (by omega))).mono ?_
  rintro e w4 ⟨x0, rfl, hx0, _, hx1', hR4, hg4, _⟩
  replace hx1' := hx1' (by omega)
  obtain ⟨N, rfl⟩ : ∃ N : Nat, x0 = N := ⟨x0.toNat, by omega⟩
  have hQ4 := hQ0.move hR4 hg4
  have hD0 : D.2.length ≤ 0 := by rw [hn2']; simp
  have hxlo := hxloh.out
  clear hQ0 hR4 hg4 hn2' hnr hD
  gi_wp2
  gi_loopw [7] (fun k wr => ∃ (j : Nat) (d : Dk) (x p1 : Value) (q : Nat), j ≤ N ∧ k = .int .i64 ((N : Int) - (j : Nat)) ∧ q ≤ p + 14 + 40 * j ∧ d.2.length ≤ j ∧ Dq W0 R len cap a w b d x p1 wr q ∧ Apart (w.heap.size + 1) (.agg #[x, p1])) (fun k _ => (intOf k).toNat)
  case atStart => exact ⟨0, D, _, _, _, by omega, by go_num, by omega, hD0, hQ4, apart_none (fun g e => hxlo g e)⟩
  case round =>
    clear hQ4 hD0
    obtain ⟨j, d, x, p1, q, hj, rfl, hq, hd2, hQ, hap⟩ := hrel
    obtain ⟨x1, x2, x3, x4, hform⟩ := hQ.yd.form
    injection hform with hform
    simp at hform
    obtain ⟨rfl, rfl⟩ := hform
    by_cases hjn : j < N
    · have hc : (0 : Int) < (N : Int) - (j : Int) := by omega
      have hw1 : IntKind.i64.wrap ((N : Int) - (j : Int) - 1) = (N : Int) - (j : Int) - 1 := IntWalk.i64_in _ (by omega)
      have hd12 := hQ.rows.1
      have lb := (Array.getElem?_eq_some_iff.1 hQ.box).1
      have hlo := hQ.lo
      have hszr := hQ.gr.size
      gi_wp2
      refine wpIn_region_madeR W0 R len cap q a 30 4 5 [(some 23, 0), (some 24, 1), (some 25, 2), (some 26, 3), (some 27, 4), (some 28, 5), (some 22, 6), (some 29, 7), (some 30, 8), (some 8, 9), (none, 10)] (fun z => ∃ bo, z = .bool bo) (fun V y => ∃ D', RowsOk D' ∧ D'.2.length ≤ d.2.length + 1 ∧ YD (w.heap.size + 1) D' V y ∧ Apart (w.heap.size + 1) y) (by kernel_rfl) (by kernel_rfl) (by kernel_rfl) (by decide) (by kernel_rfl) (by kernel_rfl) (by rfl) (by decide) (by decide) hQ.rd
        (fun i v V => match i with | 0 => v = .agg #[.slice x1 d.1.length x2, .slice x3 d.2.length x4] | 1 => v = .pointer (some ⟨R, 0, none⟩) | 2 => v = .pointer (some ⟨b, 0, none⟩) | 3 => v = .slice x1 d.1.length x2 | 4 => ∃ k n, Fits k ∧ Fits n ∧ v = dV k n | _ => True)
        (fun i v V V' h hg => match i, h with | 0, h => h | 1, h => h | 2, h => h | 3, h => h | 4, h => h | (_ + 5), _ => trivial)
        (fun V V' qv y ⟨D', h1, h2, h3, h4⟩ hq' hg => ⟨D', h1, h2, h3.rd hq' (by omega) hg, h4⟩)
        (fun V b' a1 n1 c1 a2 n2 c2 ⟨D', h1, h2, h3, h4⟩ _ hz => ⟨D', h1, h2, (h3.set hz).set (set_cells hz 0 _), h4⟩)
        ?step ?call ?move ?ext0 ?ext1 ?allo ?stor ?tail
      case step =>
        rintro i oo s V qv hi ho hRV hqj hgV hd Q' hQ'
        have hQV := hQ.move hRV hgV
        obtain ⟨m0, m1, _, _⟩ := row_at hQV.box
        rcases (show i = 0 ∨ i = 1 ∨ i = 2 ∨ i = 3 ∨ i = 4 by omega) with rfl | rfl | rfl | rfl | rfl
        all_goals
          simp at ho
          subst ho
          simp only [putsOf, Act.put, List.setIfInBounds_toArray, List.set_cons_succ, List.set_cons_zero] at hQ' ⊢
          have hQh := hide hQ'
          clear hQ'
        · clear hd
          gi_wp2
          have hr := hQh.out
          exact hr _ _ qv hRV (fun _ => rfl) (by omega) (grownBy_refl _ _) rfl
        · clear hd
          gi_wp2
          have hr := hQh.out
          exact hr _ _ qv hRV (fun _ => rfl) (by omega) (grownBy_refl _ _) rfl
        · clear hd
          gi_wp2
          have hr := hQh.out
          exact hr _ _ qv hRV (fun _ => rfl) (by omega) (grownBy_refl _ _) rfl
        · have e1 : s 2 = .pointer (some ⟨b, 0, none⟩) := hd 2 (by decide) (by kernel_rfl)
          clear hd
          gi_wp2
          have hr := hQh.out
          simp only [e1] at hr ⊢
          exact hr _ _ qv hRV (fun _ => rfl) (by omega) (grownBy_refl _ _) rfl
        · have e1 : s 1 = .pointer (some ⟨R, 0, none⟩) := hd 1 (by decide) (by kernel_rfl)
          have e2 : s 3 = .slice x1 d.1.length x2 := hd 3 (by decide) (by kernel_rfl)
          have hqv := hqj rfl
          have hC := l20Deed_in W0 R len cap qv a V hb hRV (by omega) x1 d.1.length x2 (by omega)
          clear hd
          gi_wp2_with (refine ⟨trivial, ?_⟩; gi_at_call 94; go_loud (refine (callsIn_wide.2 hC).mono ?_; rintro e W9 ⟨⟨dk, dn, hk, hn9, rfl⟩, q9, hq9, hR9, hg9⟩))
          have hr := hQh.out
          simp only [e1, e2] at hr ⊢
          exact hr _ _ q9 hR9 (fun h => absurd rfl h) hq9 hg9 ⟨dk, dn, hk, hn9, rfl⟩
      case call =>
        rintro oo s V qv ho hRV hgV hd Q' hQ'
        have hQV := hQ.move hRV hgV
        obtain ⟨m0, m1, _, _⟩ := row_at hQV.box
        simp at ho
        subst ho
        simp only [putsOf, Act.put, List.setIfInBounds_toArray, List.set_cons_succ, List.set_cons_zero] at hQ' ⊢
        have hQh := hide hQ'
        clear hQ'
        have e1 : s 0 = .agg #[.slice x1 d.1.length x2, .slice x3 d.2.length x4] := hd 0 (by decide) (by kernel_rfl)
        obtain ⟨dk, dn, hk, hn9, e2⟩ : ∃ k n, Fits k ∧ Fits n ∧ s 4 = dV k n := hd 4 (by decide) (by kernel_rfl)
        have hC := specDo _ d dk dn V hQV.yd.deskI hQV.rows.dkS hk hn9
        have hsv := hgV.size
        unfold dV at e2 hC
        clear hd
        gi_wp2_with (refine ⟨trivial, ?_⟩; gi_at_call 66; go_loud (refine (callsIn_wide.2 hC).mono ?_; rintro e W9 ⟨y9, rfl, hy9, hN9, hB9⟩))
        obtain ⟨hY9, hA9⟩ := YD.of hy9 (hN9.2 (by omega))
        replace hY9 := hY9.down (base' := w.heap.size + 1) (by omega)
        replace hA9 := hA9.down (base' := w.heap.size + 1) (by omega)
        obtain ⟨z1, z2, z3, z4, rfl⟩ := hY9.form
        have hr := hQh.out
        simp only [e1, e2] at hr ⊢
        exact hr _ _ _ _ _ _ _ _ hB9 ⟨_, rfl⟩ ⟨_, doV_rows _ _ _, doV_past _ _ _, hY9, hA9⟩
      case move =>
        rintro oo s V y Q' ho hs hQ'
        simp at ho
        subst ho
        simp only [putsOf, Act.put, List.setIfInBounds_toArray, List.set_cons_succ, List.set_cons_zero] at hQ' ⊢
        have hQh := hide hQ'
        clear hQ'
        gi_wp2
        have hr := hQh.out
        simp only [hs] at hr ⊢
        exact hr
      case ext0 =>
        rintro oo s V y z Q' ho hs hQ'
        simp at ho
        subst ho
        simp only [putsOf, Act.put, List.setIfInBounds_toArray, List.set_cons_succ, List.set_cons_zero] at hQ' ⊢
        have hQh := hide hQ'
        clear hQ'
        replace hs : s 6 = .tuple #[y, z] := hs
        gi_wp2
        have hr := hQh.out
        simp only [hs] at hr ⊢
        exact hr
      case ext1 =>
        rintro oo s V y z Q' ho hs hQ'
        simp at ho
        subst ho
        simp only [putsOf, Act.put, List.setIfInBounds_toArray, List.set_cons_succ, List.set_cons_zero] at hQ' ⊢
        have hQh := hide hQ'
        clear hQ'
        replace hs : s 6 = .tuple #[y, z] := hs
        gi_wp2
        have hr := hQh.out
        simp only [hs] at hr ⊢
        exact hr
      case allo =>
        rintro oo s V Q' ho hQ'
        simp at ho
        subst ho
        simp only [putsOf, Act.put, List.setIfInBounds_toArray, List.set_cons_succ, List.set_cons_zero] at hQ' ⊢
        have hQh := hide hQ'
        clear hQ'
        gi_wp2
        exact hQh.out
      case stor =>
        rintro oo s V b' a1 n1 c1 a2 n2 c2 Q' ho hs1 hs2 hz hQ'
        obtain ⟨z0, z1, z2, z3⟩ := row_at hz
        simp at ho
        subst ho
        simp only [putsOf, Act.put, List.setIfInBounds_toArray, List.set_cons_succ, List.set_cons_zero] at hQ' ⊢
        have hQh := hide hQ'
        clear hQ'
        replace hs1 : s 9 = .pointer (some ⟨b', 0, none⟩) := hs1
        replace hs2 : s 7 = .agg #[.slice a1 n1 c1, .slice a2 n2 c2] := hs2
        gi_wp2
        have hr := hQh.out
        simp only [hs1, hs2] at hr ⊢
        exact hr
      case tail =>
        rintro s V bx a1 n1 c1 a2 n2 c2 q9 z hq9 hRV hgV f9 hbx kx hY f8 hz
        replace f9 : s 9 = .pointer (some ⟨bx, 0, none⟩) := f9
        replace f8 : s 8 = z := f8
        obtain ⟨bo, rfl⟩ := hz
        obtain ⟨D', hDr, hDp, hDY, hDA⟩ := hY
        have hQV := hQ.move hRV hgV
        obtain ⟨y1, y2, y3, y4, hf⟩ := hDY.form
        injection hf with hf
        simp at hf
        obtain ⟨⟨rfl, rfl, rfl⟩, rfl, rfl, rfl⟩ := hf
        obtain ⟨k0, k1, _, _⟩ := row_at kx
        obtain ⟨m0, m1, f0, f1⟩ := row_at hQV.box
        have hP := hide (hQV.put hDY hDr.dkZ)
        have hQV' := hide hQV
        clear hQV hQ hDY kx hgV hRV
        simp only [putsOf, Act.put, List.setIfInBounds_toArray, List.set_cons_succ, List.set_cons_zero]
        simp only [List.drop_succ_cons, List.drop_zero]
        cases bo
        · simp only [f8, f9]
          gi_wp2
          go_roundw
          case rel => exact ⟨j + 1, d, _, _, q9, by omega, by go_num, by omega, by omega, hQV'.out, hap⟩
          case measure => simp [intOf]; omega
        · simp only [f8, f9]
          gi_wp2
          go_roundw
          case rel => exact ⟨j + 1, D', _, _, q9, by omega, by go_num, by omega, by omega, hP.out, hDA⟩
          case measure => simp [intOf]; omega
    · obtain rfl : j = N := by omega
      have hc : ¬ (0 : Int) < (j : Int) - (j : Int) := by omega
      obtain ⟨m0, m1, f0, f1⟩ := row_at hQ.box
      obtain ⟨r0, r1, t0, t1⟩ := row_at hQ.res
      gi_wp2_with fail
      refine ⟨trivial, ?_⟩
      gi_at_call 49
      refine (callsIn_wide.2 (odd_any W0 R len cap _ a n _ hb hQ.rd (by omega) hn hn2)).mono ?_
      rintro e V1 ⟨bo, rfl, hR1, hg1⟩
      have hQ1 := hQ.move hR1 hg1
      clear hQ hR1 hg1
      cases bo with
      | false =>
        obtain ⟨m0, m1, f0, f1⟩ := row_at hQ1.box
        obtain ⟨r0, r1, t0, t1⟩ := row_at hQ1.res
        have hd9 := hide hQ1.done
        have hcn := hide (show LoN w.heap.size _ from fun x p e g e1 => by have := (hap x p e g e1).1; omega)
        have hdz := hide hQ1.rows
        gi_wp2
        (try simp only [Exit.inBlock, Exit.then])
        exact bodyPost_ret (results_desk rfl _ _ w.heap.size _ _ rfl hd9.out.1) rfl ⟨_, d, rfl, hd9.out.2.1, hcn.out, hdz.out, _, by omega, hd9.out.2.2⟩
      | true =>
        obtain ⟨m0, m1, f0, f1⟩ := row_at hQ1.box
        obtain ⟨r0, r1, t0, t1⟩ := row_at hQ1.res
        gi_wp2_with fail
        refine ⟨trivial, ?_⟩
        gi_at_call 42
        refine (callsIn_wide.2 (pick_in W0 R len cap _ a 3 _ hb hQ1.rd (by omega))).mono ?_
        rintro e V2 ⟨y, rfl, hy0, _, hy1, hR2, hg2, _⟩
        replace hy1 := hy1 (by omega)
        have hQ2 := hQ1.move hR2 hg2
        clear hQ1 hR2 hg2
        rcases (show y = 0 ∨ y = 1 ∨ y = 2 by omega) with rfl | rfl | rfl
        · have hA := World.grownBy_alloc V2 (.cells #[.int .i64 2] 3) (some R)
          have hQ3 := hQ2.move (hQ2.rd.alloc _) hA
          have hI : Ints (V2.alloc (.cells #[.int .i64 2] 3)) (.slice (some ⟨V2.heap.size, 0, none⟩) 1 1) [2] := .inr ⟨V2.heap.size, 1, rfl, by rw [World.size_alloc]; omega, fun i hi => by
            obtain rfl : i = 0 := by simpa using hi
            rw [World.cell?_alloc_at _ _ _ _ rfl]
            rfl⟩
          have hQ4 := hQ3.set0 hI (by simp)
          have hszg := hQ2.gr.size
          clear hQ2 hA hI
          obtain ⟨m0, m1, f0, f1⟩ := row_at hQ3.box
          obtain ⟨r0, r1, t0, t1⟩ := row_at hQ3.res
          obtain ⟨m0, m1, f0, f1⟩ := row_at hQ4.box
          obtain ⟨r0, r1, t0, t1⟩ := row_at hQ4.res
          have hd9 := hide hQ4.done
          have hcn := hide (show LoN w.heap.size _ from LoN.of (x := .slice (some ⟨V2.heap.size, 0, none⟩) 1 1) (p := .slice x3 d.2.length x4) (fun g e => by have e2 : some V2.heap.size = some g := e; injection e2 with e2; omega))
          have hdz := hide hQ4.rows
          clear hQ3 hQ4
          gi_wp2
          (try simp only [Exit.inBlock, Exit.then])
          exact bodyPost_ret (results_desk rfl _ _ w.heap.size _ _ rfl hd9.out.1) rfl ⟨_, ([2], d.2), rfl, hd9.out.2.1, hcn.out, hdz.out, _, by omega, hd9.out.2.2⟩
        · have hA := World.grownBy_alloc V2 (.cells #[] 3) (some R)
          have hQ3 := hQ2.move (hQ2.rd.alloc _) hA
          have hmade : (V2.alloc (.cells #[] 3)).ownsRow V2.heap.size 3 1 (.slice (some ⟨V2.heap.size, 0, none⟩) 0 0) 0 [] := World.ownsRow_made _ _ _ (Nat.le_refl _) (by decide) rfl
          have zA := World.size_alloc V2 (.cells #[] 3)
          obtain ⟨V3, hV3⟩ : ∃ V3, V2.alloc (.cells #[] 3) = V3 := ⟨_, rfl⟩
          have hsz2 := (Array.getElem?_eq_some_iff.1 hQ2.res).1
          rw [hV3] at hQ3 hmade zA
          have hA4 := World.grownBy_alloc V3 (.cells #[.slice (some ⟨V2.heap.size, 0, none⟩) 0 0] 28) (some R)
          have hQ4 := hQ3.move (hQ3.rd.alloc _) hA4
          have hm4 := own_below hmade ((Below.refl _ V3).alloc (Nat.le_refl _) (.cells #[.slice (some ⟨V2.heap.size, 0, none⟩) 0 0] 28))
          have hq4 : (V3.alloc (.cells #[.slice (some ⟨V2.heap.size, 0, none⟩) 0 0] 28)).cell? ⟨V3.heap.size, 0, none⟩ = some (.slice (some ⟨V2.heap.size, 0, none⟩) 0 0) := by rw [World.cell?_alloc_at _ _ _ _ rfl]; rfl
          obtain ⟨xx, pp, ee, hxx, us, hul, huo, hur⟩ := id hQ4.yd
          injection ee with ee
          simp at ee
          obtain ⟨rfl, rfl⟩ := ee
          have hsl := hQ4.lo
          have hbw := hQ4.gr.size
          have hulh := hide hul
          have zA2 := Nat.le_of_eq zA.symm
          clear zA hul
          obtain ⟨m0x, m1x, f0x, f1x⟩ := row_at hQ2.box
          obtain ⟨r0x, r1x, t0x, t1x⟩ := row_at hQ2.res
          obtain ⟨m0, m1, f0, f1⟩ := row_at hQ4.box
          obtain ⟨r0, r1, t0, t1⟩ := row_at hQ4.res
          clear hQ2 hA hA4 hQ3 hxx
          have hmx := hide (own_from hm4 (show w.heap.size + 1 ≤ V2.heap.size by omega))
          have hurh := hide hur
          clear hm4 hmade hur
          gi_wp2_with (gi_at_builtin; refine append_slice_in rfl _ _ rfl rfl (w.heap.size + 1) _ us.length us rfl huo V3.heap.size rfl hq4 (by have := hulh.out; omega) (by have := World.size_alloc V3 (.cells #[.slice (some ⟨V2.heap.size, 0, none⟩) 0 0] 28); omega) ?_; intro v5 w5 ho5 hg5; go_loud (obtain ⟨g5, c5, rfl⟩ := own_some ho5 (Nat.succ_pos _); rw [hulh.out] at ho5 ⊢; have hQ5 := hQ4.grow hap hulh.out huo hurh.out hmx.out (by rw [hulh.out]; exact ho5) hg5 (by omega); have hb5 := (hg5.block b (Array.getElem?_eq_some_iff.1 hQ4.box).1 (fun e => own_not huo hQ4.box (by decide) e.symm)).trans hQ4.box; obtain ⟨m0y, m1y, f0y, f1y⟩ := row_at hb5; obtain ⟨m0, m1, f0, f1⟩ := row_at hQ5.box; obtain ⟨r0, r1, t0, t1⟩ := row_at hQ5.res; have hd9 := hide hQ5.done; have hcn := hide (show LoN w.heap.size _ from (LoN.of (p := .slice (some ⟨g5, 0, none⟩) (d.2.length + 1) c5) (fun g e => (by have := (hap _ _ rfl g e).1; omega)))); have hdz := hide hQ5.rows; clear hQ4 hQ5 hb5 ho5))
          (try simp only [Exit.inBlock, Exit.then])
          exact bodyPost_ret (results_desk rfl _ _ w.heap.size _ _ rfl hd9.out.1) rfl ⟨_, (d.1, d.2 ++ [[]]), rfl, hd9.out.2.1, hcn.out, hdz.out, _, by omega, hd9.out.2.2⟩
        · obtain ⟨m0, m1, f0, f1⟩ := row_at hQ2.box
          obtain ⟨r0, r1, t0, t1⟩ := row_at hQ2.res
          have hcn := hide (show LoN w.heap.size (.agg #[.slice none 0 0, .slice none 0 0]) from LoN.of (fun g e => by simp [Value.ownBlock] at e))
          have hdz := hide rowsOk_none.dkZ
          have hd9 := hide (desk_set hQ2.res (.slice none 0 0) (.slice none 0 0))
          have hg9 := grownBy_setAt V2 w.heap.size 0 (.slice none 0 0)
          have hg8 := grownBy_setAt (V2.setCell ⟨w.heap.size, 0, none⟩ (.slice none 0 0)) w.heap.size 1 (.slice none 0 0)
          have hfin := hide (show YD w.heap.size ([], []) ((V2.setCell ⟨w.heap.size, 0, none⟩ (.slice none 0 0)).setCell ⟨w.heap.size, 1, none⟩ (.slice none 0 0)) (.agg #[.slice none 0 0, .slice none 0 0]) ∧ Rd W0 R a len cap ((V2.setCell ⟨w.heap.size, 0, none⟩ (.slice none 0 0)).setCell ⟨w.heap.size, 1, none⟩ (.slice none 0 0)) _ ∧ w.grownBy ((V2.setCell ⟨w.heap.size, 0, none⟩ (.slice none 0 0)).setCell ⟨w.heap.size, 1, none⟩ (.slice none 0 0)) (some R) from ⟨⟨_, _, rfl, Ints.none _ _ _, [], rfl, World.ownsRow_nil _ _ _ _, fun j hj => by simp at hj⟩, (hQ2.rd.kept hg9 (fun e => by injection e with e; omega) (fun k e => by injection e with e; omega)).kept hg8 (fun e => by injection e with e; omega) (fun k e => by injection e with e; omega), (hQ2.gr.andThen hg9 (fun k e => .inl (by injection e with e; omega))).andThen hg8 (fun k e => .inl (by injection e with e; omega))⟩)
          clear hg9 hg8 hQ2
          gi_wp2
          (try simp only [Exit.inBlock, Exit.then])
          exact bodyPost_ret (results_desk rfl _ _ w.heap.size _ _ rfl hd9.out) rfl ⟨_, ([], []), rfl, hfin.out.1, hcn.out, hdz.out, _, by omega, hfin.out.2⟩
end Go.Proofs.YtiaaefapbcjgmaaGreatDoor
namespace Go.Proofs.YtiaaefapbcjgmaaGreatDoor
open Go Go.RowKit
attribute [local go_sem] Oper.semAt_some

theorem isRow_below {k : IntKind} {w w' : World} {a : Option Addr} {len cap : Nat} {zs : List Int} (h : IsRow k w a len cap zs) (hB : Below w.heap.size w w') : IsRow k w' a len cap zs := by
  rcases h with h | ⟨x, h1, h2, h3, h4, h5, h6⟩
  · exact .inl h
  · exact .inr ⟨x, h1, h2, h3, h4, fun i hi => (hB.cell (p := x.add i) (World.block_lt_of_cell? w _ (h5 i hi))).trans (h5 i hi), h6⟩
end Go.Proofs.YtiaaefapbcjgmaaGreatDoor
namespace Go.Proofs.YtiaaefapbcjgmaaGreatDoor
open Go Go.RowKit
attribute [local go_sem] Oper.semAt_some

/-- Deeds of one's own above a mark. -/
def DsO (base : Nat) (V : World) (v : Value) : Prop := ∃ L : List (Int × Int), L.length ≤ 41 ∧ (∀ x ∈ L, Fits x.1 ∧ Fits x.2) ∧ V.ownsRow base 39 2 v L.length (cellsD L)

theorem DsO.kept {base b : Nat} {V V' : World} {v : Value} (h : DsO base V v) (hg : V.grownBy V' (some b)) (hb : b < base) : DsO base V' v := by
  obtain ⟨L, h1, h2, h3⟩ := h
  exact ⟨L, h1, h2, h3.kept hg (.inr (fun e => by have := (h3.lt b e).1; omega))⟩

theorem DsO.below {base : Nat} {V V' : World} {v : Value} (h : DsO base V v) (hB : Below V.heap.size V V') : DsO base V' v := by
  obtain ⟨L, h1, h2, h3⟩ := h
  exact ⟨L, h1, h2, h3.kept (below_grownAt hB none) (by cases v.ownBlock <;> simp)⟩

/-- The desk lies in the result's block. -/
def FinD (w : World) (d : Dk) (y x p : Value) (V : World) : Prop := V.heap[w.heap.size]? = some (.cells #[x, p] 31 (0, 0)) ∧ DeskI V y d ∧ Below w.heap.size w V

theorem FinD.below {w : World} {d : Dk} {y x p : Value} {V V' : World} (h : FinD w d y x p V) (hB : Below V.heap.size V V') : FinD w d y x p V' :=
  ⟨(hB.block _ (Array.getElem?_eq_some_iff.1 h.1).1).trans h.1, h.2.1.below hB, h.2.2.trans (hB.mono h.2.2.size)⟩

theorem finD_of {w w1 V : World} {base n1 c1 n2 c2 : Nat} {a1 a2 : Option Addr} {d : Dk} (hB : Below w.heap.size w w1) (hBV : Below w1.heap.size w1 V) (hYV : YD base d V (.agg #[.slice a1 n1 c1, .slice a2 n2 c2])) (kr : V.heap[w.heap.size]? = some (.cells #[.slice none 0 0, .slice none 0 0] 31 (0, 0))) :
    FinD w d (.agg #[.slice a1 n1 c1, .slice a2 n2 c2]) (.slice a1 n1 c1) (.slice a2 n2 c2) ((V.setCell ⟨w.heap.size, 0, .none⟩ (.slice a1 n1 c1)).setCell ⟨w.heap.size, 1, .none⟩ (.slice a2 n2 c2)) :=
  ⟨desk_set kr _ _, ((hYV.set (i := 0) (s := a1) (m := n1) (e := c1) kr).set (i := 1) (s := a2) (m := n2) (e := c2) (set_cells kr 0 _)).deskI,
    ((hB.trans (hBV.mono hB.size)).setCell (p := ⟨w.heap.size, 0, .none⟩) (Nat.le_refl _) _).setCell (p := ⟨w.heap.size, 1, .none⟩) (Nat.le_refl _) _⟩
end Go.Proofs.YtiaaefapbcjgmaaGreatDoor
namespace Go.Proofs.YtiaaefapbcjgmaaGreatDoor
open Go Go.RowKit
attribute [local go_sem] Oper.semAt_some

/-- A region that draws its order and moves a reader on, by no more than K an operation. -/
theorem wpIn_region_rd2 {F : Fence} {n : Nat} {id : Nat} {ops : Array Oper} {Q : Exit → Act → World → Prop} {a : Act} {w : World} (W0 : World) (R len cap p : Nat) (ad : Option Addr) (K m : Nat) (L : List (Option Tmp × Nat)) (hK : K ≤ 1000) (hm : Tryz.prog.follows .mixedOrders = true) (hb : backB ops = true) (ht : tailB ops m = true) (hsz : m < ops.size) (hsz2 : ops.size ≤ 100)
    (hL : dstsOf ops m = L) (hok : okPuts L = true) (hR : Rd W0 R ad len cap w p) (Φ : Nat → Value → World → Prop) (hΦ : ∀ k v V V', Φ k v V → V.grownBy V' (some R) → Φ k v V')
    (hstep : ∀ i o s V q, i < m → ops[i]? = some o → q ≤ p + 100000 → Rd W0 R ad len cap V q → w.grownBy V (some R) → (∀ k, depB ops i k = true → Φ k (s k) V) → ∀ Q' : Exit → Act → World → Prop,
      (∀ v V' q', q' ≤ q + K → Rd W0 R ad len cap V' q' → V.grownBy V' (some R) → Φ i v V' → Q' .normal ((putsOf L a s).put o.dst v) V') → wpListIn F n Tryz.prog ops Q' [o] (putsOf L a s) V)
    (htail : ∀ s V q, q ≤ p + K * ops.size → Rd W0 R ad len cap V q → w.grownBy V (some R) → (∀ k, k < m → Φ k (s k) V) → wpListIn F n Tryz.prog ops Q (ops.toList.drop m) (putsOf L a s) V) : (Code.region id ops true).wpIn F n Tryz.prog Q a w := by
  refine wpIn_region_tailL m hm hb ht hsz (putsOf L a) (fun Ls V => w.grownBy V (some R) ∧ ∃ q, q ≤ p + K * cnt Ls ops.size ∧ Rd W0 R ad len cap V q) (fun V V' => V.grownBy V' (some R)) Φ (puts_self a L hok) (puts_of hL hok) ⟨grownBy_drew (grownBy_refl _ _), p, by omega, hR.drew⟩ hΦ ?_ ?_
  · rintro Ls i o s V him hLi ho ⟨hg, q, hq, hRV⟩ hd Q' hQ'
    have hi : i < ops.size := by omega
    have h1 := cnt_le Ls ops.size
    have h2 : K * cnt Ls ops.size ≤ 1000 * 100 := Nat.mul_le_mul hK (by omega)
    exact hstep i o s V q him ho (by omega) hRV hg hd Q' (fun v V' q' hq' h3 h4 h5 => hQ' v V' ⟨hg.trans h4, q', by rw [cnt_next Ls i hLi ops.size hi, Nat.mul_succ]; omega, h3⟩ h4 h5)
  · rintro Ls s V ⟨hg, q, hq, hRV⟩ _ hd
    have h1 := cnt_le Ls ops.size
    have h2 : K * cnt Ls ops.size ≤ K * ops.size := Nat.mul_le_mul_left K h1
    exact htail s V q (by omega) hRV hg hd

set_option maxRecDepth 100000 in
set_option maxHeartbeats 2000000 in
theorem drawDeskLine (w : World) (a0 : Option Addr) (len0 cap0 : Nat) (zs : List Int) (h : IsRow .u8 w a0 len0 cap0 zs) : Calls Tryz.prog 20 #[.slice a0 len0 cap0] w fun e w' =>
    ∃ y d v, e = .returned (.tuple #[y, v]) ∧ DeskI w' y d ∧ CapP y ∧ DkZ d ∧ TxtLe 80 v ∧ Below w.heap.size w w' := by
  have hB := (Below.refl _ w).alloc (Nat.le_refl _) (.cells #[.slice none 0 0, .slice none 0 0] 31)
  have k0 := World.alloc_heap_new w (.cells #[.slice none 0 0, .slice none 0 0] 31)
  have hsz0 := World.size_alloc w (.cells #[.slice none 0 0, .slice none 0 0] 31)
  obtain ⟨w1, hw1⟩ : ∃ w1, w.alloc (.cells #[.slice none 0 0, .slice none 0 0] 31) = w1 := ⟨_, rfl⟩
  rw [hw1] at hB k0 hsz0
  have hsz : w.heap.size + 1 ≤ w1.heap.size := by omega
  clear hsz0
  have ho := open_in w1 a0 len0 cap0 zs (isRow_below h hB)
  refine (callsIn_wide (n := 9)).1 ?_
  refine callsIn_of_wp Tryz.func20 rfl trivial ?_ rfl
  simp only [Tryz.ntmps20, List.size_toArray, List.length_cons, List.length_nil, Nat.reduceAdd, Nat.reduceSub, Array.replicate_succ, Array.replicate_zero, List.push_toArray, List.append_toArray, List.nil_append, List.cons_append]
  gi_wp2_with fail
  refine ⟨trivial, ?_⟩
  gi_at_call 39
  refine (callsIn_wide.2 ho).mono ?_
  rintro e w2 ⟨R, len, cap, rfl, hb, hR⟩
  gi_wp2_with fail
  refine ⟨trivial, ?_⟩
  gi_at_call 48
  refine (callsIn_wide.2 (l20Desk_in w1 R len cap 0 a0 12 (by omega) (by omega) w2 hb hR (by omega))).mono ?_
  rintro e w3 ⟨y, d, rfl, hY, hlo, hdz, p, hp, hR3, hg3⟩
  obtain ⟨x1, x2, x3, x4, rfl⟩ := hY.form
  have z23 := hg3.size
  have z12 := hR.1.size
  have hR4 := hR3.alloc (.cells #[.slice x1 d.1.length x2, .slice x3 d.2.length x4] 31)
  have hY4 := hY.below ((Below.refl _ w3).alloc (Nat.le_refl _) (.cells #[.slice x1 d.1.length x2, .slice x3 d.2.length x4] 31))
  have kb := World.alloc_heap_new w3 (.cells #[.slice x1 d.1.length x2, .slice x3 d.2.length x4] 31)
  obtain ⟨b, hbe⟩ : ∃ b, w3.heap.size = b := ⟨_, rfl⟩
  have hRb := hR3.lt
  obtain ⟨w4, hw4⟩ : ∃ w4, w3.alloc (.cells #[.slice x1 d.1.length x2, .slice x3 d.2.length x4] 31) = w4 := ⟨_, rfl⟩
  rw [hw4] at hR4 hY4 kb
  rw [hbe] at kb hRb
  have hcp := hide hY4.capN.1
  have hd12 := hdz.1
  have hRw2 := hR.lt
  clear hR3 hY hg3 ho hR hw1
  gi_wp2
  refine wpIn_region_rd2 w1 R len cap p a0 900 5 [(some 10, 0), (some 11, 1), (some 12, 2), (some 13, 3), (some 14, 4)] (by omega) (by kernel_rfl) (by kernel_rfl) (by kernel_rfl) (by decide) (by decide) (by rfl) (by decide) hR4
    (fun i v V => match i with | 0 => v = .agg #[.slice x1 d.1.length x2, .slice x3 d.2.length x4] | 1 => v = .pointer (some ⟨R, 0, none⟩) | 2 => v = .pointer (some ⟨b, 0, none⟩) | 3 => v = .slice x1 d.1.length x2 | 4 => TxtLe 80 v | _ => True)
    (fun i v V V' h hg => match i, h with | 0, h => h | 1, h => h | 2, h => h | 3, h => h | 4, h => h | (_ + 5), _ => trivial)
    ?step ?tail
  case step =>
    rintro i oo s V q hi ho hqb hRV hgV hd Q' hQ
    obtain ⟨m0, m1, _, _⟩ := row_at ((hgV.block b (Array.getElem?_eq_some_iff.1 kb).1 (fun e => by injection e with e; omega)).trans kb)
    have zV := hgV.size
    have zR := hRV.2.1
    rcases (show i = 0 ∨ i = 1 ∨ i = 2 ∨ i = 3 ∨ i = 4 by omega) with rfl | rfl | rfl | rfl | rfl
    all_goals
      simp at ho
      subst ho
      simp only [putsOf, Act.put, List.setIfInBounds_toArray, List.set_cons_succ, List.set_cons_zero] at hQ ⊢
      have hQ' := hide hQ
      clear hQ
    · clear hd
      gi_wp2
      have hr := hQ'.out
      exact hr _ _ q (by omega) hRV (grownBy_refl _ _) rfl
    · clear hd
      gi_wp2
      have hr := hQ'.out
      exact hr _ _ q (by omega) hRV (grownBy_refl _ _) rfl
    · clear hd
      gi_wp2
      have hr := hQ'.out
      exact hr _ _ q (by omega) hRV (grownBy_refl _ _) rfl
    · have e1 : s 2 = .pointer (some ⟨b, 0, none⟩) := hd 2 (by kernel_rfl)
      clear hd
      gi_wp2
      have hr := hQ'.out
      simp only [e1] at hr ⊢
      exact hr _ _ q (by omega) hRV (grownBy_refl _ _) rfl
    · have e1 : s 1 = .pointer (some ⟨R, 0, none⟩) := hd 1 (by kernel_rfl)
      have e2 : s 3 = .slice x1 d.1.length x2 := hd 3 (by kernel_rfl)
      have hC := l20Line_in w1 R len cap q a0 V hb hRV (by omega) x1 d.1.length x2 (by omega)
      clear hd
      gi_wp2_with (refine ⟨trivial, ?_⟩; gi_at_call 64; go_loud (refine (callsIn_wide.2 hC).mono ?_; rintro e W9 ⟨⟨u9, rfl, ht9⟩, q9, hq9, hR9, hg9⟩))
      have hr := hQ'.out
      simp only [e1, e2] at hr ⊢
      exact hr _ _ q9 hq9 hR9 hg9 ht9
  case tail =>
    rintro s V q hqb hRV hgV hd
    have e1 : s 0 = .agg #[.slice x1 d.1.length x2, .slice x3 d.2.length x4] := hd 0 (by omega)
    have e2 : TxtLe 80 (s 4) := hd 4 (by omega)
    clear hd
    have hBV := hRV.1
    have kr := (hBV.block _ (Array.getElem?_eq_some_iff.1 k0).1).trans k0
    have hF := hide (finD_of hB hBV (hY4.rd hR4 (by omega) hgV) kr)
    obtain ⟨r0, r1, t0, t1⟩ := row_at kr
    simp only [putsOf, Act.put, List.setIfInBounds_toArray, List.set_cons_succ, List.set_cons_zero]
    simp only [List.drop_succ_cons, List.drop_zero]
    simp only [e1]
    clear hY4
    gi_wp2
    (try simp only [Exit.inBlock, Exit.then])
    exact bodyPost_ret (results_desk2 (p := 2) (u := 3) rfl _ _ w.heap.size _ _ rfl hF.out.1) rfl ⟨_, d, _, rfl, hF.out.2.1, hcp.out, hdz, e2, hF.out.2.2⟩
end Go.Proofs.YtiaaefapbcjgmaaGreatDoor
namespace Go.Proofs.YtiaaefapbcjgmaaGreatDoor
open Go Go.RowKit

theorem rowsOk_sameL {D : Dk} (h : RowsOk D) : D.1.length ≤ 1000000 ∧ D.2.length ≤ 1000000 ∧ ∀ j, j < D.2.length → (D.2.getD j []).length ≤ 1000000 :=
  ⟨by have := h.2.2.1; omega, by have := h.2.2.2; omega, fun j hj => by have := h.2.1 j hj; omega⟩

theorem lineRows (d : Dk) (l : List Nat) : RowsOk (lineV d l).1 := by
  cases hb : deskB d with
  | false => rw [lineV_no hb]; exact rowsOk_none
  | true => exact RowsOk.of (line_desk hb l)

set_option maxRecDepth 100000 in
set_option maxHeartbeats 4000000 in
theorem lawDeskLine (a0 : Option Addr) (len0 cap0 : Nat) (z0 : List Int) (w : World) (w0 : IsRow .u8 w a0 len0 cap0 z0) (hEnv : Env w) :
    Calls Tryz.prog 4 #[.slice a0 len0 cap0] w fun e w' => e = .returned (.bool true) ∧ Below w.heap.size w w' := by
  by_cases hbig : 1048576 < len0
  · go_enter Tryz.func4, Tryz.ntmps4
    go_wp2
    go_ret
    exact ⟨rfl, Below.refl _ _⟩
  · have hbi : ¬ (1048576 : Int) < (len0 : Int) := by omega
    go_enter Tryz.func4, Tryz.ntmps4
    go_wp2_with fail
    go_at_call 20
    refine (drawDeskLine w a0 len0 cap0 z0 w0).mono ?_
    rintro e w1 ⟨y, d, v, rfl, hd, hcp, hz, ⟨l, rfl, hl, hn⟩, hB1⟩
    obtain ⟨x, p, rfl, hx, hp⟩ := id hd
    obtain ⟨xa, xc, rfl⟩ := hx.shape
    obtain ⟨pa, pc, rfl, _⟩ := id hp
    have hE1 := hEnv.below hB1
    have ba := (Below.refl _ w1).alloc (Nat.le_refl _) (.cells #[.slice xa d.1.length xc, .slice pa d.2.length pc] 31)
    have kd := World.alloc_heap_new w1 (.cells #[.slice xa d.1.length xc, .slice pa d.2.length pc] 31)
    have hd2 := hd.below ba
    have hB2 := hB1.trans (ba.mono hB1.size)
    have hE2 := hE1.below ba
    obtain ⟨w2, hw2⟩ : ∃ w2, w1.alloc (.cells #[.slice xa d.1.length xc, .slice pa d.2.length pc] 31) = w2 := ⟨_, rfl⟩
    rw [hw2] at kd hd2 hB2 hE2
    obtain ⟨bd, hbd⟩ : ∃ bd, w1.heap.size = bd := ⟨_, rfl⟩
    rw [hbd] at kd
    have hS := fun V (hV : DeskI V (.agg #[.slice xa d.1.length xc, .slice pa d.2.length pc]) d) => specLine _ d l V hV hz.dkS hl (by omega)
    have hI := implLine _ d l w2 hd2 hcp hz.dkS hl (by omega) hE2
    have hI0 := fun V (hV : DeskI V (.agg #[.slice xa d.1.length xc, .slice pa d.2.length pc]) d) (hE : Env V) => implLine _ d [] V hV hcp hz.dkS (by simp) (by simp) hE
    rw [str_nil] at hI0
    have hro := lineRows d l
    have hsz := rowsOk_sameL hro
    have hOKs := fun V (hV : DeskI V (.agg #[.slice xa d.1.length xc, .slice pa d.2.length pc]) d) => specDeskOk _ d V hV hz.dkS
    have hOKi := fun V y (hV : DeskI V y (lineV d l).1) => implDeskOk y (lineV d l).1 V hV (RowsOk.dkZ hro).dkS
    have hno : deskB d = false → lineV d l = (([], []), []) := fun h => lineV_no h l
    have hyes : deskB d = true → deskB (lineV d l).1 = true ∧ ((lineV d l).2 = [111, 107] ∨ (lineV d l).1 = d) ∧ lineV d [] = (d, whatT) ∧ RowsOk d := fun h => ⟨line_desk h l, line_same h l, line_empty h, RowsOk.of h⟩
    obtain ⟨LS, hLS⟩ : ∃ LS, str l = LS := ⟨_, rfl⟩
    rw [hLS] at hS hI ⊢
    obtain ⟨⟨D, tx⟩, hDt⟩ : ∃ r, lineV d l = r := ⟨_, rfl⟩
    rw [hDt] at hS hI hno hyes hOKi hsz hro
    simp only at hS hI hno hyes hOKi hsz hro
    obtain ⟨S, hSt⟩ : ∃ S, str tx = S := ⟨_, rfl⟩
    rw [hSt] at hS hI
    clear hd hx hp ba hB1 hE1 hLS hDt hl hn
    obtain ⟨c0, c1, _, _⟩ := row_at kd
    go_wp2_with fail
    go_at_call 14
    refine hI.mono ?_
    clear hI
    rintro e w3 ⟨g, rfl, hg, b3⟩
    have hgd := hg.deskI
    have hgc := hg.cap
    obtain ⟨g1, g2, g3, g4, rfl⟩ := hg.form
    have b3a := (Below.refl _ w3).alloc (Nat.le_refl _) (.cells #[.slice g1 D.1.length g2, .slice g3 D.2.length g4] 31)
    have kx := World.alloc_heap_new w3 (.cells #[.slice g1 D.1.length g2, .slice g3 D.2.length g4] 31)
    have b24 := b3.trans (b3a.mono b3.size)
    have kd4 := (b24.block _ (Array.getElem?_eq_some_iff.1 kd).1).trans kd
    have hd4 := hd2.below b24
    have hgd4 := hgd.below b3a
    have hE4 := hE2.below b24
    have hB4 := hB2.trans (b24.mono hB2.size)
    obtain ⟨w4, hw4⟩ : ∃ w4, w3.alloc (.cells #[.slice g1 D.1.length g2, .slice g3 D.2.length g4] 31) = w4 := ⟨_, rfl⟩
    rw [hw4] at kx kd4 hd4 hgd4 hB4 hE4
    obtain ⟨bx, hbx⟩ : ∃ bx, w3.heap.size = bx := ⟨_, rfl⟩
    rw [hbx] at kx
    obtain ⟨c0, c1, _, _⟩ := row_at kd4
    clear hg hgd b3a b3 b24 kd hd2 hB2 hE2
    go_wp2_with fail
    go_at_call 21
    refine (hS _ hd4).mono ?_
    clear hS
    rintro e w5 ⟨m, rfl, hm, _, b5⟩
    obtain ⟨mx, mp, rfl, hmx, hmp⟩ := id hm
    obtain ⟨m1, m2, rfl⟩ := hmx.shape
    obtain ⟨m3, m4, rfl, _⟩ := id hmp
    have b5a := (Below.refl _ w5).alloc (Nat.le_refl _) (.cells #[.slice m1 D.1.length m2, .slice m3 D.2.length m4] 31)
    have km := World.alloc_heap_new w5 (.cells #[.slice m1 D.1.length m2, .slice m3 D.2.length m4] 31)
    have b46 := b5.trans (b5a.mono b5.size)
    obtain ⟨w6, hw6⟩ : ∃ w6, w5.alloc (.cells #[.slice m1 D.1.length m2, .slice m3 D.2.length m4] 31) = w6 := ⟨_, rfl⟩
    rw [hw6] at b5a km b46
    obtain ⟨bm, hbm⟩ : ∃ bm, w5.heap.size = bm := ⟨_, rfl⟩
    rw [hbm] at km
    have kd6 := (b46.block _ (Array.getElem?_eq_some_iff.1 kd4).1).trans kd4
    have kx6 := (b46.block _ (Array.getElem?_eq_some_iff.1 kx).1).trans kx
    have hd6 := hd4.below b46
    have hgd6 := hgd4.below b46
    have hm6 := hm.below b5a
    have hE6 := hE4.below b46
    have hB6 := hB4.trans (b46.mono hB4.size)
    obtain ⟨x0, x1, _, _⟩ := row_at kx6
    obtain ⟨y0, y1, _, _⟩ := row_at km
    clear hd4 hgd4 hm hmx hmp b5 b5a kd4 kx km b46 hB4 hE4 c0 c1
    go_wp2_with fail
    go_at_call 18
    refine (sameDesk_in _ _ _ w6 hsz hgd6 hm6).mono ?_
    rintro e w7 ⟨rfl, b7⟩
    have kd7 := (b7.block _ (Array.getElem?_eq_some_iff.1 kd6).1).trans kd6
    have kx7 := (b7.block _ (Array.getElem?_eq_some_iff.1 kx6).1).trans kx6
    have hd7 := hd6.below b7
    have hgd7 := hgd6.below b7
    have hE7 := hE6.below b7
    have hB7 := hB6.trans (b7.mono hB6.size)
    obtain ⟨c0, c1, _, _⟩ := row_at kd7
    clear hd6 hgd6 hm6 kd6 kx6 hB6 hE6 b7 x0 x1 y0 y1
    cases hdb : deskB d with
    | false =>
      have hD := hno hdb
      injection hD with hD1 hD2
      subst hD1
      subst hD2
      have hSe : S = ⟨#[]⟩ := by rw [← hSt]; exact str_nil
      subst hSe
      have hO := hOKs w7 hd7
      rw [hdb] at hO
      clear hno hyes hOKs hOKi hI0 hSt hsz hro
      go_wp2_with fail
      go_at_call 13
      refine hO.mono ?_
      rintro e w8 ⟨rfl, b8⟩
      have kx8 := (b8.block _ (Array.getElem?_eq_some_iff.1 kx7).1).trans kx7
      have hgd8 := hgd7.below b8
      have hB8 := hB7.trans (b8.mono hB7.size)
      obtain ⟨x0, x1, _, _⟩ := row_at kx8
      have hN := noDesk_in _ w8 hgd8
      clear hO kx7 kd7 hgd7 hd7 b8 hB7 c0 c1 kx8 hE7
      go_wp2_with fail
      go_at_call 22
      refine hN.mono ?_
      rintro e w9 ⟨rfl, b9⟩
      clear hN hgd8 x0 x1
      go_wp2_with (go_at_call 19; refine (alive_in _).mono ?_; rintro e w10 ⟨rfl, b10⟩)
      go_ret
      exact ⟨rfl, hB8.trans ((b9.trans (b10.mono b9.size)).mono hB8.size)⟩
    | true =>
      obtain ⟨hDb, hsame, hemp, hrd⟩ := hyes hdb
      have hdsz := rowsOk_sameL hrd
      have hO := hOKs w7 hd7
      rw [hdb] at hO
      rw [hemp] at hI0
      have hwt : str whatT = ⟨#[119, 104, 97, 116]⟩ := by kernel_rfl
      simp only [hwt] at hI0
      rw [hDb] at hOKi
      clear hno hyes hOKs hemp hwt
      go_wp2_with fail
      go_at_call 13
      refine hO.mono ?_
      rintro e w8 ⟨rfl, b8⟩
      have kd8 := (b8.block _ (Array.getElem?_eq_some_iff.1 kd7).1).trans kd7
      have kx8 := (b8.block _ (Array.getElem?_eq_some_iff.1 kx7).1).trans kx7
      have hd8 := hd7.below b8
      have hgd8 := hgd7.below b8
      have hE8 := hE7.below b8
      have hB8 := hB7.trans (b8.mono hB7.size)
      obtain ⟨c0, c1, _, _⟩ := row_at kd8
      clear hO kd7 kx7 hd7 hgd7 hE7 hB7 b8
      go_wp2_with fail
      go_at_call 14
      refine (hI0 _ hd8 hE8).mono ?_
      rintro e w9 ⟨z, rfl, hz9, b9⟩
      have hzd := hz9.deskI
      obtain ⟨z1, z2, z3, z4, rfl⟩ := hz9.form
      have b9a := (Below.refl _ w9).alloc (Nat.le_refl _) (.cells #[.slice z1 d.1.length z2, .slice z3 d.2.length z4] 31)
      have kz := World.alloc_heap_new w9 (.cells #[.slice z1 d.1.length z2, .slice z3 d.2.length z4] 31)
      have b8a := b9.trans (b9a.mono b9.size)
      have hz10 := hzd.below b9a
      obtain ⟨w10, hw10⟩ : ∃ w10, w9.alloc (.cells #[.slice z1 d.1.length z2, .slice z3 d.2.length z4] 31) = w10 := ⟨_, rfl⟩
      rw [hw10] at kz b8a hz10
      obtain ⟨bz, hbz⟩ : ∃ bz, w9.heap.size = bz := ⟨_, rfl⟩
      rw [hbz] at kz
      have kd10 := (b8a.block _ (Array.getElem?_eq_some_iff.1 kd8).1).trans kd8
      have kx10 := (b8a.block _ (Array.getElem?_eq_some_iff.1 kx8).1).trans kx8
      have hd10 := hd8.below b8a
      have hgd10 := hgd8.below b8a
      have hB10 := hB8.trans (b8a.mono hB8.size)
      obtain ⟨x0, x1, _, _⟩ := row_at kx10
      clear hI0 kd8 kx8 hd8 hgd8 hE8 hB8 hz9 hzd b9 b9a b8a c0 c1
      go_wp2_with fail
      go_at_call 23
      refine (hOKi _ _ hgd10).mono ?_
      rintro e w11 ⟨rfl, b11⟩
      have kd11 := (b11.block _ (Array.getElem?_eq_some_iff.1 kd10).1).trans kd10
      have kx11 := (b11.block _ (Array.getElem?_eq_some_iff.1 kx10).1).trans kx10
      have kz11 := (b11.block _ (Array.getElem?_eq_some_iff.1 kz).1).trans kz
      have hd11 := hd10.below b11
      have hgd11 := hgd10.below b11
      have hz11 := hz10.below b11
      have hB11 := hB10.trans (b11.mono hB10.size)
      obtain ⟨x0, x1, _, _⟩ := row_at kx11
      obtain ⟨c0, c1, _, _⟩ := row_at kd11
      obtain ⟨e0, e1, _, _⟩ := row_at kz11
      clear hOKi kd10 kx10 kz hd10 hgd10 hz10 hB10 b11
      have hQ := fun V (hV : Below w11.heap.size w11 V) => sameDesk_in _ _ d V hdsz (hz11.below hV) (hd11.below hV)
      by_cases hok : S.toList = [111, 107]
      · have hokb : (S.toList == [111, 107]) = true := by rw [beq_iff_eq]; exact hok
        clear hsame hgd11
        go_wp2_with (go_at_call 18; refine (hQ _ (Below.refl _ _)).mono ?_; rintro e w12 ⟨rfl, b12⟩)
        go_ret
        exact ⟨rfl, hB11.trans (b12.mono hB11.size)⟩
      · have hokb : (S.toList == [111, 107]) = false := by rw [beq_eq_false_iff_ne]; exact hok
        have hDd : D = d := by
          rcases hsame with h | h
          · exfalso
            apply hok
            rw [← hSt, h, str_toList]; rfl
          · exact h
        subst hDd
        have hR := sameDesk_in _ _ D w11 hdsz hgd11 hd11
        clear hsame hgd11
        go_wp2_with fail
        go_at_call 18
        refine hR.mono ?_
        rintro e w12 ⟨rfl, b12⟩
        obtain ⟨c0, c1, _, _⟩ := row_at ((b12.block _ (Array.getElem?_eq_some_iff.1 kd11).1).trans kd11)
        obtain ⟨e0, e1, _, _⟩ := row_at ((b12.block _ (Array.getElem?_eq_some_iff.1 kz11).1).trans kz11)
        have hB12 := hB11.trans (b12.mono hB11.size)
        have hQ12 := hQ w12 b12
        clear hR hQ hB11 kd11 kx11 kz11 b12
        go_wp2_with (go_at_call 18; refine hQ12.mono ?_; rintro e w13 ⟨rfl, b13⟩)
        go_ret
        exact ⟨rfl, hB12.trans (b13.mono hB12.size)⟩
end Go.Proofs.YtiaaefapbcjgmaaGreatDoor
