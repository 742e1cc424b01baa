/-
  Parts of the proofs, laid together: BaseZ, ExactL12, L12Y, L12Z, LawKit14, LawKit4, MathZ, OpenDesk, SpecZ.
-/
import Derived.WalkKit
import Derived.Laws.Concat
import Derived.Laws.Strings2
import Derived.OrdersIn
import Derived.TacticsIn
import Derived.Test.YtiaaefapbcjgmaaGreatDoorProg
import Derived.OwnWalkIn
import Derived.Deep.RegionLaw
import Derived.RangeFuncBox
import Derived.Laws.DeepStrings4
import Derived.Laws.Cover1
import Derived.Maps.AppendAt
import Derived.WalkSpells
import Derived.RangeFuncNested
import Derived.RangeFuncBound
import Derived.RangeFuncCalls
import Derived.RangeFuncLeaves
import Derived.BigRegion
import Derived.Shelf.Abstract
import Derived.Shelf.RegionOpen
import Derived.TacticsInMore
import Derived.LoopNIn
import Derived.LoopIn
import Derived.Deep.QuietTactic
import Derived.BigQuiet
import Derived.Below
import Derived.Laws.BytesString
import Derived.Deep.RegionWith
import Derived.DeepKeys5
import Derived.Maps.Keyed
import Derived.Deep.DeepCutAuto
import Derived.Laws.AppendOwnNone
import Derived.Laws.CopyOwn
import Derived.StillTailTactics
import Derived.Maps.OwnSet
import Derived.Laws.Bits64
import Derived.Laws.Bits64b
import Derived.Lib.AppendZeros
import Derived.Lib.AppendZerosOnto
import Derived.ControlIn
import Derived.Lib.AtoiAll
import Derived.Lib.AtoiAllCases
import Derived.Lib.ItoaNum
import Derived.Lib.ItoaMem
import Derived.Lib.SplitLaws
import Derived.Lib.AppendIntMem
import Derived.WideLaws
import Derived.Lib.SlicesS
import Derived.BigCall
import Derived.Maps.Own
import Derived.Maps.OwnOps
import Derived.StringKeys
import Derived.Shelf.Strings.BuilderK
import Derived.Lib.FrozenHead
import Derived.Tactics
import Derived.Tactics2
import Derived.Defers
import Derived.Laws.Pointers
import Derived.Laws.LoneSync
import Derived.RegionTactic
import Derived.RegionCalls
import Derived.ChangeAlike
import Derived.Laws.EntriesVeiled
import Derived.Deep.Slices
import Derived.Deep.Fields
import Derived.ChangeSame
import Derived.ChangeSlices
import Derived.OpenShut
import Derived.Lib.SmallJoins
import Derived.Test.YtiaaefapbcjgmaaGreatDoorLay12
import Derived.Test.YtiaaefapbcjgmaaGreatDoorLay6
import Derived.Test.YtiaaefapbcjgmaaGreatDoorPa0
import Derived.Test.YtiaaefapbcjgmaaGreatDoorPa1
import Derived.Test.YtiaaefapbcjgmaaGreatDoorPa2
import Derived.Test.YtiaaefapbcjgmaaGreatDoorPa3
import Derived.Test.YtiaaefapbcjgmaaGreatDoorPa4
namespace Go.Proofs.YtiaaefapbcjgmaaGreatDoor
open Go Go.RowKit

def byt (s : ByteArray) : List Nat := s.data.toList.map UInt8.toNat

theorem byt_lt (s : ByteArray) : ∀ x ∈ byt s, x < 256 := fun x hx => by
  obtain ⟨b, _, rfl⟩ := List.mem_map.1 hx
  exact b.toNat_lt

theorem str_byt (s : ByteArray) : str (byt s) = s := by
  apply ByteArray.ext
  apply Array.ext'
  show ((byt s).map UInt8.ofNat) = _
  unfold byt
  rw [List.map_map]
  conv => rhs; rw [← List.map_id s.data.toList]
  exact List.map_congr_left fun b _ => UInt8.ofNat_toNat

theorem byt_len (s : ByteArray) : (byt s).length = s.size := by unfold byt; rw [List.length_map]; rfl

theorem str_of (s : ByteArray) : ∃ l : List Nat, s = str l ∧ (∀ x ∈ l, x < 256) ∧ l.length = s.size := ⟨byt s, (str_byt s).symm, byt_lt s, byt_len s⟩
end Go.Proofs.YtiaaefapbcjgmaaGreatDoor
namespace Go.Proofs.YtiaaefapbcjgmaaGreatDoor
open Go.RowKit

set_option maxHeartbeats 400000 in
theorem eqIntS_in (v u : Value) (xs : List Int) (w : World) (hn : xs.length ≤ 1000000000) (hv : Ints w v xs) (hu : Ints w u xs) :
    Calls Tryz.prog 79 #[v, u] w fun e w' => e = .returned (.bool true) ∧ Below w.heap.size w w' := by
  rcases hv with ⟨a, c, rfl, rfl⟩ | ⟨g, cap, rfl, hg, hc⟩
  · have hu' : ∃ a' c', u = .slice a' 0 c' := by
      rcases hu with ⟨a', c', rfl, _⟩ | ⟨g, cap, rfl, _⟩
      · exact ⟨_, _, rfl⟩
      · exact ⟨_, _, rfl⟩
    obtain ⟨a', c', rfl⟩ := hu'
    clear hu
    go_enter Tryz.func79, Tryz.ntmps79
    go_wp2
    refine wp_loop_rounds 1 ?_
    rw [rounds_succ]
    go_wp2
    go_ret
    exact ⟨rfl, Below.refl _ _⟩
  · have hu' : ∃ a' c', u = .slice a' xs.length c' := by
      rcases hu with ⟨a', c', rfl, h⟩ | ⟨g, cap, rfl, _⟩
      · exact ⟨_, _, by rw [h]; rfl⟩
      · exact ⟨_, _, rfl⟩
    obtain ⟨a', c', rfl⟩ := hu'
    go_enter Tryz.func79, Tryz.ntmps79
    go_wp2
    go_loopw [5] (fun i wr => ∃ k : Nat, k ≤ xs.length ∧ i = .int .i64 k ∧ Below w.heap.size w wr) (fun i _ => xs.length - (intOf i).toNat)
    case atStart => exact ⟨0, Nat.zero_le _, rfl, Below.refl _ _⟩
    case round =>
      obtain ⟨k, hk, rfl, hB⟩ := hrel
      by_cases hlt : k < xs.length
      · have h1 : wr.cell? ⟨g, k, none⟩ = some (.int .i64 (xs.getD k 0)) := (hB.cell (by exact hg)).trans (hc k hlt)
        rcases hu with ⟨_, _, _, h⟩ | ⟨g2, cap2, h, hg2, hc2⟩
        · subst h; exact absurd hlt (by simp)
        · cases h
          have h2 : wr.cell? ⟨g2, k, none⟩ = some (.int .i64 (xs.getD k 0)) := (hB.cell (by exact hg2)).trans (hc2 k hlt)
          clear hc hc2
          obtain ⟨z, hz⟩ : ∃ z, z = xs.getD k 0 := ⟨_, rfl⟩
          rw [← hz] at h1 h2
          clear hz
          go_wp2
          go_region
          all_goals
            go_wp2
            go_roundw
            case rel => exact ⟨k + 1, by omega, by go_num, hB.drew⟩
            case measure => simp [intOf]; omega
      · obtain rfl : k = xs.length := by omega
        go_wp2
        go_ret
        exact ⟨rfl, hB⟩

set_option maxHeartbeats 400000 in
/-- markIntS: it writes 1, 2, .. into the cells, and hands back the next number. -/
theorem mark_in (g cap : Nat) (xs : List Int) (N : Nat) (f : Nat → Int) (w : World) (hn : xs.length ≤ 10000000) (hN : xs.length ≤ N) (hr : RowAt w g N f) (m : Nat) (hm : m ≤ 10000000) :
    Calls Tryz.prog 81 #[.slice (some ⟨g, 0, none⟩) xs.length cap, .int .i64 m] w fun e w' => e = .returned (.int .i64 ((m + xs.length : Nat) : Int)) ∧ RowAt w' g N (fun i => if i < xs.length then ((m + i : Nat) : Int) else f i) ∧ w.grownBy w' (some g) := by
  go_enter Tryz.func81, Tryz.ntmps81
  go_wp2
  go_loopw [1, 5] (fun q i wr => ∃ k : Nat, k ≤ xs.length ∧ i = .int .i64 k ∧ q = .int .i64 ((m + k : Nat) : Int) ∧ RowAt wr g N (fun i => if i < k then ((m + i : Nat) : Int) else f i) ∧ w.grownBy wr (some g)) (fun _ i _ => xs.length - (intOf i).toNat)
  case atStart => exact ⟨0, Nat.zero_le _, rfl, rfl, hr.congr (fun i _ => by rw [if_neg (by omega)]), grownBy_refl _ _⟩
  case round =>
    obtain ⟨k, hk, rfl, rfl, hrow, hg⟩ := hrel
    by_cases hlt : k < xs.length
    · have hc := hrow.cell (i := k) (by omega)
      have hf := hrow.frozen k
      rw [if_neg (by omega)] at hc
      go_wp2
      go_roundw
      case rel =>
        refine ⟨k + 1, by omega, by go_num, by go_num, ((hrow.set (p := k) ((m : Int) + k)).congr fun i hi => ?_), grownBy_set hg _ _⟩
        by_cases e : i = k
        · subst e; rw [if_pos rfl, if_pos (by omega)]; omega
        · rw [if_neg e]
          by_cases e2 : i < k
          · rw [if_pos e2, if_pos (by omega)]
          · rw [if_neg e2, if_neg (by omega)]
      case measure => simp [intOf]; omega
    · obtain rfl : k = xs.length := by omega
      go_wp2
      go_ret
      exact ⟨ret_int (by omega), hrow, hg⟩

set_option maxHeartbeats 400000 in
/-- heldIntS: where the cells hold m, m + 1, .. it hands back the next number. -/
theorem held_in (g cap n : Nat) (w : World) (hn : n ≤ 10000000) (m : Nat) (hm : m ≤ 10000000) (hc : ∀ i, i < n → w.cell? ⟨g, i, none⟩ = some (.int .i64 ((m + i : Nat) : Int))) :
    Calls Tryz.prog 83 #[.slice (some ⟨g, 0, none⟩) n cap, .int .i64 m] w fun e w' => e = .returned (.int .i64 ((m + n : Nat) : Int)) ∧ w = w' := by
  go_enter Tryz.func83, Tryz.ntmps83
  go_wp2
  go_loop [1, 5] (fun q i => ∃ k : Nat, k ≤ n ∧ i = .int .i64 k ∧ q = .int .i64 ((m + k : Nat) : Int)) (fun _ i => n - (intOf i).toNat)
  case atStart => exact ⟨0, Nat.zero_le _, rfl, rfl⟩
  case round =>
    obtain ⟨k, hk, rfl, rfl⟩ := hrel
    by_cases hlt : k < n
    · have h1 := hc k hlt
      clear hc
      go_wp2
      go_round
      case rel => exact ⟨k + 1, by omega, by go_num, by go_num⟩
      case measure => simp [intOf]; omega
    · obtain rfl : k = n := by omega
      go_wp2
      go_ret
      exact ⟨ret_int (by omega), rfl⟩

theorem mark_none (a : Option Addr) (c : Nat) (m : Nat) (w : World) : Calls Tryz.prog 81 #[.slice a 0 c, .int .i64 m] w fun e w' => e = .returned (.int .i64 m) ∧ w = w' := by
  go_enter Tryz.func81, Tryz.ntmps81
  go_wp2
  refine wp_loop_rounds 1 ?_
  rw [rounds_succ]
  go_wp2
  go_ret
  exact ⟨rfl, rfl⟩

theorem held_none (a : Option Addr) (c : Nat) (m : Nat) (w : World) : Calls Tryz.prog 83 #[.slice a 0 c, .int .i64 m] w fun e w' => e = .returned (.int .i64 m) ∧ w = w' := by
  go_enter Tryz.func83, Tryz.ntmps83
  go_wp2
  refine wp_loop_rounds 1 ?_
  rw [rounds_succ]
  go_wp2
  go_ret
  exact ⟨rfl, rfl⟩
end Go.Proofs.YtiaaefapbcjgmaaGreatDoor
namespace Go.Proofs.YtiaaefapbcjgmaaGreatDoor
open Go.RowKit

set_option maxHeartbeats 400000 in
theorem toIntS_in (W0 : World) (v : Value) (xs : List Int) (w : World) (h : ArgI W0 v xs) (hB : Below W0.heap.size W0 w) (hl : xs.length ≤ 2000000) :
    Calls Tryz.prog 77 #[v] w fun e w' => ∃ r, e = .returned r ∧ w'.ownsRow w.heap.size 3 1 r xs.length (xs.map (Value.int .i64)) ∧ Below w.heap.size w w' := by
  obtain ⟨a, c, rfl, hc⟩ : ∃ a c, v = .slice a xs.length c ∧ (0 < xs.length → ∃ b off, a = some ⟨b, off, none⟩ ∧ b < W0.heap.size ∧ ∀ i, i < xs.length → W0.cell? ⟨b, off + i, none⟩ = some (.int .i64 (xs.getD i 0))) := by
    rcases h with ⟨a, c, rfl, rfl⟩ | ⟨b, off, cap, rfl, h1, h2⟩
    · exact ⟨a, c, rfl, fun h => by simp at h⟩
    · exact ⟨_, _, rfl, fun _ => ⟨b, off, rfl, h1, h2⟩⟩
  clear h
  have hxs : (xs.length = xs.length) := rfl
  obtain ⟨n, hn⟩ : ∃ n, xs.length = n := ⟨_, rfl⟩
  rw [hn] at hl hc ⊢
  have hn' := hide hn
  clear hn hxs
  go_enter Tryz.func77, Tryz.ntmps77
  go_wp2_with (refine make_blk _ rfl _ _ rfl _ _ n rfl rfl rfl rfl (by omega) ?_; intro w1 hb1 hg1)
  have hst : BlkAt w1 w.heap.size 3 n (intsV n fun i => if i < 0 then xs.getD i 0 else 0) := BlkAt.congr hb1 (fun i _ => by rw [if_neg (by omega)])
  have hBs : Below w.heap.size w w1 := (Below.refl _ w).grown hg1 (Nat.le_refl _) (fun _ e => by cases e)
  clear hb1 hg1
  go_loopw [4] (fun i wr => ∃ k : Nat, k ≤ n ∧ i = .int .i64 k ∧ BlkAt wr w.heap.size 3 n (intsV n fun i => if i < k then xs.getD i 0 else 0) ∧ Below w.heap.size w wr) (fun i _ => n - (intOf i).toNat)
  case atStart => exact ⟨0, by omega, rfl, hst, hBs⟩
  case round =>
    clear hst hBs
    obtain ⟨k, hk, rfl, hb, hBw⟩ := hrel
    by_cases hlt : k < n
    · obtain ⟨b, off, rfl, hbW, hcells⟩ := hc (by omega)
      have hc1 : wr.cell? ⟨b, off + k, none⟩ = some (.int .i64 (xs.getD k 0)) := (hBw.cell (p := ⟨b, off + k, none⟩) (Nat.lt_of_lt_of_le hbW hB.size)).trans ((hB.cell (p := ⟨b, off + k, none⟩) hbW).trans (hcells k hlt))
      have hfz := hb.frozen k
      have hc2 := hb.cell (intsV_at hlt)
      have hki : (k : Int) < (n : Int) := by omega
      have hSn : BlkAt (wr.setCell ⟨w.heap.size, k, none⟩ (.int .i64 (xs.getD k 0))) w.heap.size 3 n (intsV n fun i => if i < k + 1 then xs.getD i 0 else 0) := (hb.setI _ hlt).congr (fun i _ => by
        by_cases e : i = k
        · subst e; rw [if_pos rfl, if_pos (by omega)]
        · rw [if_neg e]
          by_cases e2 : i < k
          · rw [if_pos e2, if_pos (by omega)]
          · rw [if_neg e2, if_neg (by omega)])
      have hBn : Below w.heap.size w (wr.setCell ⟨w.heap.size, k, none⟩ (.int .i64 (xs.getD k 0))) := hBw.setCell (p := ⟨w.heap.size, k, none⟩) (Nat.le_refl _) _
      clear hc hcells hb hBw hB
      generalize xs.getD k 0 = z at *
      go_wp2
      go_roundw
      case rel => exact ⟨k + 1, by omega, by go_num, hSn, hBn⟩
      case measure => simp [intOf]; omega
    · obtain rfl : k = n := by omega
      have hown : wr.ownsRow w.heap.size 3 1 (.slice (some ⟨w.heap.size, 0, none⟩) k k) k (xs.map (Value.int .i64)) := hb.owns hn'.out (fun i hi => by rw [intsV_at hi, if_pos hi]) (Nat.le_refl _) (by omega)
      clear hc hb
      go_wp2
      go_ret
      exact ⟨_, rfl, hown, hBw⟩

theorem mark_own {W : World} {base lim : Nat} {v : Value} {xs : List Int} (h : OwnI W base lim v xs.length (fun i => xs.getD i 0)) (hn : xs.length ≤ 10000000) (m : Nat) (hm : m ≤ 10000000) :
    Calls Tryz.prog 81 #[v, .int .i64 m] W fun e w' => e = .returned (.int .i64 ((m + xs.length : Nat) : Int)) ∧ OwnI w' base lim v xs.length (fun i => ((m + i : Nat) : Int)) ∧ ∃ row, W.grownBy w' row ∧ ∀ k, row = some k → base ≤ k ∧ k < lim := by
  rcases h with ⟨h0, a, c, rfl⟩ | ⟨g, cap, rfl, h1, h2, h3⟩
  · exact (mark_none a c m W).mono fun e w' ⟨he, hw⟩ => ⟨by rw [he, h0]; rfl, .inl ⟨h0, a, c, rfl⟩, none, hw ▸ grownBy_refl _ _, fun _ e => by cases e⟩
  · exact (mark_in g cap xs xs.length _ W hn (Nat.le_refl _) h3 m hm).mono fun e w' ⟨he, hr, hg⟩ => ⟨he, .inr ⟨g, cap, rfl, h1, h2, hr.congr (fun i hi => by rw [if_pos hi])⟩, some g, hg, fun k e => by cases e; exact ⟨h1, h2⟩⟩

theorem held_own {W : World} {base lim n : Nat} {v : Value} (m : Nat) (h : OwnI W base lim v n (fun i => ((m + i : Nat) : Int))) (hn : n ≤ 10000000) (hm : m ≤ 10000000) :
    Calls Tryz.prog 83 #[v, .int .i64 m] W fun e w' => e = .returned (.int .i64 ((m + n : Nat) : Int)) ∧ W = w' := by
  rcases h with ⟨h0, a, c, rfl⟩ | ⟨g, cap, rfl, h1, h2, h3⟩
  · subst h0; exact held_none a c m W
  · exact held_in g cap n W hn m hm (fun i hi => h3.cell hi)
end Go.Proofs.YtiaaefapbcjgmaaGreatDoor
namespace Go.Proofs.YtiaaefapbcjgmaaGreatDoor
open Go.RowKit Go.BigFrame

def accN (L : Nat → Nat) : Nat → Nat
  | 0 => 0
  | k + 1 => accN L k + L k

theorem accN_le {L : Nat → Nat} {n c : Nat} (h : ∀ j, j < n → L j ≤ c) : ∀ k, k ≤ n → accN L k ≤ k * c
  | 0, _ => by simp [accN]
  | k + 1, hk => by
    have h1 := accN_le h k (by omega)
    have h2 := h k (by omega)
    rw [Nat.succ_mul]; show accN L k + L k ≤ _; omega

set_option maxHeartbeats 1000000 in
theorem heldSS_in {W : World} {base lim n : Nat} {v : Value} {L : Nat → Nat} (m : Nat) (h : OwnG W base lim v n L (fun j i => ((m + accN L j + i : Nat) : Int))) (hL : ∀ j, j < n → L j ≤ 100) (hn : n ≤ 100) (hm : m ≤ 1000) :
    Calls Tryz.prog 84 #[v, .int .i64 m] W fun e w' => e = .returned (.int .i64 ((m + accN L n : Nat) : Int)) ∧ W = w' := by
  rcases h with ⟨rfl, a, c, rfl⟩ | ⟨G, cap, b, cb, rfl, hg⟩
  · go_enter Tryz.func84, Tryz.ntmps84
    go_wp2
    refine wp_loop_rounds 1 ?_
    rw [rounds_succ]
    go_wp2
    go_ret
    exact ⟨rfl, rfl⟩
  · have hacc := accN_le hL
    have hstep : ∀ k, accN L (k + 1) = accN L k + L k := fun k => rfl
    go_enter Tryz.func84, Tryz.ntmps84
    go_wp2
    go_loop [1, 5] (fun q i => ∃ k : Nat, k ≤ n ∧ i = .int .i64 k ∧ q = .int .i64 ((m + accN L k : Nat) : Int)) (fun _ i => n - (intOf i).toNat)
    case atStart => exact ⟨0, Nat.zero_le _, rfl, rfl⟩
    case round =>
      obtain ⟨k, hk, rfl, rfl⟩ := hrel
      by_cases hlt : k < n
      · have hat := hg.at_ k hlt
        have hrow := hg.row k hlt
        have hLk := hL k hlt
        have hak := hacc k hk
        have hM := held_in (b k) (cb k) (L k) W (by omega) (m + accN L k) (by omega) (fun i hi => hrow.cell hi)
        have hki : (k : Int) < (n : Int) := by omega
        have hsk := hide (hstep k)
        clear hacc hstep hL hrow hg
        obtain ⟨A, hA⟩ : ∃ A, m + accN L k = A := ⟨_, rfl⟩
        rw [hA] at hM ⊢
        have hneg : ¬ ((A + L k : Nat) : Int) < 0 := by omega
        go_wp2_with (go_at_call 83; (with_reducible refine hM.mono ?_); clear hM; rintro e w2 ⟨rfl, rfl⟩)
        go_round
        case rel => exact ⟨k + 1, by omega, by go_num, by rw [hsk.out, ← Nat.add_assoc, hA, Int.natCast_add]⟩
        case measure => simp [intOf]; omega
      · obtain rfl : k = n := by omega
        clear hacc hstep hL hg
        go_wp2
        go_ret
        exact ⟨rfl, rfl⟩
end Go.Proofs.YtiaaefapbcjgmaaGreatDoor
namespace Go.Proofs.YtiaaefapbcjgmaaGreatDoor
open Go.RowKit

theorem szI_in (a : Option Addr) (n c m : Nat) (w : World) (hn : n ≤ 9223372036854775807) (hm : m ≤ 1048576) : Calls Tryz.prog 75 #[.slice a n c, .int .i64 m] w fun e w' => e = .returned (.int .i64 (if n ≤ m then ((m - n : Nat) : Int) else -1)) ∧ w = w' := by
  by_cases h : n ≤ m
  · rw [if_pos h]
    have h1 : (m : Int) - (n : Int) = ((m - n : Nat) : Int) := by omega
    have h2 : ¬ ((m - n : Nat) : Int) < 0 := by omega
    have h3 : m - n ≤ 1048576 := by omega
    generalize m - n = q at *
    go_enter Tryz.func75, Tryz.ntmps75
    go_wp2
    go_ret
    exact ⟨rfl, rfl⟩
  · rw [if_neg h]
    have h2 : (m : Int) - (n : Int) < 0 := by omega
    go_enter Tryz.func75, Tryz.ntmps75
    go_wp2
    go_ret
    exact ⟨rfl, rfl⟩

set_option maxHeartbeats 1000000 in
theorem szSS_in (v : Value) (rows : List (List Int)) (m : Nat) (w : World) (hv : ArgP w v rows) (hn : rows.length ≤ 9223372036854775807) (hln : ∀ j, (rows.getD j []).length ≤ 9223372036854775807) (hm : m ≤ 1048576) : Calls Tryz.prog 76 #[v, .int .i64 m] w fun e w' =>
    (e = .returned (.int .i64 (-1)) ∨ ∃ q : Nat, e = .returned (.int .i64 q) ∧ rows.length + accN (fun j => (rows.getD j []).length) rows.length + q = m) ∧ w = w' := by
  obtain ⟨a, c, rfl, hr⟩ := hv
  have hacc : ∀ k, accN (fun j => (rows.getD j []).length) (k + 1) = accN (fun j => (rows.getD j []).length) k + (rows.getD k []).length := fun k => rfl
  have hacc0 : accN (fun j => (rows.getD j []).length) 0 = 0 := rfl
  generalize accN (fun j => (rows.getD j []).length) = A at *
  obtain ⟨n, hN⟩ : ∃ n, rows.length = n := ⟨_, rfl⟩
  rw [hN] at hr hn ⊢
  clear hN
  by_cases h : n ≤ m
  · have h1 : (m : Int) - (n : Int) = ((m - n : Nat) : Int) := by omega
    have h2 : ¬ ((m - n : Nat) : Int) < 0 := by omega
    have h3 : m - n ≤ 1048576 := by omega
    have h0 : n + A 0 + (m - n) = m := by omega
    generalize m - n = q0 at *
    clear h
    go_enter Tryz.func76, Tryz.ntmps76
    go_wp2
    go_loop [1, 5] (fun l i => ∃ k q : Nat, k ≤ n ∧ i = .int .i64 k ∧ l = .int .i64 q ∧ n + A k + q = m) (fun _ i => n - (intOf i).toNat)
    case atStart => exact ⟨0, q0, by omega, rfl, rfl, h0⟩
    case round =>
      clear h0 h1 h2 h3
      obtain ⟨k, q, hk, rfl, rfl, hs⟩ := hrel
      by_cases hlt : k < n
      · obtain ⟨G, o, rfl, hG, hc⟩ := hr (by omega)
        obtain ⟨u, huc, hu⟩ := hc k hlt
        obtain ⟨ua, uc, rfl⟩ := hu.form
        have hki : (k : Int) < (n : Int) := by omega
        have hS := szI_in ua (rows.getD k []).length uc q w (hln k) (by omega)
        have hak := hide (hacc k)
        clear hc hu hr hacc
        generalize (rows.getD k []).length = l at *
        by_cases hq : l ≤ q
        · rw [if_pos hq] at hS
          have h4 : ¬ ((q - l : Nat) : Int) < 0 := by omega
          have h5 := hide (show n + (A k + l) + (q - l) = m by omega)
          generalize q - l = r at *
          clear hq hs
          go_wp2_with (go_at_call 75; refine hS.mono ?_; clear hS; rintro e w' ⟨rfl, rfl⟩)
          go_round
          case rel => exact ⟨k + 1, r, by omega, by go_num, rfl, by rw [hak.out]; exact h5.out⟩
          case measure => simp [intOf]; omega
        · rw [if_neg hq] at hS
          clear hq hs
          go_wp2_with (go_at_call 75; refine hS.mono ?_; clear hS; rintro e w' ⟨rfl, rfl⟩)
          go_ret
          exact ⟨.inl rfl, rfl⟩
      · obtain rfl : k = n := by omega
        have hki : ¬ ((k : Nat) : Int) < (k : Int) := by omega
        clear hr hacc hlt
        go_wp2
        go_ret
        exact ⟨.inr ⟨q, rfl, hs⟩, rfl⟩
  · have h2 : (m : Int) - (n : Int) < 0 := by omega
    go_enter Tryz.func76, Tryz.ntmps76
    go_wp2
    go_ret
    exact ⟨.inl rfl, rfl⟩

set_option maxHeartbeats 1000000 in
theorem szDesk_in (v : Value) (d : Dk) (m : Nat) (w : World) (hv : ArgD w v d) (hn1 : d.1.length ≤ 9223372036854775807) (hn : d.2.length ≤ 9223372036854775807) (hln : ∀ j, (d.2.getD j []).length ≤ 9223372036854775807) (hm : m ≤ 1048576) : Calls Tryz.prog 29 #[v, .int .i64 m] w fun e w' =>
    (e = .returned (.int .i64 (-1)) ∨ ∃ q : Nat, e = .returned (.int .i64 q) ∧ d.1.length + (d.2.length + accN (fun j => (d.2.getD j []).length) d.2.length) + q = m) ∧ Below w.heap.size w w' := by
  obtain ⟨x, p, rfl, hx, hp⟩ := hv
  have hB := (Below.refl _ w).alloc (Nat.le_refl _) (.cells #[x, p] 54)
  have k0 := World.alloc_heap_new w (.cells #[x, p] 54)
  obtain ⟨xa, xc, rfl⟩ := hx.form
  obtain ⟨W1, hW1⟩ : ∃ W1, w.alloc (.cells #[.slice xa d.1.length xc, p] 54) = W1 := ⟨_, rfl⟩
  rw [hW1] at hB k0
  have hI := szI_in xa d.1.length xc m W1 hn1 hm
  have hp1 : ArgP W1 p d.2 := by
    obtain ⟨a, c, e, h⟩ := hp
    refine ⟨a, c, e, fun h0 => ?_⟩
    obtain ⟨G, o, e1, hG, hc⟩ := h h0
    refine ⟨G, o, e1, Nat.lt_of_lt_of_le hG hB.size, fun j hj => ?_⟩
    obtain ⟨u, h1, h2⟩ := hc j hj
    refine ⟨u, (hB.cell (p := ⟨G, o + j, none⟩) hG).trans h1, ?_⟩
    rcases h2 with h2 | ⟨b, of, cap, e2, hb, hcc⟩
    · exact .inl h2
    · exact .inr ⟨b, of, cap, e2, Nat.lt_of_lt_of_le hb hB.size, fun i hi => (hB.cell (p := ⟨b, of + i, none⟩) hb).trans (hcc i hi)⟩
  have hS := fun q (hq : q ≤ 1048576) => szSS_in p d.2 q W1 hp1 hn hln hq
  obtain ⟨pa, pc, rfl, _⟩ := hp
  obtain ⟨c0, c1, _, _⟩ := row_at k0
  generalize d.2.length + accN (fun j => (d.2.getD j []).length) d.2.length = A at *
  generalize d.1.length = n at *
  by_cases h : n ≤ m
  · rw [if_pos h] at hI
    have h2 : ¬ ((m - n : Nat) : Int) < 0 := by omega
    have hS1 := hS (m - n) (by omega)
    have h5 : n + (m - n) = m := by omega
    generalize m - n = r at *
    clear hS h hp1
    go_enter Tryz.func29, Tryz.ntmps29
    go_wp2_with (first
      | (go_at_call 75; go_loud (refine hI.mono ?_; clear hI; rintro e w2 ⟨rfl, rfl⟩))
      | (go_at_call 76; fail))
    go_at_call 76
    refine hS1.mono ?_
    rintro e w2 ⟨rfl | ⟨q, rfl, hq⟩, rfl⟩
    · go_wp2
      go_ret
      exact ⟨.inl rfl, hB⟩
    · have h6 : ¬ (q : Int) < 0 := by omega
      have hq' := hide (show n + A + q = m by omega)
      clear hq h5
      go_wp2
      go_ret
      exact ⟨.inr ⟨q, rfl, hq'.out⟩, hB⟩
  · rw [if_neg h] at hI
    clear hS h hp1
    go_enter Tryz.func29, Tryz.ntmps29
    go_wp2_with (go_at_call 75; go_loud (refine hI.mono ?_; clear hI; rintro e w2 ⟨rfl, rfl⟩))
    go_ret
    exact ⟨.inl rfl, hB⟩

theorem own_set {W : World} {base n g c : Nat} {e : TypeId} {xs : List Value} (h : W.ownsRow base e 1 (.slice (some ⟨g, 0, none⟩) n c) n xs) {k : Nat} (hk : k < n) (z : Value) : (W.setCell ⟨g, k, none⟩ z).ownsRow base e 1 (.slice (some ⟨g, 0, none⟩) n c) n (xs.set k z) := by
  obtain ⟨hl, h2⟩ := h
  refine ⟨by rw [List.length_set]; exact hl, ?_⟩
  rcases h2 with ⟨e, h0⟩ | ⟨g', cap, cur, e, hb, hg, hc, hm, hs, ht⟩
  · omega
  · injection e with e1 e2 e3
    injection e1 with e1
    injection e1 with e1
    subst e1 e3
    obtain ⟨hlt, hk2⟩ := Array.getElem?_eq_some_iff.1 hg
    refine .inr ⟨g, c, cur.setIfInBounds k z, rfl, hb, ?_, hc, hm, by simpa using hs, ?_⟩
    · show (W.heap.modify g _)[g]? = _
      rw [Array.getElem?_eq_getElem (by rw [Array.size_modify]; exact hlt), Array.getElem_modify_self, hk2]; rfl
    · rw [Array.toList_setIfInBounds, List.take_set, ht]

theorem own_at {W : World} {base n g c : Nat} {e : TypeId} {xs : List Value} (h : W.ownsRow base e 1 (.slice (some ⟨g, 0, none⟩) n c) n xs) (k : Nat) (hk : k < n) : (∃ u, W.cell? ⟨g, k, none⟩ = some u) ∧ W.frozen? ⟨g, k, none⟩ = false := by
  rcases h.2 with ⟨e, h0⟩ | ⟨g', cap, cur, e, hb, hg, hc, hm, hs, ht⟩
  · omega
  · injection e with e1 e2 e3
    injection e1 with e1
    injection e1 with e1
    subst e1 e3
    have hkc : k < cur.size := by omega
    refine ⟨⟨cur[k]'hkc, ?_⟩, by unfold World.frozen?; rw [hg]; rfl⟩
    unfold World.cell?
    rw [hg]
    exact Array.getElem?_eq_getElem hkc

theorem own_blk12 {W : World} {base n : Nat} {e : TypeId} {v : Value} {xs : List Value} (h : W.ownsRow base e 1 v n xs) : v.ownBlock = .none ∨ ∃ b, v.ownBlock = some b ∧ base ≤ b ∧ b < W.heap.size := by
  rcases h.2 with ⟨rfl, _⟩ | ⟨b, cap, cur, rfl, hb, hg, _⟩
  · exact .inl rfl
  · exact .inr ⟨b, rfl, hb, (Array.getElem?_eq_some_iff.1 hg).1⟩

/-- The rows that have been copied. -/
structure Tss (w : World) (n : Nat) (rows : List (List Int)) (k : Nat) (W : World) : Prop where
  below : Below w.heap.size w W
  own : ∃ us : List Value, us.length = n ∧ W.ownsRow w.heap.size 28 1 (.slice (some ⟨w.heap.size, 0, none⟩) n n) n us ∧ (∀ j, j < k → W.ownsRow w.heap.size 3 1 (us.getD j undef) (rows.getD j []).length ((rows.getD j []).map (Value.int .i64))) ∧ ∀ i j, i < j → j < k → (us.getD i undef).ownBlock = .none ∨ (us.getD i undef).ownBlock ≠ (us.getD j undef).ownBlock

theorem Tss.next {w : World} {n : Nat} {rows : List (List Int)} {k : Nat} {W V : World} {u : Value} (h : Tss w n rows k W) (hk : k < n) (hV : Below W.heap.size W V) (hu : V.ownsRow W.heap.size 3 1 u (rows.getD k []).length ((rows.getD k []).map (Value.int .i64))) :
    ((∃ z, V.cell? ⟨w.heap.size, k, none⟩ = some z) ∧ V.frozen? ⟨w.heap.size, k, none⟩ = false) ∧ Tss w n rows (k + 1) (V.setCell ⟨w.heap.size, k, .none⟩ u) := by
  obtain ⟨hB, us, hl, ho, hr, hne⟩ := h
  have hoV := own_below ho hV
  have hs := grownBy_setAt V w.heap.size k u
  have huV := own_from hu hB.size
  refine ⟨own_at hoV k hk, ⟨(hB.trans (hV.mono hB.size)).setCell (p := ⟨w.heap.size, k, .none⟩) (Nat.le_refl _) _, us.set k u, by rw [List.length_set]; exact hl, own_set hoV hk u, fun j hj => ?_, fun i j hij hj => ?_⟩⟩
  rotate_left
  · have hi' : (us.set k u).getD i undef = us.getD i undef := by rw [List.getD, List.getElem?_set, if_neg (by omega)]; rfl
    rw [hi']
    by_cases e : j = k
    · subst e
      have hk' : (us.set j u).getD j undef = u := by rw [List.getD, List.getElem?_set, if_pos rfl, if_pos (by omega)]; rfl
      rw [hk']
      rcases own_blk12 (hr i (by omega)) with e1 | ⟨b1, e1, _, hb1⟩
      · exact .inl e1
      · refine .inr (fun e4 => ?_)
        rw [e1] at e4
        rcases own_blk12 hu with e5 | ⟨b5, e5, hb5, _⟩
        · rw [e5] at e4; cases e4
        · rw [e5] at e4; injection e4 with e4; omega
    · have hj' : (us.set k u).getD j undef = us.getD j undef := by rw [List.getD, List.getElem?_set, if_neg (fun h => e h.symm)]; rfl
      rw [hj']
      exact hne i j hij (by omega)
  by_cases e : j = k
  · subst e
    rw [List.getD, List.getElem?_set, if_pos rfl, if_pos (by omega)]
    exact huV.kept hs (by rcases own_apart huV hoV with h | h
                          · exact .inl h
                          · exact .inr (fun e => h (by rw [e]; rfl)))
  · rw [List.getD, List.getElem?_set, if_neg (fun h => e h.symm)]
    have hj2 := own_below (hr j (by omega)) hV
    exact hj2.kept hs (by rcases own_apart hj2 hoV with h | h
                          · exact .inl h
                          · exact .inr (fun e => h (by rw [e]; rfl)))

set_option maxRecDepth 100000 in
set_option maxHeartbeats 1000000 in
theorem toSS_in (W0 : World) (v : Value) (rows : List (List Int)) (w : World) (hv : ArgP W0 v rows) (hB : Below W0.heap.size W0 w) (hn : rows.length ≤ 1048576) (hln : ∀ j, j < rows.length → (rows.getD j []).length ≤ 1048576) : Calls Tryz.prog 78 #[v] w fun e w' =>
    ∃ r, e = .returned r ∧ OwnQ w' w.heap.size r rows ∧ Below w.heap.size w w' := by
  obtain ⟨a, c, rfl, hr⟩ := hv
  obtain ⟨i0, hi, hz0, hz1, hz2⟩ := info_rows Tryz.infoRow
  obtain ⟨n, hN⟩ : ∃ n, rows.length = n := ⟨_, rfl⟩
  rw [hN] at hr hn hln ⊢
  go_enter Tryz.func78, Tryz.ntmps78
  go_wp2_with (at_make; go_loud (refine wpList_make_full _ rfl _ _ 29 rfl w.heap.size 28 i0 (.slice none 0 0) 1 Tryz.underlying29 hi hz0 hz1 .i64 .i64 n n n rfl rfl rfl rfl (by rw [hz2]; omega) (by unfold maxLen; omega) (Nat.le_refl _) ?_); intro w1 hown hg1)
  have hT : Tss w n rows 0 w1 := ⟨(Below.refl _ w).grown hg1 (Nat.le_refl _) (fun _ e => by cases e), _, by have := hown.1; simpa using this, hown, fun j hj => absurd hj (Nat.not_lt_zero j), fun _ j _ hj => absurd hj (Nat.not_lt_zero j)⟩
  clear hown hg1
  go_loopw [4] (fun i wr => ∃ k : Nat, k ≤ n ∧ i = .int .i64 k ∧ Tss w n rows k wr) (fun i _ => n - (intOf i).toNat)
  case atStart => exact ⟨0, by omega, rfl, hT⟩
  case round =>
    clear hT
    obtain ⟨k, hk, rfl, hT⟩ := hrel
    by_cases hlt : k < n
    · obtain ⟨G, o, rfl, hG, hc⟩ := hr (by omega)
      obtain ⟨u, huc, hu⟩ := hc k hlt
      have hBw := hB.trans (hT.below.mono hB.size)
      have hcc := (hBw.cell (p := ⟨G, o + k, none⟩) hG).trans huc
      have hI := toIntS_in W0 u (rows.getD k []) wr hu hBw (by have := hln k hlt; omega)
      obtain ⟨ua, uc, rfl⟩ := hu.form
      have hki : (k : Int) < (n : Int) := by omega
      have hT' := hide hT
      have hN' := hide hN
      clear hc hu hr huc hln hT hN
      go_wp2_with (go_at_call 77; go_loud (refine hI.mono ?_; clear hI; rintro e w3 ⟨r, rfl, hr3, hB3⟩; obtain ⟨⟨⟨z, hz⟩, hf⟩, hT3⟩ := hT'.out.next hlt hB3 hr3; obtain ⟨ra, rc, rfl⟩ := own_form hr3; clear hr3 hB3))
      go_roundw
      case rel => exact ⟨k + 1, by omega, by go_num, hT3⟩
      case measure => simp [intOf]; omega
    · obtain rfl : k = n := by omega
      have hki : ¬ ((k : Nat) : Int) < (k : Int) := by omega
      obtain ⟨hBf, us, hl, ho, hr2, hne2⟩ := hT
      have hN' := hide hN
      clear hr hln hN
      go_wp2
      go_ret
      exact ⟨_, rfl, ⟨us, by rw [hl, hN'.out], by rw [hl]; exact ho, fun j hj => hr2 j (by rw [hN'.out] at hj; exact hj), fun i j hij hj => hne2 i j hij (by rw [hN'.out] at hj; exact hj)⟩, hBf⟩

theorem toDesk_step {w W1 W2 : World} {x p z1 z2 r : Value} {n : Nat} {xs : List Value} (hB : Below w.heap.size w W1) (hs : w.heap.size + 3 ≤ W1.heap.size) (k0 : W1.heap[w.heap.size]? = some (.cells #[x, p] 54 (0, 0))) (k1 : W1.heap[w.heap.size + 1]? = some (.cells #[.slice none 0 0, .slice none 0 0] 31 (0, 0)))
    (k2 : W1.heap[w.heap.size + 2]? = some (.cells #[z1, z2] 31 (0, 0))) (hr : W2.ownsRow W1.heap.size 3 1 r n xs) (hB2 : Below W1.heap.size W1 W2) :
    Below w.heap.size w (W2.setCell ⟨w.heap.size + 2, 0, none⟩ r) ∧ (W2.setCell ⟨w.heap.size + 2, 0, none⟩ r).heap[w.heap.size]? = some (.cells #[x, p] 54 (0, 0)) ∧ (W2.setCell ⟨w.heap.size + 2, 0, none⟩ r).heap[w.heap.size + 1]? = some (.cells #[.slice none 0 0, .slice none 0 0] 31 (0, 0)) ∧
    (W2.setCell ⟨w.heap.size + 2, 0, none⟩ r).heap[w.heap.size + 2]? = some (.cells #[r, z2] 31 (0, 0)) ∧ (W2.setCell ⟨w.heap.size + 2, 0, none⟩ r).ownsRow (w.heap.size + 3) 3 1 r n xs ∧ w.heap.size + 3 ≤ (W2.setCell ⟨w.heap.size + 2, 0, none⟩ r).heap.size := by
  have hg := grownBy_setAt W2 (w.heap.size + 2) 0 r
  have hz := hB2.size
  have hz3 := hg.size
  refine ⟨(hB.trans (hB2.mono hB.size)).setCell (p := ⟨w.heap.size + 2, 0, none⟩) (by show w.heap.size ≤ w.heap.size + 2; omega) r, ?_, ?_, set_cells ((hB2.block _ (by omega)).trans k2) 0 r, ?_, by omega⟩
  · exact (hg.block _ (by omega) (fun e => by injection e with e; omega)).trans ((hB2.block _ (by omega)).trans k0)
  · exact (hg.block _ (by omega) (fun e => by injection e with e; omega)).trans ((hB2.block _ (by omega)).trans k1)
  · exact own_from (own_kept hr hg (own_old hr (by omega))) hs

theorem toDesk_fin {w W3 W4 : World} {r q : Value} {n : Nat} {xs : List Value} {rows : List (List Int)} (hB : Below w.heap.size w W3) (hs : w.heap.size + 3 ≤ W3.heap.size) (k1 : W3.heap[w.heap.size + 1]? = some (.cells #[.slice none 0 0, .slice none 0 0] 31 (0, 0)))
    (hr : W3.ownsRow (w.heap.size + 3) 3 1 r n xs) (hq : OwnQ W4 W3.heap.size q rows) (hB4 : Below W3.heap.size W3 W4) :
    (((W4.setCell ⟨w.heap.size + 2, 1, none⟩ q).setCell ⟨w.heap.size + 1, 0, none⟩ r).setCell ⟨w.heap.size + 1, 1, none⟩ q).heap[w.heap.size + 1]? = some (.cells #[r, q] 31 (0, 0)) ∧
    (((W4.setCell ⟨w.heap.size + 2, 1, none⟩ q).setCell ⟨w.heap.size + 1, 0, none⟩ r).setCell ⟨w.heap.size + 1, 1, none⟩ q).ownsRow w.heap.size 3 1 r n xs ∧
    OwnQ (((W4.setCell ⟨w.heap.size + 2, 1, none⟩ q).setCell ⟨w.heap.size + 1, 0, none⟩ r).setCell ⟨w.heap.size + 1, 1, none⟩ q) w.heap.size q rows ∧ Below w.heap.size w (((W4.setCell ⟨w.heap.size + 2, 1, none⟩ q).setCell ⟨w.heap.size + 1, 0, none⟩ r).setCell ⟨w.heap.size + 1, 1, none⟩ q) ∧
    W3.heap.size ≤ (((W4.setCell ⟨w.heap.size + 2, 1, none⟩ q).setCell ⟨w.heap.size + 1, 0, none⟩ r).setCell ⟨w.heap.size + 1, 1, none⟩ q).heap.size ∧ (∀ g, r.ownBlock = some g → g < W3.heap.size) ∧ OwnQ (((W4.setCell ⟨w.heap.size + 2, 1, none⟩ q).setCell ⟨w.heap.size + 1, 0, none⟩ r).setCell ⟨w.heap.size + 1, 1, none⟩ q) W3.heap.size q rows := by
  have g1 := grownBy_setAt W4 (w.heap.size + 2) 1 q
  have g2 := grownBy_setAt (W4.setCell ⟨w.heap.size + 2, 1, none⟩ q) (w.heap.size + 1) 0 r
  have g3 := grownBy_setAt ((W4.setCell ⟨w.heap.size + 2, 1, none⟩ q).setCell ⟨w.heap.size + 1, 0, none⟩ r) (w.heap.size + 1) 1 q
  have hz := hB4.size
  have k14 := (g1.block (w.heap.size + 1) (by omega) (fun e => by injection e with e; omega)).trans ((hB4.block _ (by omega)).trans k1)
  have hr4 := own_below hr hB4
  have hr5 := own_kept hr4 g1 (own_old hr4 (by omega))
  have hr6 := own_kept hr5 g2 (own_old hr5 (by omega))
  have hr7 := own_kept hr6 g3 (own_old hr6 (by omega))
  refine ⟨desk_set k14 r q, own_from hr7 (by omega), (((hq.old (by omega) g1).old (by omega) g2).old (by omega) g3).down (by omega), ?_, Nat.le_trans hz (Nat.le_trans g1.size (Nat.le_trans g2.size g3.size)), fun g e => (hr.lt g e).2, ((hq.old (by omega) g1).old (by omega) g2).old (by omega) g3⟩
  have h0 := (hB.trans (hB4.mono hB.size)).setCell (p := ⟨w.heap.size + 2, 1, none⟩) (by show w.heap.size ≤ w.heap.size + 2; omega) q
  exact (h0.setCell (p := ⟨w.heap.size + 1, 0, none⟩) (by show w.heap.size ≤ w.heap.size + 1; omega) r).setCell (p := ⟨w.heap.size + 1, 1, none⟩) (by show w.heap.size ≤ w.heap.size + 1; omega) q

set_option maxRecDepth 100000 in
set_option maxHeartbeats 1000000 in
theorem toDesk_mid (W0 : World) (v : Value) (d : Dk) (w : World) (hv : ArgD W0 v d) (hB0 : Below W0.heap.size W0 w) (hn1 : d.1.length ≤ 1048576) (hn : d.2.length ≤ 1048576) (hln : ∀ j, j < d.2.length → (d.2.getD j []).length ≤ 1048576) : Calls Tryz.prog 30 #[v] w fun e w' =>
    ∃ x p, e = .returned (.agg #[x, p]) ∧ w'.ownsRow w.heap.size 3 1 x d.1.length (d.1.map (Value.int .i64)) ∧ OwnQ w' w.heap.size p d.2 ∧ (∃ mid, w.heap.size ≤ mid ∧ mid ≤ w'.heap.size ∧ (∀ g, x.ownBlock = some g → g < mid) ∧ OwnQ w' mid p d.2) ∧ Below w.heap.size w w' := by
  obtain ⟨x, p, rfl, hx, hp⟩ := hv
  have hB : Below w.heap.size w (((w.alloc (.cells #[x, p] 54)).alloc (.cells #[.slice none 0 0, .slice none 0 0] 31)).alloc (.cells #[.slice none 0 0, .slice none 0 0] 31)) := (((Below.refl _ w).alloc (Nat.le_refl _) _).alloc (by rw [World.size_alloc]; omega) _).alloc (by rw [World.size_alloc, World.size_alloc]; omega) _
  have k0 : (((w.alloc (.cells #[x, p] 54)).alloc (.cells #[.slice none 0 0, .slice none 0 0] 31)).alloc (.cells #[.slice none 0 0, .slice none 0 0] 31)).heap[w.heap.size]? = some (.cells #[x, p] 54 (0, 0)) := (Below.heap_alloc _ _ _ (by rw [World.size_alloc, World.size_alloc]; omega)).trans ((Below.heap_alloc _ _ _ (by rw [World.size_alloc]; omega)).trans (World.alloc_heap_new w _))
  have k1 : (((w.alloc (.cells #[x, p] 54)).alloc (.cells #[.slice none 0 0, .slice none 0 0] 31)).alloc (.cells #[.slice none 0 0, .slice none 0 0] 31)).heap[w.heap.size + 1]? = some (.cells #[.slice none 0 0, .slice none 0 0] 31 (0, 0)) := by
    have h := World.alloc_heap_new (w.alloc (.cells #[x, p] 54)) (.cells #[.slice none 0 0, .slice none 0 0] 31)
    rw [World.size_alloc] at h
    exact (Below.heap_alloc _ _ _ (by rw [World.size_alloc, World.size_alloc]; omega)).trans h
  have k2 : (((w.alloc (.cells #[x, p] 54)).alloc (.cells #[.slice none 0 0, .slice none 0 0] 31)).alloc (.cells #[.slice none 0 0, .slice none 0 0] 31)).heap[w.heap.size + 2]? = some (.cells #[.slice none 0 0, .slice none 0 0] 31 (0, 0)) := by
    have h := World.alloc_heap_new ((w.alloc (.cells #[x, p] 54)).alloc (.cells #[.slice none 0 0, .slice none 0 0] 31)) (.cells #[.slice none 0 0, .slice none 0 0] 31)
    rw [World.size_alloc, World.size_alloc] at h
    exact h
  obtain ⟨W1, hW1⟩ : ∃ W1, ((w.alloc (.cells #[x, p] 54)).alloc (.cells #[.slice none 0 0, .slice none 0 0] 31)).alloc (.cells #[.slice none 0 0, .slice none 0 0] 31) = W1 := ⟨_, rfl⟩
  rw [hW1] at hB k0 k1 k2
  have l2 := (Array.getElem?_eq_some_iff.1 k2).1
  have hBW := hB0.trans (hB.mono hB0.size)
  have hI := toIntS_in W0 x d.1 W1 hx hBW (by omega)
  have hS := fun V (hV : Below w.heap.size w V) => toSS_in W0 p d.2 V hp (hB0.trans (hV.mono hB0.size)) hn hln
  have hsW : w.heap.size + 3 ≤ W1.heap.size := by rw [← hW1]; simp
  obtain ⟨xa, xc, rfl⟩ := hx.form
  obtain ⟨pa, pc, rfl, _⟩ := hp
  obtain ⟨c0, c1, _, _⟩ := row_at k0
  clear hx
  obtain ⟨b0, b1, f0, f1⟩ := row_at k2
  go_enter Tryz.func30, Tryz.ntmps30
  have l0 : w.heap.size < W1.heap.size := by omega
  have l1 : w.heap.size + 1 < W1.heap.size := by omega
  go_wp2_with (first
    | (go_at_call 77; go_loud (refine hI.mono ?_; clear hI; rintro e W2 ⟨r, rfl, hr, hB2⟩; obtain ⟨ra, rc, rfl⟩ := own_form hr; have hst := toDesk_step hB hsW k0 k1 k2 hr hB2; obtain ⟨b0, b1, f0, f1⟩ := row_at ((hB2.block _ l2).trans k2); obtain ⟨W3, hW3⟩ : ∃ W3, W2.setCell ⟨w.heap.size + 2, 0, none⟩ (.slice ra d.1.length rc) = W3 := ⟨_, rfl⟩; rw [hW3] at hst; obtain ⟨hB3, h0, h1, h2, hr3, hz3⟩ := hst; obtain ⟨c0, c1, _, _⟩ := row_at h0))
    | (go_at_call 78; go_loud (refine (hS _ hB3).mono ?_; clear hS; rintro e W4 ⟨q, rfl, hq, hB4⟩; obtain ⟨qa, qc, rfl⟩ := hq.ownSS.form; have hfin := toDesk_fin hB3 hz3 h1 hr3 hq hB4; obtain ⟨b0, b1, f0, f1⟩ := row_at ((hB4.block _ (Array.getElem?_eq_some_iff.1 h2).1).trans h2); obtain ⟨s0, s1, t0, t1⟩ := row_at ((hB4.block _ (Array.getElem?_eq_some_iff.1 h1).1).trans h1); have hfin' := hide hfin; clear hfin hq hB4)))
  exact bodyPost_ret (results_desk rfl _ _ (w.heap.size + 1) _ _ rfl hfin'.out.1) rfl ⟨_, _, rfl, hfin'.out.2.1, hfin'.out.2.2.1, ⟨W3.heap.size, by have := hB3.size; omega, hfin'.out.2.2.2.2.1, hfin'.out.2.2.2.2.2.1, hfin'.out.2.2.2.2.2.2⟩, hfin'.out.2.2.2.1⟩
end Go.Proofs.YtiaaefapbcjgmaaGreatDoor
namespace Go.Proofs.YtiaaefapbcjgmaaGreatDoor
open Go.RowKit Go.BigFrame

set_option maxRecDepth 100000 in
set_option maxHeartbeats 1000000 in
theorem eqSSP_in (v u : Value) (rows : List (List Int)) (w : World) (hn : rows.length ≤ 2000000) (hlen : ∀ j, j < rows.length → (rows.getD j []).length ≤ 2000000) (hv : PastI w v rows) (hu : PastI w u rows) :
    Calls Tryz.prog 80 #[v, u] w fun e w' => e = .returned (.bool true) ∧ Below w.heap.size w w' := by
  obtain ⟨a, c, rfl, hv⟩ := hv
  obtain ⟨a', c', rfl, hu⟩ := hu
  obtain ⟨n, hn'⟩ : ∃ n, rows.length = n := ⟨_, rfl⟩
  rw [hn'] at hn hlen hv hu ⊢
  clear hn'
  go_enter Tryz.func80, Tryz.ntmps80
  go_wp2
  go_loopw [5] (fun i wr => ∃ k : Nat, k ≤ n ∧ i = .int .i64 k ∧ Below w.heap.size w wr) (fun i _ => n - (intOf i).toNat)
  case atStart => exact ⟨0, Nat.zero_le _, rfl, Below.refl _ _⟩
  case round =>
    obtain ⟨k, hk, rfl, hB⟩ := hrel
    by_cases hlt : k < n
    · obtain ⟨G, o, rfl, hG, hr⟩ := hv (by omega)
      obtain ⟨G', o', rfl, hG', hr'⟩ := hu (by omega)
      obtain ⟨x, hx1, hx2⟩ := hr k hlt
      obtain ⟨y, hy1, hy2⟩ := hr' k hlt
      have hlk := hlen k hlt
      have h3 : ∀ m : After w, Calls Tryz.prog 79 #[x, y] m.now fun e w' => e = .returned (.bool true) ∧ Below m.now.heap.size m.now w' := fun m => eqIntS_in x y _ m.now (by omega) (hx2.below m.ok) (hy2.below m.ok)
      obtain ⟨ax, cx, rfl⟩ := hx2.shape
      obtain ⟨ay, cy, rfl⟩ := hy2.shape
      have h1 : ∀ m : After w, m.now.cell? ⟨G, o + k, none⟩ = some (.slice ax (rows.getD k []).length cx) := fun m => (m.ok.cell (p := ⟨G, o + k, none⟩) hG).trans hx1
      have h2 : ∀ m : After w, m.now.cell? ⟨G', o' + k, none⟩ = some (.slice ay (rows.getD k []).length cy) := fun m => (m.ok.cell (p := ⟨G', o' + k, none⟩) hG').trans hy1
      have hki : (k : Int) < (n : Int) := by omega
      generalize (rows.getD k []).length = l at *
      clear hr hr' hx1 hx2 hy1 hy2 hlen hv hu
      go_wp2
      refine wp_region_below w (by kernel_rfl) (by kernel_rfl) hB ?_
      repeat (go_big_quiet_step ((go_at_call 79; with_reducible exact after_of (h3 _))))
      refine wpQuiet_nil ?_
      rintro _ ⟨nq, rfl⟩
      clear h1 h2 h3
      go_wp2
      go_roundw
      case rel => exact ⟨k + 1, by omega, by go_num, nq.ok⟩
      case measure => simp [intOf]; omega
    · obtain rfl : k = n := by omega
      clear hv hu hlen
      go_wp2
      go_ret
      exact ⟨rfl, hB⟩

set_option maxRecDepth 100000 in
set_option maxHeartbeats 1000000 in
theorem eqDesk_in (v u : Value) (d : Dk) (w : World) (hs : d.1.length ≤ 2000000 ∧ d.2.length ≤ 2000000 ∧ ∀ j, j < d.2.length → (d.2.getD j []).length ≤ 2000000) (hv : DeskI w v d) (hu : DeskI w u d) : Calls Tryz.prog 31 #[v, u] w fun e w' => e = .returned (.bool true) ∧ Below w.heap.size w w' := by
  obtain ⟨x, p, rfl, hx, hp⟩ := hv
  obtain ⟨y, q, rfl, hy, hq⟩ := hu
  have hB : Below w.heap.size w ((w.alloc (.cells #[x, p] 31)).alloc (.cells #[y, q] 31)) := ((Below.refl _ w).alloc (Nat.le_refl _) _).alloc (by rw [World.size_alloc]; omega) _
  have k1 := World.alloc_heap_new (w.alloc (.cells #[x, p] 31)) (.cells #[y, q] 31)
  rw [World.size_alloc] at k1
  have k0 : ((w.alloc (.cells #[x, p] 31)).alloc (.cells #[y, q] 31)).heap[w.heap.size]? = some (.cells #[x, p] 31 (0, 0)) := (Below.heap_alloc _ _ _ (by rw [World.size_alloc]; omega)).trans (World.alloc_heap_new w _)
  obtain ⟨W0, hW0⟩ : ∃ W0, (w.alloc (.cells #[x, p] 31)).alloc (.cells #[y, q] 31) = W0 := ⟨_, rfl⟩
  rw [hW0] at hB k0 k1
  have l0 := (Array.getElem?_eq_some_iff.1 k0).1
  have l1 := (Array.getElem?_eq_some_iff.1 k1).1
  have hI := eqIntS_in x y d.1 W0 (by omega) (hx.below hB) (hy.below hB)
  have hR := fun V (hV : Below W0.heap.size W0 V) => eqSSP_in p q d.2 V hs.2.1 hs.2.2 ((hp.below hB).below hV) ((hq.below hB).below hV)
  obtain ⟨xa, xc, rfl⟩ := hx.shape
  obtain ⟨ya, yc, rfl⟩ := hy.shape
  obtain ⟨pa, pc, rfl, _⟩ := hp
  obtain ⟨qa, qc, rfl, _⟩ := hq
  obtain ⟨c0, c1, _, _⟩ := row_at k0
  obtain ⟨e0, e1, _, _⟩ := row_at k1
  clear hx hy hs
  go_enter Tryz.func31, Tryz.ntmps31
  go_wp2_with (first
    | (go_at_call 79; go_loud (refine hI.mono ?_; clear hI; rintro e w2 ⟨rfl, hB2⟩; obtain ⟨c0, c1, _, _⟩ := row_at ((hB2.block _ l0).trans k0); obtain ⟨e0, e1, _, _⟩ := row_at ((hB2.block _ l1).trans k1)))
    | (go_at_call 80; go_loud (refine (hR _ hB2).mono ?_; clear hR; rintro e w3 ⟨rfl, hB3⟩)))
  go_ret
  exact ⟨rfl, hB.trans ((hB2.trans (hB3.mono hB2.size)).mono hB.size)⟩
end Go.Proofs.YtiaaefapbcjgmaaGreatDoor
namespace Go.Proofs.YtiaaefapbcjgmaaGreatDoor
open Go.RowKit
attribute [local go_sem] Oper.semAt_some

theorem acc_each (L : Nat → Nat) : ∀ n j, j < n → L j ≤ accN L n
  | n + 1, j, h => by
    show L j ≤ accN L n + L n
    by_cases e : j = n
    · subst e; omega
    · have := acc_each L n j (by omega); omega
end Go.Proofs.YtiaaefapbcjgmaaGreatDoor
namespace Go.Proofs.YtiaaefapbcjgmaaGreatDoor
open Go.RowKit

set_option maxRecDepth 100000 in
set_option maxHeartbeats 1000000 in
theorem heldDesk_in {W : World} {base mid lim n m : Nat} {v : Value} {L : Nat → Nat} (k : Nat) (h : OwnD W base mid lim v n (fun i => ((k + i : Nat) : Int)) m L (fun j i => ((k + n + accN L j + i : Nat) : Int))) (hn : n ≤ 100) (hL : ∀ j, j < m → L j ≤ 100) (hm : m ≤ 100) (hk : k ≤ 500) :
    Calls Tryz.prog 33 #[v, .int .i64 k] W fun e w' => e = .returned (.int .i64 ((k + n + accN L m : Nat) : Int)) ∧ Below W.heap.size W w' := by
  obtain ⟨xa, xc, pa, pc, hv⟩ := h.form
  obtain ⟨x, p, rfl, h2, h3, h4, h5, h6⟩ := h
  injection hv with hv
  simp at hv
  obtain ⟨rfl, rfl⟩ := hv
  have hB := (Below.refl _ W).alloc (Nat.le_refl _) (.cells #[.slice xa n xc, .slice pa m pc] 31)
  have k0 := World.alloc_heap_new W (.cells #[.slice xa n xc, .slice pa m pc] 31)
  obtain ⟨W1, hW1⟩ : ∃ W1, W.alloc (.cells #[.slice xa n xc, .slice pa m pc] 31) = W1 := ⟨_, rfl⟩
  rw [hW1] at hB k0
  have hM := held_own k (h5.below hB) (by omega) (by omega)
  have hS := heldSS_in (k + n) (h6.below hB) hL hm (by omega)
  obtain ⟨c0, c1, _, _⟩ := row_at k0
  have hneg1 : ¬ ((k + n : Nat) : Int) < 0 := by omega
  have hneg2 : ¬ ((k + n + accN L m : Nat) : Int) < 0 := by omega
  clear h5 h6
  generalize accN L m = A at *
  have hkn : ((k + n : Nat) : Int) = (k : Int) + (n : Int) := by omega
  go_enter Tryz.func33, Tryz.ntmps33
  go_wp2_with (first
    | (go_at_call 83; go_loud (refine hM.mono ?_; clear hM; rintro e W2 ⟨rfl, rfl⟩))
    | (go_at_call 84; go_loud (refine hS.mono ?_; clear hS; rintro e W3 ⟨rfl, rfl⟩)))
  go_ret
  exact ⟨rfl, hB⟩

/-- The rows from k on lie as they were, the others have been marked. -/
structure Mkq (W0 : World) (base lim : Nat) (v : Value) (rows : List (List Int)) (us : List Value) (k : Nat) (W : World) : Prop where
  bet : Between base lim W0 W
  own : W.ownsRow base 28 1 v us.length us
  row : ∀ j, k ≤ j → j < rows.length → W.ownsRow base 3 1 (us.getD j undef) (rows.getD j []).length ((rows.getD j []).map (Value.int .i64))

theorem OwnQL.rowed {W W' : World} {base lim : Nat} {row : Option Nat} {v : Value} {rows : List (List Int)} (h : OwnQL W base lim v rows) (hg : W.grownBy W' row) (hb : ∀ b, row = some b → b < base) : OwnQL W' base lim v rows := by
  cases row with
  | some b => exact h.old (hb b rfl) hg
  | none =>
    obtain ⟨us, l, o, r, ne, hl⟩ := h
    have hg' : W.grownBy W' (some W.heap.size) := ⟨hg.os, hg.tape, hg.output, hg.size, fun k hk _ => hg.block k hk (by simp)⟩
    exact ⟨us, l, own_kept o hg' (fun e => absurd (o.lt _ e).2 (Nat.lt_irrefl _)), fun j hj => own_kept (r j hj) hg' (fun e => absurd ((r j hj).lt _ e).2 (Nat.lt_irrefl _)), ne, hl⟩

set_option maxRecDepth 100000 in
set_option maxHeartbeats 1000000 in
theorem markQ_in {W : World} {base lim : Nat} {v : Value} {rows : List (List Int)} (h : OwnQL W base lim v rows) (hn : rows.length ≤ 1048576) (m : Nat) (hs : m + accN (fun j => (rows.getD j []).length) rows.length ≤ 5000000) :
    Calls Tryz.prog 82 #[v, .int .i64 m] W fun e w' => e = .returned (.int .i64 ((m + accN (fun j => (rows.getD j []).length) rows.length : Nat) : Int)) ∧ Between base lim W w' := by
  obtain ⟨us, hl, ho, hr, hne, hbs⟩ := h
  obtain ⟨a, c, rfl⟩ := own_form ho
  have hacc : ∀ k, accN (fun j => (rows.getD j []).length) (k + 1) = accN (fun j => (rows.getD j []).length) k + (rows.getD k []).length := fun k => rfl
  have hle : ∀ k, k ≤ rows.length → accN (fun j => (rows.getD j []).length) k ≤ accN (fun j => (rows.getD j []).length) rows.length := fun k hk => by
    obtain ⟨d, hd⟩ : ∃ d, rows.length = k + d := ⟨rows.length - k, by omega⟩
    rw [hd]
    clear hd hk
    induction d with
    | zero => exact Nat.le_refl _
    | succ d ih => exact Nat.le_trans ih (Nat.le_add_right _ _)
  have hM0 : Mkq W base lim (.slice a us.length c) rows us 0 W := ⟨Between.refl _ _ _, ho, fun j _ hj => hr j hj⟩
  clear ho hr
  generalize hA : accN (fun j => (rows.getD j []).length) = A at *
  have hA0 : A 0 = 0 := by rw [← hA]; rfl
  have hAh := hide hA
  clear hA
  obtain ⟨n, hN⟩ : ∃ n, rows.length = n := ⟨_, rfl⟩
  rw [hl] at hM0 ⊢
  rw [hN] at hn hs hle hM0 ⊢
  have hNh := hide hN
  go_enter Tryz.func82, Tryz.ntmps82
  go_wp2
  go_loopw [1, 5] (fun q i wr => ∃ k : Nat, k ≤ n ∧ i = .int .i64 k ∧ q = .int .i64 ((m + A k : Nat) : Int) ∧ Mkq W base lim (.slice a n c) rows us k wr) (fun _ i _ => n - (intOf i).toNat)
  case atStart => exact ⟨0, Nat.zero_le _, rfl, by rw [hA0]; rfl, hM0⟩
  case round =>
    clear hM0
    obtain ⟨k, hk, rfl, rfl, hM⟩ := hrel
    by_cases hlt : k < n
    · have hrow := hM.row k (Nat.le_refl _) (by omega)
      have hz := hM.bet.size
      have hMh := hide hM
      have hki : (k : Int) < (n : Int) := by omega
      have hk1 := hle (k + 1) (by omega)
      have hsk := hacc k
      have hskh := hide hsk
      obtain ⟨G, hG⟩ : ∃ G, a = some ⟨G, 0, none⟩ := by
        rcases hM.own.2 with ⟨e, h0⟩ | ⟨g, cap, cur, e, _⟩
        · omega
        · injection e with e1; exact ⟨g, e1⟩
      subst hG
      have hat : wr.cell? ⟨G, k, none⟩ = some (us.getD k undef) := by
        have hown' : wr.ownsRow base 28 1 (.slice (some ⟨G, 0, none⟩) n c) n us := by
          have h := hM.own
          rwa [show us.length = n by omega] at h
        have h1 := hown'.cellAt k (by omega)
        rw [List.getD, List.getElem?_eq_getElem (by omega)]
        rw [List.getElem?_eq_getElem (by omega)] at h1
        exact h1
      by_cases h0 : (rows.getD k []).length = 0
      · have hsh : ∃ ua uc, us.getD k undef = .slice ua 0 uc := by
          obtain ⟨ua, uc, e⟩ := own_form hrow
          exact ⟨ua, uc, by rw [e, h0]⟩
        obtain ⟨ua, uc, hu⟩ := hsh
        rw [hu] at hat
        have hMk := mark_none ua uc (m + A k) wr
        have hnew : Mkq W base lim (.slice (some ⟨G, 0, none⟩) n c) rows us (k + 1) wr := ⟨hM.bet, hM.own, fun j hj hj2 => hM.row j (by omega) hj2⟩
        have hAe : A (k + 1) = A k := by rw [hsk, h0]; rfl
        have hnewh := hide hnew
        have hAk : A k ≤ 5000000 := by omega
        have hAeh := hide hAe
        clear hnew hAe hu hrow hMh hM hacc hle hk1 hsk hne hN
        generalize A k = Ak at *
        obtain ⟨T, hT⟩ : ∃ T, m + Ak = T := ⟨_, rfl⟩
        rw [hT] at hMk ⊢
        go_wp2_with (go_at_call 81; go_loud ((with_reducible refine hMk.mono ?_); clear hMk; rintro e w2 ⟨rfl, rfl⟩))
        go_roundw
        case rel => exact ⟨k + 1, by omega, by go_num, by rw [hAeh.out, hT], hnewh.out⟩
        case measure => simp [intOf]; omega
      · obtain ⟨g, cap, hu, hgb, hra⟩ := RowAt.of_owns hrow (by omega)
        rw [hu] at hat
        have hMk := mark_in g cap (rows.getD k []) _ _ wr (by omega) (Nat.le_refl _) hra (m + A k) (by omega)
        have hgl := hra.lt
        have hnew : ∀ w2, wr.grownBy w2 (some g) → g < lim → Mkq W base lim (.slice (some ⟨G, 0, none⟩) n c) rows us (k + 1) w2 := fun w2 hg2 hgW => by
          have hM := hMh.out
          refine ⟨⟨hg2.os.trans hM.bet.os, hg2.tape.trans hM.bet.tape, hg2.output.trans hM.bet.output, Nat.le_trans hM.bet.size hg2.size, fun q hq hout => (hg2.block q (Nat.lt_of_lt_of_le hq hM.bet.size) (fun e => by injection e with e; omega)).trans (hM.bet.block q hq hout)⟩, hM.own.kept hg2 ?_, fun j hj hj2 => (hM.row j (by omega) hj2).kept hg2 ?_⟩
          · rcases own_apart (hM.row k (Nat.le_refl _) (by omega)) hM.own with h3 | h3
            · rw [hu] at h3; simp [Value.ownBlock] at h3
            · rw [hu] at h3
              exact .inr (fun e => h3 (by rw [e]; rfl))
          · rcases hne k j (by omega) hj2 with h3 | h3
            · rw [hu] at h3; simp [Value.ownBlock] at h3
            · rw [hu] at h3
              exact .inr (fun e => h3 (by rw [e]; rfl))
        have hgW := hbs k (by omega) g (by rw [hu]; rfl)
        have hAk : A k ≤ 5000000 := by omega
        have hLk : (rows.getD k []).length ≤ 5000000 := by omega
        have hnewh := hide hnew
        clear hnew hu hrow hMh hM hacc hle hk1 hsk hne hN hra h0 hbs
        generalize (rows.getD k []).length = L at *
        generalize A k = Ak at *
        obtain ⟨T, hT⟩ : ∃ T, m + Ak = T := ⟨_, rfl⟩
        rw [hT] at hMk ⊢
        go_wp2_with (go_at_call 81; go_loud ((with_reducible refine hMk.mono ?_); clear hMk; rintro e w2 ⟨rfl, _, hg2⟩; have hM2 := hnewh.out w2 hg2 hgW))
        go_roundw
        case rel => exact ⟨k + 1, by omega, by go_num, by rw [hskh.out, ← Nat.add_assoc, hT, Int.natCast_add], hM2⟩
        case measure => simp [intOf]; omega
    · obtain rfl : k = n := by omega
      have hki : ¬ ((k : Nat) : Int) < (k : Int) := by omega
      have hMh := hide hM
      clear hM hacc hle hne
      go_wp2
      go_ret
      exact ⟨rfl, hMh.out.bet⟩

set_option maxRecDepth 100000 in
set_option maxHeartbeats 1000000 in
theorem markA_in {W : World} {base lim : Nat} {v : Value} {d : Dk} (h : OwnA W base lim v d) (hn : d.1.length ≤ 1048576) (hm : d.2.length ≤ 1048576) (hs : accN (fun j => (d.2.getD j []).length) d.2.length ≤ 1048576) (k : Nat) (hk : k ≤ 1000000) :
    Calls Tryz.prog 32 #[v, .int .i64 k] W fun e w' => e = .returned (.int .i64 ((k + d.1.length + accN (fun j => (d.2.getD j []).length) d.2.length : Nat) : Int)) ∧ Between base lim W w' := by
  obtain ⟨xa, xc, pa, pc, hv⟩ := h.form
  obtain ⟨mid, x, p, rfl, h0, h1, h2, h3, h4, h5⟩ := h
  injection hv with hv
  simp at hv
  obtain ⟨rfl, rfl⟩ := hv
  have hB := (Below.refl _ W).alloc (Nat.le_refl _) (.cells #[.slice xa d.1.length xc, .slice pa d.2.length pc] 31)
  have k0 := World.alloc_heap_new W (.cells #[.slice xa d.1.length xc, .slice pa d.2.length pc] 31)
  have hs1 := World.size_alloc W (.cells #[.slice xa d.1.length xc, .slice pa d.2.length pc] 31)
  obtain ⟨W1, hW1⟩ : ∃ W1, W.alloc (.cells #[.slice xa d.1.length xc, .slice pa d.2.length pc] 31) = W1 := ⟨_, rfl⟩
  rw [hW1] at hB k0 hs1
  have hI : OwnI W1 base mid (.slice xa d.1.length xc) d.1.length (fun i => d.1.getD i 0) := by
    have hr := own_below h3 hB
    by_cases hp : 0 < d.1.length
    · obtain ⟨g, cap, e, hb, hra⟩ := RowAt.of_owns hr hp
      exact .inr ⟨g, cap, e, hb, h4 g (by rw [e]; rfl), hra⟩
    · exact .inl ⟨by omega, xa, xc, by rw [show d.1.length = 0 by omega]⟩
  have hM := mark_own hI (by omega) k (by omega)
  have hG1 := h5.below hB
  obtain ⟨c0, c1, _, _⟩ := row_at k0
  have hs2 := Nat.le_of_eq hs1
  have hs' := Nat.le_of_eq hs1.symm
  clear h3 h5 hs1 hI
  have hkn : ((k + d.1.length : Nat) : Int) = (k : Int) + (d.1.length : Int) := by omega
  go_enter Tryz.func32, Tryz.ntmps32
  go_wp2_with (first
    | (go_at_call 81; go_loud (refine hM.mono ?_; clear hM; rintro e W2 ⟨rfl, _, row, hg2, hr2⟩; have k2 := (hg2.block _ (Array.getElem?_eq_some_iff.1 k0).1 (fun e => (by have := hr2 _ e.symm; omega))).trans k0; obtain ⟨c0, c1, _, _⟩ := row_at k2; have hG2 := hG1.rowed hg2 (fun j e => (hr2 j e).2); have hS := markQ_in hG2 (by omega) (k + d.1.length) (by omega)))
    | (go_at_call 82; go_loud (refine hS.mono ?_; clear hS; rintro e W3 ⟨rfl, hbt⟩)))
  go_ret
  refine ⟨rfl, (hbt.os.trans hg2.os).trans hB.os, (hbt.tape.trans hg2.tape).trans hB.tape, (hbt.output.trans hg2.output).trans hB.output, Nat.le_trans hB.size (Nat.le_trans hg2.size hbt.size), fun q hq ho => ?_⟩
  have q1 := hB.block q hq
  have hq1 : q < W1.heap.size := Nat.lt_of_lt_of_le hq hB.size
  have q2 := hg2.block q hq1 (fun e => by have := hr2 q e.symm; omega)
  have q3 := hbt.block q (Nat.lt_of_lt_of_le hq1 hg2.size) (by omega)
  exact q3.trans (q2.trans q1)

theorem RowAt.isInt {W : World} {g n : Nat} {f : Nat → Int} (h : RowAt W g n f) : IntB W g := by
  obtain ⟨cur, h1, _⟩ := h
  exact ⟨cur, h1⟩

theorem BetI.bet {base lim : Nat} {W W' : World} (h : BetI base lim W W') : Between base lim W W' := ⟨h.os, h.tape, h.output, h.size, fun k hk ho => h.block k hk (by omega)⟩

/-- A block of ints was one before. -/
theorem int_back {base lim : Nat} {W W' : World} {k : Nat} (h : BetI base lim W W') (hk : IntB W' k) (hl : k < W.heap.size) : IntB W k := by
  by_cases e : IntB W k
  · exact e
  · obtain ⟨cur, hc⟩ := hk
    exact ⟨cur, (h.block k hl (.inr (.inr e))).symm.trans hc⟩

theorem mark_ownI {W : World} {base lim n : Nat} {v : Value} {f : Nat → Int} (h : OwnI W base lim v n f) (hn : n ≤ 10000000) (m : Nat) (hm : m ≤ 10000000) :
    Calls Tryz.prog 81 #[v, .int .i64 m] W fun e w' => e = .returned (.int .i64 ((m + n : Nat) : Int)) ∧ OwnI w' base lim v n (fun i => ((m + i : Nat) : Int)) ∧ ∃ row, W.grownBy w' row ∧ (∀ k, row = some k → base ≤ k ∧ k < lim) ∧ ∀ k, row = some k → IntB W k := by
  rcases h with ⟨h0, a, c, rfl⟩ | ⟨g, cap, rfl, h1, h2, h3⟩
  · exact (mark_none a c m W).mono fun e w' ⟨he, hw⟩ => ⟨by rw [he, h0]; rfl, .inl ⟨h0, a, c, rfl⟩, none, hw ▸ grownBy_refl _ _, (fun _ e => by cases e), (fun _ e => by cases e)⟩
  · have hxs : ((List.range n).map f).length = n := by simp
    have h := mark_in g cap ((List.range n).map f) n f W (by omega) (by omega) h3 m hm
    rw [hxs] at h
    exact h.mono fun e w' ⟨he, hr, hg⟩ => ⟨he, .inr ⟨g, cap, rfl, h1, h2, hr.congr (fun i hi => by rw [if_pos hi])⟩, some g, hg, (fun k e => by cases e; exact ⟨h1, h2⟩), (fun k e => by cases e; exact h3.isInt)⟩

set_option maxHeartbeats 1000000 in
theorem markSSI_in {W : World} {base lim n : Nat} {v : Value} {L : Nat → Nat} {F : Nat → Nat → Int} (h : OwnG W base lim v n L F) (hL : ∀ j, j < n → L j ≤ 100) (hn : n ≤ 100) (m : Nat) (hm : m ≤ 1000) :
    Calls Tryz.prog 82 #[v, .int .i64 m] W fun e w' => e = .returned (.int .i64 ((m + accN L n : Nat) : Int)) ∧ OwnG w' base lim v n L (fun j i => ((m + accN L j + i : Nat) : Int)) ∧ BetI base lim W w' := by
  rcases h with ⟨rfl, a, c, rfl⟩ | ⟨G, cap, b, cb, rfl, hg⟩
  · go_enter Tryz.func82, Tryz.ntmps82
    go_wp2
    refine wp_loop_rounds 1 ?_
    rw [rounds_succ]
    go_wp2
    go_ret
    exact ⟨rfl, .inl ⟨rfl, _, _, rfl⟩, BetI.refl _ _ _⟩
  · have hacc := accN_le hL
    have hgl := fun k (hk : k < n) => (hg.row k hk).lt
    have hstep : ∀ k, accN L (k + 1) = accN L k + L k := fun k => rfl
    go_enter Tryz.func82, Tryz.ntmps82
    go_wp2
    go_loopw [1, 5] (fun q i wr => ∃ k : Nat, k ≤ n ∧ i = .int .i64 k ∧ q = .int .i64 ((m + accN L k : Nat) : Int) ∧ Grid wr base lim G n b cb L (fun j i => if j < k then ((m + accN L j + i : Nat) : Int) else F j i) ∧ BetI base lim W wr) (fun _ i _ => n - (intOf i).toNat)
    case atStart => exact ⟨0, Nat.zero_le _, rfl, rfl, by simpa using hg, BetI.refl _ _ _⟩
    case round =>
      clear hg
      obtain ⟨k, hk, rfl, rfl, hgr, hbt⟩ := hrel
      by_cases hlt : k < n
      · have hat := hgr.at_ k hlt
        have hrow := hgr.row k hlt
        have hLk := hL k hlt
        have hak := hacc k hk
        have hM := mark_in (b k) (cb k) (List.replicate (L k) 0) (L k) _ wr (by simp; omega) (by simp) hrow (m + accN L k) (by omega)
        simp only [List.length_replicate] at hM
        have hrb := hgr.rb k hlt
        have hint := int_back hbt hrow.isInt (hgl k hlt)
        have hki : (k : Int) < (n : Int) := by omega
        have hsk := hide (hstep k)
        have hGs := hgr.gb
        clear hacc hstep hL hrow
        obtain ⟨A, hA⟩ : ∃ A, m + accN L k = A := ⟨_, rfl⟩
        rw [hA] at hM ⊢
        go_wp2_with (go_at_call 81; (with_reducible refine hM.mono ?_); clear hM; rintro e w2 ⟨rfl, hr2, hg2⟩)
        go_roundw
        case rel =>
          refine ⟨k + 1, by omega, by go_num, by rw [hsk.out, ← Nat.add_assoc, hA, Int.natCast_add], ?_, hbt.row hg2 (by omega) hint⟩
          refine hgr.set hlt hg2 (hr2.congr fun i hi => ?_) (fun j hj => ?_)
          · rw [if_pos hi, if_pos (by omega), hA]
          · funext i
            by_cases e : j < k
            · rw [if_pos e, if_pos (by omega)]
            · rw [if_neg e, if_neg (by omega)]
        case measure => simp [intOf]; omega
      · obtain rfl : k = n := by omega
        clear hacc hstep hL
        go_wp2
        go_ret
        refine ⟨rfl, .inr ⟨G, cap, b, cb, rfl, ⟨hgr.gb, hgr.at_, hgr.rb, fun j hj => (hgr.row j hj).congr fun i _ => by rw [if_pos hj], hgr.ne⟩⟩, hbt⟩

set_option maxRecDepth 100000 in
set_option maxHeartbeats 1000000 in
theorem markDeskI_in {W : World} {base mid lim n m : Nat} {v : Value} {f : Nat → Int} {L : Nat → Nat} {F : Nat → Nat → Int} (h : OwnD W base mid lim v n f m L F) (hn : n ≤ 100) (hL : ∀ j, j < m → L j ≤ 100) (hm : m ≤ 100) (k : Nat) (hk : k ≤ 500) :
    Calls Tryz.prog 32 #[v, .int .i64 k] W fun e w' => e = .returned (.int .i64 ((k + n + accN L m : Nat) : Int)) ∧ OwnD w' base mid lim v n (fun i => ((k + i : Nat) : Int)) m L (fun j i => ((k + n + accN L j + i : Nat) : Int)) ∧ BetI base lim W w' := by
  obtain ⟨xa, xc, pa, pc, hv⟩ := h.form
  obtain ⟨x, p, rfl, h2, h3, h4, h5, h6⟩ := h
  injection hv with hv
  simp at hv
  obtain ⟨rfl, rfl⟩ := hv
  have hB := (Below.refl _ W).alloc (Nat.le_refl _) (.cells #[.slice xa n xc, .slice pa m pc] 31)
  have k0 := World.alloc_heap_new W (.cells #[.slice xa n xc, .slice pa m pc] 31)
  have hs1 := World.size_alloc W (.cells #[.slice xa n xc, .slice pa m pc] 31)
  obtain ⟨W1, hW1⟩ : ∃ W1, W.alloc (.cells #[.slice xa n xc, .slice pa m pc] 31) = W1 := ⟨_, rfl⟩
  rw [hW1] at hB k0 hs1
  have hM := mark_ownI (h5.below hB) (by omega) k (by omega)
  have hG1 := h6.below hB
  obtain ⟨c0, c1, _, _⟩ := row_at k0
  have hs := Nat.le_of_eq hs1
  have hs' := Nat.le_of_eq hs1.symm
  clear h5 h6 hs1
  have hkn : ((k + n : Nat) : Int) = (k : Int) + (n : Int) := by omega
  go_enter Tryz.func32, Tryz.ntmps32
  go_wp2_with (first
    | (go_at_call 81; go_loud (refine hM.mono ?_; clear hM; rintro e W2 ⟨rfl, hI2, row, hg2, hr2, ht2⟩; have k2 := (hg2.block _ (Array.getElem?_eq_some_iff.1 k0).1 (fun e => (by have := hr2 _ e.symm; omega))).trans k0; obtain ⟨c0, c1, _, _⟩ := row_at k2; have hG2 := hG1.grown hg2 (fun j e => (by have := hr2 j e; omega)); have hS := markSSI_in hG2 hL hm (k + n) (by omega)))
    | (go_at_call 82; go_loud (refine hS.mono ?_; clear hS; rintro e W3 ⟨rfl, hG3, hbt⟩)))
  go_ret
  have h23 : BetI base lim W W3 := by
    refine ⟨(hbt.os.trans hg2.os).trans hB.os, (hbt.tape.trans hg2.tape).trans hB.tape, (hbt.output.trans hg2.output).trans hB.output, Nat.le_trans hB.size (Nat.le_trans hg2.size hbt.size), fun q hq ho => ?_⟩
    have q1 := hB.block q hq
    have hq1 : q < W1.heap.size := Nat.lt_of_lt_of_le hq hB.size
    have hne : row ≠ some q := fun e => by
      rcases ho with ho | ho | ho
      · have := hr2 q e; omega
      · have := hr2 q e; omega
      · obtain ⟨cur, hc⟩ := ht2 q e
        exact ho ⟨cur, q1.symm.trans hc⟩
    have q2 := hg2.block q hq1 (fun e => hne e.symm)
    have q3 := hbt.block q (Nat.lt_of_lt_of_le hq1 hg2.size) (by
      rcases ho with ho | ho | ho
      · exact .inl (by omega)
      · exact .inr (.inl ho)
      · exact .inr (.inr fun ⟨cur, hc⟩ => ho ⟨cur, (q2.trans q1).symm.trans hc⟩))
    exact q3.trans (q2.trans q1)
  exact ⟨rfl, ⟨_, _, rfl, h2, h3, Nat.le_trans h4 h23.size, hI2.between hbt.bet (.inl (Nat.le_refl _)), hG3⟩, h23⟩
end Go.Proofs.YtiaaefapbcjgmaaGreatDoor
namespace Go.Proofs.YtiaaefapbcjgmaaGreatDoor
open Go.RowKit
attribute [local go_sem] Oper.semAt_some

theorem toDeskA_in (W0 : World) (v : Value) (d : Dk) (w : World) (hv : ArgD W0 v d) (hB0 : Below W0.heap.size W0 w) (hn1 : d.1.length ≤ 1048576) (hn : d.2.length ≤ 1048576) (hln : ∀ j, j < d.2.length → (d.2.getD j []).length ≤ 1048576) : Calls Tryz.prog 30 #[v] w fun e w' =>
    ∃ y, e = .returned y ∧ OwnA w' w.heap.size w'.heap.size y d ∧ Below w.heap.size w w' :=
  (toDesk_mid W0 v d w hv hB0 hn1 hn hln).mono fun _ _ ⟨x, p, h1, h2, _, ⟨mid, m1, m2, m3, m4⟩, h5⟩ => ⟨_, h1, ⟨mid, x, p, rfl, m1, m2, Nat.le_refl _, h2, m3, OwnQL.of m4⟩, h5⟩

theorem RowsOk.facts {D : Dk} (h : RowsOk D) : (D.1.length ≤ 2000000 ∧ D.2.length ≤ 2000000 ∧ ∀ j, j < D.2.length → (D.2.getD j []).length ≤ 2000000) ∧ (∀ j, j < D.2.length → 0 < (D.2.getD j []).length) ∧ (∀ j, j < D.2.length → (D.2.getD j []).length ≤ 100) ∧ D.2.length ≤ 100 ∧ accN (fun j => (D.2.getD j []).length) D.2.length ≤ 10000 := by
  obtain ⟨h1, h2, h3, h4⟩ := h
  have hr1 : ∀ j, j < D.2.length → (D.2.getD j []).length ≤ 100 := fun j hj => by have := h2 j hj; omega
  have hacc := accN_le hr1 D.2.length (Nat.le_refl _)
  exact ⟨⟨by omega, by omega, fun j hj => by have := h2 j hj; omega⟩, h1, hr1, by omega, by omega⟩
end Go.Proofs.YtiaaefapbcjgmaaGreatDoor
namespace Go.Proofs.YtiaaefapbcjgmaaGreatDoor
open Go Go.RowKit
attribute [local go_sem] Oper.semAt_some

theorem line_rows (d : Dk) (l : List Nat) : RowsOk (lineV d l).1 := by
  cases hb : deskB d with
  | false => rw [lineV_no hb]; exact rowsOk_none
  | true => exact RowsOk.of (line_desk hb l)

set_option maxRecDepth 100000 in
set_option maxHeartbeats 4000000 in
theorem exactDeskLine (v : Value) (d : Dk) (S0 : ByteArray) (w : World) (hv : ArgD w v d) (hn1 : d.1.length ≤ 9223372036854775807) (hn : d.2.length ≤ 9223372036854775807) (hln : ∀ j, (d.2.getD j []).length ≤ 9223372036854775807) (hE : Env w) :
    Calls Tryz.prog 6 #[v, .string S0] w fun e w' => e = .returned (.bool true) ∧ Below w.heap.size w w' := by
  obtain ⟨l, rfl, hl, hnl⟩ := str_of S0
  obtain ⟨va, vb, vc, ve, hform⟩ := hv.form
  obtain ⟨x, p, rfl, hx, hp⟩ := id hv
  injection hform with hform
  simp at hform
  obtain ⟨rfl, rfl⟩ := hform
  have hB := (Below.refl _ w).alloc (Nat.le_refl _) (.cells #[.slice va d.1.length vb, .slice vc d.2.length ve] 54)
  have k0 := World.alloc_heap_new w (.cells #[.slice va d.1.length vb, .slice vc d.2.length ve] 54)
  obtain ⟨wb, hwb⟩ : ∃ wb, w.alloc (.cells #[.slice va d.1.length vb, .slice vc d.2.length ve] 54) = wb := ⟨_, rfl⟩
  rw [hwb] at hB k0
  by_cases hbig : 1048576 < (str l).size
  · have hbi : (1048576 : Int) < ((str l).size : Int) := by omega
    generalize str l = LS at *
    clear hv hx hp hn1 hn hln
    go_enter Tryz.func6, Tryz.ntmps6
    go_wp2
    go_ret
    exact ⟨rfl, hB⟩
  have hbi : ¬ (1048576 : Int) < ((str l).size : Int) := by omega
  have hl2 : l.length ≤ 1100000 := by omega
  have hz := szDesk_in _ d 1048576 wb (hv.below hB) hn1 hn hln (Nat.le_refl _)
  obtain ⟨c0, c1, _, _⟩ := row_at k0
  have l0 := (Array.getElem?_eq_some_iff.1 k0).1
  have hv' := hide hv
  have hRo := line_rows d l
  have hSp := fun V y (hy : DeskI V y d) (hs : DkS d) => specLine y d l V hy hs hl hl2
  have hIm := fun V y (hy : DeskI V y d ∧ CapP y) (hs : DkS d) (hE : Env V) => implLine y d l V hy.1 hy.2 hs hl hl2 hE
  obtain ⟨D, hD⟩ : ∃ D, (lineV d l).1 = D := ⟨_, rfl⟩
  obtain ⟨bb, hbb⟩ : ∃ bb, str (lineV d l).2 = bb := ⟨_, rfl⟩
  rw [hD] at hRo
  rw [hD, hbb] at hSp hIm
  obtain ⟨LS, hLS⟩ : ∃ LS, str l = LS := ⟨_, rfl⟩
  rw [hLS] at hSp hIm hbi ⊢
  have hSph := hide hSp
  have hImh := hide hIm
  have hEh := hide (fun V (hV : Below w.heap.size w V) => hE.below hV)
  clear hv hx hp hn1 hn hln hSp hIm hE hD hbb hLS hbig hnl hl hl2
  refine (callsIn_wide (n := 9)).1 ?_
  refine callsIn_of_wp Tryz.func6 rfl trivial ?_ rfl
  simp only [Tryz.ntmps6, List.size_toArray, List.length_cons, List.length_nil, Nat.reduceAdd, Nat.reduceSub, Array.replicate_succ, Array.replicate_zero, List.push_toArray, List.append_toArray, List.nil_append, List.cons_append]
  gi_wp2_with fail
  refine ⟨trivial, ?_⟩
  gi_at_call 29
  refine (callsIn_wide.2 hz).mono ?_
  rintro e W2 ⟨rfl | ⟨q, rfl, hq⟩, hB2⟩
  · gi_wp2
    go_ret
    exact ⟨rfl, hB.trans (hB2.mono hB.size)⟩
  · have hq0 : ¬ (q : Int) < 0 := by omega
    have s1 : d.1.length ≤ 1048576 := by omega
    have s2 : d.2.length ≤ 1048576 := by omega
    have s3 : ∀ j, j < d.2.length → (d.2.getD j []).length ≤ 1048576 := fun j hj => by
      have := acc_each (fun j => (d.2.getD j []).length) d.2.length j hj
      exact Nat.le_trans this (by omega)
    have s4 : DkS d := ⟨by omega, by omega, fun j => by
      by_cases hj : j < d.2.length
      · have := s3 j hj; omega
      · rw [List.getD, List.getElem?_eq_none (by omega)]; simp⟩
    have s5 : accN (fun j => (d.2.getD j []).length) d.2.length ≤ 1048576 := by omega
    have hT := fun V (hV : Below w.heap.size w V) => toDeskA_in w _ d V hv'.out hV s1 s2 s3
    obtain ⟨hsz, hr0, hr1, hr2, hacc⟩ := hRo.facts
    obtain ⟨hDr, hDs, hDn, hDm⟩ := hRo
    have hBw := hB
    have hm2 := hB2
    have hAt : ∀ V, Below wb.heap.size wb V → Below w.heap.size w V ∧ (V.cell? ⟨w.heap.size, 0, none⟩ = some (.slice va d.1.length vb) ∧ V.cell? ⟨w.heap.size, 1, none⟩ = some (.slice vc d.2.length ve)) := fun V hV => by
      obtain ⟨a0, a1, _, _⟩ := row_at ((hV.block _ l0).trans k0)
      exact ⟨hBw.trans (hV.mono hBw.size), ⟨a0, a1⟩⟩
    have hAth := hide hAt
    have hTh := hide hT
    clear hz hB hB2 c0 c1 hq hAt k0 l0 hT
    obtain ⟨dW2, ⟨c0, c1⟩⟩ := hAth.out W2 hm2
    gi_wp2_with fail
    refine ⟨trivial, ?_⟩
    gi_at_call 30
    refine (callsIn_wide.2 (hTh.out _ dW2)).mono ?_
    rintro e w3 ⟨y3, rfl, ox3, hB3⟩
    have hm3 := hm2.trans (hB3.mono hm2.size)
    obtain ⟨t1, t2, t3, t4, rfl⟩ := ox3.form
    clear c0 c1 dW2
    gi_wp2_with fail
    refine ⟨trivial, ?_⟩
    gi_at_call 21
    refine (callsIn_wide.2 (hSph.out _ _ ox3.deskI s4)).mono ?_
    rintro e w4 ⟨y4, rfl, hy4, _, hB4⟩
    obtain ⟨yx, yp, rfl, hyx, hyp⟩ := id hy4
    obtain ⟨ma, mn, rfl⟩ := hyx.shape
    obtain ⟨mb, mc, rfl, _⟩ := id hyp
    have hm4 := hm3.trans (hB4.mono hm3.size)
    have ba4 := (Below.refl _ w4).alloc (Nat.le_refl _) (.cells #[.slice ma D.1.length mn, .slice mb D.2.length mc] 31)
    have km := World.alloc_heap_new w4 (.cells #[.slice ma D.1.length mn, .slice mb D.2.length mc] 31)
    have hmod := hy4.below ba4
    have hmm := hm4.trans (ba4.mono hm4.size)
    obtain ⟨wm, hwm⟩ : ∃ wm, w4.alloc (.cells #[.slice ma D.1.length mn, .slice mb D.2.length mc] 31) = wm := ⟨_, rfl⟩
    rw [hwm] at ba4 km hmod hmm
    obtain ⟨b, hbe⟩ : ∃ b, w4.heap.size = b := ⟨_, rfl⟩
    rw [hbe] at km
    obtain ⟨dm, ⟨c0, c1⟩⟩ := hAth.out wm hmm
    have lm := (Array.getElem?_eq_some_iff.1 km).1
    have hms := hmm.size
    clear hm2 hm3 hm4 ba4 hy4 hyx hyp hB3 hB4 ox3
    gi_wp2_with fail
    refine ⟨trivial, ?_⟩
    gi_at_call 30
    refine (callsIn_wide.2 (hTh.out _ dm)).mono ?_
    rintro e w5 ⟨y5, rfl, ox5, hB5⟩
    obtain ⟨xa, xb, xc, xe, rfl⟩ := ox5.form
    have ba := (Below.refl _ w5).alloc (Nat.le_refl _) (.cells #[.slice xa d.1.length xb, .slice xc d.2.length xe] 31)
    have kx := World.alloc_heap_new w5 (.cells #[.slice xa d.1.length xb, .slice xc d.2.length xe] 31)
    have zx := World.size_alloc w5 (.cells #[.slice xa d.1.length xb, .slice xc d.2.length xe] 31)
    obtain ⟨w6, hw6⟩ : ∃ w6, w5.alloc (.cells #[.slice xa d.1.length xb, .slice xc d.2.length xe] 31) = w6 := ⟨_, rfl⟩
    rw [hw6] at ba kx zx
    have hm6 : Below wm.heap.size wm w6 := hB5.trans (ba.mono hB5.size)
    have ox6 := ox5.below ba
    have z56 : w5.heap.size ≤ w6.heap.size := by omega
    have lx := (Array.getElem?_eq_some_iff.1 kx).1
    have zm5 := hB5.size
    have z6b := hm6.size
    have hE6 := hEh.out w6 (hBw.trans ((hmm.trans (hm6.mono hmm.size)).mono hBw.size))
    clear zx ox5 hB5 ba c0 c1
    obtain ⟨bx, hbx⟩ : ∃ bx, w5.heap.size = bx := ⟨_, rfl⟩
    obtain ⟨x0, x1, _, _⟩ := row_at kx
    rw [hbx] at kx ox6 z56 lx zm5 x0 x1
    gi_wp2_with fail
    refine ⟨trivial, ?_⟩
    gi_at_call 14
    refine (callsIn_wide.2 (hImh.out _ _ ⟨ox6.deskI, ox6.cap⟩ s4 hE6)).mono ?_
    rintro e w7 ⟨y7, rfl, hy7, hB7⟩
    obtain ⟨ga, gn, gb, gc, rfl⟩ := hy7.form
    have ba7 := (Below.refl _ w7).alloc (Nat.le_refl _) (.cells #[.slice ga D.1.length gn, .slice gb D.2.length gc] 31)
    have kg := World.alloc_heap_new w7 (.cells #[.slice ga D.1.length gn, .slice gb D.2.length gc] 31)
    have og := hy7.below ba7
    have hV := hB7.trans (ba7.mono hB7.size)
    obtain ⟨wg, hwg⟩ : ∃ wg, w7.alloc (.cells #[.slice ga D.1.length gn, .slice gb D.2.length gc] 31) = wg := ⟨_, rfl⟩
    rw [hwg] at ba7 kg og hV
    obtain ⟨bg, hbg⟩ : ∃ bg, w7.heap.size = bg := ⟨_, rfl⟩
    rw [hbg] at kg
    have zbg : w6.heap.size ≤ bg := hbg ▸ hB7.size
    obtain ⟨mid, og⟩ := OwnD.of og hr0
    have hmg := hm6.trans (hV.mono hm6.size)
    have oxg := ox6.below hV
    have lg := (Array.getElem?_eq_some_iff.1 kg).1
    have kxg := (hV.block _ lx).trans kx
    obtain ⟨e0, e1, _, _⟩ := row_at kg
    obtain ⟨m0, m1, _, _⟩ := row_at ((hmg.block _ lm).trans km)
    obtain ⟨lim, hlim⟩ : ∃ lim, wg.heap.size = lim := ⟨_, rfl⟩
    have zg := hV.size
    rw [hlim] at og
    clear ox6 hV kx hE6 x0 x1 hy7 hB7 ba7
    gi_wp2_with fail
    refine ⟨trivial, ?_⟩
    gi_at_call 31
    refine (callsIn_wide.2 (eqDesk_in _ _ D _ hsz og.deskI (hmod.below hmg))).mono ?_
    rintro e w8 ⟨rfl, b8⟩
    have hm8 := hmg.trans (b8.mono hmg.size)
    have og8 := og.below b8
    have ox8 := oxg.below b8
    have kg8 := (b8.block _ lg).trans kg
    have lx8 := (Array.getElem?_eq_some_iff.1 kxg).1
    have kx8 := (b8.block _ lx8).trans kxg
    have zb8 := b8.size
    clear og oxg hmg kxg kg b8 e0 e1 m0 m1
    gi_wp2
    refine wpIn_region_put 3 [(some 48, 0), (some 49, 1), (some 50, 2)] (by kernel_rfl) (by kernel_rfl) (by kernel_rfl) (by decide) (by rfl) (by decide)
      (fun i v V => match i with | 0 => v = .agg #[.slice xa d.1.length xb, .slice xc d.2.length xe] | 1 => v = .agg #[.slice va d.1.length vb, .slice vc d.2.length ve] | 2 => DeskI V v d | _ => True)
      (fun i v V V' h hb => match i, h with | 0, h => h | 1, h => h | 2, h => h.below hb | (_ + 3), _ => trivial)
      ?step ?tail
    case step =>
      rintro i oo s V hi ho hV hd Q' hQ
      have hVb := hmm.trans ((hm8.trans (hV.mono hm8.size)).mono hmm.size)
      obtain ⟨hVw, ⟨a0, a1⟩⟩ := hAth.out V hVb
      have hT8 := hTh.out V hVw
      obtain ⟨x0, x1, _, _⟩ := row_at ((hV.block _ (Array.getElem?_eq_some_iff.1 kx8).1).trans kx8)
      rcases (show i = 0 ∨ i = 1 ∨ i = 2 by omega) with rfl | rfl | rfl
      all_goals
        simp at ho
        subst ho
        simp only [putsOf, Act.put, List.setIfInBounds_toArray, List.set_cons_succ, List.set_cons_zero] at hQ ⊢
        have hQ' := hide hQ
        clear hQ
      · clear hd
        gi_wp2
        exact hQ'.out _ _ (Below.refl _ _) rfl
      · clear hd
        gi_wp2
        exact hQ'.out _ _ (Below.refl _ _) rfl
      · have e1 : s 1 = .agg #[.slice va d.1.length vb, .slice vc d.2.length ve] := hd 1 (by kernel_rfl)
        clear hd
        gi_wp2_with (refine ⟨trivial, ?_⟩; gi_at_call 30; go_loud (refine (callsIn_wide.2 hT8).mono ?_; rintro e W9 ⟨x9, rfl, hx9, hB9⟩))
        have hr := hQ'.out
        simp only [e1] at hr ⊢
        exact hr _ _ hB9 hx9.deskI
    case tail =>
      rintro s w10 hV hd
      have e1 : s 0 = .agg #[.slice xa d.1.length xb, .slice xc d.2.length xe] := hd 0 (by omega)
      have f2 : DeskI w10 (s 2) d := hd 2 (by omega)
      clear hd
      have hm10 := hm8.trans (hV.mono hm8.size)
      have og10 := og8.below hV
      have ox10 := ox8.below hV
      have kg10 := (hV.block _ (Array.getElem?_eq_some_iff.1 kg8).1).trans kg8
      have kx10 := (hV.block _ (Array.getElem?_eq_some_iff.1 kx8).1).trans kx8
      have z10 := hV.size
      have hE := eqDesk_in _ (s 2) d w10 ⟨by omega, by omega, fun j hj => by have := s3 j hj; omega⟩ ox10.deskI f2
      clear hm8 og8 ox8 kg8 kx8 hV
      simp only [putsOf, Act.put, List.setIfInBounds_toArray, List.set_cons_succ, List.set_cons_zero]
      simp only [List.drop_succ_cons, List.drop_zero]
      gi_wp2_with fail
      refine ⟨trivial, ?_⟩
      gi_at_call 31
      refine (callsIn_wide.2 (hE)).mono ?_
      rintro e w11 ⟨rfl, b11⟩
      have hm11 := hm10.trans (b11.mono hm10.size)
      have og11 := og10.below b11
      have ox11 := ox10.below b11
      have kg11 := (b11.block _ (Array.getElem?_eq_some_iff.1 kg10).1).trans kg10
      have kx11 := (b11.block _ (Array.getElem?_eq_some_iff.1 kx10).1).trans kx10
      have lg11 := (Array.getElem?_eq_some_iff.1 kg11).1
      obtain ⟨x0, x1, _, _⟩ := row_at kx11
      have zb11 := b11.size
      clear hm10 og10 ox10 kg10 kx10 b11 hE f2
      gi_wp2_with fail
      refine ⟨trivial, ?_⟩
      gi_at_call 32
      refine (callsIn_wide.2 (markA_in ox11 s1 s2 s5 1 (by omega))).mono ?_
      rintro e w13 ⟨rfl, hx13⟩
      have hk1 : ¬ ((1 + d.1.length + accN (fun j => (d.2.getD j []).length) d.2.length : Nat) : Int) < 0 := by omega
      have hm13 := hx13.below hm11 (by omega) hm11.size
      have og13 := og11.between hx13 (.inr (by omega))
      have kg13 := (hx13.block _ lg11 (.inr (by omega))).trans kg11
      obtain ⟨e0, e1', _, _⟩ := row_at kg13
      obtain ⟨m0, m1, _, _⟩ := row_at ((hm13.block _ lm).trans km)
      have z13 := hx13.size
      clear og11 ox11 hm11 kg11 kx11 x0 x1 hx13
      gi_wp2_with fail
      refine ⟨trivial, ?_⟩
      gi_at_call 31
      refine (callsIn_wide.2 (eqDesk_in _ _ D _ hsz og13.deskI (hmod.below hm13))).mono ?_
      rintro e w14 ⟨rfl, b14⟩
      have hm14 := hm13.trans (b14.mono hm13.size)
      have og14 := og13.below b14
      have kg14 := (b14.block _ (Array.getElem?_eq_some_iff.1 kg13).1).trans kg13
      have lg14 := (Array.getElem?_eq_some_iff.1 kg14).1
      obtain ⟨e0, e1', _, _⟩ := row_at kg14
      have z14 := b14.size
      clear og13 hm13 kg13 b14 m0 m1
      gi_wp2_with fail
      refine ⟨trivial, ?_⟩
      gi_at_call 32
      refine (callsIn_wide.2 (markDeskI_in og14 (by omega) hr1 hr2 1 (by omega))).mono ?_
      rintro e w17 ⟨rfl, om17, hx17⟩
      have hnI : ¬ IntB w14 bg := fun ⟨cur, hc⟩ => by rw [kg14] at hc; injection hc with hc; injection hc with _ hc; exact absurd hc (by decide)
      have hm17 := hx17.bet.below hm14 (by omega) hm14.size
      have kg17 := (hx17.block _ lg14 (.inr (.inr hnI))).trans kg14
      obtain ⟨e0, e1', _, _⟩ := row_at kg17
      have z17 := hx17.size
      clear og14 hm14 kg14 hx17 hnI
      have hq1 : ¬ ((1 + D.1.length + accN (fun j => (D.2.getD j []).length) D.2.length : Nat) : Int) < 0 := by omega
      gi_wp2_with fail
      refine ⟨trivial, ?_⟩
      gi_at_call 33
      refine (callsIn_wide.2 (heldDesk_in 1 om17 (by omega) hr1 hr2 (by omega))).mono ?_
      rintro e w19 ⟨rfl, b19⟩
      have hm19 := hm17.trans (b19.mono hm17.size)
      have om19 := om17.below b19
      have kg19 := (b19.block _ (Array.getElem?_eq_some_iff.1 kg17).1).trans kg17
      have z19 := b19.size
      clear om17 hm17 kg17 b19 e0 e1'
      have hm0_19 := hmm.trans (hm19.mono hmm.size)
      obtain ⟨d19, ⟨c0, c1⟩⟩ := hAth.out w19 hm0_19
      gi_wp2_with fail
      refine ⟨trivial, ?_⟩
      gi_at_call 30
      refine (callsIn_wide.2 (hTh.out _ d19)).mono ?_
      rintro e w20 ⟨y20, rfl, ox20, b20⟩
      obtain ⟨u1, u2, u3, u4, rfl⟩ := ox20.form
      have hm20 := hm19.trans (b20.mono hm19.size)
      have om20 := om19.below b20
      have kg20 := (b20.block _ (Array.getElem?_eq_some_iff.1 kg19).1).trans kg19
      have hE20 := hEh.out w20 (d19.trans (b20.mono d19.size))
      clear om19 hm19 kg19 c0 c1 hm0_19 b20
      gi_wp2_with fail
      refine ⟨trivial, ?_⟩
      gi_at_call 14
      refine (callsIn_wide.2 (hImh.out _ _ ⟨ox20.deskI, ox20.cap⟩ s4 hE20)).mono ?_
      rintro e w21 ⟨y21, rfl, hy21, b21⟩
      obtain ⟨ha, hn, ho, hp, rfl⟩ := hy21.form
      have ba21 := (Below.refl _ w21).alloc (Nat.le_refl _) (.cells #[.slice ha D.1.length hn, .slice ho D.2.length hp] 31)
      have kh := World.alloc_heap_new w21 (.cells #[.slice ha D.1.length hn, .slice ho D.2.length hp] 31)
      have hh := hy21.deskI.below ba21
      have b2h := b21.trans (ba21.mono b21.size)
      obtain ⟨wh, hwh⟩ : ∃ wh, w21.alloc (.cells #[.slice ha D.1.length hn, .slice ho D.2.length hp] 31) = wh := ⟨_, rfl⟩
      rw [hwh] at ba21 kh hh b2h
      obtain ⟨bh, hbh⟩ : ∃ bh, w21.heap.size = bh := ⟨_, rfl⟩
      rw [hbh] at kh
      have hmh := hm20.trans (b2h.mono hm20.size)
      have omh := om20.below b2h
      have kgh := (b2h.block _ (Array.getElem?_eq_some_iff.1 kg20).1).trans kg20
      obtain ⟨e0, e1, _, _⟩ := row_at kh
      obtain ⟨m0, m1, _, _⟩ := row_at ((hmh.block _ lm).trans km)
      clear om20 hm20 kg20 hy21 b21 ba21 b2h ox20 hE20
      gi_wp2_with fail
      refine ⟨trivial, ?_⟩
      gi_at_call 31
      refine (callsIn_wide.2 (eqDesk_in _ _ D _ hsz hh (hmod.below hmh))).mono ?_
      rintro e w25 ⟨rfl, b25⟩
      have hm25 := hmh.trans (b25.mono hmh.size)
      have om25 := omh.below b25
      have kg25 := (b25.block _ (Array.getElem?_eq_some_iff.1 kgh).1).trans kgh
      obtain ⟨e0, e1, _, _⟩ := row_at kg25
      clear omh hmh kgh b25 m0 m1
      gi_wp2_with fail
      refine ⟨trivial, ?_⟩
      gi_at_call 33
      refine (callsIn_wide.2 (heldDesk_in 1 om25 (by omega) hr1 hr2 (by omega))).mono ?_
      rintro e w28 ⟨rfl, b28⟩
      have hm28 := hm25.trans (b28.mono hm25.size)
      have hmb := hmm.trans (hm28.mono hmm.size)
      have hmw := hBw.trans (hmb.mono hBw.size)
      gi_wp2
      go_ret
      exact ⟨rfl, hmw⟩
end Go.Proofs.YtiaaefapbcjgmaaGreatDoor
namespace Go.Proofs.YtiaaefapbcjgmaaGreatDoor
open Go.RowKit Go.ChangeShapes Go.WideShapes Go.Deep

set_option maxRecDepth 100000 in
theorem open_row {H : Type} {enc : TypeId × Value → H} {W : World} {base : Nat} {spare : Nat → Bool} {held : Bool} {fuel : Nat} {u : Value} {x : DataW H × List MemPlace}
    (h : DataW.trod enc Tryz.prog W base spare held fuel 28 [u] = some x) : ∃ xs : List Int, ArgI W u xs ∧ xs.length ≤ 9223372036854775807 := by
  rcases open_ints Tryz.underlying28 Tryz.underlying3 (by kernel_rfl) h with ⟨hcs, _⟩ | ⟨a, len, cap, zs, hcs, _, hl, hm, hz, _, hcell, _⟩
  · injection hcs with e
    subst e
    exact ⟨[], .inl ⟨none, 0, rfl, rfl⟩, by simp⟩
  · injection hcs with e
    subst e
    have hlz : len ≤ zs.length := by rw [hz]; split <;> omega
    have hlen : (zs.take len).length = len := by simp; omega
    refine ⟨zs.take len, ?_, by rw [hlen]; unfold maxLen at hm; omega⟩
    by_cases h0 : len = 0
    · subst h0; exact .inl ⟨_, _, rfl, by simp⟩
    · obtain ⟨b, off, spot⟩ := a
      have h1 := hcell 0 (by omega)
      have hs : spot = none := by simpa [Addr.add] using World.cell?_spot h1
      subst hs
      have hb : b < W.heap.size := by
        have := World.block_lt_of_cell? W _ h1
        simpa [Addr.add] using this
      refine .inr ⟨b, off, cap, by rw [hlen], hb, fun i hi => ?_⟩
      have h2 := hcell i (by omega)
      have hadd : (⟨b, off, none⟩ : Addr).add i = ⟨b, off + i, none⟩ := by unfold Addr.add; split <;> simp_all
      rw [hadd] at h2
      rw [h2, List.getD, List.getD, List.getElem?_take, if_pos (by omega)]

set_option maxRecDepth 100000 in
theorem open_desk {H : Type} {enc : TypeId × Value → H} {W : World} {r : Reach} {b0 base : Nat} {spare : Nat → Bool} {held : Bool} {v : Value} {d : DataW H} {p : List MemPlace}
    (hv : Value.okWide Tryz.prog W r b0 54 v) (h : DataW.Trod enc Tryz.prog W base spare held 54 v d p) :
    ∃ D : Dk, ArgD W v D ∧ D.1.length ≤ 9223372036854775807 ∧ D.2.length ≤ 9223372036854775807 ∧ ∀ j, (D.2.getD j []).length ≤ 9223372036854775807 := by
  obtain ⟨u0, u1, y0, y1, n, rfl, _, _, t0, t1⟩ := Go.Joins.open_agg2 Tryz.underlying54 (by kernel_rfl) (by kernel_rfl) hv h
  obtain ⟨xs, hx, hxl⟩ := open_row t0
  rcases open_slice1 Tryz.underlying29 (by kernel_rfl) t1 with ⟨hcs, _⟩ | ⟨a, len, cap, m, n', V, D, Pl, hcs, _, hl, hm, hmm, _, hi⟩
  · injection hcs with e
    subst e
    exact ⟨(xs, []), ⟨_, _, rfl, hx, none, 0, rfl, fun h => absurd h (Nat.lt_irrefl 0)⟩, hxl, by simp, fun j => by simp⟩
  · injection hcs with e
    subst e
    have hml : len ≤ m := by rw [hmm]; split <;> omega
    have hex : ∀ i, i < len → ∃ row : List Int, ArgI W (V i) row ∧ row.length ≤ 9223372036854775807 := fun i him => open_row (hi i (by omega)).2
    have hch : ∃ f : Nat → List Int, (∀ i, i < len → ArgI W (V i) (f i)) ∧ ∀ i, i < len → (f i).length ≤ 9223372036854775807 :=
      ⟨fun i => if h : i < len then Classical.choose (hex i h) else [], fun i h => by dsimp only; rw [dif_pos h]; exact (Classical.choose_spec (hex i h)).1, fun i h => by dsimp only; rw [dif_pos h]; exact (Classical.choose_spec (hex i h)).2⟩
    obtain ⟨f, hf1, hf2⟩ := hch
    have hget : ∀ k, k < len → ((List.range len).map f).getD k [] = f k := fun k hk => by rw [List.getD, List.getElem?_map, List.getElem?_range hk]; rfl
    refine ⟨(xs, (List.range len).map f), ⟨_, _, rfl, hx, some a, cap, by simp, fun h0 => ?_⟩, hxl, by simp; unfold maxLen at hm; omega, fun j => ?_⟩
    · have h0 : 0 < len := by simpa using h0
      obtain ⟨b, off, spot⟩ := a
      have h1 := (hi 0 (by omega)).1
      have hs : spot = none := by simpa [Addr.add] using World.cell?_spot h1
      subst hs
      have hb : b < W.heap.size := by
        have := World.block_lt_of_cell? W _ h1
        simpa [Addr.add] using this
      refine ⟨b, off, rfl, hb, fun k hk => ?_⟩
      have hk : k < len := by simpa using hk
      have h2 := (hi k (by omega)).1
      have hadd : (⟨b, off, none⟩ : Addr).add k = ⟨b, off + k, none⟩ := by unfold Addr.add; split <;> simp_all
      rw [hadd] at h2
      rw [hget k hk]
      exact ⟨V k, h2, hf1 k hk⟩
    · by_cases hj : j < len
      · show ((List.range len).map f |>.getD j []).length ≤ _
        rw [hget j hj]; exact hf2 j hj
      · show ((List.range len).map f |>.getD j []).length ≤ _
        rw [List.getD, List.getElem?_eq_none (by simp; omega)]; simp
end Go.Proofs.YtiaaefapbcjgmaaGreatDoor
