/-
 Parts of the proofs, laid together: Ans12, Build12, Build6, Impl12t, Num12, Q12Y, Q12Z, Quest12, Read12, Read12a, Read12b, Said12, Split12.
-/
import Derived.WalkKit
import Derived.Laws.Concat
import Derived.Laws.Strings2
import Derived.OrdersIn
import Derived.TacticsIn
import Derived.Test.YtiaaefapbcjgmaaGreatDoorProg
import Derived.OwnWalkIn
import Derived.Deep.RegionLaw
import Derived.RangeFuncBox
import Derived.Laws.DeepStrings4
import Derived.Laws.Cover1
import Derived.Maps.AppendAt
import Derived.WalkSpells
import Derived.RangeFuncNested
import Derived.RangeFuncBound
import Derived.RangeFuncCalls
import Derived.RangeFuncLeaves
import Derived.BigRegion
import Derived.Shelf.Abstract
import Derived.Shelf.RegionOpen
import Derived.TacticsInMore
import Derived.LoopNIn
import Derived.LoopIn
import Derived.Deep.QuietTactic
import Derived.BigQuiet
import Derived.Below
import Derived.Laws.BytesString
import Derived.Deep.RegionWith
import Derived.DeepKeys5
import Derived.Maps.Keyed
import Derived.Deep.DeepCutAuto
import Derived.Laws.AppendOwnNone
import Derived.Lib.AtoiAll
import Derived.Lib.AtoiAllCases
import Derived.Lib.ItoaNum
import Derived.Lib.ItoaMem
import Derived.Lib.SplitLaws
import Derived.Laws.CopyOwn
import Derived.StillTailTactics
import Derived.Maps.OwnSet
import Derived.Laws.Bits64
import Derived.Laws.Bits64b
import Derived.Lib.AppendIntMem
import Derived.WideLaws
import Derived.Lib.SlicesS
import Derived.BigCall
import Derived.Maps.Own
import Derived.Maps.OwnOps
import Derived.StringKeys
import Derived.Shelf.Strings.BuilderK
import Derived.Lib.FrozenHead
import Derived.Tactics
import Derived.Tactics2
import Derived.Defers
import Derived.Laws.Pointers
import Derived.Laws.LoneSync
import Derived.RegionTactic
import Derived.RegionCalls
import Derived.ChangeAlike
import Derived.Test.YtiaaefapbcjgmaaGreatDoorLay12
import Derived.Test.YtiaaefapbcjgmaaGreatDoorLay6
import Derived.Test.YtiaaefapbcjgmaaGreatDoorPd0
import Derived.Test.YtiaaefapbcjgmaaGreatDoorPd1
import Derived.Test.YtiaaefapbcjgmaaGreatDoorPd2
import Derived.Test.YtiaaefapbcjgmaaGreatDoorPd3
namespace Go.Proofs.YtiaaefapbcjgmaaGreatDoor
section
open Go.RowKit Go.BigFrame
set_option maxRecDepth 100000 in
set_option maxHeartbeats 1000000 in
theorem formatInt_in (i : Nat) (hi : i < 100) (w : World) : Calls Tryz.prog 143 #[.int .i64 i, .int .i64 10] w fun e w' => e = .returned (.string (str (decF 20 i))) ∧ w = w' := by
 have hS := small_in i hi w
 have h1 : (0 : Int) ≤ (i : Int) := by omega
 have h2 : (i : Int) < 100 := by omega
 generalize str (decF 20 i) = s at *
 go_enter Tryz.func143, Tryz.ntmps143
 go_wp2_with (go_at_call 178; refine hS.mono ?_; clear hS; rintro e w' ⟨rfl, rfl⟩)
 go_ret
 exact ⟨rfl, rfl⟩
theorem itoa_in (i : Nat) (hi : i < 100) (w : World) : Calls Tryz.prog 58 #[.int .i64 i] w fun e w' => e = .returned (.string (str (decF 20 i))) ∧ w = w' := by
 have hF := formatInt_in i hi w
 generalize str (decF 20 i) = s at *
 have hI : Calls Tryz.prog 101 #[.int .i64 i] w fun e w' => e = .returned (.string s) ∧ w = w' := by
  go_enter Tryz.func101, Tryz.ntmps101
  go_wp2_with (go_at_call 143; refine hF.mono ?_; clear hF; rintro e w' ⟨rfl, rfl⟩)
  go_ret
  exact ⟨rfl, rfl⟩
 go_enter Tryz.func58, Tryz.ntmps58
 go_wp2_with (go_at_call 101; refine hI.mono ?_; clear hI; rintro e w' ⟨rfl, rfl⟩)
 go_ret
 exact ⟨rfl, rfl⟩
def mostT (k : Int) : Int := if k = 0 then 99 else if k = 1 then 9 else 0
theorem mostT_in (k : Int) (w : World) : Calls Tryz.prog 56 #[.int .i64 k] w fun e w' => e = .returned (.int .i64 (mostT k)) ∧ w = w' := by
 by_cases h0 : k = 0
 · subst h0
   go_enter Tryz.func56, Tryz.ntmps56
   go_wp2
   go_ret
   exact ⟨rfl, rfl⟩
 by_cases h1 : k = 1
 · subst h1
   go_enter Tryz.func56, Tryz.ntmps56
   go_wp2
   go_ret
   exact ⟨rfl, rfl⟩
 · have hm : mostT k = 0 := by unfold mostT; rw [if_neg h0, if_neg h1]
   rw [hm]
   have b0 : (k == 0) = false := by rw [beq_eq_false_iff_ne]; exact h0
   have b1 : (k == 1) = false := by rw [beq_eq_false_iff_ne]; exact h1
   clear h0 h1 hm
   go_enter Tryz.func56, Tryz.ntmps56
   go_wp2
   go_ret
   exact ⟨rfl, rfl⟩
def wordsA : Array Value := #[.string ⟨#[102, 108, 105, 112]⟩, .string ⟨#[112, 117, 116]⟩, .string ⟨#[117, 110, 100, 101, 114]⟩, .string ⟨#[116, 117, 114, 110]⟩, .string ⟨#[114, 111, 117, 110, 100]⟩, .string ⟨#[98, 97, 99, 107]⟩]
theorem words_in (w : World) : Calls Tryz.prog 57 #[] w fun e w' => e = .returned (.slice (some ⟨w.heap.size, 0, none⟩) 6 6) ∧ w' = w.alloc (.cells wordsA 9) := by
 unfold wordsA
 go_enter Tryz.func57, Tryz.ntmps57
 go_wp2
 go_ret
 exact ⟨rfl, rfl⟩
theorem word_at (W : World) (k : Nat) (v : Value) (h : wordsA[k]? = some v) : (W.alloc (.cells wordsA 9)).cell? ⟨W.heap.size, k, none⟩ = some v := by
 have hb := aN9 W (.cells wordsA 9)
 unfold World.cell?
 rw [hb]
 exact h
theorem words_at (w : World) : Calls Tryz.prog 57 #[] w fun e w' => e = .returned (.slice (some ⟨w.heap.size, 0, none⟩) 6 6) ∧ (∀ k v, wordsA[k]? = some v → w'.cell? ⟨w.heap.size, k, none⟩ = some v) ∧ Below w.heap.size w w' :=
 (words_in w).mono fun _ _ ⟨he, hw⟩ => ⟨he, by rw [hw]; exact fun k v h => word_at w k v h, by rw [hw]; exact (Below.refl _ w).alloc (Nat.le_refl _) _⟩
structure Dt (w : World) (k n : Int) (W : World) : Prop where
 eq : w.alloc (.cells #[.int .i64 k, .int .i64 n] 39) = W
 below : Below w.heap.size w W
 c0 : ∀ m : After W, m.now.cell? ⟨w.heap.size, 0, none⟩ = some (.int .i64 k)
 c1 : ∀ m : After W, m.now.cell? ⟨w.heap.size, 1, none⟩ = some (.int .i64 n)
theorem Dt.new (w : World) (k n : Int) : ∃ W, Dt w k n W := by
 have hb := aN9 w (.cells #[.int .i64 k, .int .i64 n] 39)
 refine ⟨_, rfl, (Below.refl _ w).alloc (Nat.le_refl _) _, fun m => ?_, fun m => ?_⟩
 · refine (m.ok.cell (p := ⟨w.heap.size, 0, none⟩) (by simp)).trans ?_
   unfold World.cell?; rw [hb]; rfl
 · refine (m.ok.cell (p := ⟨w.heap.size, 1, none⟩) (by simp)).trans ?_
   unfold World.cell?; rw [hb]; rfl
theorem below_of {P : Program} {f : Nat} {args : Array Value} {v : Value} {W : World} (h : Calls P f args W fun e w' => e = .returned v ∧ W = w') : Calls P f args W fun e w' => e = .returned v ∧ Below W.heap.size W w' := h.mono fun _ _ ⟨he, hw⟩ => ⟨he, hw ▸ Below.refl _ _⟩
set_option maxRecDepth 100000 in
set_option maxHeartbeats 1000000 in
theorem deedText_kind (k n : Int) (w : World) (h : k < 0 ∨ 5 < k) : Calls Tryz.prog 15 #[dV k n] w fun e w' => e = .returned (.string ⟨#[]⟩) ∧ Below w.heap.size w w' := by
 obtain ⟨W1, hW1, hB0, d0, d1⟩ := Dt.new w k n
 have hW : ∀ m : After W1, Calls Tryz.prog 55 #[.int .i64 k, .int .i64 5] m.now fun e w' => e = .returned (.bool false) ∧ Below m.now.heap.size m.now w' := fun m => below_of (within_f k 5 m.now h)
 unfold dV
 clear h
 go_enter Tryz.func15, Tryz.ntmps15
 go_wp2
 refine wp_region_below W1 (by kernel_rfl) (by kernel_rfl) (Below.refl _ _) ?_
 repeat (go_big_quiet_step ((go_at_call 55; with_reducible exact after_of (hW _))))
 refine wpQuiet_nil ?_
 rintro _ ⟨nq, rfl⟩
 go_wp2
 go_ret
 exact ⟨rfl, hB0.trans (nq.ok.mono hB0.size)⟩
set_option maxRecDepth 100000 in
set_option maxHeartbeats 1000000 in
theorem deedText_num (k n : Int) (w : World) (h1 : 0 ≤ k) (h2 : k ≤ 5) (h : n < 0 ∨ mostT k < n) : Calls Tryz.prog 15 #[dV k n] w fun e w' => e = .returned (.string ⟨#[]⟩) ∧ Below w.heap.size w w' := by
 obtain ⟨W1, hW1, hB0, d0, d1⟩ := Dt.new w k n
 have hW : ∀ m : After W1, Calls Tryz.prog 55 #[.int .i64 k, .int .i64 5] m.now fun e w' => e = .returned (.bool true) ∧ Below m.now.heap.size m.now w' := fun m => below_of (within_t k 5 m.now h1 h2)
 have hM : ∀ m : After W1, Calls Tryz.prog 56 #[.int .i64 k] m.now fun e w' => e = .returned (.int .i64 (mostT k)) ∧ Below m.now.heap.size m.now w' := fun m => below_of (mostT_in k m.now)
 have hN : ∀ m : After W1, Calls Tryz.prog 55 #[.int .i64 n, .int .i64 (mostT k)] m.now fun e w' => e = .returned (.bool false) ∧ Below m.now.heap.size m.now w' := fun m => below_of (within_f n (mostT k) m.now h)
 unfold dV
 generalize mostT k = M at *
 clear h h1 h2
 go_enter Tryz.func15, Tryz.ntmps15
 go_wp2
 refine wp_region_below W1 (by kernel_rfl) (by kernel_rfl) (Below.refl _ _) ?_
 repeat (go_big_quiet_step (first | (go_at_call 55; with_reducible exact after_of (hW _)) | (go_at_call 55; with_reducible exact after_of (hN _)) | (go_at_call 56; with_reducible exact after_of (hM _))))
 refine wpQuiet_nil ?_
 rintro _ ⟨nq, rfl⟩
 go_wp2
 go_ret
 exact ⟨rfl, hB0.trans (nq.ok.mono hB0.size)⟩
set_option maxRecDepth 100000 in
set_option maxHeartbeats 1000000 in
theorem deedText_word (K : Nat) (hK : 2 ≤ K) (hK5 : K ≤ 5) (s : ByteArray) (hs : wordsA[K]? = some (.string s)) (w : World) : Calls Tryz.prog 15 #[dV K 0] w fun e w' => e = .returned (.string s) ∧ Below w.heap.size w w' := by
 obtain ⟨W1, hW1, hB0, d0, d1⟩ := Dt.new w K 0
 have hmk : mostT K = 0 := by unfold mostT; rw [if_neg (by omega), if_neg (by omega)]
 have hW : ∀ m : After W1, Calls Tryz.prog 55 #[.int .i64 K, .int .i64 5] m.now fun e w' => e = .returned (.bool true) ∧ Below m.now.heap.size m.now w' := fun m => below_of (within_t K 5 m.now (by omega) (by omega))
 have hM0 : ∀ V, Calls Tryz.prog 56 #[.int .i64 K] V fun e w' => e = .returned (.int .i64 0) ∧ V = w' := fun V => by have := mostT_in K V; rwa [hmk] at this
 have hM : ∀ m : After W1, Calls Tryz.prog 56 #[.int .i64 K] m.now fun e w' => e = .returned (.int .i64 0) ∧ Below m.now.heap.size m.now w' := fun m => below_of (hM0 m.now)
 have hN : ∀ m : After W1, Calls Tryz.prog 55 #[.int .i64 0, .int .i64 0] m.now fun e w' => e = .returned (.bool true) ∧ Below m.now.heap.size m.now w' := fun m => below_of (within_t 0 0 m.now (by omega) (by omega))
 have hKi : (K : Int) < 6 := by omega
 unfold dV
 have hsh := hide hs
 clear hmk hs
 go_enter Tryz.func15, Tryz.ntmps15
 go_wp2
 refine wp_region_below W1 (by kernel_rfl) (by kernel_rfl) (Below.refl _ _) ?_
 repeat (go_big_quiet_step (first | (go_at_call 55; with_reducible exact after_of (hW _)) | (go_at_call 55; with_reducible exact after_of (hN _)) | (go_at_call 56; with_reducible exact after_of (hM _))))
 refine wpQuiet_nil ?_
 rintro _ ⟨nq, rfl⟩
 have e0 := d0 nq
 have hl0 : w.heap.size < nq.now.heap.size := World.block_lt_of_cell? _ _ e0
 have hBq := nq.ok
 generalize nq.now = W2 at *
 have e0' : ∀ V, Below W2.heap.size W2 V → V.cell? ⟨w.heap.size, 0, none⟩ = some (.int .i64 K) := fun V hV => (hV.cell (p := ⟨w.heap.size, 0, none⟩) hl0).trans e0
 go_wp2
 go_region_with (go_at_call 57; go_loud (refine (words_at _).mono ?_; rintro e w3 ⟨rfl, hwk, hB3⟩; have hwk' : w3.cell? ⟨W2.heap.size, K, none⟩ = some (.string s) := hwk K _ hsh.out; have hwk2 : w3.cell? ⟨W2.drew.heap.size, K, none⟩ = some (.string s) := hwk K _ hsh.out; have hB23 : Below W2.heap.size W2 w3 := (Below.trans ((Below.refl _ W2).drew) hB3); have e0w := e0' w3 hB23; clear hwk))
 all_goals
  go_wp2_with (go_at_call 56; refine (hM0 _).mono ?_; rintro e w4 ⟨rfl, rfl⟩)
  go_ret
  exact ⟨rfl, hB0.trans ((hBq.trans (hB23.mono hBq.size)).mono hB0.size)⟩
theorem dec_small : ((List.range 100).all fun i => decide ((str (decF 20 i)).size ≤ 100)) = true := by decide +kernel
set_option maxRecDepth 100000 in
set_option maxHeartbeats 1000000 in
theorem deedText_named (K N M : Nat) (hK : K ≤ 1) (hmk : mostT K = M) (hNM : N ≤ M) (hM1 : 1 ≤ M) (hM99 : M ≤ 99) (s : ByteArray) (hsz : s.size ≤ 100) (hs : wordsA[K]? = some (.string s)) (w : World) : Calls Tryz.prog 15 #[dV K N] w fun e w' => e = .returned (.string (s ++ ⟨#[32]⟩ ++ str (decF 20 N))) ∧ Below w.heap.size w w' := by
 obtain ⟨W1, hW1, hB0, d0, d1⟩ := Dt.new w K N
 have hW : ∀ m : After W1, Calls Tryz.prog 55 #[.int .i64 K, .int .i64 5] m.now fun e w' => e = .returned (.bool true) ∧ Below m.now.heap.size m.now w' := fun m => below_of (within_t K 5 m.now (by omega) (by omega))
 have hM0 : ∀ V, Calls Tryz.prog 56 #[.int .i64 K] V fun e w' => e = .returned (.int .i64 M) ∧ V = w' := fun V => by have := mostT_in K V; rwa [hmk] at this
 have hM : ∀ m : After W1, Calls Tryz.prog 56 #[.int .i64 K] m.now fun e w' => e = .returned (.int .i64 M) ∧ Below m.now.heap.size m.now w' := fun m => below_of (hM0 m.now)
 have hN : ∀ m : After W1, Calls Tryz.prog 55 #[.int .i64 N, .int .i64 M] m.now fun e w' => e = .returned (.bool true) ∧ Below m.now.heap.size m.now w' := fun m => below_of (within_t N M m.now (by omega) (by omega))
 have hKi : (K : Int) < 6 := by omega
 have hIt := fun V => itoa_in N (by omega) V
 have hMne : ¬ M = 0 := by omega
 have hds : (str (decF 20 N)).size ≤ 100 := by
  have h := List.all_eq_true.1 dec_small N (List.mem_range.2 (by omega))
  simpa using h
 generalize str (decF 20 N) = D at *
 unfold dV
 have hsh := hide hs
 clear hmk hs
 go_enter Tryz.func15, Tryz.ntmps15
 go_wp2
 refine wp_region_below W1 (by kernel_rfl) (by kernel_rfl) (Below.refl _ _) ?_
 repeat (go_big_quiet_step (first | (go_at_call 55; with_reducible exact after_of (hW _)) | (go_at_call 55; with_reducible exact after_of (hN _)) | (go_at_call 56; with_reducible exact after_of (hM _))))
 refine wpQuiet_nil ?_
 rintro _ ⟨nq, rfl⟩
 have e0 := d0 nq
 have f0 := d1 nq
 have hl0 : w.heap.size < nq.now.heap.size := World.block_lt_of_cell? _ _ e0
 have hBq := nq.ok
 generalize nq.now = W2 at *
 have e0' : ∀ V, Below W2.heap.size W2 V → V.cell? ⟨w.heap.size, 0, none⟩ = some (.int .i64 K) := fun V hV => (hV.cell (p := ⟨w.heap.size, 0, none⟩) hl0).trans e0
 have f0' : ∀ V, Below W2.heap.size W2 V → V.cell? ⟨w.heap.size, 1, none⟩ = some (.int .i64 N) := fun V hV => (hV.cell (p := ⟨w.heap.size, 1, none⟩) hl0).trans f0
 go_wp2
 go_region_with (go_at_call 57; go_loud (refine (words_at _).mono ?_; rintro e w3 ⟨rfl, hwk, hB3⟩; have hwk' : w3.cell? ⟨W2.heap.size, K, none⟩ = some (.string s) := hwk K _ hsh.out; have hwk2 : w3.cell? ⟨W2.drew.heap.size, K, none⟩ = some (.string s) := hwk K _ hsh.out; have hB23 : Below W2.heap.size W2 w3 := (Below.trans ((Below.refl _ W2).drew) hB3); have e0w := e0' w3 hB23; have f0w := f0' w3 hB23; clear hwk))
 all_goals
  go_wp2_with (first | (go_at_call 56; refine (hM0 _).mono ?_; rintro e w4 ⟨rfl, rfl⟩) | (go_at_call 58; refine (hIt _).mono ?_; rintro e w4 ⟨rfl, rfl⟩))
  go_ret
  exact ⟨rfl, hB0.trans ((hBq.trans (hB23.mono hBq.size)).mono hB0.size)⟩
theorem implDeedText (k n : Int) (_hk : Fits k) (_hn : Fits n) (w : World) : Calls Tryz.prog 15 #[dV k n] w fun e w' => e = .returned (.string (str (deedT k n))) ∧ Below w.heap.size w w' := by
  by_cases hk : k < 0 ∨ 5 < k
  · have hd : deedT k n = [] := by
      unfold deedT
      rw [if_neg (by omega), if_neg (by omega), if_neg (by omega), if_neg (by omega), if_neg (by omega), if_neg (by omega)]
    rw [hd]
    exact deedText_kind k n w hk
  obtain ⟨K, rfl⟩ : ∃ K : Nat, k = K := ⟨k.toNat, by omega⟩
  by_cases hn : n < 0 ∨ mostT K < n
  · have hd : deedT K n = [] := by
      unfold mostT at hn
      unfold deedT
      by_cases h0 : (K : Int) = 0
      · rw [if_pos h0] at hn
        rw [if_neg (by omega), if_neg (by omega), if_neg (by omega), if_neg (by omega), if_neg (by omega), if_neg (by omega)]
      · rw [if_neg h0] at hn
        by_cases h1 : (K : Int) = 1
        · rw [if_pos h1] at hn
          rw [if_neg (by omega), if_neg (by omega), if_neg (by omega), if_neg (by omega), if_neg (by omega), if_neg (by omega)]
        · rw [if_neg h1] at hn
          rw [if_neg (by omega), if_neg (by omega), if_neg (by omega), if_neg (by omega), if_neg (by omega), if_neg (by omega)]
    rw [hd]
    exact deedText_num K n w (by omega) (by omega) hn
  obtain ⟨N, rfl⟩ : ∃ N : Nat, n = N := ⟨n.toNat, by omega⟩
  have hN0 : 2 ≤ K → N = 0 := fun h2 => by
    have : mostT (K : Int) = 0 := by unfold mostT; rw [if_neg (by omega), if_neg (by omega)]
    omega
  rcases (show K = 0 ∨ K = 1 ∨ K = 2 ∨ K = 3 ∨ K = 4 ∨ K = 5 by omega) with rfl | rfl | rfl | rfl | rfl | rfl
  · have hN : (N : Int) ≤ 99 := by have : mostT ((0 : Nat) : Int) = 99 := rfl
                                   omega
    have hd : str (deedT ((0 : Nat) : Int) N) = (⟨#[102, 108, 105, 112]⟩ : ByteArray) ++ ⟨#[32]⟩ ++ str (decF 20 N) := by
      unfold deedT
      rw [if_pos ⟨rfl, by omega, hN⟩, Int.toNat_natCast, ← str_app]
      rfl
    rw [hd]
    exact deedText_named 0 N 99 (by omega) rfl (by omega) (by omega) (by omega) _ (by decide) rfl w
  · have hN : (N : Int) ≤ 9 := by have : mostT ((1 : Nat) : Int) = 9 := rfl
                                  omega
    have hd : str (deedT ((1 : Nat) : Int) N) = (⟨#[112, 117, 116]⟩ : ByteArray) ++ ⟨#[32]⟩ ++ str (decF 20 N) := by
      unfold deedT
      rw [if_neg (by omega), if_pos ⟨rfl, by omega, hN⟩, Int.toNat_natCast, ← str_app]
      rfl
    rw [hd]
    exact deedText_named 1 N 9 (by omega) rfl (by omega) (by omega) (by omega) _ (by decide) rfl w
  · obtain rfl := hN0 (by omega)
    exact deedText_word 2 (by omega) (by omega) _ rfl w
  · obtain rfl := hN0 (by omega)
    exact deedText_word 3 (by omega) (by omega) _ rfl w
  · obtain rfl := hN0 (by omega)
    exact deedText_word 4 (by omega) (by omega) _ rfl w
  · obtain rfl := hN0 (by omega)
    exact deedText_word 5 (by omega) (by omega) _ rfl w
end
section
theorem index_cons32 (c : UInt8) (h : c ≠ 32) (s : List UInt8) : Lib.index (c :: s) [32] = if Lib.index s [32] == -1 then -1 else Lib.index s [32] + 1 := by
 rw [Lib.index, if_neg]
 simp [List.isPrefixOf]
 exact fun e => h e.symm
theorem splitK_cons (c : UInt8) (h : c ≠ 32) : ∀ (k : Nat) (s x : List UInt8) (t : List (List UInt8)), Lib.splitK [32] 0 k s = x :: t → Lib.splitK [32] 0 k (c :: s) = (c :: x) :: t
 | 0, s, x, t, e => by
   rw [Lib.splitK] at e ⊢
   injection e with e1 e2
   rw [e1, e2]
 | k + 1, s, x, t, e => by
   have hge := Lib.index_ge s [32]
   rw [Lib.splitK] at e ⊢
   rw [index_cons32 c h]
   by_cases h1 : Lib.index s [32] = -1
   · rw [h1] at e ⊢
     simp at e ⊢
     exact e
   · obtain ⟨i, hi⟩ : ∃ i : Nat, Lib.index s [32] = i := ⟨(Lib.index s [32]).toNat, by omega⟩
     have hb : ¬ ((i : Int) == -1) = true := by simp
     have hb2 : ¬ ((i : Int) + 1 == -1) = true := by simp; omega
     rw [hi, if_neg hb] at e
     rw [hi, if_neg hb, if_neg hb2]
     have e3 : ((i : Int) + 1).toNat = i + 1 := by omega
     have e4 : ((i : Int)).toNat = i := by omega
     rw [e4] at e
     rw [e3]
     simp only [List.length_singleton, Nat.add_zero, List.take_succ_cons, List.drop_succ_cons] at e ⊢
     injection e with e1 e2
     rw [e1, e2]
theorem cutL_front (sep : Nat) : ∀ (r line : List Nat), ∃ h t, cutL sep [] r = h :: t ∧ cutL sep line r = (line ++ h) :: t
 | [], line => ⟨[], [], rfl, by simp [cutL]⟩
 | c :: r, line => by
   by_cases e : c = sep
   · subst e
     exact ⟨[], cutL c [] r, cutL_hit c [] r, by rw [cutL_hit, List.append_nil]⟩
   · obtain ⟨h, t, h1, h2⟩ := cutL_front sep r [c]
     obtain ⟨h', t', h3, h4⟩ := cutL_front sep r (line ++ [c])
     rw [h1] at h3
     injection h3 with h5 h6
     subst h5 h6
     exact ⟨[c] ++ h, t, by rw [cutL_other e, List.nil_append]; exact h2, by rw [cutL_other e, h4, List.append_assoc]⟩
theorem split_cut : ∀ (l : List Nat), (∀ x ∈ l, x < 256) → Lib.splitK [32] 0 ((l.map UInt8.ofNat).count 32) (l.map UInt8.ofNat) = (cutT 32 l).map (·.map UInt8.ofNat)
  | [], _ => by simp [Lib.splitK, cutT, cutL]
  | c :: r, hb => by
    have ih := split_cut r (fun x hx => hb x (by simp [hx]))
    have hc := hb c (by simp)
    by_cases e : c = 32
    · subst e
      unfold cutT at ih ⊢
      rw [cutL_hit, List.map_cons, List.map_cons, show UInt8.ofNat 32 = 32 from rfl, List.count_cons_self, Lib.splitK, show Lib.index ((32 : UInt8) :: r.map UInt8.ofNat) [32] = 0 by rw [Lib.index]; simp [List.isPrefixOf]]
      simp
      exact ih
    · have hne : UInt8.ofNat c ≠ 32 := fun e2 => by
        have := congrArg UInt8.toNat e2
        simp at this
        omega
      obtain ⟨h, t, h1, h2⟩ := cutL_front 32 r [c]
      unfold cutT at ih ⊢
      rw [h1, List.map_cons] at ih
      rw [cutL_other e, List.nil_append, h2, List.map_cons, List.count_cons_of_ne hne, List.map_cons, splitK_cons _ hne _ _ _ _ ih]
      rfl
theorem str_data (l : List Nat) : (str l).data.toList = l.map UInt8.ofNat := rfl
theorem data_str {b : ByteArray} {l : List Nat} (h : b.data.toList = l.map UInt8.ofNat) : b = str l := by
 unfold str
 rw [← h]
theorem data_all : ∀ (A : List ByteArray) (L : List (List Nat)), A.map (·.data.toList) = L.map (·.map UInt8.ofNat) → A = L.map str
 | [], [], _ => rfl
 | [], _ :: _, h => by simp at h
 | _ :: _, [], h => by simp at h
 | x :: A, y :: L, h => by
   rw [List.map_cons, List.map_cons] at h
   injection h with h1 h2
   rw [List.map_cons, data_str h1, data_all A L h2]
theorem splitB_cut (l : List Nat) (hb : ∀ x ∈ l, x < 256) : Lib.splitB ⟨#[32]⟩ 0 (Lib.countB (str l) ⟨#[32]⟩) (str l) = (cutT 32 l).map str := by
 have h := Lib.splitB_data ⟨#[32]⟩ 0 (Lib.countB (str l) ⟨#[32]⟩) (str l)
 have hk : Lib.countB (str l) ⟨#[32]⟩ = (l.map UInt8.ofNat).count 32 := Lib.count_one 32 (l.map UInt8.ofNat)
 rw [show (⟨#[32]⟩ : ByteArray).data.toList = [32] from rfl, str_data, hk, split_cut l hb] at h
 rw [hk]
 exact data_all _ _ h
end
section
open Go.RowKit
structure Env (w : World) : Prop where
 ml : ∃ m, w.cell? ⟨Tryz.splitA_ren.g 1, 0, none⟩ = some (.int .i64 m)
 pow : Lib.TabIs Tryz.prog w "internal/strconv.uint64pow10" .u64 Lib.pow10Tab
 es : ∃ ev, w.cell? ⟨Tryz.atoiA_ren.g 15, 0, none⟩ = some ev ∧ (ev = .nilIface ∨ ∃ te pe, ev = .iface te pe)
 er : ∃ ev, w.cell? ⟨Tryz.atoiA_ren.g 16, 0, none⟩ = some ev ∧ (ev = .nilIface ∨ ∃ te pe, ev = .iface te pe)
theorem Env.below {w w' : World} (h : Env w) (hB : Below w.heap.size w w') : Env w' := by
 have hc : ∀ {a : Addr} {v : Value}, w.cell? a = some v → w'.cell? a = some v := fun {a v} e => (hB.cell (World.block_lt_of_cell? w a e)).trans e
 obtain ⟨⟨m, hm⟩, hp, ⟨es, h1, h2⟩, ⟨er, h3, h4⟩⟩ := h
 exact ⟨⟨m, hc hm⟩, (Lib.tabBelow_of_tabIs hp) w' hB, ⟨es, hc h1, h2⟩, ⟨er, hc h3, h4⟩⟩
theorem spaces_in (l : List Nat) (hl : ∀ x ∈ l, x < 256) (hn : l.length ≤ 2000000) (w : World) (hE : Env w) : Calls Tryz.prog 123 #[.string (str l), .string ⟨#[32]⟩] w fun e w' =>
 e = .returned (.slice (some ⟨w.heap.size, 0, none⟩) (cutT 32 l).length (cutT 32 l).length) ∧ (∀ i, i < (cutT 32 l).length → w'.cell? ⟨w.heap.size, i, none⟩ = some (.string (str ((cutT 32 l).getD i [])))) ∧ Below w.heap.size w w' := by
 obtain ⟨m, hm⟩ := hE.ml
 have hc := splitB_cut l hl
 have hlen := Lib.splitB_all ⟨#[32]⟩ (by decide) 0 _ (str l) rfl
 refine (Any.strings_Split { Tryz.splitA with } Tryz.splitA.i9 (str l) ⟨#[32]⟩ m w (by have := str_size l; omega) hm (by decide)).mono ?_
 rintro e w' ⟨rfl, rfl⟩
 rw [hc, List.length_map] at hlen
 rw [hc, ← hlen]
 refine ⟨rfl, fun i hi => ?_, (Below.refl _ _).alloc (Nat.le_refl _) _⟩
 have hb := aN9 w (.cells (((cutT 32 l).map str).map Value.string).toArray (Tryz.splitA_ren.t 9))
 unfold World.cell?
 rw [hb]
 simp [hi]
theorem atoi_in (p : List Nat) (hp : ∀ x ∈ p, x < 256) (hn : p.length ≤ 2000000) (w : World) (hE : Env w) : Calls Tryz.prog 124 #[.string (str p)] w fun e w' =>
 (∃ (n : Int) (ev : Value), e = .returned (.tuple #[.int .i64 n, ev]) ∧ ((ev = .nilIface ∧ Lib.atoiAll (str p).data.toList = .ok n) ∨ (digT p = none ∧ ∃ t B, ev = .iface t (.pointer (some ⟨B, 0, none⟩))))) ∧ Below w.heap.size w w' := by
 have hsz := str_size p
 rcases h : Lib.atoiAll (str p).data.toList with v | _ | _
 · refine (Any.strconv_Atoi_ok { Tryz.atoiA with } (str p) (by omega) v h w).mono ?_
   rintro e w' ⟨rfl, hw⟩
   refine ⟨⟨v, _, rfl, .inl ⟨rfl, rfl⟩⟩, ?_⟩
   rcases hw with rfl | ⟨t, rfl⟩
   · exact Below.refl _ _
   · exact Lib.bytesWorld_below _ _ _
 · obtain ⟨ev, h1, h2⟩ := hE.es
   refine (Any.strconv_Atoi_syntax { Tryz.atoiA with } (str p) (by omega) h ev w h1 h2).mono ?_
   rintro e w' ⟨N, rfl, _, _, hB⟩
   refine ⟨⟨0, _, rfl, .inr ⟨?_, _, N, rfl⟩⟩, hB⟩
   cases hd : digT p with
   | none => rfl
   | some m => rw [str_data, atoi_dig hp hd] at h; cases h
 · obtain ⟨ev, h1, h2⟩ := hE.er
   refine (Any.strconv_Atoi_range { Tryz.atoiA with } (str p) (by omega) h ev w h1 h2).mono ?_
   rintro e w' ⟨N, rfl, _, _, hB⟩
   refine ⟨⟨_, _, rfl, .inr ⟨?_, _, N, rfl⟩⟩, hB⟩
   cases hd : digT p with
   | none => rfl
   | some m => rw [str_data, atoi_dig hp hd] at h; cases h
theorem itoaAll_in (n : Int) (h0 : 0 ≤ n) (h1 : n ≤ 999999999) (w : World) (hE : Env w) : Calls Tryz.prog 58 #[.int .i64 n] w fun e w' => e = .returned (.string (str (decF 20 n.toNat))) ∧ Below w.heap.size w w' := by
 refine (Any.strconv_Itoa { Tryz.itoaA with } n (by omega) (by omega) w hE.pow).mono ?_
 obtain ⟨u, rfl⟩ : ∃ u : Nat, n = u := ⟨n.toNat, by omega⟩
 rintro e w' ⟨rfl, k, os, rfl⟩
 rw [itoa_dec u (by omega)]
 exact ⟨rfl, Lib.below_grow _ _ (Nat.le_refl _) _ _⟩
theorem own_fromD {w : World} {base base' n : Nat} {e : TypeId} {v : Value} {xs : List Value} (h : w.ownsRow base e 1 v n xs) (hb : base' ≤ base) : w.ownsRow base' e 1 v n xs := by
 obtain ⟨h1, h2⟩ := h
 refine ⟨h1, ?_⟩
 rcases h2 with h2 | ⟨g, cap, cur, rfl, h3, h4⟩
 · exact .inl h2
 · exact .inr ⟨g, cap, cur, rfl, lT9 hb h3, h4⟩
theorem cutL_len (l : List Nat) : (cutT 32 l).length ≤ l.length + 1 := by
 have h : ∀ (r line : List Nat), (cutL 32 line r).length ≤ r.length + 1 := fun r => by
  induction r with
  | nil => intro line; simp [cutL]
  | cons c r ih =>
    intro line
    by_cases e : c = 32
    · subst e; rw [cutL_hit]; have := ih []; simp; omega
    · rw [cutL_other e]; have := ih (line ++ [c]); simp; omega
 exact h l []
def Said (p : List Nat) (n : Int) (ev : Value) : Prop :=
 (ev = .nilIface ∧ 0 ≤ n ∧ n ≤ 999999999 ∧ digT p = some n.toNat ∧ decF 20 n.toNat = p) ∨ (ev = .nilIface ∧ 0 ≤ n ∧ n ≤ 999999999 ∧ digT p = none ∧ ¬ str (decF 20 n.toNat) = str p) ∨
 (ev = .nilIface ∧ digT p = none ∧ (n < 0 ∨ 999999999 < n)) ∨ (digT p = none ∧ ∃ t B, ev = .iface t (.pointer (some ⟨B, 0, none⟩)))
theorem said_of {p : List Nat} (hp : ∀ x ∈ p, x < 256) {n : Int} {ev : Value} (h : (ev = .nilIface ∧ Lib.atoiAll (str p).data.toList = .ok n) ∨ (digT p = none ∧ ∃ t B, ev = .iface t (.pointer (some ⟨B, 0, none⟩)))) : Said p n ev := by
 rcases h with ⟨rfl, h⟩ | h
 · cases hd : digT p with
   | some m =>
     rw [str_data, atoi_dig hp hd] at h
     injection h with h
     subst h
     obtain ⟨h1, h2⟩ := dig_is hd
     exact .inl ⟨rfl, by omega, by omega, hd ▸ rfl, h2⟩
   | none =>
     by_cases hr : n < 0 ∨ 999999999 < n
     · exact .inr (.inr (.inl ⟨rfl, hd, hr⟩))
     · refine .inr (.inl ⟨rfl, by omega, by omega, hd, fun e => ?_⟩)
       obtain ⟨u, rfl⟩ : ∃ u : Nat, n = u := ⟨n.toNat, by omega⟩
       have h1 := itoa_not hp hd u (by omega)
       rw [itoa_dec u (by omega)] at h1
       have h2 := congrArg (fun b : ByteArray => b.data.toList) e
       exact h1 h2
 · exact .inr (.inr (.inr h))
def rlV (l : List Nat) : List Nat × List Int := match numsL (cutT 32 l).tail with
 | none => ([], [])
 | some ns => ((cutT 32 l).getD 0 [], ns)
theorem numsL_cons (p : List Nat) (r : List (List Nat)) : numsL (p :: r) = match digT p with | none => none | some n => (numsL r).map ((n : Int) :: ·) := by
 rw [numsL]
 cases digT p with
 | none => rfl
 | some n => cases numsL r <;> rfl
set_option maxRecDepth 100000 in
set_option maxHeartbeats 2000000 in
theorem readLine_in (l : List Nat) (hl : ∀ x ∈ l, x < 256) (hn : l.length ≤ 1100000) (w : World) (hE : Env w) : Calls Tryz.prog 91 #[.string (str l)] w fun e w' =>
 ∃ v, e = .returned (.tuple #[.string (str (rlV l).1), v]) ∧ w'.ownsRow w.heap.size 3 1 v (rlV l).2.length ((rlV l).2.map (Value.int .i64)) ∧ Below w.heap.size w w' := by
 have hS := hide (spaces_in l hl (by omega) w hE)
 have hpos := cutL_pos 32 l []
 have hlen : (cutT 32 l).length ≤ l.length + 1 := cutL_len l
 have hmem : ∀ i, (∀ c ∈ (cutT 32 l).getD i [], c < 256) ∧ ((cutT 32 l).getD i []).length ≤ 2000000 := fun i => by
  by_cases hi : i < (cutT 32 l).length
  · have := cutL_mem 32 l [] ((cutT 32 l).getD i []) (word_mem _ i hi)
    exact ⟨fun c hc => hl c ((this.1 c hc).resolve_left (by simp)), lT9 this.2 (by simp; omega)⟩
  · rw [List.getD, List.getElem?_eq_none (by omega)]; simp
 have hrl : rlV l = match numsL (cutT 32 l).tail with | none => ([], []) | some ns => ((cutT 32 l).getD 0 [], ns) := rfl
 generalize rlV l = res at *
 change 0 < (cutT 32 l).length at hpos
 obtain ⟨ws, hws⟩ : ∃ ws, cutT 32 l = ws := ⟨_, rfl⟩
 rw [hws] at hS hpos hlen hmem hrl
 obtain ⟨n, hwn⟩ : ∃ n, ws.length = n := ⟨_, rfl⟩
 have hS := hS.out
 rw [hwn] at hS hpos hlen
 generalize str l = S at *
 clear hws hl
 have hf0 : numsL ws.tail = none → res = ([], []) := fun e => by rw [hrl, e]
 have hf1 : ∀ ns, numsL ws.tail = some ns → res = (ws.getD 0 [], ns) := fun ns e => by rw [hrl, e]
 replace hf0 := hide hf0
 replace hf1 := hide hf1
 have hst : Hid (numsL ws.tail = (numsL (ws.drop 1)).map ([] ++ ·)) := hide (by rw [List.drop_one]; cases numsL ws.tail <;> rfl)
 clear hrl
 by_cases h1 : n = 1
 · subst h1
   go_enter Tryz.func91, Tryz.ntmps91
   go_wp2_with (go_at_call 123; refine hS.mono ?_; clear hS; rintro e w1 ⟨rfl, hc, hB1⟩)
   have hc0 := hc 0 (by omega)
   obtain ⟨P0, hP0⟩ : ∃ P0, str (ws.getD 0 []) = P0 := ⟨_, rfl⟩
   rw [hP0] at hc0
   clear hc
   go_loopw [5, 15] (fun o a wr => o = .slice none 0 0 ∧ a = .int .i64 0 ∧ wr = w1) (fun _ _ _ => 0)
   case atStart => exact ⟨rfl, rfl, rfl⟩
   case round =>
    obtain ⟨rfl, rfl, rfl⟩ := hrel
    go_wp2
    have hr := hf1.out [] (by rw [hst.out, List.drop_eq_nil_of_le (by omega)]; rfl)
    go_ret2
    rw [hr, hP0]
    exact ⟨_, rfl, World.ownsRow_nil _ _ _ _, hB1⟩
 have hn1 : (1 : Int) ≤ (n : Int) := by omega
 have hn2 : ¬ n = 1 := h1
 go_enter Tryz.func91, Tryz.ntmps91
 go_wp2_with (go_at_call 123; refine hS.mono ?_; clear hS; rintro e w1 ⟨rfl, hc, hB1⟩)
 have hsz0 : w.heap.size < w1.heap.size := World.block_lt_of_cell? _ _ (hc 0 (by omega))
 have hcW : ∀ W, Below w1.heap.size w1 W → ∀ i, i < n → W.cell? ⟨w.heap.size, i, none⟩ = some (.string (str (ws.getD i []))) := fun W hW i hi => (hW.cell (p := ⟨w.heap.size, i, none⟩) hsz0).trans (hc i hi)
 have hE1 := hE.below hB1
 replace hcW := hide hcW
 clear hc
 go_loopw [5, 15] (fun o a wr => ∃ (i : Nat) (xs : List Int), i < n ∧ xs.length = i ∧ a = .int .i64 i ∧ wr.ownsRow w1.heap.size 3 1 o xs.length (xs.map (Value.int .i64)) ∧ Hid (numsL ws.tail = (numsL (ws.drop (i + 1))).map (xs ++ ·)) ∧ Below w1.heap.size w1 wr) (fun _ a _ => n - (intOf a).toNat)
 case atStart => exact ⟨0, [], by omega, rfl, rfl, World.ownsRow_nil _ _ _ _, hst, Below.refl _ _⟩
 case round =>
  clear hst
  obtain ⟨i, xs, hi, hxi, rfl, hown, hst, hB⟩ := hrel
  have hEr := hE1.below hB
  by_cases hlt : i + 1 < n
  · have hcell := hcW.out _ hB (i + 1) hlt
    have hcell' : wr.cell? ⟨w.heap.size, 1 + i, none⟩ = some (.string (str (ws.getD (i + 1) []))) := by rw [Nat.add_comm 1 i]; exact hcell
    obtain ⟨hp, hpl⟩ := hmem (i + 1)
    have hdr : ws.drop (i + 1) = ws.getD (i + 1) [] :: ws.drop (i + 2) := by
     rw [List.drop_eq_getElem_cons (by omega), List.getD, eG9 (by omega)]; rfl
    have hst' := hst.out
    rw [hdr, numsL_cons] at hst'
    obtain ⟨p, hpe⟩ : ∃ p, ws.getD (i + 1) [] = p := ⟨_, rfl⟩
    rw [hpe] at hcell hcell' hp hpl hst'
    have hAt := fun V hV => atoi_in p hp hpl V hV
    have hSaid := fun n ev h => said_of (n := n) (ev := ev) hp h
    obtain ⟨T, hT⟩ : ∃ T, str p = T := ⟨_, rfl⟩
    have hlti : (i : Int) < (n : Int) - 1 := by omega
    have hlti2 : (i : Int) < ((n - 1 : Nat) : Int) := by omega
    clear hdr hst hpe
    rw [hT] at hcell hcell' hAt hSaid
    go_wp2_with (go_at_call 124; refine (hAt _ hEr).mono ?_; clear hAt)
    rintro e w2 ⟨⟨m, ev, rfl, hcase⟩, hB2⟩
    have hE2 := hEr.below hB2
    have hB12 : Below w1.heap.size w1 w2 := hB.trans (hB2.mono hB.size)
    have hbad : ∀ W, Below w2.heap.size w2 W → digT p = none → ∃ v, (Ending.returned (.tuple #[.string ⟨#[]⟩, .slice none 0 0])) = .returned (.tuple #[.string (str res.1), v]) ∧ W.ownsRow w.heap.size 3 1 v res.2.length (res.2.map (Value.int .i64)) ∧ Below w.heap.size w W := fun W hW hd => by
     have hr := hf0.out (by rw [hst', hd]; rfl)
     rw [hr]
     exact ⟨_, rfl, World.ownsRow_nil _ _ _ _, hB1.trans ((hB12.trans (hW.mono hB12.size)).mono hB1.size)⟩
    rcases hSaid _ _ hcase with ⟨rfl, m0, m1, hd, hdec⟩ | ⟨rfl, m0, m1, hd, hne⟩ | ⟨rfl, hd, hm⟩ | ⟨hd, t, B, rfl⟩
    · have hIt := fun V hV => itoaAll_in m m0 m1 V hV
      rw [hdec, hT] at hIt
      have hWi := fun V => within_t m 999999999 V m0 m1
      have hown2 := own_more hown (hB2)
      have hnx := hide (show numsL ws.tail = (numsL (ws.drop (i + 1 + 1))).map ((xs ++ [m]) ++ ·) by
       rw [hst', hd]
       simp only
       have e : ((m.toNat : Nat) : Int) = m := by omega
       rw [e]
       cases numsL (ws.drop (i + 2)) <;> simp)
      clear hbad hcase hSaid hst'
      go_wp2_with (first
       | (go_at_call 55; refine (hWi _).mono ?_; clear hWi; rintro e w3 ⟨rfl, rfl⟩)
       | (go_at_call 58; refine (hIt _ hE2).mono ?_; clear hIt; rintro e w4 ⟨rfl, hB4⟩; have hown4 := own_more hown2 hB4; have hs4 := hB4.size; have hs12 := hB12.size)
       | (at_builtin; refine append_one rfl _ _ rfl w1.heap.size _ _ _ rfl hown4 rfl (by omega) (by omega) ?_; intro v' w5 hown5 hgr))
      have hB5 : Below w1.heap.size w1 w5 := ((hB12.trans (hB4.mono hB12.size)).alloc (by omega) _).grown hgr (by rw [World.size_alloc]; omega) (fun q hq => (hown4.lt q hq).1)
      go_roundw
      case rel => exact ⟨i + 1, xs ++ [m], hlt, by simp [hxi], by go_num, by simpa using hown5, hnx, hB5⟩
      case measure => simp [intOf]; omega
    · have hIt := fun V hV => itoaAll_in m m0 m1 V hV
      obtain ⟨D, hD⟩ : ∃ D, str (decF 20 m.toNat) = D := ⟨_, rfl⟩
      rw [hD] at hIt hne
      rw [hT] at hne
      have hne2 := (Lib.bytes_beq_false_iff D T).2 hne
      have hWi := fun V => within_t m 999999999 V m0 m1
      clear hcase hSaid
      go_wp2_with (first
       | (go_at_call 55; refine (hWi _).mono ?_; clear hWi; rintro e w3 ⟨rfl, rfl⟩)
       | (go_at_call 58; refine (hIt _ hE2).mono ?_; clear hIt; rintro e w4 ⟨rfl, hB4⟩))
      go_ret2
      exact hbad _ hB4 hd
    · have hWi := fun V => within_f m 999999999 V hm
      clear hcase hSaid
      go_wp2_with (go_at_call 55; refine (hWi _).mono ?_; clear hWi; rintro e w3 ⟨rfl, rfl⟩)
      go_ret2
      exact hbad _ (Below.refl _ _) hd
    · clear hcase hSaid
      go_wp2
      go_ret2
      exact hbad _ (Below.refl _ _) hd
  · obtain rfl : i = n - 1 := by omega
    have hc0 := hcW.out _ hB 0 (by omega)
    have hst' := hst.out
    rw [List.drop_eq_nil_of_le (by omega)] at hst'
    have hr := hide (hf1.out xs (by rw [hst']; simp [numsL]))
    obtain ⟨P0, hP0⟩ : ∃ P0, str (ws.getD 0 []) = P0 := ⟨_, rfl⟩
    rw [hP0] at hc0
    have hlti : ¬ (((n - 1 : Nat) : Int)) < (n : Int) - 1 := by omega
    have hown' := own_fromD hown (Nat.le_of_lt hsz0)
    have hB' := hB1.trans (hB.mono hB1.size)
    clear hst hst'
    go_wp2
    go_ret2
    rw [hr.out, hP0]
    exact ⟨_, rfl, hown', hB'⟩
end
section
def qW (i : Nat) : List Nat := match i with
 | 0 => [114, 111, 119]
 | 1 => [111, 110, 101, 115]
 | 2 => [108, 97, 115, 116]
 | 3 => [101, 110, 100]
 | 4 => [98, 97, 108, 97, 110, 99, 101, 100]
 | 5 => [115, 104, 97, 114, 101, 100]
 | 6 => [119, 97, 121, 115]
 | 7 => [99, 101, 108, 108]
 | 8 => [107, 101, 112, 116]
 | 9 => [108, 101, 102, 116]
 | 10 => [111, 102, 116, 101, 110]
 | 11 => [99, 97, 114, 114, 105, 101, 115]
 | _ => []
def qC (i : Nat) : Nat := if i < 5 then 0 else if i < 7 then 1 else if i < 9 then 2 else if i < 12 then 3 else 0
def qA (row ns : List Int) (i : Nat) : List Nat := match i with
 | 0 => rowTx row
 | 1 => toldI (onesV row)
 | 2 => toldI (endV row)
 | 3 => toldI (endI row)
 | 4 => if 4 * onesV row = (row.length : Int) * ((row.length : Int) + 1) then [121, 101, 115] else [110, 111]
 | 5 => toldI (sharedV (ns.getD 0 0))
 | 6 => toldI (waysV (ns.getD 0 0))
 | 7 => toldI (cellV (ns.getD 0 0) (ns.getD 1 0))
 | 8 => toldI (keepV (ns.getD 0 0) (ns.getD 1 0))
 | 9 => toldI (leftV (ns.getD 0 0) (ns.getD 1 0) (ns.getD 2 0))
 | 10 => toldI (cellTV (ns.getD 0 0) (ns.getD 1 0) (ns.getD 2 0))
 | 11 => toldI (carriesV (ns.getD 0 0) (ns.getD 1 0) (ns.getD 2 0))
 | _ => []
def qI (W : List Nat) : Nat :=
 if W = qW 0 then 0 else if W = qW 1 then 1 else if W = qW 2 then 2 else if W = qW 3 then 3 else if W = qW 4 then 4 else if W = qW 5 then 5
 else if W = qW 6 then 6 else if W = qW 7 then 7 else if W = qW 8 then 8 else if W = qW 9 then 9 else if W = qW 10 then 10 else if W = qW 11 then 11 else 12
theorem qI_all : ((List.range 12).all fun i => decide (qI (qW i) = i) && decide ((qW i).length ≤ 8) && (qW i).all fun c => decide (c < 256)) = true := by decide
theorem qI_at {i : Nat} (h : i < 12) : qI (qW i) = i := by
 have := List.all_eq_true.1 qI_all i (List.mem_range.2 h)
 simp only [Bool.and_eq_true, decide_eq_true_eq] at this
 exact this.1.1
theorem qW_byte {i : Nat} (h : i < 12) : ∀ c ∈ qW i, c < 256 := by
 have := List.all_eq_true.1 qI_all i (List.mem_range.2 h)
 simp only [Bool.and_eq_true, decide_eq_true_eq, List.all_eq_true] at this
 exact this.2
theorem qI_is {W : List Nat} (h : qI W < 12) : W = qW (qI W) := by
 unfold qI at h ⊢
 by_cases h0 : W = qW 0
 · simp only [if_pos h0]; exact h0
 simp only [if_neg h0] at h ⊢
 by_cases h1 : W = qW 1
 · simp only [if_pos h1]; exact h1
 simp only [if_neg h1] at h ⊢
 by_cases h2 : W = qW 2
 · simp only [if_pos h2]; exact h2
 simp only [if_neg h2] at h ⊢
 by_cases h3 : W = qW 3
 · simp only [if_pos h3]; exact h3
 simp only [if_neg h3] at h ⊢
 by_cases h4 : W = qW 4
 · simp only [if_pos h4]; exact h4
 simp only [if_neg h4] at h ⊢
 by_cases h5 : W = qW 5
 · simp only [if_pos h5]; exact h5
 simp only [if_neg h5] at h ⊢
 by_cases h6 : W = qW 6
 · simp only [if_pos h6]; exact h6
 simp only [if_neg h6] at h ⊢
 by_cases h7 : W = qW 7
 · simp only [if_pos h7]; exact h7
 simp only [if_neg h7] at h ⊢
 by_cases h8 : W = qW 8
 · simp only [if_pos h8]; exact h8
 simp only [if_neg h8] at h ⊢
 by_cases h9 : W = qW 9
 · simp only [if_pos h9]; exact h9
 simp only [if_neg h9] at h ⊢
 by_cases h10 : W = qW 10
 · simp only [if_pos h10]; exact h10
 simp only [if_neg h10] at h ⊢
 by_cases h11 : W = qW 11
 · simp only [if_pos h11]; exact h11
 simp only [if_neg h11] at h ⊢
 omega
def ansV (row : List Int) (l : List Nat) : List Nat :=
 if qI (rlV l).1 < 12 ∧ (rlV l).2.length = qC (qI (rlV l).1) then qA row (rlV l).2 (qI (rlV l).1) else whatT
theorem cutL_one : ∀ (r line : List Nat), (cutL 32 line r).tail = [] → cutL 32 line r = [line ++ r]
 | [], line, _ => by simp [cutL]
 | c :: r, line, h => by
   by_cases e : c = 32
   · subst e
     rw [cutL_hit] at h
     have := cutL_pos 32 r []
     simp at h
     rw [h] at this
     simp at this
   · rw [cutL_other e] at h ⊢
     rw [cutL_one r _ h]
     simp
theorem nums_len : ∀ {p : List (List Nat)} {ns : List Int}, numsL p = some ns → ns.length = p.length
 | [], ns, h => by cases h; rfl
 | w :: r, ns, h => by
   rw [numsL] at h
   split at h
   · cases h
   · split at h
     · cases h
     · rename_i h2
       cases h
       simp [nums_len h2]
theorem toldI_dec {n : Int} (h : 0 ≤ n) : toldI n = decI n := by unfold toldI; rw [if_neg (by omega)]
theorem ones_nn {row : List Int} (h : sideB row = true) : 0 ≤ onesV row := by unfold onesV; rw [if_pos h]; omega
theorem end_nn {row : List Int} (h : sideB row = true) : 0 ≤ endV row := by unfold endV; rw [if_pos h]; omega
theorem endI_told (row : List Int) : toldI (endI row) = if endB row = true then decI (endI row) else [110, 111, 110, 101] := by
 unfold endI endB
 cases endN row with
 | none => rfl
 | some r => simp only [Option.isSome_some, if_true]; exact toldI_dec (by omega)
theorem rl_word {i : Nat} (h : i < 5) : rlV (qW i) = (qW i, []) := by
 rcases (show i = 0 ∨ i = 1 ∨ i = 2 ∨ i = 3 ∨ i = 4 by omega) with rfl | rfl | rfl | rfl | rfl <;> rfl
theorem ans_word {row : List Int} {i : Nat} (h : i < 5) : ansV row (qW i) = qA row [] i := by
 unfold ansV
 rw [rl_word h]
 simp only
 rw [qI_at (by omega), if_pos ⟨by omega, by unfold qC; rw [if_pos h]; rfl⟩]
theorem ans_qa {row : List Int} (hs : sideB row = true) (l : List Nat) : ansV row l = qaV row l := by
 unfold qaV
 by_cases h0 : l = [114, 111, 119]
 · subst h0; rw [if_pos rfl]; exact ans_word (i := 0) (by omega)
 by_cases h1 : l = [111, 110, 101, 115]
 · subst h1; rw [if_neg h0, if_pos rfl, ← toldI_dec (ones_nn hs)]; exact ans_word (i := 1) (by omega)
 by_cases h2 : l = [108, 97, 115, 116]
 · subst h2; rw [if_neg h0, if_neg h1, if_pos rfl, ← toldI_dec (end_nn hs)]; exact ans_word (i := 2) (by omega)
 by_cases h3 : l = [101, 110, 100]
 · subst h3; rw [if_neg h0, if_neg h1, if_neg h2, if_pos rfl, ← endI_told]; exact ans_word (i := 3) (by omega)
 by_cases h4 : l = [98, 97, 108, 97, 110, 99, 101, 100]
 · subst h4; rw [if_neg h0, if_neg h1, if_neg h2, if_neg h3, if_pos rfl]; exact ans_word (i := 4) (by omega)
 rw [if_neg h0, if_neg h1, if_neg h2, if_neg h3, if_neg h4]
 have hne : ∀ i, i < 5 → l ≠ qW i := fun i hi => by
  rcases (show i = 0 ∨ i = 1 ∨ i = 2 ∨ i = 3 ∨ i = 4 by omega) with rfl | rfl | rfl | rfl | rfl <;> assumption
 clear h0 h1 h2 h3 h4
 unfold ansV wordsV rlV
 cases hn : numsL (cutT 32 l).tail with
 | none =>
   simp only
   rw [if_neg]
   rintro ⟨h, _⟩
   exact absurd h (by decide)
 | some ns =>
   simp only
   have hlen := nums_len hn
   have hone : ns.length = 0 → (cutT 32 l).getD 0 [] = l := fun h => by
    have ht : (cutT 32 l).tail = [] := List.eq_nil_of_length_eq_zero (by omega)
    have := cutL_one l [] ht
    unfold cutT
    rw [this]
    rfl
   obtain ⟨W, hW⟩ : ∃ W, (cutT 32 l).getD 0 [] = W := ⟨_, rfl⟩
   rw [hW] at hone ⊢
   by_cases hq : qI W < 12
   · have hWi := qI_is hq
     obtain ⟨i, hi⟩ : ∃ i, qI W = i := ⟨_, rfl⟩
     rw [hi] at hq hWi ⊢
     subst hWi
     by_cases h5 : i < 5
     · have hl : ns.length ≠ 0 := fun e => hne i h5 (hone e).symm
       rw [if_neg (fun h => hl (by have := h.2; unfold qC at this; rw [if_pos h5] at this; exact this))]
       unfold askV
       rcases (show i = 0 ∨ i = 1 ∨ i = 2 ∨ i = 3 ∨ i = 4 by omega) with rfl | rfl | rfl | rfl | rfl <;> simp [qW]
     · unfold askV
       rcases (show i = 5 ∨ i = 6 ∨ i = 7 ∨ i = 8 ∨ i = 9 ∨ i = 10 ∨ i = 11 by omega) with rfl | rfl | rfl | rfl | rfl | rfl | rfl <;> simp [qW, qC, qA]
   · rw [if_neg (fun h => hq h.1)]
     have hnw : ∀ i, i < 12 → W ≠ qW i := fun i hi e => hq (by rw [e, qI_at hi]; exact hi)
     unfold askV
     rw [if_neg (fun h => hnw 7 (by omega) h.1), if_neg (fun h => hnw 5 (by omega) h.1), if_neg (fun h => hnw 6 (by omega) h.1), if_neg (fun h => hnw 8 (by omega) h.1), if_neg (fun h => hnw 9 (by omega) h.1), if_neg (fun h => hnw 10 (by omega) h.1), if_neg (fun h => hnw 11 (by omega) h.1)]
theorem sharedV_big (n : Int) : sharedV n ≤ 1000000000000000000 := by
 unfold sharedV
 split
 · omega
 · rename_i h
   have := shared_le (n := n.toNat) (by omega) (by omega)
   omega
theorem waysV_big (n : Int) : waysV n ≤ 1000000000000000000 := by
 unfold waysV
 split
 · omega
 · rename_i h
   have := (cat_one n.toNat (by omega)).2.2.1
   omega
theorem cellV_big (n k : Int) : cellV n k ≤ 1000000000000000000 := by
 unfold cellV
 split
 · omega
 · rename_i h
   have := bin_max (n := n.toNat) k.toNat (by omega)
   omega
theorem keepV_big (n p : Int) : keepV n p ≤ 1000000000000000000 := by
 by_cases h : badK n p
 · rw [keepV_bad h]; omega
 · obtain ⟨N, P, rfl, rfl, h1, h3⟩ := badK_nat h
   rw [keepV_nat h1 h3]
   have := prm_two h3
   have := keep_le (p := P) (by omega) N
   omega
theorem leftV_big (n k p : Int) : leftV n k p ≤ 1000000000000000000 := by
 unfold leftV
 split
 · omega
 · rename_i h
   unfold badL at h
   obtain ⟨P, rfl, hP⟩ := prmI_t (p := p) (by cases e : prmI p; exact absurd (.inr (.inr (.inr (.inr e)))) h; rfl)
   have h2 := prm_two hP
   have : bin n.toNat k.toNat % P < P := Nat.mod_lt _ (by omega)
   simp only [Int.toNat_natCast]
   omega
theorem cellTV_big (n k p : Int) : cellTV n k p ≤ 1000000000000000000 := by
 unfold cellTV
 split
 · omega
 · rename_i h
   obtain ⟨P, rfl, hP⟩ := prmI_t (p := p) (by cases e : prmI p; exact absurd (.inr (.inr (.inr (.inr e)))) h; rfl)
   have h2 := prm_two hP
   have := cars_lt (p := P) (by omega) (n := n.toNat) (k := k.toNat) (by omega)
   simp only [Int.toNat_natCast]
   omega
theorem carriesV_big (x y b : Int) : carriesV x y b ≤ 1000000000000000000 := by
 unfold carriesV
 split
 · omega
 · rename_i h
   unfold bad2 at h
   have h1 := carL_le (b := b.toNat) 0 (pairs b.toNat x.toNat y.toNat) (by omega) (pairs_lt (by omega) _ _)
   have h2 := pairs_len (b := b.toNat) (by omega) x.toNat y.toNat
   omega
theorem onesV_big {row : List Int} (hs : sideB row = true) : onesV row ≤ 100 := by
 have hl := sideB_len hs
 have := few_ones (side_bit hs) (n := row.length) hl.2
 unfold onesV
 rw [if_pos hs]
 have h2 : row.length * (row.length + 1) ≤ 12 * 13 := Nat.mul_le_mul hl.2 (by omega)
 omega
theorem endV_big {row : List Int} (hs : sideB row = true) : endV row ≤ 1 := by
 have := st_le (side_bit hs) (row.length - 1) 0
 unfold endV
 rw [if_pos hs]
 omega
theorem endI_big (row : List Int) : endI row ≤ 2001 := by
 unfold endI
 cases h : endN row with
 | none => simp only; omega
 | some r =>
   simp only
   unfold endN at h
   split at h
   · have := (firstI_some.1 h).1; omega
   · cases h
end
section
open Go.RowKit Go.Maps
theorem keyS : Keyed Tryz.prog 9 := string_keyed Tryz.underlying9
theorem zeroQ (w : World) : (zeroValue 121).run Tryz.prog w = .ok (.agg #[.int .i64 0, .nilFunc]) w := by kernel_rfl
def qF (i : Nat) : Nat := match i with
 | 0 => 125
 | 1 => 126
 | 2 => 127
 | 3 => 128
 | 4 => 129
 | 5 => 130
 | 6 => 131
 | 7 => 132
 | 8 => 133
 | 9 => 134
 | 10 => 135
 | 11 => 136
 | _ => 0
def qV (i : Nat) : Value := .agg #[.int .i64 (qC i : Nat), .func (.func (qF i)) #[] #[]]
open Classical in
noncomputable def qR (v : Value) : Option (DataW Unit × List MemPlace) :=
 if h : ∃ p : Int × Nat, v = .agg #[.int .i64 p.1, .func (.func p.2) #[] #[]] then some (.agg [.lit (.int .i64 h.choose.1), .lit (.int .i64 (h.choose.2 : Nat))], [])
 else if h : ∃ n : Int, v = .agg #[.int .i64 n, .nilFunc] then some (.agg [.lit (.int .i64 h.choose)], []) else none
theorem qR_mk (n : Int) (f : Nat) : qR (.agg #[.int .i64 n, .func (.func f) #[] #[]]) = some (.agg [.lit (.int .i64 n), .lit (.int .i64 (f : Nat))], []) := by
 have h : ∃ p : Int × Nat, Value.agg #[.int .i64 n, .func (.func f) #[] #[]] = .agg #[.int .i64 p.1, .func (.func p.2) #[] #[]] := ⟨(n, f), rfl⟩
 unfold qR
 rw [dif_pos h]
 have := h.choose_spec
 generalize h.choose = p at this ⊢
 simp only [Value.agg.injEq, Array.mk.injEq, List.cons.injEq, Value.int.injEq, Value.func.injEq, Fn.func.injEq, true_and, and_true] at this
 rw [← this.1, ← this.2]
theorem qR_nil (n : Int) : qR (.agg #[.int .i64 n, .nilFunc]) = some (.agg [.lit (.int .i64 n)], []) := by
 have h0 : ¬ ∃ p : Int × Nat, Value.agg #[.int .i64 n, .nilFunc] = .agg #[.int .i64 p.1, .func (.func p.2) #[] #[]] := fun ⟨p, e⟩ => by simp at e
 have h : ∃ m : Int, Value.agg #[.int .i64 n, .nilFunc] = .agg #[.int .i64 m, .nilFunc] := ⟨n, rfl⟩
 unfold qR
 rw [dif_neg h0, dif_pos h]
 have := h.choose_spec
 generalize h.choose = p at this ⊢
 simp only [Value.agg.injEq, Array.mk.injEq, List.cons.injEq, Value.int.injEq, true_and, and_true] at this
 rw [← this]
theorem qR_inv {v : Value} {n f : Int} {ps : List MemPlace} (h : qR v = some (.agg [.lit (.int .i64 n), .lit (.int .i64 f)], ps)) : v = .agg #[.int .i64 n, .func (.func f.toNat) #[] #[]] := by
 by_cases h1 : ∃ p : Int × Nat, v = .agg #[.int .i64 p.1, .func (.func p.2) #[] #[]]
 · obtain ⟨p, rfl⟩ := h1
   rw [qR_mk] at h
   simp only [Option.some.injEq, Prod.mk.injEq, DataW.agg.injEq, List.cons.injEq, DataW.lit.injEq, Lit.int.injEq, true_and, and_true] at h
   obtain ⟨⟨rfl, rfl⟩, _⟩ := h
   rfl
 · by_cases h2 : ∃ n : Int, v = .agg #[.int .i64 n, .nilFunc]
   · obtain ⟨m, rfl⟩ := h2
     rw [qR_nil] at h
     simp at h
   · unfold qR at h
     rw [dif_neg h1, dif_neg h2] at h
     cases h
theorem qR_zero {v : Value} {n : Int} {ps : List MemPlace} (h : qR v = some (.agg [.lit (.int .i64 n)], ps)) : v = .agg #[.int .i64 n, .nilFunc] := by
 by_cases h1 : ∃ p : Int × Nat, v = .agg #[.int .i64 p.1, .func (.func p.2) #[] #[]]
 · obtain ⟨p, rfl⟩ := h1
   rw [qR_mk] at h
   simp at h
 · by_cases h2 : ∃ n : Int, v = .agg #[.int .i64 n, .nilFunc]
   · obtain ⟨m, rfl⟩ := h2
     rw [qR_nil] at h
     simp only [Option.some.injEq, Prod.mk.injEq, DataW.agg.injEq, List.cons.injEq, DataW.lit.injEq, Lit.int.injEq, true_and, and_true] at h
     obtain ⟨rfl, _⟩ := h
     rfl
   · unfold qR at h
     rw [dif_neg h1, dif_neg h2] at h
     cases h
abbrev OwnQM (w : World) (b n : Nat) (D : DataW Unit) : Prop := w.ownsMap Tryz.prog 9 qR b n D
def qK (l : List Nat) : Lit := .string (l.map UInt8.ofNat)
def qE (i : Nat) : DataW Unit := .agg [.lit (.int .i64 (qC i : Nat)), .lit (.int .i64 (qF i : Nat))]
def qD : Nat → DataW Unit
 | 0 => .map []
 | n + 1 => (qD n).put (qK (qW n)) (qE n)
theorem qPut {w : World} {b i : Nat} (h : OwnQM w b i (qD i)) (hn : i < 12) (s : ByteArray) (hs : s.data.toList = (qW i).map UInt8.ofNat) (c : Int) (hc : c = (qC i : Nat)) (f : Nat) (hf : f = qF i) :
 ∃ w', (Instr.mapUpdate 123 (.map (some b)) (.string s) (.agg #[.int .i64 c, .func (.func f) #[] #[]])).run Tryz.prog w = .ok () w' ∧ OwnQM w' b (i + 1) (qD (i + 1)) ∧ w.grownBy w' (some b) := by
 subst hc
 subst hf
 have hsz : s.size ≤ maxLen := by
  have h1 : s.size = (qW i).length := by
   show s.data.size = _
   rw [← Array.length_toList, hs, List.length_map]
  have h2 : (qW i).length ≤ 8 := by
   have := List.all_eq_true.1 qI_all i (List.mem_range.2 hn)
   simp only [Bool.and_eq_true, decide_eq_true_eq] at this
   exact this.1.2
  unfold maxLen; omega
 have hk : keyOf Tryz.prog 9 (.string s) = some (qK (qW i)) := by
  unfold qK
  rw [← hs]
  exact Go.WideMaps.keyOf_string_mk Tryz.underlying9 hsz
 exact World.ownsMap.update h keyS Tryz.underlying123 (by unfold maxLen; omega) hk (qR_mk _ _)
set_option maxRecDepth 100000 in
set_option maxHeartbeats 2000000 in
theorem questions_in (w : World) : Calls Tryz.prog 97 #[] w fun e w' => e = .returned (.map (some w.heap.size)) ∧ OwnQM w' w.heap.size 12 (qD 12) ∧ Below w.heap.size w w' := by
 have hmm := @run_makeMap Tryz.prog
 have h0 : OwnQM (w.alloc (.map #[] 0)) w.heap.size 0 (qD 0) := World.ownsMap_made w Tryz.prog 9 qR
 have hB0 : Below w.heap.size w (w.alloc (.map #[] 0)) := (Below.refl _ w).alloc (Nat.le_refl _) _
 obtain ⟨w1, r1, h1, g1⟩ := qPut h0 (by omega) ⟨#[114, 111, 119]⟩ (by kernel_rfl) 0 rfl 125 rfl
 obtain ⟨w2, r2, h2, g2⟩ := qPut h1 (by omega) ⟨#[111, 110, 101, 115]⟩ (by kernel_rfl) 0 rfl 126 rfl
 obtain ⟨w3, r3, h3, g3⟩ := qPut h2 (by omega) ⟨#[108, 97, 115, 116]⟩ (by kernel_rfl) 0 rfl 127 rfl
 obtain ⟨w4, r4, h4, g4⟩ := qPut h3 (by omega) ⟨#[101, 110, 100]⟩ (by kernel_rfl) 0 rfl 128 rfl
 obtain ⟨w5, r5, h5, g5⟩ := qPut h4 (by omega) ⟨#[98, 97, 108, 97, 110, 99, 101, 100]⟩ (by kernel_rfl) 0 rfl 129 rfl
 obtain ⟨w6, r6, h6, g6⟩ := qPut h5 (by omega) ⟨#[115, 104, 97, 114, 101, 100]⟩ (by kernel_rfl) 1 rfl 130 rfl
 obtain ⟨w7, r7, h7, g7⟩ := qPut h6 (by omega) ⟨#[119, 97, 121, 115]⟩ (by kernel_rfl) 1 rfl 131 rfl
 obtain ⟨w8, r8, h8, g8⟩ := qPut h7 (by omega) ⟨#[99, 101, 108, 108]⟩ (by kernel_rfl) 2 rfl 132 rfl
 obtain ⟨w9, r9, h9, g9⟩ := qPut h8 (by omega) ⟨#[107, 101, 112, 116]⟩ (by kernel_rfl) 2 rfl 133 rfl
 obtain ⟨w10, r10, h10, g10⟩ := qPut h9 (by omega) ⟨#[108, 101, 102, 116]⟩ (by kernel_rfl) 3 rfl 134 rfl
 obtain ⟨w11, r11, h11, g11⟩ := qPut h10 (by omega) ⟨#[111, 102, 116, 101, 110]⟩ (by kernel_rfl) 3 rfl 135 rfl
 obtain ⟨w12, r12, h12, g12⟩ := qPut h11 (by omega) ⟨#[99, 97, 114, 114, 105, 101, 115]⟩ (by kernel_rfl) 3 rfl 136 rfl
 have hl : ∀ j, some w.heap.size = some j → w.heap.size ≤ j := fun j hj => by cases hj; exact Nat.le_refl _
 have hB1 := hB0.grown g1 hB0.size hl
 have hB2 := hB1.grown g2 hB1.size hl
 have hB3 := hB2.grown g3 hB2.size hl
 have hB4 := hB3.grown g4 hB3.size hl
 have hB5 := hB4.grown g5 hB4.size hl
 have hB6 := hB5.grown g6 hB5.size hl
 have hB7 := hB6.grown g7 hB6.size hl
 have hB8 := hB7.grown g8 hB7.size hl
 have hB9 := hB8.grown g9 hB8.size hl
 have hB10 := hB9.grown g10 hB9.size hl
 have hB11 := hB10.grown g11 hB10.size hl
 have hB12 := hB11.grown g12 hB11.size hl
 clear hB0 hB1 hB2 hB3 hB4 hB5 hB6 hB7 hB8 hB9 hB10 hB11 g1 g2 g3 g4 g5 g6 g7 g8 g9 g10 g11 g12 h0 h1 h2 h3 h4 h5 h6 h7 h8 h9 h10 h11 hl
 go_enter Tryz.func97, Tryz.ntmps97
 go_wp2
 go_ret
 exact ⟨rfl, h12, hB12⟩
theorem qK_is (l : List Nat) : WideAt.IsKeyLit (qK l) := by unfold qK; simp [WideAt.IsKeyLit]
theorem qK_ne {i j : Nat} (hi : i < 12) (hj : j < 12) (h : i ≠ j) : qK (qW i) ≠ qK (qW j) := fun e => by
 have h1 : ((List.range 12).all fun i => (List.range 12).all fun j => decide (i = j) || !decide ((qW i).map UInt8.ofNat = (qW j).map UInt8.ofNat)) = true := by decide +kernel
 have h2 := List.all_eq_true.1 (List.all_eq_true.1 h1 i (List.mem_range.2 hi)) j (List.mem_range.2 hj)
 simp only [Bool.or_eq_true, decide_eq_true_eq, Bool.not_eq_true', decide_eq_false_iff_not] at h2
 unfold qK at e
 injection e with e
 exact h2.elim h (fun h3 => h3 e)
theorem qD_map : ∀ n, IsMap (qD n)
 | 0 => isMap_empty
 | n + 1 => by
   obtain ⟨es, he⟩ := qD_map n
   unfold qD
   rw [he]
   exact ⟨_, rfl⟩
theorem qD_at (z : DataW Unit) : ∀ n i, n ≤ 12 → i < n → (qD n).atKey (qK (qW i)) z = qE i ∧ has (qD n) (qK (qW i)) = true
 | 0, i, _, h => by omega
 | n + 1, i, hn, h => by
   unfold qD
   by_cases e : i = n
   · subst e
     exact ⟨atKey_put_same (qD_map _) (qK_is _) _ _, has_put_same (qD_map _) (qK_is _) _⟩
   · rw [atKey_put_other (qK_ne (by omega) (by omega) e), has_put_other (qK_ne (by omega) (by omega) e)]
     exact qD_at z n i (by omega) (by omega)
theorem qD_no (z : DataW Unit) (k : Lit) : ∀ n, n ≤ 12 → (∀ i, i < 12 → k ≠ qK (qW i)) → (qD n).atKey k z = z ∧ has (qD n) k = false
 | 0, _, _ => ⟨rfl, rfl⟩
 | n + 1, hn, h => by
   unfold qD
   rw [atKey_put_other (h n (by omega)), has_put_other (h n (by omega))]
   exact qD_no z k n (by omega) h
theorem qLook {w : World} {b : Nat} (h : OwnQM w b 12 (qD 12)) (p : List Nat) (hp : ∀ x ∈ p, x < 256) (hl : p.length ≤ 2000000) :
 ∃ v, (Instr.lookup 123 (.map (some b)) (.string (str p)) true).run Tryz.prog w = .ok (.tuple #[v, .bool (decide (qI p < 12))]) w ∧ (qI p < 12 → v = qV (qI p)) ∧ (¬ qI p < 12 → v = .agg #[.int .i64 0, .nilFunc]) := by
 have hd : (str p).data.toList = p.map UInt8.ofNat := str_data p
 have hk : keyOf Tryz.prog 9 (.string (str p)) = some (qK p) := by
  unfold qK
  rw [← hd]
  exact Go.WideMaps.keyOf_string_mk Tryz.underlying9 (by rw [str_size]; unfold maxLen; omega)
 obtain ⟨v, ps, h1, h2⟩ := World.ownsMap.look_ok h keyS Tryz.underlying123 (zeroQ w) (zd := .agg [.lit (.int .i64 0)]) (zp := []) (qR_nil 0) hk
 by_cases hq : qI p < 12
 · have hW := qI_is hq
   have h3 := qD_at (.agg [.lit (.int .i64 0)]) 12 (qI p) (Nat.le_refl _) hq
   rw [← hW] at h3
   rw [h3.2] at h1
   rw [h3.1] at h2
   refine ⟨v, by rw [decide_eq_true hq]; exact h1, fun _ => ?_, fun h => absurd hq h⟩
   have := qR_inv h2
   simpa [qV] using this
 · have h3 := qD_no (.agg [.lit (.int .i64 0)]) (qK p) 12 (Nat.le_refl _) (fun i hi e => hq (by
  unfold qK at e
  injection e with e
  have : p = qW i := by
   exact str_inj hp (qW_byte hi) e
  rw [this, qI_at hi]; exact hi))
   rw [h3.2] at h1
   rw [h3.1] at h2
   exact ⟨v, by rw [decide_eq_false hq]; exact h1, fun h => absurd h hq, fun _ => qR_zero h2⟩
end
section
open Go.RowKit
theorem itoaBig_in (n : Int) (h0 : 0 ≤ n) (h1 : n ≤ 1000000000000000000) (w : World) (hE : Env w) : Calls Tryz.prog 58 #[.int .i64 n] w fun e w' => e = .returned (.string (str (decI n))) ∧ Below w.heap.size w w' := by
 refine (Any.strconv_Itoa { Tryz.itoaA with } n (by omega) (by omega) w hE.pow).mono ?_
 obtain ⟨u, rfl⟩ : ∃ u : Nat, n = u := ⟨n.toNat, by omega⟩
 rintro e w' ⟨rfl, k, os, rfl⟩
 have e : Lib.itoa (u : Int) = (decF 20 u).map UInt8.ofNat := by
  rw [Lib.itoa_nonneg]
  exact dec_digits 20 u (Nat.lt_of_le_of_lt (show u ≤ 1000000000000000000 by omega) (by decide))
 rw [e]
 exact ⟨rfl, Lib.below_grow _ _ (Nat.le_refl _) _ _⟩
theorem implTold (n : Int) (h1 : n ≤ 1000000000000000000) (w : World) (hE : Env w) : Calls Tryz.prog 158 #[.int .i64 n] w fun e w' => e = .returned (.string (str (toldI n))) ∧ Below w.heap.size w w' := by
 by_cases h0 : n < 0
 · have e : toldI n = [110, 111, 110, 101] := by unfold toldI; rw [if_pos h0]
   rw [e]
   go_enter Tryz.func158, Tryz.ntmps158
   go_wp2
   go_ret
   exact ⟨rfl, Below.refl _ _⟩
 · rw [toldI_dec (by omega)]
   have hI := itoaBig_in n (by omega) h1 w hE
   obtain ⟨X, hX⟩ : ∃ X, str (decI n) = X := ⟨_, rfl⟩
   rw [hX] at hI ⊢
   go_enter Tryz.func158, Tryz.ntmps158
   go_wp2_with (go_at_call 58; refine hI.mono ?_; rintro e w1 ⟨rfl, hB⟩)
   go_ret
   exact ⟨rfl, hB⟩
end
section
open Go.RowKit Go.Shelf
theorem bldSize : (Tryz.prog.info? 87).map (·.size) = some 2 := by kernel_rfl
theorem bldLies : liesAt Tryz.prog Tryz.prog.depth 87 (2 / Tryz.prog.cellsOf 87) 0 87 1 = true := by kernel_rfl
theorem byteInfo : (Tryz.prog.info? 5).map (fun i => (i.zero, i.size, i.bytes)) = some (some (.int .u8 0), 1, 1) := by kernel_rfl
set_option maxHeartbeats 1000000 in
set_option maxRecDepth 100000 in
theorem check_used (b : Nat) (w : World) (h0 : w.cell? ⟨b, 0, none⟩ = some (.pointer (some ⟨b, 0, none⟩))) :
 Calls Tryz.prog 102 #[.pointer (some ⟨b, 0, none⟩)] w fun e w' => e = .returned (.tuple #[]) ∧ w' = w := by
 obtain ⟨j, hj, _⟩ := Option.map_eq_some_iff.1 bldSize
 go_enter Tryz.func102, Tryz.ntmps102
 go_wp2
 rw [Lib.run_neq_ptr_same w _ Tryz.underlying85 hj]
 go_wp2
 go_end0
 exact ⟨rfl, rfl⟩
set_option maxHeartbeats 1000000 in
set_option maxRecDepth 100000 in
theorem check_fresh (b : Nat) (w : World) (h0 : w.cell? ⟨b, 0, none⟩ = some (.pointer none)) (hsh : w.shape? b = some (87, 2)) (hfz : w.frozen? ⟨b, 0, none⟩ = false) :
 Calls Tryz.prog 102 #[.pointer (some ⟨b, 0, none⟩)] w fun e w' => e = .returned (.tuple #[]) ∧ w' = w.setCell ⟨b, 0, none⟩ (.pointer (some ⟨b, 0, none⟩)) := by
 obtain ⟨j, hj, hjs⟩ := Option.map_eq_some_iff.1 bldSize
 go_enter Tryz.func102, Tryz.ntmps102
 go_wp2
 rw [Lib.run_to_unsafe w ⟨b, 0, none⟩ Tryz.underlying85 Tryz.underlying140 hj (by rw [hjs]; decide) hsh (Nat.zero_lt_succ 1)]
 simp only [Result.andThen]
 rw [Oper.upon_value]
 go_wp2
 rw [run_callFunc_extern Tryz.func144 (by kernel_rfl) (by kernel_rfl) (by kernel_rfl) (e := Extern.AbiNoEscape.same) (by kernel_rfl)]
 rw [Lib.run_noEscape]
 simp only [Result.andThen]
 rw [Oper.upon_value]
 go_wp2
 rw [Lib.run_from_unsafe w ⟨b, 0, none⟩ Tryz.underlying140 Tryz.underlying85 hj hsh bldLies]
 simp only [Result.andThen]
 rw [Oper.upon_value]
 go_wp2
 go_end0
 exact ⟨rfl, rfl⟩
theorem check_in (B b : Nat) (bs : List Value) (w : World) (h : Lib.IsBuilderF 87 5 B b bs w) :
 Calls Tryz.prog 102 #[.pointer (some ⟨b, 0, none⟩)] w fun e w' => e = .returned (.tuple #[]) ∧ Lib.BuilderAtF 87 5 B b (.pointer (some ⟨b, 0, none⟩)) bs w' ∧ Below B w w' ∧ Lib.OthersKept 5 (some b) w w' := by
 rcases h with h | h
 · refine (check_fresh b w h.cell0 h.shape h.frozen0).mono ?_
   rintro e w' ⟨rfl, rfl⟩
   exact ⟨rfl, h.used _, (Below.refl B w).setCell (p := ⟨b, 0, none⟩) h.1 _, (Lib.OthersKept.refl _ _ w).setCell ⟨b, 0, none⟩ rfl _⟩
 · refine (check_used b w h.cell0).mono ?_
   rintro e w' ⟨rfl, rfl⟩
   exact ⟨rfl, h, Below.refl B _, Lib.OthersKept.refl _ _ _⟩
theorem bldExtraJ : Builder.Extra Tryz.prog Tryz.stringA_ren := {
 sizeBuilder := by kernel_rfl
 liesBuilder := by kernel_rfl
 t5 := Tryz.underlying5
 a5 := Tryz.isAgg5
 z5 := Tryz.sizeOf5
 v5 := Tryz.zeroValue5
 infoByte := by kernel_rfl
 cellsByte := by kernel_rfl
 sizeByte := by kernel_rfl
 neB5 := by decide }
set_option maxHeartbeats 2000000 in
set_option maxRecDepth 100000 in
theorem writeString_in (B b : Nat) (bs : List Value) (s : ByteArray) (w : World) (h : Lib.IsBuilderF 87 5 B b bs w) (hlen : bs.length + s.size ≤ 140737488355328) (hBw : B ≤ w.heap.size) :
 Calls Tryz.prog 59 #[.pointer (some ⟨b, 0, none⟩), .string s] w fun e w' => e = .returned (.tuple #[.int .i64 s.size, .nilIface]) ∧ Lib.BuilderAtF 87 5 B b (.pointer (some ⟨b, 0, none⟩)) (bs ++ Lib.strCells s) w' ∧ Below B w w' := by
 obtain ⟨i0, hi, hz0, hz1, hz2⟩ := info_parts byteInfo
 have hC := check_in B b bs w h
 go_enter Tryz.func59, Tryz.ntmps59
 go_wp2_with (go_at_call 102; refine hC.mono ?_)
 rintro e w1 ⟨rfl, h1, hb1, hk1⟩
 obtain ⟨hB, v, hbk, hown, hne⟩ := h1
 have c0 : w1.cell? ⟨b, 0, none⟩ = some (.pointer (some ⟨b, 0, none⟩)) := by rw [Lib.cell_of_heap hbk]; rfl
 have c1 : w1.cell? ⟨b, 1, none⟩ = some v := by rw [Lib.cell_of_heap hbk]; rfl
 go_wp2_with (at_builtin; refine Lib.wpList_append_own_stringF _ rfl _ _ 22 9 rfl B 5 i0 Tryz.underlying22 Tryz.underlying9 hi hz0 hz1 hz2 _ _ _ rfl hown s rfl ?c3 ?c4 ?c5 ?_)
 case c3 => unfold maxLen; omega
 case c4 => omega
 case c5 => have := hb1.size; omega
 intro v' w2 hown' hgrow _
 have hlt : b < w1.heap.size := (gE9.1 hbk).1
 have hb2 : w2.heap[b]? = some (.cells #[.pointer (some ⟨b, 0, none⟩), v] 87 (0, 0)) := by
  rw [hgrow.block b hlt (fun e => hne e.symm)]
  exact hbk
 have d0 : w2.cell? ⟨b, 0, none⟩ = some (.pointer (some ⟨b, 0, none⟩)) := by rw [Lib.cell_of_heap hb2]; rfl
 have d1 : w2.cell? ⟨b, 1, none⟩ = some v := by rw [Lib.cell_of_heap hb2]; rfl
 have f1 : w2.frozen? ⟨b, 1, none⟩ = false := Lib.frozen_of_heap hb2 1
 obtain ⟨ao, n', cap, rfl⟩ : ∃ ao n' cap, v' = .slice ao n' cap := by
  rcases hown'.2 with ⟨hv, _⟩ | ⟨g, cap, cur, fz, hv, _⟩
  · exact ⟨_, _, _, hv⟩
  · exact ⟨_, _, _, hv⟩
 go_wp2
 go_ret2
 refine ⟨rfl, ?_, ?_⟩
 · exact Lib.BuilderAtF.put (T := 87) (e := 5) hB hb2 (bs' := bs ++ Lib.strCells s) (by simpa [Lib.strCells_length] using hown') (by decide)
 · exact (hb1.grown hgrow (by have := hb1.size; omega) (fun k hk => (hown.lt k hk).1)).setCell (p := ⟨b, 1, none⟩) hB _
def BldJ (w : World) (b : Nat) (l : List Nat) : Prop := Lib.IsBuilderF 87 5 b b (Lib.byteCells (l.map UInt8.ofNat)) w
theorem BldJ.below {w w' : World} {b : Nat} {l : List Nat} (h : BldJ w b l) (hg : Below w.heap.size w w') : BldJ w' b l := by
 have go : ∀ p, Lib.BuilderAtF 87 5 b b p (Lib.byteCells (l.map UInt8.ofNat)) w → Lib.BuilderAtF 87 5 b b p (Lib.byteCells (l.map UInt8.ofNat)) w' := by
  rintro p ⟨h1, v, hb, hown, hne⟩
  refine ⟨h1, v, (hg.block b (gE9.1 hb).1).trans hb, hown.kept (row := none) ⟨hg.os, hg.tape, hg.output, hg.size, fun k hk _ => hg.block k hk⟩ (by cases v.ownBlock <;> simp), hne⟩
 exact h.imp (go _) (go _)
theorem BldJ.text {w : World} {b : Nat} {l : List Nat} (h : BldJ w b l) (hb : b ≤ w.heap.size) :
 Calls Tryz.prog 61 #[.pointer (some ⟨b, 0, none⟩)] w fun e w' => e = .returned (.string (str l)) ∧ Below b w w' :=
 (Any.Builder_String_any_k Tryz.stringA bldExtraJ b b _ w h hb).mono fun _ _ ⟨h1, _, h3, _⟩ => ⟨h1, h3⟩
theorem BldJ.str {w : World} {b : Nat} {l : List Nat} (h : BldJ w b l) (t : List Nat) (ht : t.length ≤ 100000000) (hl : l.length ≤ 100000000) (hb : b ≤ w.heap.size) :
 Calls Tryz.prog 59 #[.pointer (some ⟨b, 0, none⟩), .string (str t)] w fun e w' => e = .returned (.tuple #[.int .i64 t.length, .nilIface]) ∧ BldJ w' b (l ++ t) ∧ Below b w w' := by
 have hsz := str_size t
 refine (writeString_in b b _ (Go.Proofs.YtiaaefapbcjgmaaGreatDoor.str t) w h (by rw [Lib.byteCells_length, List.length_map]; omega) hb).mono ?_
 rintro e w' ⟨h1, h2, h3⟩
 rw [hsz] at h1
 refine ⟨h1, .inr ?_, h3⟩
 rw [List.map_append, Lib.byteCells_append]
 exact h2
end
section
open Go.RowKit
set_option maxHeartbeats 400000 in
set_option maxRecDepth 100000 in
theorem specRow_in (r : Nat) (hr : r ≤ 60) (w : World) : Calls Tryz.prog 148 #[.int .i64 r] w fun e w' =>
 ∃ v, e = .returned v ∧ w'.ownsRow w.heap.size 3 1 v (rowN r).length ((rowN r).map (Value.int .i64)) ∧ Below w.heap.size w w' := by
 have hd : decide ((r : Int) ≤ 60) = true := by simp; omega
 go_enter Tryz.func148, Tryz.ntmps148
 go_wp2
 go_loopw [3, 4] (fun out n wr => ∃ j : Nat, j ≤ r + 1 ∧ n = .int .i64 j ∧ wr.ownsRow w.heap.size 3 1 out (outSt j).length ((outSt j).map (Value.int .i64)) ∧ Below w.heap.size w wr)
  (fun _ n _ => r + 1 - (intOf n).toNat)
 case atStart => exact ⟨0, by omega, rfl, World.ownsRow_made _ _ _ (Nat.le_refl _) (by decide) rfl, (Below.refl _ _).alloc (Nat.le_refl _) _⟩
 case round =>
  obtain ⟨j, hj, rfl, hown, hB⟩ := hrel
  by_cases hjr : j ≤ r
  · have h60 : j ≤ 60 := by omega
    by_cases hj0 : j = 0
    · subst hj0
      go_wp2
      obtain ⟨wo, rfl⟩ : ∃ wo : World, wo = wr := ⟨_, rfl⟩
      go_loopw [5, 6] (fun nx k wi => nx = .slice (some ⟨wo.heap.size, 0, none⟩) 1 1 ∧ k = .int .i64 1 ∧ wi = wo.alloc (.cells #[.int .i64 1] 3)) (fun _ _ _ => 0)
      case atStart => exact ⟨rfl, rfl, rfl⟩
      case round =>
       obtain ⟨rfl, rfl, rfl⟩ := hrel
       go_wp2
       go_roundw
       case rel => exact ⟨1, by omega, rfl, ⟨rfl, .inr ⟨wo.heap.size, 1, _, rfl, hB.size, heap_alloc_new _ _, Nat.le_refl _, by decide, rfl, rfl⟩⟩, hB.alloc hB.size _⟩
       case measure => simp [intOf]
    · rw [outSt_len] at hown
      obtain ⟨g, cap, rfl, hg1, hg2, hg3, hcells⟩ := owns_open hown (by omega)
      go_wp2
      obtain ⟨wo, rfl⟩ : ∃ wo : World, wo = wr := ⟨_, rfl⟩
      go_loopw [5, 6] (fun nx k wi => ∃ i : Nat, 1 ≤ i ∧ i ≤ j ∧ k = .int .i64 i ∧ wi.ownsRow wo.heap.size 3 1 nx i ((rowP j i).map (Value.int .i64)) ∧ Below wo.heap.size wo wi)
       (fun _ k _ => j - (intOf k).toNat)
      case atStart =>
       refine ⟨1, Nat.le_refl _, by omega, rfl, ?_, (Below.refl _ _).alloc (Nat.le_refl _) _⟩
       rw [rowP_one]
       exact ⟨rfl, .inr ⟨wo.heap.size, 1, _, rfl, Nat.le_refl _, heap_alloc_new _ _, Nat.le_refl _, by decide, rfl, rfl⟩⟩
      case round =>
       obtain ⟨i, hi1, hij, rfl, hown2, hB2⟩ := hrel
       by_cases hlt : i < j
       · obtain ⟨k, rfl⟩ : ∃ k, i = k + 1 := ⟨i - 1, by omega⟩
         have hca : wr.cell? ⟨g, k + 1, none⟩ = some (.int .i64 (bin (j - 1) (k + 1))) := (hB2.cell (by exact hg2)).trans (hcells _ _ (by rw [List.getElem?_map, outSt_get _ _ hlt]; rfl))
         have hcb : wr.cell? ⟨g, k, none⟩ = some (.int .i64 (bin (j - 1) k)) := (hB2.cell (by exact hg2)).trans (hcells _ _ (by rw [List.getElem?_map, outSt_get _ _ (by omega)]; rfl))
         have hkj : k < j := by omega
         clear hcells
         go_wp2
         have hsum : ((bin (j - 1) k : Int) + bin (j - 1) (k + 1)) = bin j (k + 1) := by have := bin_sum j (k + 1) hi1 hlt; simp at this; omega
         have hsm := bin_small (j - 1) k (by omega)
         have hsm2 := bin_small (j - 1) (k + 1) (by omega)
         have hw1 : IntKind.i64.wrap (k : Int) = k := IntWalk.i64_in _ (by omega)
         have hw2 : IntKind.i64.wrap ((bin (j - 1) k : Int) + bin (j - 1) (k + 1)) = bin j (k + 1) := by rw [← hsum]; exact IntWalk.i64_in _ (by omega)
         have hw3 : ((k : Int) + 1).toNat = k + 1 := by omega
         have hw4 : (k : Int) + 1 < j := by omega
         have hw5 : (0 : Int) ≤ (k : Int) + 1 := by omega
         clear hsum
         go_region_law ((refine step_append_one (by rfl) _ _ (by rfl) wo.heap.size _ _ _ (by rfl) hown2.drew (by rfl) (by omega) (by have := hB2.size; simp; omega) ?_; intro v' w1 hown' hgrow))
         all_goals
          go_wp2
          go_roundw
          case rel => exact ⟨k + 1 + 1, by omega, by omega, by go_num, by have := hown'; rw [rowP_snoc, List.map_append]; exact this, (hB2.drew.alloc (by have := hB2.size; simp; omega) _).grown hgrow (by have := hB2.size; simp; omega) (fun b hb => (hown2.lt b hb).1)⟩
          case measure => simp [intOf]; omega
       · obtain rfl : i = j := by omega
         go_wp2_with (at_builtin; refine append_one rfl _ _ rfl wo.heap.size _ _ _ rfl hown2 rfl (by omega) (by have := hB2.size; omega) ?_; intro v' w1 hown' hgrow)
         go_roundw
         case rel =>
          refine ⟨i + 1, by omega, by go_num, ?_, ?_⟩
          · rw [outSt_len]; simpa [outSt, ← rowP_last] using owns_from hown' hB.size
          · exact (hB.trans (((hB2.alloc (by exact hB2.size) _).grown hgrow (by have := hB2.size; simp; omega) (fun b hb => (hown2.lt b hb).1)).mono hB.size))
         case measure => simp [intOf]; omega
  · obtain rfl : j = r + 1 := by omega
    go_wp2
    go_ret
    exact ⟨_, rfl, hown, hB⟩
theorem specCell (row place : Int) (w : World) : Calls Tryz.prog 113 #[.int .i64 row, .int .i64 place] w fun e w' =>
 e = .returned (.int .i64 (cellV row place)) ∧ Below w.heap.size w w' := by
 by_cases h1 : row < 0 ∨ 60 < row
 · have hv := hide (cellV_bad (row := row) (place := place) (by omega))
   go_enter Tryz.func113, Tryz.ntmps113
   go_wp2_with (go_at_call 95; refine (l1In_f _ _ _ _ (by assumption)).mono ?_; rintro e w' ⟨rfl, rfl⟩)
   go_ret
   exact ⟨ret_int hv.out.symm, Below.refl _ _⟩
 · by_cases h2 : place < 0
   · have hv := hide (cellV_bad (row := row) (place := place) (by omega))
     have h1a : 0 ≤ row := by omega
     have h1b : row ≤ 60 := by omega
     clear h1
     go_enter Tryz.func113, Tryz.ntmps113
     go_wp2_with (go_at_call 95; refine (l1In_t _ _ _ _ (by assumption) (by assumption)).mono ?_; rintro e w' ⟨rfl, rfl⟩)
     go_ret
     exact ⟨ret_int hv.out.symm, Below.refl _ _⟩
   · obtain ⟨r, rfl⟩ : ∃ r : Nat, row = r := ⟨row.toNat, by omega⟩
     obtain ⟨k, rfl⟩ : ∃ k : Nat, place = k := ⟨place.toNat, by omega⟩
     have h6 : r ≤ 60 := by omega
     have hv := hide (cellV_nat (k := k) h6)
     have h1a : (0 : Int) ≤ r := by omega
     have h1b : (r : Int) ≤ 60 := by omega
     clear h1
     by_cases h3 : r < k
     · have hb := hide (bin_over r k h3)
       go_enter Tryz.func113, Tryz.ntmps113
       go_wp2_with (go_at_call 95; refine (l1In_t _ _ _ _ (by assumption) (by assumption)).mono ?_; rintro e w' ⟨rfl, rfl⟩)
       go_ret
       exact ⟨ret_int (by rw [hv.out, hb.out]; rfl), Below.refl _ _⟩
     · have h4 : k < r + 1 := by omega
       go_enter Tryz.func113, Tryz.ntmps113
       go_wp2_with (first | (go_at_call 95; refine (l1In_t _ _ _ _ (by assumption) (by assumption)).mono ?_; rintro e w' ⟨rfl, rfl⟩) | (go_at_call 148; refine (specRow_in _ (by assumption) _).mono ?_; rintro e w1 ⟨v, rfl, hown, hB⟩; rw [rowN_len] at hown; obtain ⟨g, cap, rfl, hg1, hg2, hg3, hcells⟩ := owns_open hown (by omega); have hc := hcells k (.int .i64 (bin r k)) (by rw [List.getElem?_map, rowN, List.getElem?_map, List.getElem?_range h4]; rfl); clear hcells))
       go_ret
       exact ⟨ret_int hv.out.symm, hB⟩
set_option maxHeartbeats 400000 in
theorem common_in (a b : Nat) (ha : a ≤ 4000000000000000000) (hb : b ≤ 4000000000000000000) (w : World) : Calls Tryz.prog 149 #[.int .i64 a, .int .i64 b] w fun e w' => e = .returned (.int .i64 (Nat.gcd a b : Nat)) ∧ w = w' := by
 obtain ⟨G, hG⟩ : ∃ G, Nat.gcd a b = G := ⟨_, rfl⟩
 rw [hG]
 have hG' := hide hG
 clear hG
 go_enter Tryz.func149, Tryz.ntmps149
 go_wp2
 go_loop [0, 1] (fun s t => ∃ x y : Nat, s = .int .i64 x ∧ t = .int .i64 y ∧ x ≤ 4000000000000000000 ∧ y ≤ 4000000000000000000 ∧ Hid (Nat.gcd x y = G)) (fun _ t => (intOf t).toNat)
 case atStart => exact ⟨a, b, rfl, rfl, ha, hb, hG'⟩
 case round =>
  clear hG' ha hb
  obtain ⟨x, y, rfl, rfl, hx, hy, hg⟩ := hrel
  by_cases h0 : 0 < y
  · have hq := tmod_n x y
    have hr := Nat.mod_lt x h0
    have hg' : Hid (Nat.gcd y (x % y) = G) := hide (by rw [← hg.out, Nat.gcd_comm x y, Nat.gcd_rec y x, Nat.gcd_comm])
    generalize x % y = r at *
    have hw1 : IntKind.i64.wrap (r : Int) = r := IntWalk.i64_in _ (by omega)
    have hy0 : ((y : Int) == 0) = false := by simp; omega
    clear hg
    go_wp2
    go_round
    case rel => exact ⟨y, r, rfl, rfl, hy, by omega, hg'⟩
    case measure => simp [intOf]; omega
  · obtain rfl : y = 0 := by omega
    have hg2 := hg.out
    rw [Nat.gcd_zero_right] at hg2
    subst hg2
    clear hg
    go_wp2
    go_ret
    exact ⟨rfl, rfl⟩
theorem bin_60 {n : Nat} (h : n ≤ 60) (k : Nat) : bin n k ≤ 1152921504606846976 := lT9 (bin_le n k) (lT9 (Nat.pow_le_pow_right (by omega) h) (by decide))
theorem gcdU_le (f : Nat → Nat) (m : Nat) (h : ∀ i, i < m → 0 < f i) (hl : ∀ i, i < m → f i ≤ 1152921504606846976) : gcdU f m ≤ 1152921504606846976 := by
 cases m with
 | zero => exact Nat.zero_le _
 | succ m =>
   show Nat.gcd (gcdU f m) (f m) ≤ _
   exact lT9 (Nat.le_of_dvd (h m (by omega)) (Nat.gcd_dvd_right _ _)) (hl m (by omega))
set_option maxHeartbeats 1000000 in
theorem specShared (row : Int) (w : World) : Calls Tryz.prog 114 #[.int .i64 row] w fun e w' => e = .returned (.int .i64 (sharedV row)) ∧ Below w.heap.size w w' := by
 by_cases hbad : row < 2 ∨ 60 < row
 · rw [sharedV_bad hbad]
   go_enter Tryz.func114, Tryz.ntmps114
   go_wp2_with (go_at_call 95; refine (l1In_f _ _ _ _ (by omega)).mono ?_; rintro e w' ⟨rfl, rfl⟩)
   go_ret
   exact ⟨rfl, Below.refl _ _⟩
 · obtain ⟨N, rfl⟩ : ∃ N : Nat, row = N := ⟨row.toNat, by omega⟩
   have hN2 : 2 ≤ N := by omega
   have hN : N ≤ 60 := by omega
   rw [sharedV_nat hN2 hN]
   obtain ⟨S, hS⟩ : ∃ S, shared N = S := ⟨_, rfl⟩
   rw [hS]
   have hS' := hide hS
   clear hbad hS
   go_enter Tryz.func114, Tryz.ntmps114
   go_wp2_with (first | (go_at_call 95; refine (l1In_t _ _ _ _ (by omega) (by omega)).mono ?_; rintro e w' ⟨rfl, rfl⟩) | (go_at_call 148; refine (specRow_in N hN _).mono ?_; rintro e w1 ⟨v, rfl, hown, hB⟩; rw [rowN_len] at hown; obtain ⟨g, cap, rfl, hg1, hg2, hg3, hcells⟩ := owns_open hown (by omega)))
   have hc : ∀ k, k < N + 1 → w1.cell? ⟨g, k, none⟩ = some (.int .i64 (bin N k : Nat)) := fun k hk => hcells k _ (by rw [List.getElem?_map]; unfold rowN; rw [List.getElem?_map, List.getElem?_range (by omega)]; rfl)
   clear hcells hown hg1 hg3
   go_loop [4, 5] (fun o i => ∃ j : Nat, j + 1 ≤ N ∧ i = .int .i64 ((j : Int) + 1) ∧ o = .int .i64 (gcdU (fun k => bin N (k + 1)) j : Nat)) (fun _ i => N - (intOf i).toNat)
   case atStart => exact ⟨0, by omega, rfl, rfl⟩
   case round =>
    obtain ⟨j, hj, rfl, rfl⟩ := hrel
    by_cases hlt : j + 1 < N
    · have hck := hc (j + 1) (by omega)
      have hcl := bin_60 hN (j + 1)
      have hgl := gcdU_le (fun k => bin N (k + 1)) j (fun i hi => bin_pos _ _ (by omega)) (fun i hi => bin_60 hN _)
      have hst : gcdU (fun k => bin N (k + 1)) (j + 1) = Nat.gcd (gcdU (fun k => bin N (k + 1)) j) (bin N (j + 1)) := rfl
      have hG := fun w => common_in (gcdU (fun k => bin N (k + 1)) j) (bin N (j + 1)) (by omega) (by omega) w
      rw [← hst] at hG
      clear hst hc
      generalize gcdU (fun k => bin N (k + 1)) j = x at *
      generalize bin N (j + 1) = c at *
      have hji : (j : Int) + 1 < (N : Int) := by omega
      have h1 : (0 : Int) ≤ (j : Int) + 1 := by omega
      have h2 : ((j : Int) + 1).toNat = j + 1 := by omega
      have h3 : (j : Int) + 1 < (N : Int) + 1 := by omega
      go_wp2_with (go_at_call 149; (with_reducible refine (hG _).mono ?_); rintro e w' ⟨rfl, rfl⟩)
      go_round
      case rel => exact ⟨j + 1, by omega, by go_num, rfl⟩
      case measure => simp [intOf]; omega
    · have hj1 : j = N - 1 := by omega
      have hji : ¬ (j : Int) + 1 < (N : Int) := by omega
      subst hj1
      have hS2 : gcdU (fun k => bin N (k + 1)) (N - 1) = S := hS'.out
      rw [hS2]
      clear hS' hS2
      go_wp2
      go_ret
      exact ⟨rfl, hB⟩
end
section
open Go.RowKit Go.Shelf
attribute [local go_sem] Oper.semAt_some
set_option maxHeartbeats 1000000 in
theorem two_in (a b : Nat) (ha : a ≤ 4000000000000000000) (hb : b ≤ 4000000000000000000) (w : World) : Calls Tryz.prog 221 #[.int .i64 a, .int .i64 b] w fun e w' => e = .returned (.int .i64 (Nat.gcd a b : Nat)) ∧ Below w.heap.size w w' := by
 obtain ⟨G, hG⟩ : ∃ G, Nat.gcd a b = G := ⟨_, rfl⟩
 rw [hG]
 have hG' := hide hG
 clear hG
 go_enter Tryz.func221, Tryz.ntmps221
 go_wp2
 go_loopw [0, 1] (fun s t wr => ∃ x y : Nat, s = .int .i64 x ∧ t = .int .i64 y ∧ x ≤ 4000000000000000000 ∧ y ≤ 4000000000000000000 ∧ Hid (Nat.gcd x y = G) ∧ Below w.heap.size w wr) (fun _ t _ => (intOf t).toNat)
 case atStart => exact ⟨a, b, rfl, rfl, ha, hb, hG', Below.refl _ _⟩
 case round =>
  clear hG' ha hb
  obtain ⟨x, y, rfl, rfl, hx, hy, hg, hB⟩ := hrel
  by_cases h0 : 0 < y
  · have hq := tmod_n x y
    have hr := Nat.mod_lt x h0
    have hg' : Hid (Nat.gcd y (x % y) = G) := hide (by rw [← hg.out, Nat.gcd_comm x y, Nat.gcd_rec y x, Nat.gcd_comm])
    generalize x % y = r at *
    have hw1 : IntKind.i64.wrap (r : Int) = r := IntWalk.i64_in _ (by omega)
    have hy0 : ((y : Int) == 0) = false := by simp; omega
    clear hg
    go_wp2
    go_quiet (fail)
    go_wp2
    go_roundw
    case rel => exact ⟨y, r, rfl, rfl, hy, by omega, hg', ⟨hB.os, hB.tape, hB.output, hB.size, hB.block⟩⟩
    case measure => simp [intOf]; omega
  · obtain rfl : y = 0 := by omega
    have hg2 := hg.out
    rw [Nat.gcd_zero_right] at hg2
    subst hg2
    clear hg
    go_wp2
    go_ret
    exact ⟨rfl, hB⟩
def NumHd (n : Nat) (_n0 : Nat) (pre : List Nat) (x : Nat) (_W : World) : Prop := pre = List.range x ∧ x < n
def NumS (n : Nat) (_n0 : Nat) (xs : List Nat) (_W : World) : Prop := xs = List.range n
set_option maxRecDepth 100000 in
set_option maxHeartbeats 1000000 in
theorem vals_stops (n B g off L cap : Nat) (f : Nat → Int) (hL : L ≤ 1000000) (hn : 1 ≤ n) (w : World) (hB : B < w.heap.size) (hg : g < w.heap.size)
 (hc : w.cell? ⟨B, 0, none⟩ = some (.slice (some ⟨g, off, none⟩) L cap)) (hv : ∀ i, i < L → w.cell? ⟨g, off + i, none⟩ = some (.int .i64 (f i))) :
 SeqMem Fence.wide n Tryz.prog 241 #[.pointer (some ⟨B, 0, none⟩)] 0 (fun _ (j : Nat) => #[.int .i64 (f j)])
  (NumHd L) (fun _ k => k = g) (NumS L) (fun _ _ _ => True) w := by
 intro l J Jx W hW hJ hJx hY h0
 have hc' := (hW.cell (p := ⟨B, 0, none⟩) hB).trans hc
 have hv' : ∀ i, i < L → W.cell? ⟨g, off + i, none⟩ = some (.int .i64 (f i)) := fun i hi => (hW.cell (p := ⟨g, off + i, none⟩) hg).trans (hv i hi)
 have hgW : g < W.heap.size := lL9 hg hW.size
 clear hc hv
 refine callsIn_of_wp Tryz.func241 rfl trivial ?_ rfl
 simp only [Tryz.ntmps241, List.size_toArray, List.length_cons, List.length_nil, Nat.reduceAdd, Nat.reduceSub, Array.replicate_succ, Array.replicate_zero, List.push_toArray, List.append_toArray, List.nil_append, List.cons_append]
 gi_wp2
 clear hc'
 gi_loopw [7] (fun i wr => ∃ j : Nat, j ≤ L ∧ i = .int .i64 (j : Int) ∧ J (List.range j) wr ∧ g < wr.heap.size ∧ ∀ i, i < L → wr.cell? ⟨g, off + i, none⟩ = some (.int .i64 (f i))) (fun i _ => L - (intOf i).toNat)
 case atStart => exact ⟨0, by omega, rfl, h0, hgW, hv'⟩
 case round =>
  clear hv' h0
  obtain ⟨j, hj, rfl, hJs, hgr, hvr⟩ := hrel
  by_cases hlt : j < L
  · have hi1 : (j : Int) < (L : Int) := by omega
    have hcj := hvr j hlt
    obtain ⟨z, hz⟩ : ∃ z, f j = z := ⟨_, rfl⟩
    obtain ⟨fn, tmps, assign, body, hy, hR⟩ := hY _ j wr hJs ⟨rfl, hlt⟩
    rw [hz] at hcj hy
    clear hY
    gi_wp2
    refine hR.mono ?_
    rintro e W3 (⟨rfl, hJ3, hk3⟩ | ⟨rfl, hJx3, hk3⟩)
    · have hc3 : ∀ i, i < L → W3.cell? ⟨g, off + i, none⟩ = some (.int .i64 (f i)) := fun i hi => (World.cell?_of_block (a := ⟨g, off + i, none⟩) (hk3.same g hgr rfl)).trans (hvr i hi)
      clear hvr hcj
      gi_wp2
      go_roundw
      case rel => exact ⟨j + 1, by omega, by go_num, by rw [List.range_succ]; exact hJ3, lL9 hgr hk3.size, hc3⟩
      case measure => simp [intOf]; omega
    · gi_wp2
      refine bodyPost_ret (results_none rfl _ _ _) rfl ?_
      exact ⟨⟨_, rfl⟩, .inr ⟨_, trivial, hJx3⟩⟩
  · obtain rfl : j = L := by omega
    have hi1 : ¬ (j : Int) < (j : Int) := by omega
    clear hvr
    gi_wp2
    go_end0
    exact ⟨⟨_, rfl⟩, .inl ⟨_, rfl, hJs⟩⟩
theorem second_in (u v : Value) (w : World) : Calls Tryz.prog 223 #[u, v] w fun e w' => e = .returned v ∧ w = w' := by
 go_enter Tryz.func223, Tryz.ntmps223
 go_wp2
 go_ret
 exact ⟨rfl, rfl⟩
set_option maxRecDepth 100000 in
set_option maxHeartbeats 1000000 in
theorem foldRows_in (r B : Nat) (hr : r ≤ 60) (w : World) (hB0 : B < w.heap.size) (hc0 : w.cell? ⟨B, 0, none⟩ = some (.int .i64 r)) :
 Calls Tryz.prog 222 #[.func (.func 182) #[] #[.pointer (some ⟨B, 0, none⟩)], .slice none 0 0, .func (.func 223) #[] #[]] w fun e w' =>
  ∃ g, e = .returned (.slice (some ⟨g, 0, none⟩) (r + 1) (r + 1)) ∧ RowAt w' g (r + 1) (fun i => (bin r i : Int)) ∧ w.heap.size ≤ g ∧ Below w.heap.size w w' := by
 refine (cW9 (n := 9)).1 ?_
 refine callsIn_of_wp_marks Tryz.func222 rfl trivial ?_ rfl
 simp only [Tryz.ntmps222, List.size_toArray, List.length_cons, List.length_nil, Nat.reduceAdd, Nat.reduceSub, Array.replicate_succ, Array.replicate_zero, List.push_toArray, List.append_toArray, List.nil_append, List.cons_append]
 gi_wp2
 obtain ⟨W0, hW0⟩ : ∃ W0, ((w.alloc (Obj.cells #[Value.slice none 0 0] 28)).alloc (Obj.cells #[Value.func (.func 223) #[] #[]] 217)) = W0 := ⟨_, rfl⟩
 have hsz1 : W0.heap.size ≤ w.heap.size + 2 := by rw [← hW0]; simp
 have hsz2 : w.heap.size + 2 ≤ W0.heap.size := by rw [← hW0]; simp
 have hbs : Boxed W0 w.heap.size 28 (.slice none 0 0) := by rw [← hW0]; exact (Boxed.new w _ _).alloc _
 have hbj : Boxed W0 (w.heap.size + 1) 217 (.func (.func 223) #[] #[]) := by rw [← hW0]; have := Boxed.new (w.alloc (Obj.cells #[Value.slice none 0 0] 28)) 217 (.func (.func 223) #[] #[]); rwa [World.size_alloc] at this
 have hbel : Below w.heap.size w W0 := by rw [← hW0]; exact ((Below.refl _ w).alloc (Nat.le_refl _) _).alloc (by simp) _
 rw [hW0]
 clear hW0
 refine wpIn_rangeFunc_mem rfl (by omega) (gf := 182) (lb := #[.pointer (some ⟨B, 0, none⟩)]) rfl trivial (enters_of Tryz.func182 (by kernel_rfl) rfl)
  (rows_stops (9 - 1) B r hr (by omega) W0 (by omega) ((hbel.cell (p := ⟨B, 0, none⟩) hB0).trans hc0)) (fun _ _ => rfl) (by omega)
  (fun pre x W o h => ⟨h.1, h.2.1, h.2.2.of_block (World.putObj_heap_other (by omega))⟩) (fun xs W o h => ⟨h.1, h.2.of_block (World.putObj_heap_other (by omega))⟩)
  (fun pre W o h => by obtain ⟨j, h1, h2, h3⟩ := h; exact ⟨j, h1, h2, h3.of_block (World.putObj_heap_other (by omega))⟩)
  (fun pre W => Boxed W w.heap.size 28 (lastV (W0.heap.size + 2) pre.length (r + 1)) ∧ Boxed W (w.heap.size + 1) 217 (.func (.func 223) #[] #[]) ∧ Below w.heap.size w W) (fun _ _ _ => False)
  (fun s A B row hs hg hr => ⟨hs.1.kept hg (fun e => by have := hr _ e.symm; omega), hs.2.1.kept hg (fun e => by have := hr _ e.symm; omega), hs.2.2.grown hg hs.2.2.size (fun k e => by have := hr _ e; omega)⟩)
  (fun _ _ _ _ _ hs _ _ => hs) ⟨hbs, hbj, hbel⟩
  (fun x => { tmps := #[.func (.func 182) #[] #[.pointer (some ⟨B, 0, none⟩)], .slice none 0 0, .func (.func 223) #[] #[], undef, .pointer (some ⟨w.heap.size, 0, none⟩), .pointer (some ⟨w.heap.size + 1, 0, none⟩), .slice none 0 0, .slice (some ⟨W0.heap.size + 2, 0, none⟩) (x + 1) (r + 1), .func (.func 182) #[] #[.pointer (some ⟨B, 0, none⟩)], .slice (some ⟨W0.heap.size + 2, 0, none⟩) (x + 1) (r + 1), undef, undef, undef, undef, undef], defers := [] }) ?assign ?body ?done ?stop
 case assign =>
  intro l x W K hK
  gi_wp2
  exact hK
 case body =>
  rintro l pre x W hlt ⟨hb, hbjj, hB⟩ ⟨hpre, hx, hrow⟩
  have hc := hb.cell
  have hf := hb.frozen
  have hcj := hbjj.cell
  gi_wp2_with (refine ⟨trivial, ?_⟩; gi_at_call 223; refine (cW9.2 (second_in _ _ _)).mono ?_; rintro e w1 ⟨rfl, rfl⟩)
  refine ⟨KeepsSet.setCell _ _ _ (by omega), ?_, hbjj.other (by omega) _, hB.setCell (p := ⟨w.heap.size, 0, none⟩) (Nat.le_refl _) _⟩
  have := hb.set (.slice (some ⟨W0.heap.size + 2, 0, none⟩) (x + 1) (r + 1))
  rw [show lastV (W0.heap.size + 2) (pre ++ [x]).length (r + 1) = .slice (some ⟨W0.heap.size + 2, 0, none⟩) (x + 1) (r + 1) by subst hpre; simp [lastV]]
  exact this
 case done =>
  rintro ys W ⟨rfl, hrow⟩ ⟨hb, hbjj, hB⟩ hK
  rw [show lastV (W0.heap.size + 2) (List.range (r + 1)).length (r + 1) = .slice (some ⟨W0.heap.size + 2, 0, none⟩) (r + 1) (r + 1) by simp [lastV]] at hb
  have hc := hb.cell
  gi_wp2
  refine ⟨by simp, .inl ⟨_, _, rfl, run_takeDeferred hK, ?_⟩⟩
  refine ⟨_, results_tmp rfl _ _ _, W0.heap.size + 2, rfl, hrow.of_block (World.putObj_heap_other (by omega)), by omega, ?_⟩
  exact hB.grown (grownBy_putObj' W _ _) hB.size (fun k e => by cases e; omega)
 case stop =>
  rintro c pre W _ h _
  exact h.elim
set_option maxHeartbeats 1000000 in
theorem lastRow_in (r : Nat) (hr : r ≤ 60) (w : World) : Calls Tryz.prog 197 #[.int .i64 r] w fun e w' =>
 ∃ g, e = .returned (.slice (some ⟨g, 0, none⟩) (r + 1) (r + 1)) ∧ RowAt w' g (r + 1) (fun i => (bin r i : Int)) ∧ Below w.heap.size w w' := by
 have hF : Calls Tryz.prog 222 #[.func (.func 182) #[] #[.pointer (some ⟨w.heap.size, 0, none⟩)], .slice none 0 0, .func (.func 223) #[] #[]] (w.alloc (.cells #[.int .i64 r] 3)) fun e w' =>
  ∃ g, e = .returned (.slice (some ⟨g, 0, none⟩) (r + 1) (r + 1)) ∧ RowAt w' g (r + 1) (fun i => (bin r i : Int)) ∧ Below w.heap.size w w' :=
  (foldRows_in r w.heap.size hr _ (by simp) (Boxed.new w 3 (.int .i64 r)).cell).mono fun e w' ⟨g, h1, h2, _, h4⟩ =>
   ⟨g, h1, h2, ((Below.refl _ w).alloc (Nat.le_refl _) _).trans (h4.mono (by simp))⟩
 go_enter Tryz.func197, Tryz.ntmps197
 go_wp2_with (first | (go_at_call 145; refine (rowsTo_in _ _).mono ?_; rintro e w' ⟨rfl, rfl⟩) | (go_at_call 222; refine hF.mono ?_; rintro e w2 ⟨g, rfl, hrow, hB⟩))
 go_ret
 exact ⟨g, rfl, hrow, hB⟩
theorem values_in (a : Option Addr) (l c : Nat) (w : World) : Calls Tryz.prog 220 #[.slice a l c] w fun e w' => e = .returned (.func (.func 241) #[] #[.pointer (some ⟨w.heap.size, 0, none⟩)]) ∧ w.alloc (.cells #[.slice a l c] 28) = w' := by
 have hmf : ∀ (fn : Fn) (first cap : Array Value) (w : World), (Instr.makeFunc fn first cap).run Tryz.prog w = .ok (.func fn first cap) w := fun _ _ _ _ => rfl
 go_enter Tryz.func220, Tryz.ntmps220
 go_wp2
 go_ret
 exact ⟨rfl, rfl⟩
end
section
open Go.RowKit Go.Shelf
set_option maxHeartbeats 1000000 in
theorem implWaysOf (up : Int) (w : World) : Calls Tryz.prog 164 #[.int .i64 up] w fun e w' => e = .returned (.int .i64 (waysV up)) ∧ Below w.heap.size w w' := by
 by_cases hbad : up < 0 ∨ 30 < up
 · rw [waysV_bad hbad]
   go_enter Tryz.func164, Tryz.ntmps164
   go_wp2_with (go_at_call 55; refine (within_f _ _ _ (by omega)).mono ?_; rintro e w' ⟨rfl, rfl⟩)
   go_ret
   exact ⟨rfl, Below.refl _ _⟩
 · obtain ⟨u, rfl⟩ : ∃ u : Nat, up = u := ⟨up.toNat, by omega⟩
   have hu : u ≤ 30 := by omega
   have hv := hide (waysV_nat hu)
   have hC : ∀ w, Calls Tryz.prog 63 #[.int .i64 (2 * (u : Int)), .int .i64 u] w fun e w' => e = .returned (.int .i64 (bin (2 * u) u : Nat)) ∧ Below w.heap.size w w' := fun w => by
    have h := implCell ((2 * u : Nat) : Int) u w
    rwa [cellV_nat (by omega), show ((2 * u : Nat) : Int) = 2 * (u : Int) by omega] at h
   have hb := bin_le (2 * u) u
   have hb2 : (2 : Nat) ^ (2 * u) ≤ 1152921504606846976 := lT9 (Nat.pow_le_pow_right (by omega) (show 2 * u ≤ 60 by omega)) (by decide)
   have hq := tdiv_n (bin (2 * u) u) (u + 1)
   have hc : bin (2 * u) u / (u + 1) = catN u := rfl
   have hd := Nat.div_le_self (bin (2 * u) u) (u + 1)
   rw [hc] at hq hd
   have hq' : Int.tdiv ((bin (2 * u) u : Nat) : Int) ((u : Int) + 1) = (catN u : Int) := hq
   generalize bin (2 * u) u = B at *
   generalize catN u = C at *
   have hw1 : IntKind.i64.wrap (C : Int) = C := IntWalk.i64_in _ (by omega)
   have hz : ((u : Int) + 1 == 0) = false := by simp; omega
   clear hbad hc hq
   go_enter Tryz.func164, Tryz.ntmps164
   go_wp2_with (first | (go_at_call 55; refine (within_t _ _ _ (by omega) (by omega)).mono ?_; rintro e w' ⟨rfl, rfl⟩) | (go_at_call 63; (with_reducible refine (hC _).mono ?_); rintro e w1 ⟨rfl, hB⟩))
   go_ret
   exact ⟨ret_int hv.out.symm, hB⟩
end
section
open Go.RowKit
theorem prime_tab : (List.range 17).all (fun p => prmI (p : Nat) == (decide (2 ≤ p) && (List.range p).all fun d => decide (d < 2) || !(p % d == 0))) = true := by decide
theorem prime_no {p d : Nat} (hp : p ≤ 16) (hd : 2 ≤ d) (hdp : d < p) (h : p % d = 0) : prmI p = false := by
 have h1 := List.all_eq_true.1 prime_tab p (List.mem_range.2 (by omega))
 rw [beq_iff_eq] at h1
 rw [h1, Bool.and_eq_false_iff]
 right
 rw [List.all_eq_false]
 exact ⟨d, List.mem_range.2 hdp, by simp [h]; omega⟩
theorem prime_yes {p : Nat} (hp : p ≤ 16) (h2 : 2 ≤ p) (h : ∀ d, 2 ≤ d → d < p → p % d ≠ 0) : prmI p = true := by
 have h1 := List.all_eq_true.1 prime_tab p (List.mem_range.2 (by omega))
 rw [beq_iff_eq] at h1
 rw [h1, Bool.and_eq_true]
 refine ⟨by simpa using h2, List.all_eq_true.2 fun d hd => ?_⟩
 have hd' := List.mem_range.1 hd
 by_cases e : 2 ≤ d
 · have := h d e hd'; simp [this]
 · simp; omega
set_option maxHeartbeats 400000 in
theorem specPrime (p : Int) (w : World) : Calls Tryz.prog 150 #[.int .i64 p] w fun e w' => e = .returned (.bool (prmI p)) ∧ w = w' := by
 by_cases h1 : p < 2
 · have hv := hide (show prmI p = false by unfold prmI; simp; omega)
   go_enter Tryz.func150, Tryz.ntmps150
   go_wp2
   refine wp_loop_rounds 1 ?_
   rw [rounds_succ]
   go_wp2_with (go_at_call 95; refine (l1In_f _ _ _ _ (by omega)).mono ?_; rintro e w' ⟨rfl, rfl⟩)
   go_ret
   exact ⟨by rw [hv.out]; rfl, rfl⟩
 · by_cases h2 : 16 < p
   · have hv := hide (show prmI p = false by unfold prmI; simp; omega)
     have h3 : ¬ p ≤ 16 := by omega
     have h4 : (2 : Int) < p := by omega
     go_enter Tryz.func150, Tryz.ntmps150
     go_wp2
     refine wp_loop_rounds 1 ?_
     rw [rounds_succ]
     go_wp2_with (go_at_call 95; refine (l1In_f _ _ _ _ (by omega)).mono ?_; rintro e w' ⟨rfl, rfl⟩)
     go_ret
     exact ⟨by rw [hv.out]; rfl, rfl⟩
   · obtain ⟨P, rfl⟩ : ∃ N : Nat, p = N := ⟨p.toNat, by omega⟩
     have hP : P ≤ 16 := by omega
     have hP2 : 2 ≤ P := by omega
     have hPi : (P : Int) ≤ 16 := by omega
     clear h1 h2
     go_enter Tryz.func150, Tryz.ntmps150
     go_wp2
     go_loop [3] (fun d => ∃ D : Nat, d = .int .i64 D ∧ 2 ≤ D ∧ D ≤ P ∧ Hid (∀ j, 2 ≤ j → j < D → P % j ≠ 0)) (fun d => P - (intOf d).toNat)
     case atStart => exact ⟨2, rfl, by omega, by omega, hide (fun j h1 h2 => by omega)⟩
     case round =>
      obtain ⟨D, rfl, hD2, hDP, hno⟩ := hrel
      by_cases hlt : D < P
      · have hq1 := tmod_n P D
        have hb0 : ((D : Int) == 0) = false := by simp; omega
        have hr := Nat.mod_lt P (show 0 < D by omega)
        by_cases hz : P % D = 0
        · have hv := hide (prime_no hP hD2 hlt hz)
          rw [hz] at hq1
          clear hr
          go_wp2
          go_ret
          exact ⟨by rw [hv.out]; rfl, rfl⟩
        · have hno' : Hid (∀ j, 2 ≤ j → j < D + 1 → P % j ≠ 0) := hide (fun j h1 h2 => by
         by_cases e : j = D
         · subst e; exact hz
         · exact hno.out j h1 (by omega))
          have hz' : ¬ (((P % D : Nat) : Int) = 0) := by omega
          have hz2 : (((P % D : Nat) : Int) == 0) = false := by rw [beq_eq_false_iff_ne]; exact hz'
          generalize P % D = r at *
          have hw1 : IntKind.i64.wrap (r : Int) = r := IntWalk.i64_in _ (by omega)
          go_wp2
          go_round
          case rel => exact ⟨D + 1, by go_num, by omega, by omega, hno'⟩
          case measure => simp [intOf]; omega
      · obtain rfl : D = P := by omega
        have hv := hide (prime_yes hP hP2 hno.out)
        go_wp2_with (go_at_call 95; refine (l1In_t _ _ _ _ (by omega) (by omega)).mono ?_; rintro e w' ⟨rfl, rfl⟩)
        go_ret
        exact ⟨by rw [hv.out]; rfl, rfl⟩
theorem specPrime_is {p : Int} {b : Bool} (h : prmI p = b) (w : World) : Calls Tryz.prog 150 #[.int .i64 p] w fun e w' => e = .returned (.bool b) ∧ w = w' := h ▸ specPrime p w
set_option maxHeartbeats 400000 in
theorem specAll (n p : Int) (w : World) : Calls Tryz.prog 153 #[.int .i64 n, .int .i64 p] w fun e w' => e = .returned (.int .i64 (allV n p)) ∧ w = w' := by
 cases hpr : prmI p with
 | false =>
   rw [allV_bad (.inr (.inr hpr))]
   have hP := fun w => specPrime_is hpr w
   clear hpr
   go_enter Tryz.func153, Tryz.ntmps153
   go_wp2_with (go_at_call 150; refine (hP _).mono ?_; rintro e w' ⟨rfl, rfl⟩)
   go_ret
   exact ⟨rfl, rfl⟩
 | true =>
   have hP := fun w => specPrime_is hpr w
   by_cases hbad : n < 0 ∨ 999999999 < n
   · rw [allV_bad (hbad.imp id .inl)]
     clear hpr
     go_enter Tryz.func153, Tryz.ntmps153
     go_wp2_with (first | (go_at_call 150; refine (hP _).mono ?_; rintro e w' ⟨rfl, rfl⟩) | (go_at_call 95; refine (l1In_f _ _ _ _ (by omega)).mono ?_; rintro e w' ⟨rfl, rfl⟩))
     go_ret
     exact ⟨rfl, rfl⟩
   · obtain ⟨B, rfl, hB⟩ := prmI_t hpr
     obtain ⟨N, rfl⟩ : ∃ N : Nat, n = N := ⟨n.toNat, by omega⟩
     have hN : N ≤ 999999999 := by omega
     rw [allV_nat hN hB]
     have hB2 := (prm_two hB).1
     have hB13 := (prm_two hB).2
     have hlt := tup_le hB2 N
     obtain ⟨S, hS⟩ : ∃ S, tup B N = S := ⟨_, rfl⟩
     rw [hS] at hlt ⊢
     have hS0 : 0 + tup B N = S := by omega
     clear hS hbad hpr
     go_enter Tryz.func153, Tryz.ntmps153
     go_wp2_with (first | (go_at_call 150; refine (hP _).mono ?_; rintro e w' ⟨rfl, rfl⟩) | (go_at_call 95; refine (l1In_t _ _ _ _ (by omega) (by omega)).mono ?_; rintro e w' ⟨rfl, rfl⟩))
     clear hP
     go_loop [0, 5] (fun n s => ∃ m t : Nat, n = .int .i64 m ∧ s = .int .i64 t ∧ m ≤ N ∧ t + tup B m = S) (fun n _ => (intOf n).toNat)
     case atStart => exact ⟨N, 0, rfl, rfl, Nat.le_refl _, hS0⟩
     case round =>
      clear hS0
      obtain ⟨m, t, rfl, rfl, hm, hs⟩ := hrel
      by_cases hlt : 0 < m
      · rw [tup_pos hB2 hlt] at hs
        have hq2 := tdiv_n m B
        have hb0 : ((B : Int) == 0) = false := by simp; omega
        have hdl := Nat.div_lt_self hlt hB2
        generalize m / B = q at *
        have hs' := hide hs
        have hts : t + q ≤ S := by omega
        clear hs
        have hw2 : IntKind.i64.wrap (q : Int) = q := IntWalk.i64_in _ (by omega)
        go_wp2
        go_round
        case rel => exact ⟨q, t + q, rfl, by go_num, by omega, by have := hs'.out; omega⟩
        case measure => simp [intOf]; omega
      · obtain rfl : m = 0 := by omega
        rw [tup_zero] at hs
        obtain rfl : t = S := by omega
        clear hs
        go_wp2
        go_ret
        exact ⟨rfl, rfl⟩
set_option maxHeartbeats 400000 in
theorem specCellT (row place p : Int) (w : World) : Calls Tryz.prog 118 #[.int .i64 row, .int .i64 place, .int .i64 p] w fun e w' => e = .returned (.int .i64 (cellTV row place p)) ∧ w = w' := by
 cases hpr : prmI p with
 | false =>
   rw [cellTV_bad (.inr (.inr (.inr (.inr hpr))))]
   have hP := fun w => specPrime_is hpr w
   clear hpr
   go_enter Tryz.func118, Tryz.ntmps118
   go_wp2_with (go_at_call 150; refine (hP _).mono ?_; rintro e w' ⟨rfl, rfl⟩)
   go_ret
   exact ⟨rfl, rfl⟩
 | true =>
   have hP := fun w => specPrime_is hpr w
   by_cases h1 : row < 0 ∨ 499999999 < row
   · rw [cellTV_bad (h1.imp id .inl)]
     clear hpr
     go_enter Tryz.func118, Tryz.ntmps118
     go_wp2_with (first | (go_at_call 150; refine (hP _).mono ?_; rintro e w' ⟨rfl, rfl⟩) | (go_at_call 95; refine (l1In_f _ _ _ _ (by omega)).mono ?_; rintro e w' ⟨rfl, rfl⟩))
     go_ret
     exact ⟨rfl, rfl⟩
   · by_cases h2 : place < 0 ∨ row < place
     · rw [cellTV_bad (.inr (.inr (h2.imp id .inl)))]
       clear hpr
       go_enter Tryz.func118, Tryz.ntmps118
       go_wp2_with (first | (go_at_call 150; refine (hP _).mono ?_; rintro e w' ⟨rfl, rfl⟩) | (go_at_call 95; refine (l1In_t _ _ _ _ (by omega) (by omega)).mono ?_; rintro e w' ⟨rfl, rfl⟩) | (go_at_call 95; refine (l1In_f _ _ _ _ (by omega)).mono ?_; rintro e w' ⟨rfl, rfl⟩))
       go_ret
       exact ⟨rfl, rfl⟩
     · obtain ⟨B, rfl, hB⟩ := prmI_t hpr
       obtain ⟨N, rfl⟩ : ∃ N : Nat, row = N := ⟨row.toNat, by omega⟩
       obtain ⟨K, rfl⟩ : ∃ K : Nat, place = K := ⟨place.toNat, by omega⟩
       have hN : N ≤ 499999999 := by omega
       have hK : K ≤ N := by omega
       have hB2 := (prm_two hB).1
       obtain ⟨R, hR⟩ : ∃ R, N - K = R := ⟨_, rfl⟩
       have hRi : (N : Int) - (K : Int) = (R : Int) := by omega
       have e1 : ∀ w, Calls Tryz.prog 153 #[.int .i64 N, .int .i64 B] w fun e w' => e = .returned (.int .i64 (tup B N)) ∧ w = w' := fun w => by simpa [allV_nat (show N ≤ 999999999 by omega) hB] using specAll N B w
       have e2 : ∀ w, Calls Tryz.prog 153 #[.int .i64 K, .int .i64 B] w fun e w' => e = .returned (.int .i64 (tup B K)) ∧ w = w' := fun w => by simpa [allV_nat (show K ≤ 999999999 by omega) hB] using specAll K B w
       have e3 : ∀ w, Calls Tryz.prog 153 #[.int .i64 R, .int .i64 B] w fun e w' => e = .returned (.int .i64 (tup B R)) ∧ w = w' := fun w => by simpa [allV_nat (show R ≤ 999999999 by omega) hB] using specAll R B w
       have hc := tup_cars hB2 hK
       rw [cellTV_nat hN hK hB]
       rw [hR] at hc
       have hl := tup_le hB2 N
       generalize tup B N = T1 at *
       generalize tup B K = T2 at *
       generalize tup B R = T3 at *
       generalize cars B N K = C at *
       have hv := hide (show (T1 : Int) - T2 - T3 = C by omega)
       have hl1 : (T1 : Int) ≤ 499999999 := by omega
       have hl2 : (T2 : Int) ≤ 499999999 := by omega
       have hl3 : (T3 : Int) ≤ 499999999 := by omega
       clear hc hR h1 h2 hpr hl
       go_enter Tryz.func118, Tryz.ntmps118
       go_wp2_with (first | (go_at_call 150; refine (hP _).mono ?_; rintro e w' ⟨rfl, rfl⟩) | (go_at_call 95; refine (l1In_t _ _ _ _ (by omega) (by omega)).mono ?_; rintro e w' ⟨rfl, rfl⟩) | (go_at_call 153; (with_reducible refine (e1 _).mono ?_); rintro e w' ⟨rfl, rfl⟩) | (go_at_call 153; (with_reducible refine (e2 _).mono ?_); rintro e w' ⟨rfl, rfl⟩) | (go_at_call 153; (with_reducible refine (e3 _).mono ?_); rintro e w' ⟨rfl, rfl⟩))
       go_ret
       exact ⟨ret_int hv.out, rfl⟩
set_option maxHeartbeats 1000000 in
theorem specWaysOf (up : Int) (w : World) : Calls Tryz.prog 115 #[.int .i64 up] w fun e w' => e = .returned (.int .i64 (waysV up)) ∧ Below w.heap.size w w' := by
 by_cases hbad : up < 0 ∨ 30 < up
 · rw [waysV_bad hbad]
   go_enter Tryz.func115, Tryz.ntmps115
   go_wp2_with (go_at_call 95; refine (l1In_f _ _ _ _ (by omega)).mono ?_; rintro e w' ⟨rfl, rfl⟩)
   go_ret
   exact ⟨rfl, Below.refl _ _⟩
 · obtain ⟨u, rfl⟩ : ∃ u : Nat, up = u := ⟨up.toNat, by omega⟩
   have hu : u ≤ 30 := by omega
   have hv := hide (waysV_nat hu)
   have hC : ∀ w, Calls Tryz.prog 113 #[.int .i64 (2 * (u : Int)), .int .i64 u] w fun e w' => e = .returned (.int .i64 (bin (2 * u) u : Nat)) ∧ Below w.heap.size w w' := fun w => by
    have h := specCell ((2 * u : Nat) : Int) u w
    rwa [cellV_nat (by omega), show ((2 * u : Nat) : Int) = 2 * (u : Int) by omega] at h
   have hb := bin_le (2 * u) u
   have hb2 : (2 : Nat) ^ (2 * u) ≤ 1152921504606846976 := lT9 (Nat.pow_le_pow_right (by omega) (show 2 * u ≤ 60 by omega)) (by decide)
   have hq := tdiv_n (bin (2 * u) u) (u + 1)
   have hc : bin (2 * u) u / (u + 1) = catN u := rfl
   have hd := Nat.div_le_self (bin (2 * u) u) (u + 1)
   rw [hc] at hq hd
   have hq' : Int.tdiv ((bin (2 * u) u : Nat) : Int) ((u : Int) + 1) = (catN u : Int) := hq
   generalize bin (2 * u) u = B at *
   generalize catN u = C at *
   have hw1 : IntKind.i64.wrap (C : Int) = C := IntWalk.i64_in _ (by omega)
   have hz : ((u : Int) + 1 == 0) = false := by simp; omega
   clear hbad hc hq
   go_enter Tryz.func115, Tryz.ntmps115
   go_wp2_with (first | (go_at_call 95; refine (l1In_t _ _ _ _ (by omega) (by omega)).mono ?_; rintro e w' ⟨rfl, rfl⟩) | (go_at_call 113; (with_reducible refine (hC _).mono ?_); rintro e w1 ⟨rfl, hB⟩))
   go_ret
   exact ⟨ret_int hv.out.symm, hB⟩
set_option maxHeartbeats 800000 in
theorem specCarries (x y b : Int) (w : World) : Calls Tryz.prog 119 #[.int .i64 x, .int .i64 y, .int .i64 b] w fun e w' => e = .returned (.int .i64 (carriesV x y b)) ∧ Below w.heap.size w w' := by
 by_cases hbad : bad2 x y b
 · rw [carriesV_bad hbad]
   unfold bad2 at hbad
   by_cases h1 : x < 0 ∨ 499999999 < x
   case' neg => by_cases h2 : y < 0 ∨ 499999999 < y
   all_goals
    go_enter Tryz.func119, Tryz.ntmps119
    go_wp2_with (first | (go_at_call 95; refine (l1In_t _ _ _ _ (by omega) (by omega)).mono ?_; rintro e w' ⟨rfl, rfl⟩) | (go_at_call 95; refine (l1In_f _ _ _ _ (by omega)).mono ?_; rintro e w' ⟨rfl, rfl⟩))
    go_ret
    exact ⟨rfl, Below.refl _ _⟩
 · unfold bad2 at hbad
   obtain ⟨X, rfl⟩ : ∃ N : Nat, x = N := ⟨x.toNat, by omega⟩
   obtain ⟨Y, rfl⟩ : ∃ N : Nat, y = N := ⟨y.toNat, by omega⟩
   obtain ⟨B, rfl⟩ : ∃ B : Nat, b = B := ⟨b.toNat, by omega⟩
   have hX : X ≤ 499999999 := by omega
   have hY : Y ≤ 499999999 := by omega
   have hB : 2 ≤ B := by omega
   have hB2 : B ≤ 16 := by omega
   rw [carriesV_nat hX hY hB hB2]
   clear hbad
   have hsl : carL B 0 (pairs B X Y) ≤ X + Y := lT9 (carL_le 0 _ (by omega) (pairs_lt hB X Y)) (pairs_len hB X Y)
   obtain ⟨S, hS⟩ : ∃ S, carL B 0 (pairs B X Y) = S := ⟨_, rfl⟩
   rw [hS] at hsl ⊢
   have hS' := hide (show 0 + carL B 0 (pairs B X Y) = S by omega)
   clear hS
   go_enter Tryz.func119, Tryz.ntmps119
   go_wp2_with (go_at_call 95; refine (l1In_t _ _ _ _ (by omega) (by omega)).mono ?_; rintro e w' ⟨rfl, rfl⟩)
   go_loopw [0, 1, 7, 8, 9] (fun p q s c d wr => ∃ m k t h : Nat, p = .int .i64 m ∧ q = .int .i64 k ∧ s = .int .i64 t ∧ c = .int .i64 h ∧ d = d ∧ m ≤ X ∧ k ≤ Y ∧ h ≤ 1 ∧ t + carL B h (pairs B m k) = S ∧ Below w.heap.size w wr) (fun p q _ c _ _ => (intOf p).toNat + (intOf q).toNat + (intOf c).toNat)
   case atStart => exact ⟨X, Y, 0, 0, rfl, rfl, rfl, rfl, rfl, Nat.le_refl _, Nat.le_refl _, by omega, hS'.out, Below.refl _ _⟩
   case round =>
    clear hS'
    obtain ⟨m, k, t, h, rfl, rfl, rfl, rfl, _, hm, hk, hh, hs, hBl⟩ := hrel
    have hb0 : ((B : Int) == 0) = false := by simp; omega
    by_cases hlt : 0 < m + k
    · rw [pairs_pos hB hlt] at hs
      simp only [carL] at hs
      have hq1 := tmod_nat' m B
      have hq2 := tdiv_nat' m B
      have hq3 := tmod_nat' k B
      have hq4 := tdiv_nat' k B
      have hr1 := Nat.mod_lt m (show 0 < B by omega)
      have hr2 := Nat.mod_lt k (show 0 < B by omega)
      have hd1 := Nat.div_le_self m B
      have hd2 := Nat.div_le_self k B
      have hone := one_carry hr1 hr2 hh
      have hst := div_mod B (m % B + k % B + h)
      have hst1 := div_mod B m
      have hst2 := div_mod B k
      have hdm := two_mul_le (q := m / B) hB
      have hdk := two_mul_le (q := k / B) hB
      generalize B * (m / B) = Bm at *
      generalize B * (k / B) = Bk at *
      generalize m % B = r1 at *
      generalize m / B = q1 at *
      generalize k % B = r2 at *
      generalize k / B = q2 at *
      have hw1 : IntKind.i64.wrap (r1 : Int) = r1 := IntWalk.i64_in _ (by omega)
      have hw2 : IntKind.i64.wrap (q1 : Int) = q1 := IntWalk.i64_in _ (by omega)
      have hw3 : IntKind.i64.wrap (r2 : Int) = r2 := IntWalk.i64_in _ (by omega)
      have hw4 : IntKind.i64.wrap (q2 : Int) = q2 := IntWalk.i64_in _ (by omega)
      have hw5 : IntKind.i64.wrap ((r1 : Int) + r2) = (r1 : Int) + r2 := IntWalk.i64_in _ (by omega)
      have hw6 : IntKind.i64.wrap ((r1 : Int) + r2 + h) = (r1 : Int) + r2 + h := IntWalk.i64_in _ (by omega)
      have hmod := Nat.mod_lt (r1 + r2 + h) (show 0 < B by omega)
      generalize (r1 + r2 + h) % B = e at *
      generalize (r1 + r2 + h) / B = g at *
      rcases (show g = 0 ∨ g = 1 by omega) with rfl | rfl
      · rw [Nat.mul_zero] at hst
        have hlow : (r1 : Int) + r2 + h < B := by omega
        have hs' := hide (show t + carL B 0 (pairs B q1 q2) = S by omega)
        have hmeas : q1 + q2 + 0 < m + k + h := by omega
        clear hs hst hone
        by_cases hm0 : 0 < m
        all_goals
         have hk0 : 0 < m ∨ 0 < k := by omega
         go_wp2
         go_quiet (fail)
         go_wp2
         go_roundw
         case rel => exact ⟨q1, q2, t, 0, rfl, rfl, rfl, rfl, trivial, by omega, by omega, by omega, hs'.out, ⟨hBl.os, hBl.tape, hBl.output, hBl.size, hBl.block⟩⟩
         case measure => simp [intOf]; omega
      · rw [Nat.mul_one] at hst
        have hlow : (B : Int) ≤ (r1 : Int) + r2 + h := by omega
        have hs' := hide (show t + 1 + carL B 1 (pairs B q1 q2) = S by omega)
        have hts : t + 1 ≤ S := by omega
        have hmeas : q1 + q2 + 1 < m + k + h := by omega
        clear hs hst hone
        by_cases hm0 : 0 < m
        all_goals
         have hk0 : 0 < m ∨ 0 < k := by omega
         go_wp2
         go_quiet (fail)
         go_wp2
         go_roundw
         case rel => exact ⟨q1, q2, t + 1, 1, rfl, rfl, by go_num, rfl, trivial, by omega, by omega, by omega, hs'.out, ⟨hBl.os, hBl.tape, hBl.output, hBl.size, hBl.block⟩⟩
         case measure => simp [intOf]; omega
    · obtain ⟨rfl, rfl⟩ : m = 0 ∧ k = 0 := by omega
      rw [pairs_zero] at hs
      simp only [carL] at hs
      obtain rfl : t = S := by omega
      clear hs
      have hz1 : Int.tmod 0 (B : Int) = 0 := by simp
      have hz2 : Int.tdiv 0 (B : Int) = 0 := by simp
      have h1B : (1 : Int) < B := by omega
      rcases (show h = 0 ∨ h = 1 by omega) with rfl | rfl
      · go_wp2
        go_ret
        exact ⟨rfl, hBl⟩
      · go_wp2
        go_quiet (fail)
        go_wp2
        go_roundw
        case rel => exact ⟨0, 0, t, 0, rfl, rfl, rfl, rfl, trivial, by omega, by omega, by omega, by rw [pairs_zero]; rfl, ⟨hBl.os, hBl.tape, hBl.output, hBl.size, hBl.block⟩⟩
        case measure => simp [intOf]
end
section
open Go.RowKit Go.Shelf
attribute [local go_sem] Oper.semAt_some
theorem loadVar_box {t : TypeId} {B : Nat} {v : Value} {w : World} (ht : (match Tryz.prog.underlying t with | some (.struct _) | some (.array _ _) => false | some _ => true | none => false) = true) (hb : Boxed w B t v) :
 (loadVar t ⟨B, 0, none⟩).run Tryz.prog w = .ok v w := by
 have hc := hb.cell
 have ha : (isAgg t).run Tryz.prog w = .ok false w := by
  unfold isAgg
  cases hu : Tryz.prog.underlying t with
  | none => rw [hu] at ht; cases ht
  | some d =>
    rw [Sem.run_bind, run_underlying hu w]
    rw [hu] at ht
    cases d <;> simp_all [Result.andThen]
 simp [loadVar, Sem.run_bind, ha, Result.andThen, hc]
theorem results_two {fn : Func} {p q : Tmp} {t u : TypeId} (h : fn.results = #[.cell p t, .cell q u]) (tmps : Array Value) (w : World) {B C : Nat} {v z : Value} (hp : tmps.getD p undef = .pointer (some ⟨B, 0, none⟩)) (hq : tmps.getD q undef = .pointer (some ⟨C, 0, none⟩))
 (hB : (loadVar t ⟨B, 0, none⟩).run Tryz.prog w = .ok v w) (hC : (loadVar u ⟨C, 0, none⟩).run Tryz.prog w = .ok z w) : (results fn tmps).run Tryz.prog w = .ok (.tuple #[v, z]) w := by
 have hp' : tmps[p]?.getD undef = .pointer (some ⟨B, 0, none⟩) := by simpa using hp
 have hq' : tmps[q]?.getD undef = .pointer (some ⟨C, 0, none⟩) := by simpa using hq
 simp [results, h, hp', hq', asAddr, hB, hC, Sem.run_bind, Result.andThen]
theorem box_at {W : World} {k : Nat} (t : TypeId) (v : Value) (h : W.heap.size = k) : Boxed (W.alloc (.cells #[v] t)) k t v := h ▸ Boxed.new W t v
theorem box_two {W : World} {B C : Nat} {t u : TypeId} {v z : Value} (hB : Boxed W B t v) (hC : Boxed W C u z) (h : B ≠ C) (v' z' : Value) :
 Boxed ((W.setCell ⟨B, 0, none⟩ v').setCell ⟨C, 0, none⟩ z') B t v' ∧ Boxed ((W.setCell ⟨B, 0, none⟩ v').setCell ⟨C, 0, none⟩ z') C u z' :=
 ⟨(hB.set v').kept (grown_cell _ _ _ _) (by simp; exact h), (hC.kept (grown_cell W B 0 v') (by simp; exact fun e => h e.symm)).set z'⟩
theorem box_int (B : Nat) (v : Value) {w : World} (hb : Boxed w B 3 v) : (loadVar 3 ⟨B, 0, none⟩).run Tryz.prog w = .ok v w := loadVar_box (by kernel_rfl) hb
theorem box_bool (B : Nat) (v : Value) {w : World} (hb : Boxed w B 4 v) : (loadVar 4 ⟨B, 0, none⟩).run Tryz.prog w = .ok v w := loadVar_box (by kernel_rfl) hb
theorem implEnd_no (v : Value) (xs : List Int) (w : World) (hv : Ints w v xs) (hl : xs.length ≤ 10000000) (hs : ringB xs = false) : Calls Tryz.prog 161 #[v] w fun e w' => e = .returned (.tuple #[.int .i64 (-1), .bool false]) ∧ Below w.heap.size w w' := by
 have hB0 : Below w.heap.size w ((w.alloc (.cells #[.int .i64 0] 3)).alloc (.cells #[.bool false] 4)) := ((Below.refl _ w).alloc (Nat.le_refl _) _).alloc (by simp) _
 have h2 : Boxed ((w.alloc (.cells #[.int .i64 0] 3)).alloc (.cells #[.bool false] 4)) w.heap.size 3 (.int .i64 0) := (Boxed.new w _ _).alloc _
 have h3 : Boxed ((w.alloc (.cells #[.int .i64 0] 3)).alloc (.cells #[.bool false] 4)) (w.heap.size + 1) 4 (.bool false) := box_at _ _ (by simp)
 have hS := implRing v xs _ (hv.below hB0) (by omega)
 rw [hs] at hS
 clear hv
 go_enter Tryz.func161, Tryz.ntmps161
 go_wp2_with (go_at_call 174; refine hS.mono ?_; clear hS; go_loud (rintro e w1 ⟨rfl, hB1⟩; have hx2 : Boxed w1 w.heap.size 3 (.int .i64 0) := (hB1.block _ h2.lt).trans h2; have hx3 : Boxed w1 (w.heap.size + 1) 4 (.bool false) := (hB1.block _ h3.lt).trans h3; have c2 := hx2.cell; have c3 := hx3.cell; have f2 := hx2.frozen; have f3 := hx3.frozen))
 obtain ⟨k2, k3⟩ := box_two hx2 hx3 (by omega) (.int .i64 (-1)) (.bool false)
 refine bodyPost_ret (results_two rfl _ _ rfl rfl (box_int _ _ k2) (box_bool _ _ k3)) rfl ⟨rfl, ?_⟩
 exact ((hB0.trans (hB1.mono hB0.size)).setCell (p := ⟨w.heap.size, 0, none⟩) (Nat.le_refl _) _).setCell (p := ⟨w.heap.size + 1, 0, none⟩) (by show w.heap.size ≤ w.heap.size + 1; omega) _
theorem cz_small {f : Nat → Nat} (hf : ∀ k, f k ≤ 100) (n : Nat) (i : Nat) (_ : i < 8) : cz f n i ≤ 1000000 := by
 unfold cz
 split
 · have := hf i; omega
 · omega
theorem cz_zero (f : Nat → Nat) (n x : Nat) (hn : n ≤ 8) : (∀ i, i < 8 → cz (dR f x) n i = 0) ↔ zeroB f n x = true := by
 rw [zeroB_iff]
 refine ⟨fun h j hj => ?_, fun h i _ => ?_⟩
 · have := h j (by omega)
   rwa [cz_in hj] at this
 · unfold cz
   split
   · exact h i (by assumption)
   · rfl
set_option maxRecDepth 100000 in
set_option maxHeartbeats 1000000 in
theorem implEnd_in (v : Value) (xs : List Int) (w : World) (hv : Ints w v xs) (hs : ringB xs = true) : Calls Tryz.prog 161 #[v] w fun e w' => e = .returned (.tuple #[.int .i64 (endI xs), .bool (endB xs)]) ∧ Below w.heap.size w w' := by
 have hlen := ringB_len hs
 have hB0 : Below w.heap.size w ((w.alloc (.cells #[.int .i64 0] 3)).alloc (.cells #[.bool false] 4)) := ((Below.refl _ w).alloc (Nat.le_refl _) _).alloc (by simp) _
 have h2 : Boxed ((w.alloc (.cells #[.int .i64 0] 3)).alloc (.cells #[.bool false] 4)) w.heap.size 3 (.int .i64 0) := (Boxed.new w _ _).alloc _
 have h3 : Boxed ((w.alloc (.cells #[.int .i64 0] 3)).alloc (.cells #[.bool false] 4)) (w.heap.size + 1) 4 (.bool false) := box_at _ _ (by simp)
 have hS := implRing v xs _ (hv.below hB0) (by omega)
 rw [hs] at hS
 have hO := fun w1 (hB : Below w.heap.size w w1) => circleOf_in v xs w1 (hv.below hB) hs
 have hf := ringF_le hs
 have hp := ringF_per (xs := xs)
 have hsome : ∀ r, r ≤ 2000 → zeroB (ringF xs) xs.length r = true → (∀ j, j < r → zeroB (ringF xs) xs.length j = false) → endI xs = r ∧ endB xs = true := fun r h1 h2 h3 => by
  have : endN xs = some r := by unfold endN; rw [if_pos hs, firstI_some]; exact ⟨by omega, h2, h3⟩
  unfold endI endB; rw [this]; exact ⟨rfl, rfl⟩
 have hnone : (∀ j, j < 2001 → zeroB (ringF xs) xs.length j = false) → endI xs = -1 ∧ endB xs = false := fun h => by
  have : endN xs = none := by unfold endN; rw [if_pos hs, firstI_none]; exact h
  unfold endI endB; rw [this]; exact ⟨rfl, rfl⟩
 have hsome' := hide hsome
 have hnone' := hide hnone
 clear hv hs hsome hnone
 generalize endI xs = I at *
 generalize endB xs = E at *
 generalize ringF xs = f at *
 generalize xs.length = n at *
 refine (cW9 (n := 9)).1 ?_
 refine callsIn_of_wp_marks Tryz.func161 rfl trivial ?_ rfl
 simp only [Tryz.ntmps161, List.size_toArray, List.length_cons, List.length_nil, Nat.reduceAdd, Nat.reduceSub, Array.replicate_succ, Array.replicate_zero, List.push_toArray, List.append_toArray, List.nil_append, List.cons_append]
 have hD := fun w => roundsTo_in (cz f n) n 2000 w
 gi_wp2_with (first
  | (refine ⟨trivial, ?_⟩; gi_at_call 174; refine (cW9.2 hS).mono ?_; clear hS; go_loud (rintro e w1 ⟨rfl, hB1⟩; have hB1' := hB0.trans (hB1.mono hB0.size)))
  | (refine ⟨trivial, ?_⟩; gi_at_call 175; refine (cW9.2 (hO _ hB1')).mono ?_; clear hO; rintro e w4 ⟨rfl, hB4⟩)
  | (refine ⟨trivial, ?_⟩; gi_at_call 194; refine (cW9.2 (hD _)).mono ?_; clear hD; rintro e w' ⟨rfl, rfl⟩))
 obtain ⟨W0, hW0⟩ : ∃ W0, (w4.alloc (Obj.cells (crA (cz f n) n) 158)).alloc (Obj.cells #[Value.int IntKind.i64 2000] 3) = W0 := ⟨_, rfl⟩
 have hC0 : CrAt W0 w4.heap.size (cz f n) n := by rw [← hW0]; exact (CrAt.new w4 _ _).alloc _
 have hL0 : Boxed W0 (w4.heap.size + 1) 3 (.int .i64 (2000 : Nat)) := by
  rw [← hW0]
  have := Boxed.new (w4.alloc (Obj.cells (crA (cz f n) n) 158)) 3 (.int .i64 2000)
  rwa [World.size_alloc] at this
 have k2 : Boxed W0 w.heap.size 3 (.int .i64 0) := by
  rw [← hW0]
  have h12 : Boxed w1 w.heap.size 3 (.int .i64 0) := (hB1.block _ h2.lt).trans h2
  have h42 : Boxed w4 w.heap.size 3 (.int .i64 0) := (hB4.block _ h12.lt).trans h12
  exact (h42.alloc _).alloc _
 have k3 : Boxed W0 (w.heap.size + 1) 4 (.bool false) := by
  rw [← hW0]
  have h12 : Boxed w1 (w.heap.size + 1) 4 (.bool false) := (hB1.block _ h3.lt).trans h3
  have h42 : Boxed w4 (w.heap.size + 1) 4 (.bool false) := (hB4.block _ h12.lt).trans h12
  exact (h42.alloc _).alloc _
 have hBx : Below w.heap.size w w4 := hB1'.trans (hB4.mono hB1'.size)
 have hB0' : Below w.heap.size w W0 := by rw [← hW0]; exact (hBx.alloc hBx.size _).alloc (by simp; have := hBx.size; omega) _
 have hsz0 : w4.heap.size + 1 < W0.heap.size := by rw [← hW0]; simp
 have hlt3 : w.heap.size + 1 < W0.heap.size := k3.lt
 rw [hW0]
 clear hW0 hB4 hBx hB1 hB1' hB0 h2 h3
 generalize w4.heap.size = C at *
 refine wpIn_rangeFunc_box rfl (by omega) (gf := 218) (lb := #[.pointer (some ⟨C, 0, none⟩), .pointer (some ⟨C + 1, 0, none⟩)]) rfl trivial (enters_of Tryz.func218 (by kernel_rfl) rfl)
  (rounds_stops (9 - 1) C (C + 1) 2000 n f (by omega) hlen.1 hlen.2 hf hp (by omega) W0 hC0 hL0) (fun _ _ => rfl) (by omega)
  (fun ys W o h => h) (fun pre W o h => h)
  (fun pre W => Boxed W w.heap.size 3 (.int .i64 0) ∧ Boxed W (w.heap.size + 1) 4 (.bool false) ∧ Hid (∀ j ∈ pre, zeroB f n j = false) ∧ Below w.heap.size w W)
  (fun c pre W => ∃ r : Nat, c = .ret ∧ Boxed W w.heap.size 3 (.int .i64 r) ∧ Boxed W (w.heap.size + 1) 4 (.bool true) ∧ Hid (r ≤ 2000 ∧ zeroB f n r = true ∧ ∀ j, j < r → zeroB f n j = false) ∧ Below w.heap.size w W)
  (fun s A B' row hs hg hr => ⟨hs.1.kept hg (fun e => by have := hr _ e.symm; omega), hs.2.1.kept hg (fun e => by have := hr _ e.symm; omega), hs.2.2.1, hs.2.2.2.grown hg hs.2.2.2.size (fun k e => by have := hr _ e; omega)⟩)
  (fun c s A B' row hs hg hr => by
   obtain ⟨r, h1, h2, h3, h4, h5⟩ := hs
   exact ⟨r, h1, h2.kept hg (fun e => by have := hr _ e.symm; omega), h3.kept hg (fun e => by have := hr _ e.symm; omega), h4, h5.grown hg h5.size (fun k e => by have := hr _ e; omega)⟩) ⟨k2, k3, hide (by simp), hB0'⟩
  (fun pre x b W => ∃ k, b = { tmps := #[v, undef, .pointer (some ⟨w.heap.size, 0, none⟩), .pointer (some ⟨w.heap.size + 1, 0, none⟩), .int .i64 x, .pointer (some ⟨k, 0, none⟩), v, .bool true, .bool false, v, crV (cz f n) n,
   .func (.func 218) #[] #[.pointer (some ⟨C, 0, none⟩), .pointer (some ⟨C + 1, 0, none⟩)], .int .i64 x, crV (cz (dR f x) n) n, undef, undef, undef], defers := [] } ∧ (CrAt W k (cz (dR f x) n) n ∧ (Boxed W w.heap.size 3 (.int .i64 0) ∧ Boxed W (w.heap.size + 1) 4 (.bool false)) ∧ Below w.heap.size w W ∧ Hid (∀ j ∈ pre, zeroB f n j = false) ∧ Hid (pre = List.range x ∧ x ≤ 2000) ∧ W0.heap.size + 2 ≤ k))
  (fun pre x b W o ⟨k, hb, hO⟩ => ⟨k, hb, hO.1.of_block (World.putObj_heap_other (by have := hO.2.2.2.2.2; omega)), ⟨hO.2.1.1.kept (grownBy_putObj' W _ _) (by simp; omega), hO.2.1.2.kept (grownBy_putObj' W _ _) (by simp; omega)⟩, hO.2.2.1.grown (grownBy_putObj' W _ _) hO.2.2.1.size (fun k e => by cases e; omega), hO.2.2.2⟩) ?assign ?body ?done ?stop
 case assign =>
  rintro l pre x W Q' hlt ⟨hx2, hx3, hpz, hB⟩ ⟨hpre, hx⟩ hQ
  have hQ' := hide hQ
  clear hQ
  gi_wp2_with (refine store_crI rfl _ _ rfl W.heap.size _ _ rfl rfl (aN9 W _) rfl ?_; intro w6 hC6 hg6)
  have hgW := World.grownBy_alloc W (Obj.cells (crA (fun _ => 0) 0) 158) none
  have hg6' : (W.alloc (Obj.cells (crA (fun _ => 0) 0) 158)).grownBy w6 (some W.heap.size) := hg6
  exact hQ'.out _ _ ⟨lT9 hgW.size hg6'.size, fun q hq _ => (hg6'.block q (lL9 hq hgW.size) (by simp; omega)).trans (hgW.block q hq (by simp))⟩
   ⟨W.heap.size, rfl, hC6, ⟨(hx2.kept hgW (by simp)).kept hg6' (by simp; omega), (hx3.kept hgW (by simp)).kept hg6' (by simp; omega)⟩, (hB.alloc hB.size _).grown hg6' (by simp; have := hB.size; omega) (fun _ e => by cases e; exact hB.size), hpz, hide ⟨hpre, hx⟩, by omega⟩
 case body =>
  rintro l pre x b W hlt ⟨k, rfl, hC, ⟨hx2, hx3⟩, hB, hpz, hpx, hk⟩
  have hE := fun V => ended_in (cz (dR f x) n) n (cz_small (hundred hf x) n) V
  have hzz := cz_zero f n x hlen.2
  have hzz' := hide hzz
  clear hzz
  cases hz : zeroB f n x with
  | true =>
    have hr := hide (show x ≤ 2000 ∧ zeroB f n x = true ∧ ∀ j, j < x → zeroB f n j = false from ⟨hpx.out.2, hz, fun j hj => hpz.out j (by rw [hpx.out.1]; simpa using hj)⟩)
    rw [hz] at hzz'
    clear hz
    gi_wp2_with (first
     | (refine load_crI rfl _ rfl k rfl hC ?_)
     | (refine ⟨trivial, ?_⟩; gi_at_call 195; refine (cW9.2 (hE _)).mono ?_; clear hE; go_loud (rintro e w6 ⟨⟨b, rfl, hb⟩, hB6⟩; obtain rfl : b = true := hb.2 (hzz'.out.2 (by simp)); clear hb; have k2 : Boxed w6 w.heap.size 3 (.int .i64 0) := (hB6.block _ hx2.lt).trans hx2; have k3 : Boxed w6 (w.heap.size + 1) 4 (.bool false) := (hB6.block _ hx3.lt).trans hx3; have c2 := k2.cell; have c3 := k3.cell; have f2 := k2.frozen; have f3 := k3.frozen)))
    obtain ⟨y2, y3⟩ := box_two k2 k3 (by omega) (.int .i64 x) (.bool true)
    exact ⟨⟨by simpa [World.setCell] using hB6.size, fun q hq _ => (Below.heap_setCell _ _ _ q (by simp; omega)).trans ((Below.heap_setCell _ _ _ q (by simp; omega)).trans (hB6.block q hq))⟩, x, rfl, y2, y3, hr,
     ((hB.trans (hB6.mono hB.size)).setCell (p := ⟨w.heap.size, 0, none⟩) (Nat.le_refl _) _).setCell (p := ⟨w.heap.size + 1, 0, none⟩) (by show w.heap.size ≤ w.heap.size + 1; omega) _⟩
  | false =>
    have hp' := hide (show ∀ j ∈ pre ++ [x], zeroB f n j = false from fun j hj => by
     rcases List.mem_append.1 hj with h | h
     · exact hpz.out j h
     · obtain rfl : j = x := by simpa using h
       exact hz)
    rw [hz] at hzz'
    simp only [Bool.false_eq_true] at hzz'
    clear hz
    gi_wp2_with (first
     | (refine load_crI rfl _ rfl k rfl hC ?_)
     | (refine ⟨trivial, ?_⟩; gi_at_call 195; refine (cW9.2 (hE _)).mono ?_; clear hE; go_loud (rintro e w6 ⟨⟨b, rfl, hb⟩, hB6⟩; obtain rfl : b = false := (by cases b; rfl; exact (hzz'.out.1 (hb.1 rfl)).elim); clear hb)))
    exact ⟨⟨hB6.size, fun q hq _ => hB6.block q hq⟩, (hB6.block _ hx2.lt).trans hx2, (hB6.block _ hx3.lt).trans hx3, hp', hB.trans (hB6.mono hB.size)⟩
 case done =>
  rintro ys W hys ⟨hx2, hx3, hpz, hB⟩ hK
  obtain rfl : ys = List.range 2001 := hys
  obtain ⟨rfl, rfl⟩ := hnone'.out fun j hj => hpz.out j (by simpa using hj)
  have hK0 := (gE9.1 hK).1
  have c2 := hx2.cell
  have c3 := hx3.cell
  have f2 := hx2.frozen
  have f3 := hx3.frozen
  gi_wp2
  obtain ⟨y2, y3⟩ := box_two hx2 hx3 (by omega) (.int .i64 (-1)) (.bool false)
  have hB2 := (hB.setCell (p := ⟨w.heap.size, 0, none⟩) (Nat.le_refl _) (.int .i64 (-1))).setCell (p := ⟨w.heap.size + 1, 0, none⟩) (by show w.heap.size ≤ w.heap.size + 1; omega) (.bool false)
  have hK2 : ((W.setCell ⟨w.heap.size, 0, none⟩ (.int .i64 (-1))).setCell ⟨w.heap.size + 1, 0, none⟩ (.bool false)).heap[W0.heap.size]? = some (.deferred (some [])) := (Below.heap_setCell _ _ _ _ (by simp; omega)).trans ((Below.heap_setCell _ _ _ _ (by simp; omega)).trans hK)
  refine ⟨by simp, .inl ⟨_, _, rfl, run_takeDeferred hK2, ?_⟩⟩
  refine ⟨_, results_two rfl _ _ rfl rfl (box_int _ _ (y2.kept (grownBy_putObj' _ _ _) (by simp; omega))) (box_bool _ _ (y3.kept (grownBy_putObj' _ _ _) (by simp; omega))), rfl, ?_⟩
  exact hB2.grown (grownBy_putObj' _ _ _) hB2.size (fun k e => by cases e; omega)
 case stop =>
  rintro cd pre W _ ⟨r, rfl, hx2, hx3, hr, hB⟩ hK
  obtain ⟨rfl, rfl⟩ := hsome'.out r hr.out.1 hr.out.2.1 hr.out.2.2
  gi_wp2
  refine ⟨by simp, .inl ⟨_, _, rfl, run_takeDeferred hK, ?_⟩⟩
  refine ⟨_, results_two rfl _ _ rfl rfl (box_int _ _ (hx2.kept (grownBy_putObj' _ _ _) (by simp; omega))) (box_bool _ _ (hx3.kept (grownBy_putObj' _ _ _) (by simp; omega))), rfl, ?_⟩
  exact hB.grown (grownBy_putObj' _ _ _) hB.size (fun k e => by cases e; omega)
theorem implEnd10 (v : Value) (xs : List Int) (w : World) (hv : Ints w v xs) (_hlies : Lies v) (hl : xs.length ≤ 10000000) : Calls Tryz.prog 161 #[v] w fun e w' => e = .returned (.tuple #[.int .i64 (endI xs), .bool (endB xs)]) ∧ Below w.heap.size w w' := by
 cases hs : ringB xs with
 | true => exact implEnd_in v xs w hv hs
 | false =>
   have h := implEnd_no v xs w hv hl hs
   have : endN xs = none := by unfold endN; rw [hs]; rfl
   unfold endI endB
   rw [this]
   exact h
end
section
open Go.RowKit Go.Maps
theorem keyI : Keyed Tryz.prog 3 := int_keyed Tryz.underlying3
theorem zeroI (w : World) : (zeroValue 3).run Tryz.prog w = .ok (.int .i64 0) w := by kernel_rfl
abbrev litI (z : Int) : Lit := .int .i64 z
abbrev datI (z : Int) : DataW Unit := .lit (.int .i64 z)
abbrev OwnM (w : World) (b n : Nat) (D : DataW Unit) : Prop := w.ownsMap Tryz.prog 3 (plainElem Tryz.prog 3) b n D
def exp0 : DataW Unit := ((((((DataW.map []).put (litI 2) (datI 0)).put (litI 3) (datI 0)).put (litI 5) (datI 0)).put (litI 7) (datI 0)).put (litI 11) (datI 0)).put (litI 13) (datI 0)
theorem exp0_eq : exp0 = .map [(litI 2, datI 0), (litI 3, datI 0), (litI 5, datI 0), (litI 7, datI 0), (litI 11, datI 0), (litI 13, datI 0)] := by rfl
theorem OwnM.update {w : World} {b n : Nat} {D : DataW Unit} (h : OwnM w b n D) (hn : n < 4000000000000000000) (p z : Int) (hp : (litI p).wf = true) (hz : (litI z).wf = true) :
 ∃ w', (Instr.mapUpdate 218 (.map (some b)) (.int .i64 p) (.int .i64 z)).run Tryz.prog w = .ok () w' ∧ OwnM w' b (n + 1) (D.put (litI p) (datI z)) ∧ w.grownBy w' (some b) :=
 World.ownsMap.update h keyI Tryz.underlying218 (by unfold maxLen; omega) (keyOf_int_mk Tryz.underlying3 hp) (plainElem_int Tryz.underlying3 hz)
set_option maxHeartbeats 1000000 in
theorem noExp (w : World) : Calls Tryz.prog 224 #[] w fun e w' => e = .returned (.map (some w.heap.size)) ∧ OwnM w' w.heap.size 6 exp0 ∧ Below w.heap.size w w' := by
 have hmm := @run_makeMap Tryz.prog
 have h0 : OwnM (w.alloc (.map #[] 0)) w.heap.size 0 (.map []) := World.ownsMap_made w Tryz.prog 3 (plainElem (H := Unit) Tryz.prog 3)
 have hB0 : Below w.heap.size w (w.alloc (.map #[] 0)) := (Below.refl _ w).alloc (Nat.le_refl _) _
 obtain ⟨w1, r1, h1, g1⟩ := h0.update (by omega) 2 0 (by decide) (by decide)
 obtain ⟨w2, r2, h2, g2⟩ := h1.update (by omega) 3 0 (by decide) (by decide)
 obtain ⟨w3, r3, h3, g3⟩ := h2.update (by omega) 5 0 (by decide) (by decide)
 obtain ⟨w4, r4, h4, g4⟩ := h3.update (by omega) 7 0 (by decide) (by decide)
 obtain ⟨w5, r5, h5, g5⟩ := h4.update (by omega) 11 0 (by decide) (by decide)
 obtain ⟨w6, r6, h6, g6⟩ := h5.update (by omega) 13 0 (by decide) (by decide)
 have hl : ∀ j, some w.heap.size = some j → w.heap.size ≤ j := fun j hj => by cases hj; exact Nat.le_refl _
 have hB1 := hB0.grown g1 hB0.size hl
 have hB2 := hB1.grown g2 hB1.size hl
 have hB3 := hB2.grown g3 hB2.size hl
 have hB4 := hB3.grown g4 hB3.size hl
 have hB5 := hB4.grown g5 hB4.size hl
 have hB6 := hB5.grown g6 hB5.size hl
 clear hB0 hB1 hB2 hB3 hB4 hB5 g1 g2 g3 g4 g5 g6 h0 h1 h2 h3 h4 h5 hl
 go_enter Tryz.func224, Tryz.ntmps224
 go_wp2
 go_ret
 exact ⟨rfl, h6, hB6⟩
theorem exp0_has (p : Int) : Maps.has exp0 (litI p) = prmI p := by
 rw [exp0_eq, Maps.has_eq]
 unfold prmI
 rw [Bool.eq_iff_iff]
 simp [Lit.sameKey]
 omega
theorem OwnM.look_ok {w : World} {b n : Nat} {D : DataW Unit} (h : OwnM w b n D) (p : Int) (hp : (litI p).wf = true) :
 ∃ c, (Instr.lookup 218 (.map (some b)) (.int .i64 p) true).run Tryz.prog w = .ok (.tuple #[.int .i64 c, .bool (Maps.has D (litI p))]) w := by
 obtain ⟨v, ps, h1, h2⟩ := World.ownsMap.look_ok h keyI Tryz.underlying218 (zeroI w) (plainElem_int Tryz.underlying3 (by decide)) (keyOf_int_mk Tryz.underlying3 hp)
 obtain ⟨c, rfl, _, _⟩ := plainElem_int_inv Tryz.underlying3 h2
 exact ⟨c, h1⟩
theorem fits_wf {p : Int} (h : Fits p) : (litI p).wf = true := WalkArith.wf_i64 h
theorem implPrime (p : Int) (hp : Fits p) (w : World) : Calls Tryz.prog 198 #[.int .i64 p] w fun e w' => e = .returned (.bool (prmI p)) ∧ Below w.heap.size w w' := by
 have hwf := fits_wf hp
 have hh := exp0_has p
 cases hv : prmI p
 all_goals
  rw [hv] at hh
  clear hv
  go_enter Tryz.func198, Tryz.ntmps198
  go_wp2_with fail
  go_at_call 224
  refine (noExp _).mono ?_
  rintro e w1 ⟨rfl, hown, hB⟩
  obtain ⟨c, hl⟩ := hown.look_ok p hwf
  rw [hh] at hl
  clear hh hown
  go_wp2
  go_ret
  exact ⟨rfl, hB⟩
theorem implPrime_is {p : Int} {b : Bool} (hp : Fits p) (h : prmI p = b) (w : World) : Calls Tryz.prog 198 #[.int .i64 p] w fun e w' => e = .returned (.bool b) ∧ Below w.heap.size w w' := h ▸ implPrime p hp w
end
section
open Go.RowKit
theorem implLeftIn (row p : Int) (hf : Fits p) (w : World) : Calls Tryz.prog 165 #[.int .i64 row, .int .i64 p] w fun e w' => e = .returned (.int .i64 (keepV row p)) ∧ Below w.heap.size w w' := by
 cases hpr : prmI p with
 | false =>
   have hP := fun w => implPrime_is hf hpr w
   rw [keepV_bad (show badK row p from .inr (.inr hpr))]
   clear hpr hf
   go_enter Tryz.func165, Tryz.ntmps165
   go_wp2_with (go_at_call 198; (with_reducible refine (hP _).mono ?_); rintro e w1 ⟨rfl, hB1⟩)
   go_ret
   exact ⟨rfl, hB1⟩
 | true =>
   have hP := fun w => implPrime_is hf hpr w
   obtain ⟨P, rfl, hp⟩ := prmI_t hpr
   have hC := fun w => implCount row P w
   have hcv : countV row P = keepV row P := by
    by_cases hbad : badK row P
    · rw [keepV_bad hbad]
      unfold badK at hbad
      refine countV_bad ?_
      unfold bad1
      rcases hbad with h | h | h
      · exact .inl h
      · exact .inr (.inl h)
      · rw [hpr] at h; cases h
    · obtain ⟨n, P', rfl, h2, hn, hp'⟩ := badK_nat hbad
      exact keepV_count hn hp
   rw [hcv] at hC
   clear hcv hpr hf
   go_enter Tryz.func165, Tryz.ntmps165
   go_wp2_with (first | (go_at_call 198; (with_reducible refine (hP _).mono ?_); rintro e w1 ⟨rfl, hB1⟩) | (go_at_call 199; (with_reducible refine (hC _).mono ?_); rintro e w2 ⟨rfl, hB2⟩))
   go_ret
   exact ⟨rfl, hB1.trans (hB2.mono hB1.size)⟩
def smV (p : Nat) (d s : Int) (T : Nat → Nat) : Nat → Option Value := fun i =>
 if i = 0 then some (.int .i64 p) else if i = 1 then some (.int .u32 d) else if i = 2 then some (.int .i32 s) else if 4 ≤ i ∧ i < 260 then some (.int .i64 (T (i - 4))) else none
abbrev SmAt (w : World) (R p : Nat) (d s : Int) (T : Nat → Nat) : Prop := BlkAt w R 195 260 (smV p d s T)
theorem SmAt.done {w : World} {R p : Nat} {d s : Int} {T : Nat → Nat} (h : SmAt w R p d s T) (d' : Int) : SmAt (w.setCell ⟨R, 1, none⟩ (.int .u32 d')) R p d' s T :=
 (BlkAt.set h (.int .u32 d') (by omega)).weaken (fun i v hi => by
  unfold smV at hi
  unfold updV smV
  by_cases e : i = 1
  · subst e; simpa using hi
  · rw [if_neg e]; rw [if_neg e] at hi ⊢; exact hi)
theorem SmAt.state {w : World} {R p : Nat} {d s : Int} {T : Nat → Nat} (h : SmAt w R p d s T) (s' : Int) : SmAt (w.setCell ⟨R, 2, none⟩ (.int .i32 s')) R p d s' T :=
 (BlkAt.set h (.int .i32 s') (by omega)).weaken (fun i v hi => by
  unfold smV at hi
  unfold updV smV
  by_cases e : i = 2
  · subst e; simpa using hi
  · rw [if_neg e]; rw [if_neg e] at hi ⊢; exact hi)
theorem SmAt.cell0 {w : World} {R p : Nat} {d s : Int} {T : Nat → Nat} (h : SmAt w R p d s T) : w.cell? ⟨R, 0, none⟩ = some (.int .i64 p) := BlkAt.cell h rfl
theorem SmAt.cell1 {w : World} {R p : Nat} {d s : Int} {T : Nat → Nat} (h : SmAt w R p d s T) : w.cell? ⟨R, 1, none⟩ = some (.int .u32 d) := BlkAt.cell h rfl
theorem SmAt.cell2 {w : World} {R p : Nat} {d s : Int} {T : Nat → Nat} (h : SmAt w R p d s T) : w.cell? ⟨R, 2, none⟩ = some (.int .i32 s) := BlkAt.cell h rfl
theorem smV_at (p : Nat) (d s : Int) (T : Nat → Nat) {i : Nat} (hi : i < 256) : smV p d s T (4 + i) = some (.int .i64 (T i)) := by
 unfold smV
 rw [if_neg (by omega), if_neg (by omega), if_neg (by omega), if_pos (by omega), show 4 + i - 4 = i by omega]
theorem raceOff (w : World) : (callFunc 257 #[]).run Tryz.prog w = .ok (.value (.tuple #[])) w := run_call_mark0 Tryz.func257 (by kernel_rfl) (by kernel_rfl) (by kernel_rfl) .disable (by kernel_rfl) w
theorem raceOn (w : World) : (callFunc 259 #[]).run Tryz.prog w = .ok (.value (.tuple #[])) w := run_call_mark0 Tryz.func259 (by kernel_rfl) (by kernel_rfl) (by kernel_rfl) .enable (by kernel_rfl) w
theorem raceAcquire (a : Addr) (w : World) : (callFunc 260 #[.pointer (some a)]).run Tryz.prog w = .ok (.value (.tuple #[])) w := run_call_marked Tryz.func260 (by kernel_rfl) (by kernel_rfl) (by kernel_rfl) .acquire (by kernel_rfl) a w
theorem raceMerge (a : Addr) (w : World) : (callFunc 262 #[.pointer (some a)]).run Tryz.prog w = .ok (.value (.tuple #[])) w := run_call_marked Tryz.func262 (by kernel_rfl) (by kernel_rfl) (by kernel_rfl) .releaseMerge (by kernel_rfl) a w
theorem store_deferred (a : Addr) (x : Value) (u : FrameMode) (w : World) (hc : w.cell? a = some x) (hz : w.frozen? a = false) :
 CallsD Tryz.prog 252 #[.pointer (some a), .bool true] u w fun e u' w' => u' = u ∧ (e = .returned (.tuple #[]) ∧ w' = w.drew.setCell a (.int .u32 1)) := by
 have hc' : w.drew.cell? a = some x := by go_simp
 have hz' : w.drew.frozen? a = false := by go_simp
 have hst := run_call_store (P := Tryz.prog) Tryz.func255 (by kernel_rfl) (by kernel_rfl) (by kernel_rfl) (by kernel_rfl) (k := .u32) (y := 1) hc' hz'
 go_enter_d Tryz.func252, Tryz.ntmps252
 go_wp2
 go_region_calls
 all_goals (go_end0; exact ⟨rfl, rfl⟩)
set_option maxRecDepth 100000 in
theorem unlock_deferred (a : Addr) (u : FrameMode) (w : World) (hc : w.cell? a = some (.int .i32 1)) (hz : w.frozen? a = false) :
 CallsD Tryz.prog 251 #[.pointer (some a)] u w fun e u' w' => u' = u ∧ (e = .returned (.tuple #[]) ∧ w' = w.setCell a (.int .i32 0)) := by
 have hd := raceOff
 have he := raceOn
 have hr := raceMerge
 have hadd := run_call_add (P := Tryz.prog) Tryz.func263 (by kernel_rfl) (by kernel_rfl) (by kernel_rfl) .i32 (by kernel_rfl) (y := -1) (s := 0) hc hz (by simp [go_sem]; rfl)
 have hcv := run_convert_to_unsafe (P := Tryz.prog) (src := 248) (dst := 140) Tryz.underlying248 Tryz.underlying140 (by kernel_rfl) hc
 go_enter_d Tryz.func251, Tryz.ntmps251
 go_wp2
 go_end0
 go_wp2
 go_end0
 exact ⟨rfl, rfl⟩
set_option maxRecDepth 100000 in
theorem lock_free (a : Addr) (w : World) (hc : w.cell? a = some (.int .i32 0)) (hz : w.frozen? a = false) :
 Calls Tryz.prog 250 #[.pointer (some a)] w fun e w' => e = .returned (.tuple #[]) ∧ w' = w.setCell a (.int .i32 1) := by
 have hd := raceOff
 have he := raceOn
 have ha := raceAcquire
 have hcas := run_call_cas_hit (P := Tryz.prog) Tryz.func258 (by kernel_rfl) (by kernel_rfl) (by kernel_rfl) .i32 (by kernel_rfl) (y := 1) hc hz
 have hc' : (w.setCell a (.int .i32 1)).cell? a = some (.int .i32 1) := World.cell?_setCell_same w a _ hc
 have hcv := run_convert_to_unsafe (P := Tryz.prog) (src := 248) (dst := 140) Tryz.underlying248 Tryz.underlying140 (by kernel_rfl) hc'
 go_enter Tryz.func250, Tryz.ntmps250
 go_wp2
 first | go_end0 | (simp only [Exit.inBlock, Exit.then]; refine bodyPost_ret (results_none rfl _ _ _) rfl ?_) | refine bodyPost_ret (results_none rfl _ _ _) rfl ?_
 go_wp2
 go_end0
 exact ⟨rfl, rfl⟩
end
section
open Go.RowKit Go.Shelf
attribute [local go_sem] Oper.semAt_some
theorem grown_seq {w W W' : World} {r1 r2 row : Option Nat} (h1 : w.grownBy W r1) (h2 : W.grownBy W' r2) (k1 : ∀ k, r1 = some k → k < w.heap.size → row = some k) (k2 : ∀ k, r2 = some k → k < w.heap.size → row = some k) : w.grownBy W' row :=
 ⟨h2.os.trans h1.os, h2.tape.trans h1.tape, h2.output.trans h1.output, lT9 h1.size h2.size, fun b hb hr =>
  (h2.block b (lL9 hb h1.size) (fun e => hr (k2 b e.symm hb).symm)).trans (h1.block b hb (fun e => hr (k1 b e.symm hb).symm))⟩
def tabU (p j i : Nat) : Nat := if i / 16 < j then bin (i / 16) (i % 16) % p else 0
theorem tabU_zero (p i : Nat) : tabU p 0 i = 0 := by unfold tabU; rw [if_neg (by omega)]
theorem tabU_at {p j a b : Nat} (ha : a < j) (hb : b < 16) : tabU p j (16 * a + b) = bin a b % p := by
 unfold tabU; rw [show (16 * a + b) / 16 = a by omega, show (16 * a + b) % 16 = b by omega, if_pos ha]
theorem tab_next {p x : Nat} {d s : Int} {i : Nat} {v : Value} {V : Nat → Option Value} (hV : ∀ i, (i < 4 ∨ 4 + x * 16 + 16 ≤ i ∨ i < 4 + x * 16) → V i = smV p d s (tabU p x) i) (h : smV p d s (tabU p (x + 1)) i = some v) :
 (if 4 + x * 16 ≤ i ∧ i < 4 + x * 16 + 16 then some (Value.int .i64 ((bin x (i - (4 + x * 16)) % p : Nat) : Int)) else V i) = some v := by
 by_cases e : 4 + x * 16 ≤ i ∧ i < 4 + x * 16 + 16
 · rw [if_pos e]
   unfold smV at h
   by_cases e2 : i < 260
   · rw [if_neg (by omega), if_neg (by omega), if_neg (by omega), if_pos (by omega)] at h
     unfold tabU at h
     rw [show (i - 4) / 16 = x by omega, if_pos (by omega), show (i - 4) % 16 = i - (4 + x * 16) by omega] at h
     exact h
   · rw [if_neg (by omega), if_neg (by omega), if_neg (by omega), if_neg (by omega)] at h; cases h
 · rw [if_neg e, hV i (by omega), ← h]
   unfold smV tabU
   by_cases e2 : 4 ≤ i
   · have : ((i - 4) / 16 < x) = ((i - 4) / 16 < x + 1) := by apply propext; omega
     simp only [this]
   · rw [if_neg (show ¬ (4 ≤ i ∧ i < 260) by omega), if_neg (show ¬ (4 ≤ i ∧ i < 260) by omega)]
theorem copy_blk (w : World) (ty : TypeId) (g off dL dC b sL sC N : Nat) (t : TypeId) (V : Nat → Option Value) (f : Nat → Nat)
 (hle : sL ≤ dL) (hfit : off + sL ≤ N) (hr : BlkAt w g t N V)
 (hs : ∀ i, i < sL → w.cell? ⟨b, i, none⟩ = some (.int .i64 (f i))) :
 ∃ w', (Builtin.copy_ #[28, 28] ty #[.slice (some ⟨g, off, none⟩) dL dC, .slice (some ⟨b, 0, none⟩) sL sC]).run Tryz.prog w = .ok (.int .i64 sL) w' ∧
   BlkAt w' g t N (fun i => if off ≤ i ∧ i < off + sL then some (.int .i64 (f (i - off))) else V i) ∧ w.grownBy w' (some g) := by
 obtain ⟨cur, h1, h2, h3⟩ := hr
 have hmin : Nat.min sL dL = sL := Nat.min_eq_left hle
 have hrun := run_copy_row Tryz.prog w 28 28 ty 3 g off dL dC ⟨b, 0, none⟩ sL sC cur t ((List.range sL).map fun i => Value.int .i64 (f i)) Tryz.underlying28 (by kernel_rfl) h1 (by rw [hmin]; simp)
  (fun j v hj => by
   rw [List.getElem?_map] at hj
   by_cases e : j < sL
   · rw [List.getElem?_range e] at hj
     have hadd : (⟨b, 0, none⟩ : Addr).add j = ⟨b, j, none⟩ := by unfold Addr.add; split <;> simp_all
     rw [hadd, hs j e]; simpa using hj
   · rw [List.getElem?_eq_none (by simp; omega)] at hj; cases hj) (by simp; omega) (fun v hv => by simp at hv; obtain ⟨i, _, rfl⟩ := hv; rfl)
 refine ⟨_, by simpa [goInt] using hrun, ⟨_, setRow_heap w g cur _ t _ h1, by simp; omega, fun i v hi => ?_⟩, ⟨rfl, rfl, rfl, by simp, fun k _ hr => setRow_other w g k _ (fun e => hr (by rw [e]))⟩⟩
 · have ht : (List.take off cur.toList).length = off := by simp; omega
   dsimp only at hi
   rw [List.getElem?_toArray]
   by_cases e1 : i < off
   · rw [if_neg (by omega)] at hi
     rw [List.getElem?_append_left (by omega), List.getElem?_take, if_pos e1, Array.getElem?_toList]; exact h3 i v hi
   · rw [List.getElem?_append_right (by omega), ht]
     by_cases e2 : i < off + sL
     · rw [if_pos ⟨by omega, e2⟩] at hi
       rw [List.getElem?_append_left (by simp; omega), List.getElem?_map, List.getElem?_range (by omega)]
       exact hi
     · rw [if_neg (by omega)] at hi
       rw [List.getElem?_append_right (by simp; omega), List.getElem?_drop, Array.getElem?_toList]
       simp only [List.length_map, List.length_range]
       rw [show off + sL + (i - off - sL) = i by omega]; exact h3 i v hi
set_option maxRecDepth 100000 in
set_option maxHeartbeats 1000000 in
theorem fill_in (R p : Nat) (hp : prm p) (w : World) (h : SmAt w R p 0 1 (fun _ => 0)) : Calls Tryz.prog 244 #[.pointer (some ⟨R, 0, none⟩)] w fun e w' =>
 (∃ v, e = .returned v) ∧ SmAt w' R p 0 1 (tabU p p) ∧ w.grownBy w' (some R) := by
 have hp2 := prm_two hp
 have hRw := BlkAt.lt h
 obtain ⟨L, hL⟩ : ∃ L, p = L + 1 := ⟨p - 1, by omega⟩
 refine (cW9 (n := 9)).1 ?_
 refine callsIn_of_wp_marks Tryz.func244 rfl trivial ?_ rfl
 simp only [Tryz.ntmps244, List.size_toArray, List.length_cons, List.length_nil, Nat.reduceAdd, Nat.reduceSub, Array.replicate_succ, Array.replicate_zero, List.push_toArray, List.append_toArray, List.nil_append, List.cons_append]
 have h1 : SmAt (w.alloc (.cells #[.pointer (some ⟨R, 0, none⟩)] 221)) R p 0 1 (fun _ => 0) := BlkAt.kept h (World.grownBy_alloc w _ none) (by simp)
 have hc0 := SmAt.cell0 h1
 have hpi : (p : Int) - 1 = (L : Int) := by omega
 have hLb : L ≤ 12 := by omega
 have hL' := hide hL
 clear hL
 gi_wp2_with (refine ⟨trivial, ?_⟩; gi_at_call 145; refine (cW9.2 (rowsTo_in _ _)).mono ?_; rintro e w' ⟨rfl, rfl⟩)
 clear hc0 hpi
 obtain ⟨W0, hW0⟩ : ∃ W0, ((w.alloc (.cells #[.pointer (some ⟨R, 0, none⟩)] 221)).alloc (Obj.cells #[Value.int IntKind.i64 L] 3)) = W0 := ⟨_, rfl⟩
 have hsz1 : W0.heap.size ≤ w.heap.size + 2 := by rw [← hW0]; simp
 have hsz2 : w.heap.size + 2 ≤ W0.heap.size := by rw [← hW0]; simp
 have hbox : Boxed W0 w.heap.size 221 (.pointer (some ⟨R, 0, none⟩)) := by rw [← hW0]; exact (Boxed.new w _ _).alloc _
 have hbx : Boxed W0 (w.heap.size + 1) 3 (.int .i64 L) := by rw [← hW0]; have := Boxed.new (w.alloc (.cells #[.pointer (some ⟨R, 0, none⟩)] 221)) 3 (.int .i64 L); rwa [World.size_alloc] at this
 have hgr : w.grownBy W0 (some R) := by rw [← hW0]; exact grown_seq (World.grownBy_alloc w _ none) (World.grownBy_alloc _ _ none) (fun _ e => by cases e) (fun _ e => by cases e)
 have hsm : SmAt W0 R p 0 1 (fun _ => 0) := by rw [← hW0]; exact BlkAt.kept h1 (World.grownBy_alloc _ _ none) (by simp)
 rw [hW0]
 clear hW0 h1
 refine wpIn_rangeFunc_mem rfl (by omega) (gf := 182) (lb := #[.pointer (some ⟨w.heap.size + 1, 0, none⟩)]) rfl trivial (enters_of Tryz.func182 (by kernel_rfl) rfl)
  (rows_stops (9 - 1) (w.heap.size + 1) L (by omega) (by omega) W0 (by omega) hbx.cell) (fun _ _ => rfl) (by omega)
  (fun pre x W o h => ⟨h.1, h.2.1, h.2.2.of_block (World.putObj_heap_other (by omega))⟩) (fun xs W o h => ⟨h.1, h.2.of_block (World.putObj_heap_other (by omega))⟩)
  (fun pre W o h => by obtain ⟨j, h1, h2, h3⟩ := h; exact ⟨j, h1, h2, h3.of_block (World.putObj_heap_other (by omega))⟩)
  (fun pre W => Boxed W w.heap.size 221 (.pointer (some ⟨R, 0, none⟩)) ∧ SmAt W R p 0 1 (tabU p pre.length) ∧ w.grownBy W (some R)) (fun _ _ _ => False)
  (fun s A B row hs hg hr => ⟨hs.1.kept hg (fun e => by have := hr _ e.symm; omega), BlkAt.kept hs.2.1 hg (fun e => by have := hr _ e.symm; omega), grown_seq hs.2.2 hg (fun k e _ => e) (fun k e hk => by have := hr _ e; omega)⟩)
  (fun _ _ _ _ _ hs _ _ => hs) ⟨hbox, hsm.weaken (fun i v hi => by rw [show tabU p ([] : List Nat).length = fun _ => 0 by funext i; exact tabU_zero p i] at hi; exact hi), hgr⟩
  (fun x => { tmps := #[.pointer (some ⟨R, 0, none⟩), .pointer (some ⟨w.heap.size, 0, none⟩), .slice (some ⟨W0.heap.size + 2, 0, none⟩) (x + 1) (L + 1), undef, .pointer (some ⟨R, 0, none⟩), .pointer (some ⟨R, 0, none⟩), .pointer (some ⟨R, 0, none⟩), .int .i64 p, .int .i64 L,
   .func (.func 182) #[] #[.pointer (some ⟨w.heap.size + 1, 0, none⟩)], .slice (some ⟨W0.heap.size + 2, 0, none⟩) (x + 1) (L + 1), undef, undef, undef, undef, undef, undef, undef, undef, undef, undef, undef, undef, undef, undef, undef, undef, undef, undef, undef, undef, undef, undef], defers := [] }) ?assign ?body ?done ?stop
 case assign =>
  intro l x W K hK
  gi_wp2
  exact hK
 case body =>
  rintro l pre x W hlt ⟨hb, hS, hB⟩ ⟨hpre, hx, hrow⟩
  have hc := hb.cell
  have hpl : pre.length = x := by subst hpre; simp
  rw [hpl] at hS
  have hc0 := SmAt.cell0 hS
  have hx16 : (x : Int) < 16 := by omega
  obtain ⟨W2, hcp, hS2, hg2⟩ := copy_blk W 3 R (4 + x * 16) 16 16 (W0.heap.size + 2) (x + 1) (L + 1) 260 _ _ (bin x) (by omega) (by omega) hS (fun i hi => hrow.cell (i := i) (by omega))
  have hb2 := hb.kept hg2 (by simp; omega)
  have hcb := hb2.cell
  have hcz : W2.cell? ⟨R, 0, none⟩ = some (.int .i64 p) := BlkAt.cell hS2 (by rw [if_neg (by omega)]; rfl)
  gi_wp2
  have hkl := keepLeft_blk R (4 + x * 16) 16 16 260 _ _ (bin x) p W2.drew (by omega) (by omega) (by omega) (by omega) (fun i => bin_small x i (by omega)) (hS2.of_block rfl) (fun i hi => by
   by_cases e : i < x + 1
   · rw [if_pos (by omega), show 4 + x * 16 + i - (4 + x * 16) = i by omega]
   · rw [if_neg (by omega), Nat.add_assoc, smV_at p 0 1 _ (by omega)]
     unfold tabU
     rw [if_neg (by omega), bin_over x i (by omega)])
  have hcb' : W2.drew.cell? ⟨w.heap.size, 0, none⟩ = some (.pointer (some ⟨R, 0, none⟩)) := hcb
  have hcz' : W2.drew.cell? ⟨R, 0, none⟩ = some (.int .i64 p) := hcz
  have hbl : ∀ k, k ≠ R → k < W.heap.size → W2.drew.heap[k]? = W.heap[k]? := fun k hk hlt => hg2.block k hlt (fun e => hk (by injection e))
  obtain ⟨Post, hPost⟩ : ∃ Post : World → Prop, Post = fun W3 => SmAt W3 R p 0 1 (tabU p (x + 1)) ∧ W.grownBy W3 (some R) := ⟨_, rfl⟩
  have hkl' : Calls Tryz.prog 248 #[.slice (some ⟨R, 4 + x * 16, none⟩) 16 16, .int .i64 p] W2.drew fun e w' => (∃ v, e = .returned v) ∧ Post w' := hkl.mono fun e w' ⟨h1, h2, h3⟩ => ⟨h1, by
   rw [hPost]
   refine ⟨h2.weaken (fun i v hi => tab_next (V := fun i => if 4 + x * 16 ≤ i ∧ i < 4 + x * 16 + (x + 1) then some (.int .i64 (bin x (i - (4 + x * 16)))) else smV p 0 1 (tabU p x) i) (fun i hi => ?_) hi), grown_seq hg2 (⟨h3.os, h3.tape, h3.output, h3.size, h3.block⟩ : W2.grownBy w' (some R)) (fun _ e _ => e) (fun _ e _ => e)⟩
   rw [if_neg (by omega)]⟩
  have hPost' := hide hPost
  clear hS2 hkl hcb hcz hc hc0 hcp hrow hPost
  refine wpIn_region_inv (by kernel_rfl) (by kernel_rfl) (fun M b V => ∃ s0 s1 s2 s3 s4 s5 s6 s7 s8 s9 s10 : Value, b = { tmps := #[.pointer (some ⟨R, 0, none⟩), .pointer (some ⟨w.heap.size, 0, none⟩), .slice (some ⟨W0.heap.size + 2, 0, none⟩) (x + 1) (L + 1), .int .i64 x, .pointer (some ⟨R, 0, none⟩), .pointer (some ⟨R, 0, none⟩), .pointer (some ⟨R, 0, none⟩), .int .i64 p, .int .i64 L,
   .func (.func 182) #[] #[.pointer (some ⟨w.heap.size + 1, 0, none⟩)], .slice (some ⟨W0.heap.size + 2, 0, none⟩) (x + 1) (L + 1), .slice (some ⟨W0.heap.size + 2, 0, none⟩) (x + 1) (L + 1), .int .i64 ((x : Int) + 1), .int .i64 x, .pointer (some ⟨R, 0, none⟩), .int .i64 x, .pointer (some ⟨R, 0, none⟩), .pointer (some ⟨R, 4, none⟩), .pointer (some ⟨R, 4 + x * 16, none⟩), .slice (some ⟨R, 4 + x * 16, none⟩) 16 16, .slice (some ⟨W0.heap.size + 2, 0, none⟩) (x + 1) (L + 1), .int .i64 ((x : Int) + 1), s0, s1, s2, s3, s4, s5, s6, s7, s8, s9, s10], defers := [] } ∧
   (M 0 = true → s0 = .pointer (some ⟨R, 0, none⟩)) ∧ (M 1 = true → s1 = .int .i64 x) ∧ (M 2 = true → s2 = .pointer (some ⟨R, 0, none⟩) ∧ M 0 = true) ∧ (M 3 = true → s3 = .pointer (some ⟨R, 4, none⟩) ∧ M 2 = true) ∧
   (M 4 = true → s4 = .pointer (some ⟨R, 4 + x * 16, none⟩) ∧ M 3 = true) ∧ (M 5 = true → s5 = .slice (some ⟨R, 4 + x * 16, none⟩) 16 16 ∧ M 4 = true) ∧ (M 6 = true → s6 = .pointer (some ⟨R, 0, none⟩)) ∧ (M 7 = true → s7 = .pointer (some ⟨R, 0, none⟩) ∧ M 6 = true) ∧
   (M 8 = true → s8 = .pointer (some ⟨R, 0, none⟩) ∧ M 7 = true) ∧ (M 9 = true → s9 = .int .i64 p ∧ M 8 = true) ∧
   ((M 10 = false ∧ V = W2.drew) ∨ (M 10 = true ∧ M 0 = true ∧ M 6 = true ∧ M 9 = true ∧ Post V))) ?h0 ?step ?fin
  case h0 => exact ⟨undef, undef, undef, undef, undef, undef, undef, undef, undef, undef, undef, rfl, by simp, by simp, by simp, by simp, by simp, by simp, by simp, by simp, by simp, by simp, .inl ⟨rfl, rfl⟩⟩
  case step =>
   rintro M b V i o ho hMi hde ⟨s0, s1, s2, s3, s4, s5, s6, s7, s8, s9, s10, rfl, f0, f1, f2, f3, f4, f5, f6, f7, f8, f9, fw⟩ Q' hQ'
   have hi : i < 11 := (gE9.1 ho).1
   have hQ := hide hQ'
   clear hQ'
   rcases (show i = 0 ∨ i = 1 ∨ i = 2 ∨ i = 3 ∨ i = 4 ∨ i = 5 ∨ i = 6 ∨ i = 7 ∨ i = 8 ∨ i = 9 ∨ i = 10 by omega) with rfl | rfl | rfl | rfl | rfl | rfl | rfl | rfl | rfl | rfl | rfl
   all_goals
    simp at ho
    subst ho
    simp [Region.binds] at hde
   case' inl => rcases fw with ⟨fw0, rfl⟩ | ⟨_, h1, h2, h3, _⟩
   case' inr.inr.inl => obtain rfl := f0 hde
   case' inr.inr.inr.inl => obtain ⟨rfl, h0⟩ := f2 hde
   case' inr.inr.inr.inr.inl => obtain ⟨rfl, h0⟩ := f3 hde.1; obtain rfl := f1 hde.2
   case' inr.inr.inr.inr.inr.inl => obtain ⟨rfl, h0⟩ := f4 hde
   case' inr.inr.inr.inr.inr.inr.inl => rcases fw with ⟨fw0, rfl⟩ | ⟨_, h1, h2, h3, _⟩
   case' inr.inr.inr.inr.inr.inr.inr.inl => obtain rfl := f6 hde
   case' inr.inr.inr.inr.inr.inr.inr.inr.inl => obtain ⟨rfl, h0⟩ := f7 hde
   case' inr.inr.inr.inr.inr.inr.inr.inr.inr.inl => obtain ⟨rfl, h0⟩ := f8 hde; rcases fw with ⟨fw0, rfl⟩ | ⟨_, h1, h2, h3, _⟩
   case' inr.inr.inr.inr.inr.inr.inr.inr.inr.inr => obtain ⟨rfl, h5⟩ := f5 hde.1; obtain ⟨rfl, h9⟩ := f9 hde.2; rcases fw with ⟨fw0, rfl⟩ | ⟨h1, _⟩
   all_goals
    first | (rw [h1] at hMi; cases hMi; done) | (rw [h2] at hMi; cases hMi; done) | (rw [h3] at hMi; cases hMi; done) | skip
   all_goals
    gi_wp2_with (refine ⟨trivial, ?_⟩; gi_at_call 248; refine (cW9.2 hkl').mono ?_; clear hkl'; rintro e W3 ⟨⟨v, rfl⟩, hP3⟩)
    refine hQ.out _ _ ⟨_, _, _, _, _, _, _, _, _, _, _, rfl, ?_, ?_, ?_, ?_, ?_, ?_, ?_, ?_, ?_, ?_, ?_⟩
    all_goals first
     | (intro hM; first
       | exact rfl
       | exact ⟨rfl, by simpa using hde⟩
       | exact ⟨rfl, by simpa using hde.1⟩
       | exact f0 (by simpa using hM)
       | exact f1 (by simpa using hM)
       | exact f6 (by simpa using hM)
       | (have g := f2 (by simpa using hM); exact ⟨by first | rfl | exact g.1, by first | (simp; done) | simpa using g.2⟩)
       | (have g := f3 (by simpa using hM); exact ⟨by first | rfl | exact g.1, by first | (simp; done) | simpa using g.2⟩)
       | (have g := f4 (by simpa using hM); exact ⟨by first | rfl | exact g.1, by first | (simp; done) | simpa using g.2⟩)
       | (have g := f5 (by simpa using hM); exact ⟨by first | rfl | exact g.1, by first | (simp; done) | simpa using g.2⟩)
       | (have g := f7 (by simpa using hM); exact ⟨by first | rfl | exact g.1, by first | (simp; done) | simpa using g.2⟩)
       | (have g := f8 (by simpa using hM); exact ⟨by first | rfl | exact g.1, by first | (simp; done) | simpa using g.2⟩)
       | (have g := f9 (by simpa using hM); exact ⟨by first | rfl | exact g.1, by first | (simp; done) | simpa using g.2⟩))
     | exact .inl ⟨by simpa using fw0, rfl⟩
     | exact .inr ⟨by simp, by simpa using (f2 (f3 (f4 h5).2).2).2, by simpa using (f7 (f8 h9).2).2, by simpa using hde.2, hP3⟩
     | exact fw.elim (fun ⟨u, v⟩ => .inl ⟨by simpa using u, v⟩) (fun ⟨u, v, x, y, z⟩ => .inr ⟨by simpa using u, by simpa using v, by simpa using x, by simpa using y, z⟩)
  case fin =>
   rintro M b V hall ⟨s0, s1, s2, s3, s4, s5, s6, s7, s8, s9, s10, rfl, _, _, _, _, _, _, _, _, _, _, fw⟩
   rcases fw with ⟨u, _⟩ | ⟨_, _, _, _, hP3⟩
   · rw [hall 10 (by simp)] at u; cases u
   · rw [hPost'.out] at hP3
     obtain ⟨hS3, hg3⟩ := hP3
     gi_wp2
     refine ⟨KeepsSet.of_grownBy hg3 (fun r e => by cases e; omega), hb.kept hg3 (by simp; omega), ?_, grown_seq hB hg3 (fun _ e _ => e) (fun _ e _ => e)⟩
     rw [show (pre ++ [x]).length = x + 1 by simp [hpl]]
     exact hS3
 case done =>
  rintro ys W ⟨rfl, hrow⟩ ⟨hb, hS, hB⟩ hK
  rw [List.length_range] at hS
  gi_wp2
  refine ⟨by simp, .inl ⟨_, _, rfl, run_takeDeferred hK, ?_⟩⟩
  refine ⟨_, results_none rfl _ _ _, ⟨_, rfl⟩, ?_, ?_⟩
  · rw [hL'.out]; rw [hL'.out] at hS; exact BlkAt.kept hS (grownBy_putObj' W _ _) (by simp; omega)
  · exact grown_seq hB (grownBy_putObj' W _ _) (fun _ e _ => e) (fun k e hk => by cases e; omega)
 case stop =>
  rintro c pre W _ h _
  exact h.elim
end
section
open Go.RowKit
set_option maxRecDepth 100000 in
set_option maxHeartbeats 1600000 in
theorem slow_in (R p : Nat) (hp : prm p) (w : World) (h : SmAt w R p 0 0 (fun _ => 0)) :
 Calls Tryz.prog 247 #[.pointer (some ⟨R, 1, none⟩), .func (.func 244) #[.pointer (some ⟨R, 0, none⟩)] #[]] w fun e w' => e = .returned (.tuple #[]) ∧ SmAt w' R p 1 0 (tabU p p) ∧ w.grownBy w' (some R) := by
 have h1 := h.state 1
 have hg1 : w.grownBy (w.setCell ⟨R, 2, none⟩ (.int .i32 1)) (some R) := grownBy_set (grownBy_refl _ _) _ _
 have hl := run_call_load (P := Tryz.prog) Tryz.func249 (by kernel_rfl) (by kernel_rfl) (by kernel_rfl) .u32 (by kernel_rfl) (w := w.setCell ⟨R, 2, none⟩ (.int .i32 1)) (a := ⟨R, 1, none⟩) (x := 0) h1.cell1
 have hnot : ∀ (x : Bool) (w : World), (Op.unary .not (.bool x)).run Tryz.prog w = .ok (.bool (!x)) w := fun _ _ => rfl
 go_enter_defers Tryz.func247, Tryz.ntmps247
 go_wp2_with (go_at_call 250; refine (lock_free ⟨R, 2, none⟩ _ h.cell2 (BlkAt.frozen h 2)).mono ?_; rintro e w' ⟨rfl, rfl⟩)
 go_wp2_with (first | (go_at_call 246; go_in) | (go_at_call 244; refine (fill_in R p hp _ h1).mono ?_; clear hl; rintro e w2 ⟨⟨v, rfl⟩, h2, hg2⟩))
 refine leaves_cons (f := 252) (args := #[.pointer (some ⟨R, 1, none⟩), .bool true]) (by simp) (by simp [go_sem]) ?_
 refine (store_deferred ⟨R, 1, none⟩ (.int .u32 0) .returning _ h2.cell1 (BlkAt.frozen h2 1)).mono ?_
 rintro e u' w'' ⟨rfl, rfl, rfl⟩
 have h3 := SmAt.done (BlkAt.of_block (w' := w2.drew) h2 rfl) 1
 refine leaves_cons (f := 251) (args := #[.pointer (some ⟨R, 2, none⟩)]) (by simp [settle]) (by simp [go_sem]) ?_
 refine (unlock_deferred ⟨R, 2, none⟩ _ _ h3.cell2 (BlkAt.frozen h3 2)).mono ?_
 rintro e u' w'' ⟨rfl, rfl, rfl⟩
 have h4 := h3.state 0
 have hgE : w.grownBy ((w2.drew.setCell ⟨R, 1, none⟩ (.int .u32 1)).setCell ⟨R, 2, none⟩ (.int .i32 0)) (some R) := grownBy_set (grownBy_set (grownBy_drew (hg1.trans hg2)) _ _) _ _
 simp only [Leaves, settle]
 exact ⟨_, results_none rfl _ _ _, rfl, h4, hgE⟩
theorem do_first (R p : Nat) (hp : prm p) (w : World) (h : SmAt w R p 0 0 (fun _ => 0)) :
 Calls Tryz.prog 243 #[.pointer (some ⟨R, 1, none⟩), .func (.func 244) #[.pointer (some ⟨R, 0, none⟩)] #[]] w fun e w' => (∃ v, e = .returned v) ∧ SmAt w' R p 1 0 (tabU p p) ∧ w.grownBy w' (some R) := by
 have hl := run_call_load (P := Tryz.prog) Tryz.func249 (by kernel_rfl) (by kernel_rfl) (by kernel_rfl) .u32 (by kernel_rfl) h.cell1
 have hnot : ∀ (x : Bool) (w : World), (Op.unary .not (.bool x)).run Tryz.prog w = .ok (.bool (!x)) w := fun _ _ => rfl
 go_enter Tryz.func243, Tryz.ntmps243
 go_wp2_with (first | (go_at_call 247; refine (slow_in R p hp _ h).mono ?_; rintro e w' ⟨rfl, h2, hg2⟩) | (go_at_call 246; go_in))
 go_end0
 exact ⟨⟨_, rfl⟩, h2, hg2⟩
theorem do_done (R p : Nat) (T : Nat → Nat) (fv : Value) (w : World) (h : SmAt w R p 1 0 T) :
 Calls Tryz.prog 243 #[.pointer (some ⟨R, 1, none⟩), fv] w fun e w' => (∃ v, e = .returned v) ∧ w' = w := by
 have hl := run_call_load (P := Tryz.prog) Tryz.func249 (by kernel_rfl) (by kernel_rfl) (by kernel_rfl) .u32 (by kernel_rfl) h.cell1
 have hnot : ∀ (x : Bool) (w : World), (Op.unary .not (.bool x)).run Tryz.prog w = .ok (.bool (!x)) w := fun _ _ => rfl
 go_enter Tryz.func243, Tryz.ntmps243
 go_wp2_with (go_at_call 246; go_in)
 go_end0
 exact ⟨⟨_, rfl⟩, rfl⟩
def Sm (w : World) (R p : Nat) : Prop := SmAt w R p 0 0 (fun _ => 0) ∨ SmAt w R p 1 0 (tabU p p)
theorem Sm.once {w : World} {R p : Nat} (hp : prm p) (h : Sm w R p) :
 Calls Tryz.prog 243 #[.pointer (some ⟨R, 1, none⟩), .func (.func 244) #[.pointer (some ⟨R, 0, none⟩)] #[]] w fun e w' => (∃ v, e = .returned v) ∧ SmAt w' R p 1 0 (tabU p p) ∧ w.grownBy w' (some R) := by
 rcases h with h | h
 · exact do_first R p hp w h
 · exact (do_done R p _ _ w h).mono fun e w' ⟨h1, h2⟩ => ⟨h1, h2 ▸ h, h2 ▸ grownBy_refl _ _⟩
theorem Sm.kept {w w' : World} {R p : Nat} {row : Option Nat} (h : Sm w R p) (hg : w.grownBy w' row) (hr : some R ≠ row) : Sm w' R p := by
 rcases h with h | h
 · exact .inl (BlkAt.kept h hg hr)
 · exact .inr (BlkAt.kept h hg hr)
theorem Sm.drew {w : World} {R p : Nat} (h : Sm w R p) : Sm w.drew R p := by
 rcases h with h | h
 · exact .inl (BlkAt.of_block h rfl)
 · exact .inr (BlkAt.of_block h rfl)
theorem Sm.cell0 {w : World} {R p : Nat} (h : Sm w R p) : w.cell? ⟨R, 0, none⟩ = some (.int .i64 p) := by
 rcases h with h | h
 · exact SmAt.cell0 h
 · exact SmAt.cell0 h
theorem Sm.lt {w : World} {R p : Nat} (h : Sm w R p) : R < w.heap.size := by
 rcases h with h | h
 · exact BlkAt.lt h
 · exact BlkAt.lt h
set_option maxHeartbeats 400000 in
theorem smallCell_in (R p a b : Nat) (hp : prm p) (ha : a < p) (hb : b < p) (w : World) (h : Sm w R p) : Calls Tryz.prog 226 #[.pointer (some ⟨R, 0, none⟩), .int .i64 a, .int .i64 b] w fun e w' =>
 e = .returned (.int .i64 ((bin a b % p : Nat) : Int)) ∧ Sm w' R p ∧ w.grownBy w' (some R) := by
 have hp2 := prm_two hp
 have hmf : ∀ (fn : Fn) (first cap : Array Value) (w : World), (Instr.makeFunc fn first cap).run Tryz.prog w = .ok (.func fn first cap) w := fun _ _ _ _ => rfl
 have hO := h.once hp
 clear h
 obtain ⟨C, hC⟩ : ∃ C, bin a b % p = C := ⟨_, rfl⟩
 rw [hC]
 have hC' := hide hC
 clear hC
 go_enter Tryz.func226, Tryz.ntmps226
 go_wp2_with fail
 go_at_call 243
 refine hO.mono ?_
 clear hO
 rintro e w1 ⟨⟨v, rfl⟩, h1, hg1⟩
 have hc : w1.cell? ⟨R, 4 + a * 16 + b, none⟩ = some (.int .i64 C) := by
  have := BlkAt.cell h1 (i := 4 + (16 * a + b)) (smV_at p 1 0 _ (by omega))
  rw [tabU_at ha (by omega), hC'.out] at this
  rw [show 4 + a * 16 + b = 4 + (16 * a + b) by omega]; exact this
 have ha16 : (a : Int) < 16 := by omega
 have hb16 : (b : Int) < 16 := by omega
 go_wp2
 go_ret
 exact ⟨rfl, .inr h1, hg1⟩
end
section
open Go.RowKit Go.Shelf
attribute [local go_sem] Oper.semAt_some
set_option maxRecDepth 100000 in
set_option maxHeartbeats 1000000 in
theorem leftIn_in (R X Y p : Nat) (hp : prm p) (hX : X ≤ 999999999) (hY : Y ≤ 999999999) (w : World) (h : Sm w R p) : Calls Tryz.prog 200 #[.pointer (some ⟨R, 0, none⟩), .int .i64 X, .int .i64 Y] w fun e w' =>
 e = .returned (.int .i64 ((bin X Y % p : Nat) : Int)) ∧ Sm w' R p ∧ w.grownBy w' (some R) := by
 have hp2 := prm_two hp
 have hR := h.lt
 refine (cW9 (n := 9)).1 ?_
 refine callsIn_of_wp_marks Tryz.func200 rfl trivial ?_ rfl
 simp only [Tryz.ntmps200, List.size_toArray, List.length_cons, List.length_nil, Nat.reduceAdd, Nat.reduceSub, Array.replicate_succ, Array.replicate_zero, List.push_toArray, List.append_toArray, List.nil_append, List.cons_append]
 have hc0 : ((w.alloc (.cells #[.pointer (some ⟨R, 0, none⟩)] 221)).alloc (.cells #[.int .i64 1] 3)).cell? ⟨R, 0, none⟩ = some (.int .i64 p) := ((h.kept (World.grownBy_alloc w _ none) (by simp)).kept (World.grownBy_alloc _ _ none) (by simp)).cell0
 have hcb : ((w.alloc (.cells #[.pointer (some ⟨R, 0, none⟩)] 221)).alloc (.cells #[.int .i64 1] 3)).cell? ⟨w.heap.size, 0, none⟩ = some (.pointer (some ⟨R, 0, none⟩)) := ((Boxed.new w _ _).alloc _).cell
 gi_wp2_with (refine ⟨trivial, ?_⟩; gi_at_call 203; refine (cW9.2 (digitsBeside_in _ _ _ _)).mono ?_; rintro e w' ⟨rfl, rfl⟩)
 clear hc0 hcb
 obtain ⟨W0, hW0⟩ : ∃ W0, (((((w.alloc (.cells #[.pointer (some ⟨R, 0, none⟩)] 221)).alloc (.cells #[.int .i64 1] 3)).alloc (.cells #[.int .i64 X] 3)).alloc (.cells #[.int .i64 Y] 3)).alloc (.cells #[.int .i64 p] 3)) = W0 := ⟨_, rfl⟩
 have hsz1 : W0.heap.size ≤ w.heap.size + 5 := by rw [← hW0]; simp
 have hsz2 : w.heap.size + 5 ≤ W0.heap.size := by rw [← hW0]; simp
 have hb0 : Boxed W0 w.heap.size 221 (.pointer (some ⟨R, 0, none⟩)) := by rw [← hW0]; exact ((((boxed_at _ _ (by simp)).alloc _).alloc _).alloc _).alloc _
 have hb1 : Boxed W0 (w.heap.size + 1) 3 (.int .i64 1) := by rw [← hW0]; exact (((boxed_at _ _ (by simp)).alloc _).alloc _).alloc _
 have hb3 : Boxed W0 (w.heap.size + 1 + 1) 3 (.int .i64 X) := by rw [← hW0]; exact ((boxed_at _ _ (by simp)).alloc _).alloc _
 have hb4 : Boxed W0 (w.heap.size + 1 + 1 + 1) 3 (.int .i64 Y) := by rw [← hW0]; exact (boxed_at _ _ (by simp)).alloc _
 have hb5 : Boxed W0 (w.heap.size + 1 + 1 + 1 + 1) 3 (.int .i64 p) := by rw [← hW0]; exact boxed_at _ _ (by simp)
 have hgr : w.grownBy W0 (some R) := by
  rw [← hW0]
  exact grown_seq (grown_seq (grown_seq (grown_seq (grown_seq (row := some R) (grownBy_refl w none) (World.grownBy_alloc _ _ none) (fun _ e => by cases e) (fun _ e => by cases e)) (World.grownBy_alloc _ _ none) (fun _ e _ => e) (fun _ e => by cases e)) (World.grownBy_alloc _ _ none) (fun _ e _ => e) (fun _ e => by cases e)) (World.grownBy_alloc _ _ none) (fun _ e _ => e) (fun _ e => by cases e)) (World.grownBy_alloc _ _ none) (fun _ e _ => e) (fun _ e => by cases e)
 have hsm : Sm W0 R p := by
  rw [← hW0]
  exact ((((h.kept (World.grownBy_alloc _ _ none) (by simp)).kept (World.grownBy_alloc _ _ none) (by simp)).kept (World.grownBy_alloc _ _ none) (by simp)).kept (World.grownBy_alloc _ _ none) (by simp)).kept (World.grownBy_alloc _ _ none) (by simp)
 rw [hW0]
 clear hW0
 have hone : prodL ([] : List (Nat × Nat)) % p = 1 := by show 1 % p = 1; exact Nat.mod_eq_of_lt (by omega)
 refine wpIn_rangeFunc_mem rfl (by omega) (gf := 228) (lb := #[.pointer (some ⟨w.heap.size + 1 + 1, 0, none⟩), .pointer (some ⟨w.heap.size + 1 + 1 + 1 + 1, 0, none⟩), .pointer (some ⟨w.heap.size + 1 + 1 + 1, 0, none⟩)]) rfl trivial (enters_of Tryz.func228 (by kernel_rfl) rfl)
  (beside_stops (9 - 1) (w.heap.size + 1 + 1) (w.heap.size + 1 + 1 + 1 + 1) (w.heap.size + 1 + 1 + 1) X Y p (by omega) (by omega) hp2.1 (by omega) (by omega) W0 (by omega) (by omega) (by omega) hb3.cell hb5.cell hb4.cell) (fun _ _ => rfl) (by omega)
  (fun pre x W o h => by obtain ⟨R1, R2, m, k, ht, h1, h2, h3⟩ := h; exact ⟨R1, R2, m, k, ht, h1.of_block (World.putObj_heap_other (by unfold Two at ht; omega)), h2.of_block (World.putObj_heap_other (by unfold Two at ht; omega)), h3⟩) (fun xs W o h => h) (fun pre W o h => h)
  (fun pre W => Boxed W w.heap.size 221 (.pointer (some ⟨R, 0, none⟩)) ∧ Boxed W (w.heap.size + 1) 3 (.int .i64 ((prodL pre % p : Nat) : Int)) ∧ Sm W R p ∧ w.grownBy W (some R)) (fun _ _ _ => False)
  (fun s A B row hs hg hr => ⟨hs.1.kept hg (fun e => by have := hr _ e.symm; omega), hs.2.1.kept hg (fun e => by have := hr _ e.symm; omega), hs.2.2.1.kept hg (fun e => by have := hr _ e.symm; omega), grown_seq hs.2.2.2 hg (fun k e _ => e) (fun k e hk => by have := hr _ e; omega)⟩)
  (fun _ _ _ _ _ hs _ _ => hs) ⟨hb0, by rw [hone]; exact hb1, hsm, hgr⟩
  (fun x => { tmps := #[.pointer (some ⟨R, 0, none⟩), .int .i64 X, .int .i64 Y, .pointer (some ⟨w.heap.size, 0, none⟩), undef, undef, .int .i64 0, .pointer (some ⟨w.heap.size + 1, 0, none⟩), .int .i64 x.1, .int .i64 x.2, .int .i64 X, .int .i64 Y, .pointer (some ⟨R, 0, none⟩), .pointer (some ⟨R, 0, none⟩), .pointer (some ⟨R, 0, none⟩), .int .i64 p,
   .func (.func 228) #[] #[.pointer (some ⟨w.heap.size + 1 + 1, 0, none⟩), .pointer (some ⟨w.heap.size + 1 + 1 + 1 + 1, 0, none⟩), .pointer (some ⟨w.heap.size + 1 + 1 + 1, 0, none⟩)], .int .i64 x.1, .int .i64 x.2, undef, undef, undef, undef, undef, undef, undef, undef, undef, undef, undef, undef], defers := [] }) ?assign ?body ?done ?stop
 case assign =>
  intro l x W K hK
  gi_wp2
  exact hK
 case body =>
  rintro l pre ⟨u, v⟩ W hlt ⟨hx0, hx1, hS, hB⟩ ⟨R1, R2, m, k, _, _, _, _, hu, hv⟩
  simp only at hu hv
  have hstep := prodL_step (p := p) pre (u, v)
  simp only at hstep
  have hAl : prodL pre % p < p := Nat.mod_lt _ (by omega)
  have hCl : bin u v % p < p := Nat.mod_lt _ (by omega)
  have hcall := fun V (hV : Sm V R p) => smallCell_in R p u v hp hu hv V hV
  obtain ⟨A, hA⟩ : ∃ A, prodL pre % p = A := ⟨_, rfl⟩
  obtain ⟨C, hC⟩ : ∃ C, bin u v % p = C := ⟨_, rfl⟩
  rw [hA, hC] at hstep
  rw [hA] at hAl hx1
  rw [hC] at hCl
  simp only [hC] at hcall
  clear hA hC
  obtain ⟨D, hD⟩ : ∃ D, A * C = D := ⟨_, rfl⟩
  have hDl : D ≤ 13 * 13 := by rw [← hD]; exact Nat.mul_le_mul (by omega) (by omega)
  have hDi : (A : Int) * (C : Int) = (D : Int) := by rw [← hD]; simp
  rw [hD] at hstep
  clear hD
  have hq := tmod_n D p
  rw [hstep] at hq
  have hrl : prodL (pre ++ [(u, v)]) % p < p := Nat.mod_lt _ (by omega)
  clear hstep
  obtain ⟨E, hE⟩ : ∃ E, prodL (pre ++ [(u, v)]) % p = E := ⟨_, rfl⟩
  rw [hE] at hq hrl
  have hE' := hide hE
  clear hE
  have hw1 : IntKind.i64.wrap (D : Int) = D := IntWalk.i64_in _ (by omega)
  have hw2 : IntKind.i64.wrap (E : Int) = E := IntWalk.i64_in _ (by omega)
  have hp0 : ((p : Int) == 0) = false := by simp; omega
  obtain ⟨Pre, hPre⟩ : ∃ Pre : World → Prop, Pre = fun V => Boxed V w.heap.size 221 (.pointer (some ⟨R, 0, none⟩)) ∧ Boxed V (w.heap.size + 1) 3 (.int .i64 A) ∧ Sm V R p ∧ W.grownBy V (some R) := ⟨_, rfl⟩
  obtain ⟨Post, hPost⟩ : ∃ Post : World → Prop, Post = fun V => Boxed V w.heap.size 221 (.pointer (some ⟨R, 0, none⟩)) ∧ Boxed V (w.heap.size + 1) 3 (.int .i64 E) ∧ Sm V R p ∧ ∃ V0, W.grownBy V0 (some R) ∧ V0.grownBy V (some (w.heap.size + 1)) := ⟨_, rfl⟩
  have p0 : Pre W.drew := by rw [hPre]; exact ⟨hx0, hx1, hS.drew, grownBy_drew (grownBy_refl _ _)⟩
  have pbox : ∀ V, Pre V → V.cell? ⟨w.heap.size, 0, none⟩ = some (.pointer (some ⟨R, 0, none⟩)) := fun V h => by rw [hPre] at h; exact h.1.cell
  have pleft : ∀ V, Pre V → V.cell? ⟨w.heap.size + 1, 0, none⟩ = some (.int .i64 A) := fun V h => by rw [hPre] at h; exact h.2.1.cell
  have pfr : ∀ V, Pre V → V.frozen? ⟨w.heap.size + 1, 0, none⟩ = false := fun V h => by rw [hPre] at h; exact h.2.1.frozen
  have pp : ∀ V, Pre V → V.cell? ⟨R, 0, none⟩ = some (.int .i64 p) := fun V h => by rw [hPre] at h; exact h.2.2.1.cell0
  have pcall : ∀ V, Pre V → Calls Tryz.prog 226 #[.pointer (some ⟨R, 0, none⟩), .int .i64 u, .int .i64 v] V fun e w' => e = .returned (.int .i64 C) ∧ Pre w' := fun V h => by
   rw [hPre] at h ⊢
   exact (hcall V h.2.2.1).mono fun e w' ⟨h1, h2, h3⟩ => ⟨h1, h.1.kept h3 (by simp; omega), h.2.1.kept h3 (by simp; omega), h2, h.2.2.2.trans h3⟩
  have ppost : ∀ V, Pre V → Post (V.setCell ⟨w.heap.size + 1, 0, none⟩ (.int .i64 E)) := fun V h => by
   rw [hPre] at h
   rw [hPost]
   exact ⟨h.1.other (by omega) _, h.2.1.set _, h.2.2.1.kept (grownBy_set (grownBy_refl V (some (w.heap.size + 1))) 0 (.int .i64 E)) (by simp; omega), V, h.2.2.2, grownBy_set (grownBy_refl _ _) _ _⟩
  have hPost' := hide hPost
  clear hcall hPre hPost
  gi_wp2
  refine wpIn_region_inv (by kernel_rfl) (by kernel_rfl) (fun M b V => ∃ s0 s1 s2 s3 s4 s5 s6 s7 s8 s9 s10 : Value, b = { tmps := #[.pointer (some ⟨R, 0, none⟩), .int .i64 X, .int .i64 Y, .pointer (some ⟨w.heap.size, 0, none⟩), undef, undef, .int .i64 0, .pointer (some ⟨w.heap.size + 1, 0, none⟩), .int .i64 u, .int .i64 v, .int .i64 X, .int .i64 Y, .pointer (some ⟨R, 0, none⟩), .pointer (some ⟨R, 0, none⟩), .pointer (some ⟨R, 0, none⟩), .int .i64 p,
   .func (.func 228) #[] #[.pointer (some ⟨w.heap.size + 1 + 1, 0, none⟩), .pointer (some ⟨w.heap.size + 1 + 1 + 1 + 1, 0, none⟩), .pointer (some ⟨w.heap.size + 1 + 1 + 1, 0, none⟩)], .int .i64 u, .int .i64 v, s0, s1, s2, s3, s4, s5, s6, s7, s8, s9, s10, undef], defers := [] } ∧
    (M 0 = true → s0 = .int .i64 A) ∧ (M 1 = true → s1 = .pointer (some ⟨R, 0, none⟩)) ∧ (M 2 = true → s2 = .int .i64 u) ∧ (M 3 = true → s3 = .int .i64 v) ∧
    (M 4 = true → s4 = .int .i64 C ∧ M 1 = true) ∧ (M 5 = true → s5 = .int .i64 D ∧ M 0 = true ∧ M 4 = true) ∧ (M 6 = true → s6 = .pointer (some ⟨R, 0, none⟩)) ∧ (M 7 = true → s7 = .pointer (some ⟨R, 0, none⟩) ∧ M 6 = true) ∧
    (M 8 = true → s8 = .pointer (some ⟨R, 0, none⟩) ∧ M 7 = true) ∧ (M 9 = true → s9 = .int .i64 p ∧ M 8 = true) ∧ (M 10 = true → s10 = .int .i64 E ∧ M 5 = true ∧ M 9 = true) ∧
    ((M 11 = false ∧ Pre V) ∨ (M 11 = true ∧ M 0 = true ∧ M 1 = true ∧ M 4 = true ∧ M 6 = true ∧ M 9 = true ∧ Post V))) ?h0 ?step ?fin
  case h0 => exact ⟨undef, undef, undef, undef, undef, undef, undef, undef, undef, undef, undef, rfl, by simp, by simp, by simp, by simp, by simp, by simp, by simp, by simp, by simp, by simp, by simp, .inl ⟨rfl, p0⟩⟩
  case step =>
   rintro M b V i o ho hMi hde ⟨s0, s1, s2, s3, s4, s5, s6, s7, s8, s9, s10, rfl, f0, f1, f2, f3, f4, f5, f6, f7, f8, f9, f10, fw⟩ Q' hQ'
   have hi : i < 12 := (gE9.1 ho).1
   have hQ := hide hQ'
   clear hQ'
   rcases (show i = 0 ∨ i = 1 ∨ i = 2 ∨ i = 3 ∨ i = 4 ∨ i = 5 ∨ i = 6 ∨ i = 7 ∨ i = 8 ∨ i = 9 ∨ i = 10 ∨ i = 11 by omega) with rfl | rfl | rfl | rfl | rfl | rfl | rfl | rfl | rfl | rfl | rfl | rfl
   all_goals
    simp at ho
    subst ho
    simp [Region.binds] at hde
   case' inl => have gw := fw; rcases gw with ⟨fw0, hP⟩ | ⟨h11, h1, h2, h3, h4, h5, _⟩; have hc := pleft V hP
   case' inr.inl => have gw := fw; rcases gw with ⟨fw0, hP⟩ | ⟨h11, h1, h2, h3, h4, h5, _⟩; have hc := pbox V hP
   case' inr.inr.inr.inr.inl => obtain rfl := f1 hde.1; obtain rfl := f2 hde.2.1; obtain rfl := f3 hde.2.2; rcases fw with ⟨fw0, hP⟩ | ⟨h11, h1, h2, h3, h4, h5, _⟩; have hcl := pcall V hP
   case' inr.inr.inr.inr.inr.inl => obtain rfl := f0 hde.1; obtain ⟨rfl, _⟩ := f4 hde.2
   case' inr.inr.inr.inr.inr.inr.inl => have gw := fw; rcases gw with ⟨fw0, hP⟩ | ⟨h11, h1, h2, h3, h4, h5, _⟩; have hc := pbox V hP
   case' inr.inr.inr.inr.inr.inr.inr.inl => obtain rfl := f6 hde
   case' inr.inr.inr.inr.inr.inr.inr.inr.inl => obtain ⟨rfl, _⟩ := f7 hde
   case' inr.inr.inr.inr.inr.inr.inr.inr.inr.inl => obtain ⟨rfl, _⟩ := f8 hde; have gw := fw; rcases gw with ⟨fw0, hP⟩ | ⟨h11, h1, h2, h3, h4, h5, _⟩; have hc := pp V hP
   case' inr.inr.inr.inr.inr.inr.inr.inr.inr.inr.inl => obtain ⟨rfl, _⟩ := f5 hde.1; obtain ⟨rfl, _⟩ := f9 hde.2
   case' inr.inr.inr.inr.inr.inr.inr.inr.inr.inr.inr => obtain ⟨rfl, g5, g9⟩ := f10 hde.1; rcases fw with ⟨fw0, hP⟩ | ⟨h11, h1, h2, h3, h4, h5, _⟩; have hc := pleft V hP; have hfz := pfr V hP
   all_goals
    first | (rw [h1] at hMi; cases hMi; done) | (rw [h2] at hMi; cases hMi; done) | (rw [h3] at hMi; cases hMi; done) | (rw [h4] at hMi; cases hMi; done) | (rw [h5] at hMi; cases hMi; done) | (rw [h11] at hMi; cases hMi; done) | skip
   all_goals
    gi_wp2_with (refine ⟨trivial, ?_⟩; gi_at_call 226; refine (cW9.2 hcl).mono ?_; clear hcl; rintro e W3 ⟨rfl, hP3⟩)
    refine hQ.out _ _ ⟨_, _, _, _, _, _, _, _, _, _, _, rfl, ?_, ?_, ?_, ?_, ?_, ?_, ?_, ?_, ?_, ?_, ?_, ?_⟩
    all_goals first
     | (intro hM; first
       | exact rfl
       | exact ⟨rfl, by simpa using hde⟩
       | exact ⟨rfl, by simpa using hde.1⟩
       | exact ⟨rfl, by simpa using hde.1, by simpa using hde.2⟩
       | exact f0 (by simpa using hM)
       | exact f1 (by simpa using hM)
       | exact f2 (by simpa using hM)
       | exact f3 (by simpa using hM)
       | exact f6 (by simpa using hM)
       | (have g := f4 (by simpa using hM); exact ⟨by first | rfl | exact g.1, by first | (simp; done) | simpa using g.2⟩)
       | (have g := f5 (by simpa using hM); exact ⟨by first | rfl | exact g.1, by first | (simp; done) | simpa using g.2.1, by first | (simp; done) | simpa using g.2.2⟩)
       | (have g := f7 (by simpa using hM); exact ⟨by first | rfl | exact g.1, by first | (simp; done) | simpa using g.2⟩)
       | (have g := f8 (by simpa using hM); exact ⟨by first | rfl | exact g.1, by first | (simp; done) | simpa using g.2⟩)
       | (have g := f9 (by simpa using hM); exact ⟨by first | rfl | exact g.1, by first | (simp; done) | simpa using g.2⟩)
       | (have g := f10 (by simpa using hM); exact ⟨by first | rfl | exact g.1, by first | (simp; done) | simpa using g.2.1, by first | (simp; done) | simpa using g.2.2⟩))
     | exact .inl ⟨by simpa using fw0, hP⟩
     | exact .inl ⟨by simpa using fw0, hP3⟩
     | exact .inr ⟨by simp, by simpa using (f5 g5).2.1, by simpa using (f4 (f5 g5).2.2).2, by simpa using (f5 g5).2.2, by simpa using (f7 (f8 (f9 g9).2).2).2, by simpa using g9, ppost V hP⟩
     | exact fw.elim (fun ⟨a, b⟩ => .inl ⟨by simpa using a, b⟩) (fun ⟨a, b, c, d, e, f, z⟩ => .inr ⟨by simpa using a, by simpa using b, by simpa using c, by simpa using d, by simpa using e, by simpa using f, z⟩)
  case fin =>
   rintro M b V hall ⟨s0, s1, s2, s3, s4, s5, s6, s7, s8, s9, s10, rfl, _, _, _, _, _, _, _, _, _, _, _, fw⟩
   rcases fw with ⟨a, _⟩ | ⟨_, _, _, _, _, _, hP3⟩
   · rw [hall 11 (by simp)] at a; cases a
   · rw [hPost'.out] at hP3
     obtain ⟨q0, q1, q2, V0, q3, q4⟩ := hP3
     gi_wp2
     refine ⟨(KeepsSet.of_grownBy q3 (fun r e => by cases e; omega)).trans (KeepsSet.of_grownBy q4 (fun r e => by cases e; omega)), q0, by rw [hE'.out]; exact q1, q2, grown_seq (grown_seq hB q3 (fun _ e _ => e) (fun _ e _ => e)) q4 (fun _ e _ => e) (fun k e hk => by cases e; omega)⟩
 case done =>
  rintro ys W hys ⟨hx0, hx1, hS, hB⟩ hK
  obtain rfl : ys = pairs p X Y := hys
  rw [prodL_left hp] at hx1
  have hc := hx1.cell
  gi_wp2
  refine ⟨by simp, .inl ⟨_, _, rfl, run_takeDeferred hK, ?_⟩⟩
  refine ⟨_, results_tmp rfl _ _ _, rfl, hS.kept (grownBy_putObj' W _ _) (by simp; omega), ?_⟩
  exact grown_seq hB (grownBy_putObj' W _ _) (fun _ e _ => e) (fun k e hk => by cases e; omega)
 case stop =>
  rintro c pre W _ h _
  exact h.elim
def smZ : Array Value := #[.int .i64 0, .int .u32 0, .int .i32 0, .int .u32 0] ++ Array.replicate 256 (.int .i64 0)
def smP (p : Int) : Array Value := #[.int .i64 p, .int .u32 0, .int .i32 0, .int .u32 0] ++ Array.replicate 256 (.int .i64 0)
theorem smP_built (p : Int) : Tryz.prog.built 195 [(0, .int .i64 p)] = some (smP p) := by kernel_rfl
theorem smZ_zero (w : World) : (zeroValue 195).run Tryz.prog w = .ok (.agg smZ) w := by kernel_rfl
theorem smP_info (p : Int) : (Tryz.prog.info? 195).map (·.size) = some (smP p).size := by kernel_rfl
theorem smZ_size (p : Int) : smZ.size = (smP p).size := by kernel_rfl
theorem smP_one (p : Int) : (smP p).all (·.oneCell') = true := by kernel_rfl
theorem smP_size (p : Int) : (smP p).size = 260 := by kernel_rfl
theorem smP_at (p : Nat) (i : Nat) (v : Value) (h : smV p 0 0 (fun _ => 0) i = some v) : (smP p)[i]? = some v := by
 unfold smV at h
 unfold smP
 by_cases e0 : i = 0
 · subst e0; simpa using h
 · by_cases e1 : i = 1
   · subst e1; simpa using h
   · by_cases e2 : i = 2
     · subst e2; simpa using h
     · by_cases e3 : 4 ≤ i ∧ i < 260
       · rw [if_neg e0, if_neg e1, if_neg e2, if_pos e3] at h
         rw [Array.getElem?_append_right (by simp; omega), Array.getElem?_replicate, if_pos (by simp; omega)]
         exact h
       · rw [if_neg e0, if_neg e1, if_neg e2, if_neg e3] at h; cases h
theorem build_sm {ops : Array Oper} {rest : List Oper} {o : Oper} {a : Act} {w : World} {Q : Exit → Act → World → Prop} (hg : o.guard = none) (x : Operand) (ho : o.op = .build 195 #[(0, x)]) (p : Int) (hx : a.eval x = .int .i64 p)
 (h : wpList Tryz.prog ops Q rest (a.put o.dst (.agg (smP p))) w) : wpList Tryz.prog ops Q (o :: rest) a w := by
 refine wpList_plain hg fun K hK => ?_
 unfold Oper.wp execOp
 simp only [ho]
 have := run_build (P := Tryz.prog) w 195 #[(0, .int .i64 p)] (smP p) (smP_built p)
 simp [hx, this]
 exact hK _ _ h
theorem alloc_sm {ops : Array Oper} {rest : List Oper} {o : Oper} {a : Act} {w : World} {Q : Exit → Act → World → Prop} (hg : o.guard = none) (ho : o.op = .alloc 195)
 (h : wpList Tryz.prog ops Q rest (a.put o.dst (.pointer (some ⟨w.heap.size, 0, none⟩))) (w.alloc (.cells smZ 195))) : wpList Tryz.prog ops Q (o :: rest) a w := by
 refine wpList_plain hg fun K hK => ?_
 unfold Oper.wp execOp
 simp only [ho]
 have hr : (Instr.alloc 195 true (.tuple #[])).run Tryz.prog w = .ok (.pointer (some ⟨w.heap.size, 0, none⟩)) (w.alloc (.cells smZ 195)) := by
  unfold Instr.alloc
  simp only [Sem.run_bind, smZ_zero, Result.andThen_ok]
  rfl
 simp [hr]
 exact hK _ _ h
theorem store_sm {ops : Array Oper} {rest : List Oper} {o : Oper} {a : Act} {w : World} {Q : Exit → Act → World → Prop} (hgd : o.guard = none) (x y : Operand) (ho : o.op = .store 195 x y) (g p : Nat)
 (hx : a.eval x = .pointer (some ⟨g, 0, none⟩)) (hy : a.eval y = .agg (smP p)) (hg : w.heap[g]? = some (.cells smZ 195 (0, 0)))
 (h : ∀ w', SmAt w' g p 0 0 (fun _ => 0) → w.grownBy w' (some g) → wpList Tryz.prog ops Q rest (a.put o.dst undef) w') : wpList Tryz.prog ops Q (o :: rest) a w :=
 wpList_store_row hgd 195 x y ho g (smP p) hx hy 195 smZ hg (smP_info p) (smZ_size p) (smP_one p)
  (h _ ⟨smP p, setRow_heap w g smZ _ _ _ hg, smP_size p, smP_at p⟩ ⟨rfl, rfl, rfl, by simp, fun k _ hr => setRow_other w g k _ (fun e => hr (by rw [e]))⟩)
set_option maxHeartbeats 400000 in
theorem implLeft (row place p : Int) (hpf : Fits p) (w : World) : Calls Tryz.prog 166 #[.int .i64 row, .int .i64 place, .int .i64 p] w fun e w' => e = .returned (.int .i64 (leftV row place p)) ∧ Below w.heap.size w w' := by
 by_cases h1 : row < 0 ∨ 999999999 < row
 · rw [leftV_bad (h1.imp id .inl)]
   go_enter Tryz.func166, Tryz.ntmps166
   go_wp2_with (go_at_call 55; refine (within_f _ _ _ (by omega)).mono ?_; rintro e w' ⟨rfl, rfl⟩)
   go_ret
   exact ⟨rfl, Below.refl _ _⟩
 · by_cases h2 : place < 0 ∨ 999999999 < place
   · rw [leftV_bad (.inr (.inr (h2.imp id .inl)))]
     go_enter Tryz.func166, Tryz.ntmps166
     go_wp2_with (first | (go_at_call 55; refine (within_t _ _ _ (by omega) (by omega)).mono ?_; rintro e w' ⟨rfl, rfl⟩) | (go_at_call 55; refine (within_f _ _ _ (by omega)).mono ?_; rintro e w' ⟨rfl, rfl⟩))
     go_ret
     exact ⟨rfl, Below.refl _ _⟩
   · cases hpr : prmI p with
     | false =>
       rw [leftV_bad (.inr (.inr (.inr (.inr hpr))))]
       have hP := fun w => implPrime_is hpf hpr w
       clear hpr
       go_enter Tryz.func166, Tryz.ntmps166
       go_wp2_with (first | (go_at_call 55; refine (within_t _ _ _ (by omega) (by omega)).mono ?_; rintro e w' ⟨rfl, rfl⟩) | (go_at_call 198; refine (hP _).mono ?_; rintro e w' ⟨rfl, hB⟩))
       go_ret
       exact ⟨rfl, hB⟩
     | true =>
       have hP := fun w => implPrime_is hpf hpr w
       obtain ⟨B, rfl, hB⟩ := prmI_t hpr
       obtain ⟨N, rfl⟩ : ∃ N : Nat, row = N := ⟨row.toNat, by omega⟩
       obtain ⟨K, rfl⟩ : ∃ K : Nat, place = K := ⟨place.toNat, by omega⟩
       have hN : N ≤ 999999999 := by omega
       have hK : K ≤ 999999999 := by omega
       rw [leftV_nat hN hK hB]
       have hU := fun R w h => leftIn_in R N K B hB hN hK w h
       generalize bin N K % B = T at *
       clear hpr
       go_enter Tryz.func166, Tryz.ntmps166
       go_wp2_with (first
        | (go_at_call 55; refine (within_t _ _ _ (by omega) (by omega)).mono ?_; rintro e w' ⟨rfl, rfl⟩)
        | (go_at_call 198; refine (hP _).mono ?_; rintro e w1 ⟨rfl, hB1⟩)
        | (refine build_sm rfl _ rfl B rfl ?_)
        | (refine alloc_sm rfl rfl ?_)
        | (refine store_sm rfl _ _ rfl w1.heap.size B rfl rfl (heap_alloc_new _ _) ?_; intro w2 hS2 hg2)
        | (go_at_call 200; refine (hU _ _ (.inl hS2)).mono ?_; rintro e w3 ⟨rfl, _, hg3⟩))
       go_ret
       refine ⟨rfl, ?_⟩
       have hb1 := (hB1.alloc hB1.size (.cells smZ 195)).grown hg2 (by have := hB1.size; simp; omega) (fun k e => by cases e; exact hB1.size)
       exact hb1.grown hg3 hb1.size (fun k e => by cases e; exact hB1.size)
end
section
open Go.RowKit Go.Maps
theorem upTo (N B : Nat) (hN : N ≤ 999999999) (hB2 : 2 ≤ B) (hB13 : B ≤ 13) (w : World) : Calls Tryz.prog 227 #[.int .i64 N, .int .i64 B] w fun e w' => e = .returned (.int .i64 (tup B N)) ∧ w = w' := by
 have hlt := tup_le hB2 N
 obtain ⟨S, hS⟩ : ∃ S, tup B N = S := ⟨_, rfl⟩
 rw [hS] at hlt ⊢
 have hS0 : 0 + tup B N = S := by omega
 clear hS
 go_enter Tryz.func227, Tryz.ntmps227
 go_wp2
 go_loop [0, 5] (fun n s => ∃ m t : Nat, n = .int .i64 m ∧ s = .int .i64 t ∧ m ≤ N ∧ t + tup B m = S) (fun n _ => (intOf n).toNat)
 case atStart => exact ⟨N, 0, rfl, rfl, Nat.le_refl _, hS0⟩
 case round =>
  clear hS0
  obtain ⟨m, t, rfl, rfl, hm, hs⟩ := hrel
  by_cases hlt : 0 < m
  · rw [tup_pos hB2 hlt] at hs
    have hq2 := tdiv_n m B
    have hb0 : ((B : Int) == 0) = false := by simp; omega
    have hdl := Nat.div_lt_self hlt hB2
    generalize m / B = q at *
    have hs' := hide hs
    have hts : t + q ≤ S := by omega
    clear hs
    have hw2 : IntKind.i64.wrap (q : Int) = q := IntWalk.i64_in _ (by omega)
    go_wp2
    go_round
    case rel => exact ⟨q, t + q, rfl, by go_num, by omega, by have := hs'.out; omega⟩
    case measure => simp [intOf]; omega
  · obtain rfl : m = 0 := by omega
    rw [tup_zero] at hs
    obtain rfl : t = S := by omega
    clear hs
    go_wp2
    go_ret
    exact ⟨rfl, rfl⟩
set_option maxHeartbeats 400000 in
theorem timesAt_in (N K B : Nat) (hN : N ≤ 499999999) (hK : K ≤ N) (hB2 : 2 ≤ B) (hB13 : B ≤ 13) (w : World) : Calls Tryz.prog 201 #[.int .i64 N, .int .i64 K, .int .i64 B] w fun e w' => e = .returned (.int .i64 (cars B N K)) ∧ w = w' := by
 obtain ⟨R, hR⟩ : ∃ R, N - K = R := ⟨_, rfl⟩
 have hRi : (N : Int) - (K : Int) = (R : Int) := by omega
 have e1 := fun w => upTo N B (by omega) hB2 hB13 w
 have e2 := fun w => upTo K B (by omega) hB2 hB13 w
 have e3 := fun w => upTo R B (by omega) hB2 hB13 w
 have hc := tup_cars hB2 hK
 rw [hR] at hc
 have hl := tup_le hB2 N
 generalize tup B N = T1 at *
 generalize tup B K = T2 at *
 generalize tup B R = T3 at *
 generalize cars B N K = C at *
 have hv := hide (show (T1 : Int) - T2 - T3 = C by omega)
 have hl1 : (T1 : Int) ≤ 499999999 := by omega
 have hl2 : (T2 : Int) ≤ 499999999 := by omega
 have hl3 : (T3 : Int) ≤ 499999999 := by omega
 clear hc hR hl
 go_enter Tryz.func201, Tryz.ntmps201
 go_wp2_with (first | (go_at_call 227; (with_reducible refine (e1 _).mono ?_); rintro e w' ⟨rfl, rfl⟩) | (go_at_call 227; (with_reducible refine (e2 _).mono ?_); rintro e w' ⟨rfl, rfl⟩) | (go_at_call 227; (with_reducible refine (e3 _).mono ?_); rintro e w' ⟨rfl, rfl⟩))
 go_ret
 exact ⟨ret_int hv.out, rfl⟩
set_option maxHeartbeats 400000 in
theorem implCellT (row place p : Int) (hp : Fits p) (w : World) : Calls Tryz.prog 167 #[.int .i64 row, .int .i64 place, .int .i64 p] w fun e w' => e = .returned (.int .i64 (cellTV row place p)) ∧ Below w.heap.size w w' := by
 by_cases h1 : row < 0 ∨ 499999999 < row
 · rw [cellTV_bad (h1.imp id .inl)]
   go_enter Tryz.func167, Tryz.ntmps167
   go_wp2_with (go_at_call 55; refine (within_f _ _ _ (by omega)).mono ?_; rintro e w' ⟨rfl, rfl⟩)
   go_ret
   exact ⟨rfl, Below.refl _ _⟩
 · by_cases h2 : place < 0 ∨ row < place
   · rw [cellTV_bad (.inr (.inr (h2.imp id .inl)))]
     go_enter Tryz.func167, Tryz.ntmps167
     go_wp2_with (first | (go_at_call 55; refine (within_t _ _ _ (by omega) (by omega)).mono ?_; rintro e w' ⟨rfl, rfl⟩) | (go_at_call 55; refine (within_f _ _ _ (by omega)).mono ?_; rintro e w' ⟨rfl, rfl⟩))
     go_ret
     exact ⟨rfl, Below.refl _ _⟩
   · cases hpr : prmI p with
     | false =>
       rw [cellTV_bad (.inr (.inr (.inr (.inr hpr))))]
       have hP := fun w => implPrime_is hp hpr w
       clear hpr
       go_enter Tryz.func167, Tryz.ntmps167
       go_wp2_with (first | (go_at_call 55; refine (within_t _ _ _ (by omega) (by omega)).mono ?_; rintro e w' ⟨rfl, rfl⟩) | (go_at_call 198; refine (hP _).mono ?_; rintro e w' ⟨rfl, hB⟩))
       go_ret
       exact ⟨rfl, hB⟩
     | true =>
       have hP := fun w => implPrime_is hp hpr w
       obtain ⟨B, rfl, hB⟩ := prmI_t hpr
       obtain ⟨N, rfl⟩ : ∃ N : Nat, row = N := ⟨row.toNat, by omega⟩
       obtain ⟨K, rfl⟩ : ∃ K : Nat, place = K := ⟨place.toNat, by omega⟩
       have hN : N ≤ 499999999 := by omega
       have hK : K ≤ N := by omega
       have hB2 := prm_two hB
       rw [cellTV_nat hN hK hB]
       have hU := fun w => timesAt_in N K B hN hK hB2.1 hB2.2 w
       generalize cars B N K = T at *
       clear hpr
       go_enter Tryz.func167, Tryz.ntmps167
       go_wp2_with (first | (go_at_call 55; refine (within_t _ _ _ (by omega) (by omega)).mono ?_; rintro e w' ⟨rfl, rfl⟩) | (go_at_call 198; refine (hP _).mono ?_; rintro e w' ⟨rfl, hB⟩) | (go_at_call 201; refine (hU _).mono ?_; rintro e w' ⟨rfl, rfl⟩))
       go_ret
       exact ⟨rfl, hB⟩
end
section
open Go.RowKit
set_option maxHeartbeats 400000 in
theorem specLeftIn (row p : Int) (w : World) : Calls Tryz.prog 116 #[.int .i64 row, .int .i64 p] w fun e w' => e = .returned (.int .i64 (keepV row p)) ∧ w = w' := by
 by_cases hbad : badK row p
 · rw [keepV_bad hbad]
   unfold badK at hbad
   cases hpr : prmI p with
   | false =>
     have hP := fun w => specPrime_is hpr w
     clear hpr hbad
     go_enter Tryz.func116, Tryz.ntmps116
     go_wp2_with (go_at_call 150; refine (hP _).mono ?_; rintro e w' ⟨rfl, rfl⟩)
     go_ret
     exact ⟨rfl, rfl⟩
   | true =>
     have hP := fun w => specPrime_is hpr w
     have hr : row < 0 ∨ 999999999 < row := by
      rcases hbad with h | h | h
      · exact .inl h
      · exact .inr h
      · rw [hpr] at h; cases h
     clear hpr hbad
     go_enter Tryz.func116, Tryz.ntmps116
     go_wp2_with (first | (go_at_call 150; refine (hP _).mono ?_; rintro e w' ⟨rfl, rfl⟩) | (go_at_call 95; refine (l1In_f _ _ _ _ (by omega)).mono ?_; rintro e w' ⟨rfl, rfl⟩))
     go_ret
     exact ⟨rfl, rfl⟩
 · obtain ⟨N, P, rfl, rfl, hN, hp⟩ := badK_nat hbad
   rw [← keepV_count hN hp]
   have hP := fun w => specPrime_is (prmI_ok hp) w
   have hC := fun w => specCount N P w
   obtain ⟨c, hc⟩ : ∃ c, countV N P = c := ⟨_, rfl⟩
   rw [hc] at hC ⊢
   clear hbad hc
   go_enter Tryz.func116, Tryz.ntmps116
   go_wp2_with (first | (go_at_call 150; refine (hP _).mono ?_; rintro e w' ⟨rfl, rfl⟩) | (go_at_call 95; refine (l1In_t _ _ _ _ (by omega) (by omega)).mono ?_; rintro e w' ⟨rfl, rfl⟩) | (go_at_call 151; refine (hC _).mono ?_; rintro e w' ⟨rfl, rfl⟩))
   go_ret
   exact ⟨rfl, rfl⟩
set_option maxHeartbeats 400000 in
theorem specSmall (a b p : Nat) (ha : a < p) (hb : b < p) (hp : 2 ≤ p) (hp2 : p ≤ 13) (w : World) : Calls Tryz.prog 152 #[.int .i64 a, .int .i64 b, .int .i64 p] w fun e w' => e = .returned (.int .i64 ((bin a b % p : Nat) : Int)) ∧ w = w' := by
 by_cases hab : a < b
 · have hv := hide (bin_over a b hab)
   go_enter Tryz.func152, Tryz.ntmps152
   go_wp2
   go_ret
   exact ⟨by rw [hv.out, Nat.zero_mod]; rfl, rfl⟩
 · have hba : b ≤ a := by omega
   have hp0 : ((p : Int) == 0) = false := by simp; omega
   go_enter Tryz.func152, Tryz.ntmps152
   go_wp2
   go_loop [7, 8] (fun t k => ∃ j : Nat, k = .int .i64 j ∧ t = .int .i64 (bin a j) ∧ j ≤ b) (fun _ k => b - (intOf k).toNat)
   case atStart => exact ⟨0, rfl, by rw [bin_zero]; rfl, by omega⟩
   case round =>
    obtain ⟨j, rfl, rfl, hj⟩ := hrel
    have hbs := bin_le a j
    have hpw : (2 : Nat) ^ a ≤ 4096 := Nat.pow_le_pow_right (by omega) (by omega : a ≤ 12)
    by_cases hlt : j < b
    · obtain ⟨r, hr⟩ : ∃ r, a - j = r := ⟨_, rfl⟩
      have hri : (a : Int) - (j : Int) = (r : Int) := by omega
      have hd := bin_div a j
      rw [hr] at hd
      have hbs2 := bin_le a (j + 1)
      obtain ⟨D, hD⟩ : ∃ D, bin a j * r = D := ⟨_, rfl⟩
      have hDl : D ≤ 4096 * 12 := by rw [← hD]; exact Nat.mul_le_mul (by omega) (by omega)
      have hDi : ((bin a j : Nat) : Int) * (r : Int) = (D : Int) := by rw [← hD]; simp
      rw [hD] at hd
      have hq := tdiv_n D (j + 1)
      rw [hd] at hq
      have hq' : Int.tdiv (D : Int) ((j : Int) + 1) = ((bin a (j + 1) : Nat) : Int) := hq
      clear hD hd hq hr
      have hj0 : ((j : Int) + 1 == 0) = false := by simp; omega
      generalize bin a j = S at *
      obtain ⟨S2, hS2⟩ : ∃ S2, bin a (j + 1) = S2 := ⟨_, rfl⟩
      rw [hS2] at hq' hbs2
      have hS2' := hide hS2
      clear hS2
      have hw1 : IntKind.i64.wrap (D : Int) = D := IntWalk.i64_in _ (by omega)
      have hw2 : IntKind.i64.wrap (S2 : Int) = S2 := IntWalk.i64_in _ (by omega)
      have hw3 : IntKind.i64.wrap (r : Int) = r := IntWalk.i64_in _ (by omega)
      go_wp2
      go_round
      case rel => exact ⟨j + 1, by go_num, by rw [hS2'.out], by omega⟩
      case measure => simp [intOf]; omega
    · obtain rfl : j = b := by omega
      have hq := tmod_n (bin a j) p
      have hml := Nat.mod_lt (bin a j) (show 0 < p by omega)
      obtain ⟨C, hC⟩ : ∃ C, bin a j % p = C := ⟨_, rfl⟩
      rw [hC] at hq hml
      have hC' := hide hC
      clear hC
      have hw1 : IntKind.i64.wrap (C : Int) = C := IntWalk.i64_in _ (by omega)
      go_wp2
      go_ret
      exact ⟨ret_int (by rw [← hC'.out]; rfl), rfl⟩
set_option maxHeartbeats 1000000 in
theorem specLeft (row place p : Int) (w : World) : Calls Tryz.prog 117 #[.int .i64 row, .int .i64 place, .int .i64 p] w fun e w' => e = .returned (.int .i64 (leftV row place p)) ∧ Below w.heap.size w w' := by
 cases hpr : prmI p with
 | false =>
   rw [leftV_bad (.inr (.inr (.inr (.inr hpr))))]
   have hP := fun w => specPrime_is hpr w
   clear hpr
   go_enter Tryz.func117, Tryz.ntmps117
   go_wp2_with (go_at_call 150; refine (hP _).mono ?_; rintro e w' ⟨rfl, rfl⟩)
   go_ret
   exact ⟨rfl, Below.refl _ _⟩
 | true =>
   have hP := fun w => specPrime_is hpr w
   by_cases hbad : row < 0 ∨ 999999999 < row ∨ place < 0 ∨ 999999999 < place
   · rw [leftV_bad (by unfold badL; omega)]
     clear hpr
     by_cases h1 : row < 0 ∨ 999999999 < row
     all_goals
      go_enter Tryz.func117, Tryz.ntmps117
      go_wp2_with (first | (go_at_call 150; refine (hP _).mono ?_; rintro e w' ⟨rfl, rfl⟩) | (go_at_call 95; refine (l1In_t _ _ _ _ (by omega) (by omega)).mono ?_; rintro e w' ⟨rfl, rfl⟩) | (go_at_call 95; refine (l1In_f _ _ _ _ (by omega)).mono ?_; rintro e w' ⟨rfl, rfl⟩))
      go_ret
      exact ⟨rfl, Below.refl _ _⟩
   · obtain ⟨B, rfl, hB⟩ := prmI_t hpr
     obtain ⟨N, rfl⟩ : ∃ N : Nat, row = N := ⟨row.toNat, by omega⟩
     obtain ⟨K, rfl⟩ : ∃ K : Nat, place = K := ⟨place.toNat, by omega⟩
     have hN : N ≤ 999999999 := by omega
     have hK : K ≤ 999999999 := by omega
     rw [leftV_nat hN hK hB]
     have hB2 := (prm_two hB).1
     have hB13 := (prm_two hB).2
     obtain ⟨T, hT⟩ : ∃ T, bin N K % B = T := ⟨_, rfl⟩
     rw [hT]
     have hTl : T < B := by rw [← hT]; exact Nat.mod_lt _ (by omega)
     have hT' := hide (show 1 * bin N K % B = T by rw [Nat.one_mul]; exact hT)
     clear hT hbad hpr
     have hB0 : ((B : Int) == 0) = false := by simp; omega
     have hB00 : (B = 0) = False := by simp; omega
     go_enter Tryz.func117, Tryz.ntmps117
     go_wp2_with (first | (go_at_call 150; refine (hP _).mono ?_; rintro e w' ⟨rfl, rfl⟩) | (go_at_call 95; refine (l1In_t _ _ _ _ (by omega) (by omega)).mono ?_; rintro e w' ⟨rfl, rfl⟩))
     clear hP
     go_loopw [0, 1, 7] (fun r c t wr => ∃ m k A : Nat, r = .int .i64 m ∧ c = .int .i64 k ∧ t = .int .i64 A ∧ m ≤ N ∧ k ≤ K ∧ A < B ∧ A * bin m k % B = T ∧ Below w.heap.size w wr) (fun r c _ _ => (intOf r).toNat + (intOf c).toNat)
     case atStart => exact ⟨N, K, 1, rfl, rfl, rfl, Nat.le_refl _, Nat.le_refl _, by omega, hT'.out, Below.refl _ _⟩
     case round =>
      clear hT'
      obtain ⟨m, k, A, rfl, rfl, rfl, hm, hk, hA, hs, hBl⟩ := hrel
      by_cases hlt : 0 < m + k
      · rw [Nat.mul_mod, lucas_div hB, ← Nat.mul_mod, Nat.mul_comm (bin (m / B) (k / B)), ← Nat.mul_assoc, Nat.mul_mod, ← Nat.mod_mod (A * bin (m % B) (k % B)) B] at hs
        rw [← Nat.mul_mod] at hs
        have hq1 := tmod_n m B
        have hq2 := tdiv_n m B
        have hq3 := tmod_n k B
        have hq4 := tdiv_n k B
        have hr1 := Nat.mod_lt m (show 0 < B by omega)
        have hr2 := Nat.mod_lt k (show 0 < B by omega)
        have hl1 := Nat.div_le_self m B
        have hl2 := Nat.div_le_self k B
        have hdl : m / B + k / B < m + k := by
         rcases Nat.eq_zero_or_pos m with h | h
         · have := Nat.div_lt_self (n := k) (k := B) (by omega) hB2; omega
         · have := Nat.div_lt_self (n := m) (k := B) h hB2; omega
        have hcall := fun w => specSmall (m % B) (k % B) B hr1 hr2 hB2 hB13 w
        have hCl : bin (m % B) (k % B) % B < B := Nat.mod_lt _ (by omega)
        have hmm : A * bin (m % B) (k % B) % B = A * (bin (m % B) (k % B) % B) % B := by rw [Nat.mul_mod, Nat.mod_eq_of_lt hA]
        rw [hmm] at hs
        clear hmm
        generalize m % B = r1 at *
        generalize m / B = q1 at *
        generalize k % B = r2 at *
        generalize k / B = q2 at *
        obtain ⟨C, hC⟩ : ∃ C, bin r1 r2 % B = C := ⟨_, rfl⟩
        simp only [hC] at hcall
        rw [hC] at hs hCl
        clear hC
        obtain ⟨D, hD⟩ : ∃ D, A * C = D := ⟨_, rfl⟩
        have hDl : D ≤ 13 * 13 := by rw [← hD]; exact Nat.mul_le_mul (by omega) (by omega)
        have hDi : (A : Int) * (C : Int) = (D : Int) := by rw [← hD]; simp
        rw [hD] at hs
        clear hD
        have hq5 := tmod_n D B
        have hEl := Nat.mod_lt D (show 0 < B by omega)
        generalize D % B = E at *
        have hs' := hide hs
        clear hs
        have hw1 : IntKind.i64.wrap (r1 : Int) = r1 := IntWalk.i64_in _ (by omega)
        have hw2 : IntKind.i64.wrap (q1 : Int) = q1 := IntWalk.i64_in _ (by omega)
        have hw3 : IntKind.i64.wrap (r2 : Int) = r2 := IntWalk.i64_in _ (by omega)
        have hw4 : IntKind.i64.wrap (q2 : Int) = q2 := IntWalk.i64_in _ (by omega)
        have hw5 : IntKind.i64.wrap (D : Int) = D := IntWalk.i64_in _ (by omega)
        have hw6 : IntKind.i64.wrap (E : Int) = E := IntWalk.i64_in _ (by omega)
        by_cases hm0 : 0 < m
        · go_wp2
          go_quiet ((go_at_call 152; refine Calls.quiet_of_same ((hcall _).mono fun e w' h => ⟨h.1, h.2.symm⟩)))
          go_wp2
          go_roundw
          case rel => exact ⟨q1, q2, E, rfl, rfl, rfl, by omega, by omega, hEl, hs'.out, ⟨hBl.os, hBl.tape, hBl.output, hBl.size, hBl.block⟩⟩
          case measure => simp [intOf]; omega
        · have hk0 : 0 < k := by omega
          go_wp2
          go_quiet ((go_at_call 152; refine Calls.quiet_of_same ((hcall _).mono fun e w' h => ⟨h.1, h.2.symm⟩)))
          go_wp2
          go_roundw
          case rel => exact ⟨q1, q2, E, rfl, rfl, rfl, by omega, by omega, hEl, hs'.out, ⟨hBl.os, hBl.tape, hBl.output, hBl.size, hBl.block⟩⟩
          case measure => simp [intOf]; omega
      · obtain ⟨rfl, rfl⟩ : m = 0 ∧ k = 0 := by omega
        rw [bin_zero, Nat.mul_one, Nat.mod_eq_of_lt hA] at hs
        subst hs
        go_wp2
        go_ret
        exact ⟨rfl, hBl⟩
end
section
open Go.RowKit Go.Shelf
attribute [local go_sem] Oper.semAt_some
set_option maxRecDepth 100000 in
set_option maxHeartbeats 1000000 in
theorem foldS_in (gf jf n : Nat) (hjf : jf = 221) (lb : Array Value) (f g : Nat → Int) (K : Nat → Nat → Prop) (w : World)
 (eg : ∀ args w, (callFunc gf args).run Tryz.prog w = .ok (.enter gf args) w)
 (hseq : ∀ W, Below w.heap.size w W → SeqMem Fence.wide 8 Tryz.prog gf lb 0 (fun _ (j : Nat) => #[.int .i64 (f j)]) (NumHd n) K (NumS n) (fun _ _ _ => True) W)
 (hK : ∀ n0 k, K n0 k → k < w.heap.size)
 (hj : ∀ j W, j < n → Calls Tryz.prog jf #[.int .i64 (g j), .int .i64 (f j)] W fun e W' => e = .returned (.int .i64 (g (j + 1))) ∧ Below W.heap.size W W') :
 Calls Tryz.prog 219 #[.func (.func gf) #[] lb, .int .i64 (g 0), .func (.func jf) #[] #[]] w fun e w' => e = .returned (.int .i64 (g n)) ∧ Below w.heap.size w w' := by
 subst hjf
 refine (cW9 (n := 9)).1 ?_
 refine callsIn_of_wp_marks Tryz.func219 rfl trivial ?_ rfl
 simp only [Tryz.ntmps219, List.size_toArray, List.length_cons, List.length_nil, Nat.reduceAdd, Nat.reduceSub, Array.replicate_succ, Array.replicate_zero, List.push_toArray, List.append_toArray, List.nil_append, List.cons_append]
 obtain ⟨g0, hg0⟩ : ∃ g0, g 0 = g0 := ⟨_, rfl⟩
 rw [hg0]
 have hg0' := hide hg0
 clear hg0
 gi_wp2
 obtain ⟨W0, hW0⟩ : ∃ W0, ((w.alloc (Obj.cells #[Value.int IntKind.i64 g0] 3)).alloc (Obj.cells #[Value.func (.func 221) #[] #[]] 95)) = W0 := ⟨_, rfl⟩
 have hsz1 : W0.heap.size ≤ w.heap.size + 2 := by rw [← hW0]; simp
 have hsz2 : w.heap.size + 2 ≤ W0.heap.size := by rw [← hW0]; simp
 have hbs : Boxed W0 w.heap.size 3 (.int .i64 g0) := by rw [← hW0]; exact (Boxed.new w _ _).alloc _
 have hbj : Boxed W0 (w.heap.size + 1) 95 (.func (.func 221) #[] #[]) := by rw [← hW0]; have := Boxed.new (w.alloc (Obj.cells #[Value.int IntKind.i64 g0] 3)) 95 (.func (.func 221) #[] #[]); rwa [World.size_alloc] at this
 have hbel : Below w.heap.size w W0 := by rw [← hW0]; exact ((Below.refl _ w).alloc (Nat.le_refl _) _).alloc (by simp) _
 rw [hW0]
 clear hW0
 refine wpIn_rangeFunc_mem rfl (by omega) (gf := gf) (lb := lb) rfl trivial eg
  (hseq W0 hbel) (fun _ _ => rfl) (fun h => by have := hK _ _ h; omega)
  (fun pre x W o h => h) (fun ys W o h => h) (fun pre W o h => h)
  (fun pre W => Boxed W w.heap.size 3 (.int .i64 (g pre.length)) ∧ Boxed W (w.heap.size + 1) 95 (.func (.func 221) #[] #[]) ∧ Below w.heap.size w W) (fun _ _ _ => False)
  (fun s A B row hs hg hr => ⟨hs.1.kept hg (fun e => by have := hr _ e.symm; omega), hs.2.1.kept hg (fun e => by have := hr _ e.symm; omega), hs.2.2.grown hg hs.2.2.size (fun k e => by have := hr _ e; omega)⟩)
  (fun _ _ _ _ _ hs _ _ => hs) ⟨by rw [List.length_nil, hg0'.out]; exact hbs, hbj, hbel⟩
  (fun x => { tmps := #[.func (.func gf) #[] lb, .int .i64 g0, .func (.func 221) #[] #[], undef, .pointer (some ⟨w.heap.size, 0, none⟩), .pointer (some ⟨w.heap.size + 1, 0, none⟩), .int .i64 0, .int .i64 (f x), .func (.func gf) #[] lb, .int .i64 (f x), undef, undef, undef, undef, undef], defers := [] }) ?assign ?body ?done ?stop
 case assign =>
  intro l x W Q hQ
  gi_wp2
  exact hQ
 case body =>
  rintro l pre x W hlt ⟨hbx, hbjj, hB⟩ ⟨hpre, hx⟩
  have hpl : pre.length = x := by rw [hpre, List.length_range]
  have hpl2 : (pre ++ [x]).length = x + 1 := by rw [List.length_append, hpl]; rfl
  rw [hpl] at hbx
  have hc := hbx.cell
  have hf := hbx.frozen
  have hcj := hbjj.cell
  have hcall := fun W => hj x W hx
  obtain ⟨z, hz⟩ : ∃ z, f x = z := ⟨_, rfl⟩
  obtain ⟨a, ha⟩ : ∃ a, g x = a := ⟨_, rfl⟩
  obtain ⟨b, hb⟩ : ∃ b, g (x + 1) = b := ⟨_, rfl⟩
  rw [hz, ha, hb] at hcall
  rw [ha] at hbx hc
  rw [hz]
  rw [← hpl2] at hb
  have hb' := hide hb
  clear hz ha hb hpl hpl2 hg0'
  · gi_wp2_with (refine ⟨trivial, ?_⟩; gi_at_call 221; refine (cW9.2 (hcall _)).mono ?_; rintro e w1 ⟨rfl, hB1⟩; have hb1 : Boxed w1 w.heap.size 3 (.int .i64 a) := (hB1.block _ hbx.lt).trans hbx; have hc1 := hb1.cell; have hf1 := hb1.frozen)
    refine ⟨(KeepsSet.of_below (hB1.mono (Nat.le_refl _)) (fun k hk => by
     rcases hk with hk | hk | hk
     · omega
     · omega
     · have := hK _ _ hk; have := hB.size; omega)).trans (KeepsSet.setCell _ _ _ (fun h => by
     rcases h with h | h | h
     · omega
     · omega
     · have := hK _ _ h; omega)), ?_, ?_, ?_⟩
    · rw [hb'.out]; exact hb1.set _
    · exact Boxed.other (W := w1) ((hB1.block _ hbjj.lt).trans hbjj) (by omega) _
    · exact (hB.trans (hB1.mono hB.size)).setCell (p := ⟨w.heap.size, 0, none⟩) (Nat.le_refl _) _
 case done =>
  rintro ys W hys ⟨hbx, hbjj, hB⟩ hK
  obtain rfl : ys = List.range n := hys
  rw [List.length_range] at hbx
  have hc := hbx.cell
  gi_wp2
  refine ⟨by simp, .inl ⟨_, _, rfl, run_takeDeferred hK, ?_⟩⟩
  refine ⟨_, results_tmp rfl _ _ _, rfl, ?_⟩
  exact hB.grown (grownBy_putObj' W _ _) hB.size (fun k e => by cases e; omega)
 case stop =>
  rintro c pre W _ h _
  exact h.elim
theorem foldValsS_in (jf : Nat) (hjf : jf = 221) (b off L cap : Nat) (f g : Nat → Int) (hL : L ≤ 1000000) (w : World) (hb : b < w.heap.size)
 (hv : ∀ i, i < L → w.cell? ⟨b, off + i, none⟩ = some (.int .i64 (f i)))
 (hj : ∀ j W, j < L → Calls Tryz.prog jf #[.int .i64 (g j), .int .i64 (f j)] W fun e W' => e = .returned (.int .i64 (g (j + 1))) ∧ Below W.heap.size W W') :
 Calls Tryz.prog 219 #[.func (.func 241) #[] #[.pointer (some ⟨w.heap.size, 0, none⟩)], .int .i64 (g 0), .func (.func jf) #[] #[]]
  (w.alloc (.cells #[.slice (some ⟨b, off, none⟩) L cap] 28)) fun e w' => e = .returned (.int .i64 (g L)) ∧ Below w.heap.size w w' := by
 have hA := (Below.refl w.heap.size w).alloc (Nat.le_refl _) (.cells #[.slice (some ⟨b, off, none⟩) L cap] 28)
 have hbx := Boxed.new w 28 (.slice (some ⟨b, off, none⟩) L cap)
 obtain ⟨W0, hW0⟩ : ∃ W0, w.alloc (.cells #[.slice (some ⟨b, off, none⟩) L cap] 28) = W0 := ⟨_, rfl⟩
 rw [hW0] at hA hbx ⊢
 refine (foldS_in 241 jf L hjf _ f g (fun _ k => k = b) W0 (enters_of Tryz.func241 (by kernel_rfl) rfl) (fun W hW => ?_) (fun _ k hk => by have := hA.size; omega) hj).mono
  fun e w' h => ⟨h.1, hA.trans (h.2.mono hA.size)⟩
 have hs := hA.size
 have hs2 := hW.size
 exact vals_stops 8 w.heap.size b off L cap f hL (by omega) W (lL9 hbx.lt hs2) (by omega) ((hW.cell (p := ⟨w.heap.size, 0, none⟩) hbx.lt).trans hbx.cell)
  (fun i hi => (hW.cell (p := ⟨b, off + i, none⟩) (by show b < _; omega)).trans ((hA.cell (p := ⟨b, off + i, none⟩) hb).trans (hv i hi)))
theorem sharedOfAllS_in (b off L cap : Nat) (f : Nat → Nat) (hL : L ≤ 1000000) (w : World) (hb : b < w.heap.size) (hf : ∀ i, i < L → 0 < f i ∧ f i ≤ 1152921504606846976)
 (hv : ∀ i, i < L → w.cell? ⟨b, off + i, none⟩ = some (.int .i64 (f i : Nat))) :
 Calls Tryz.prog 196 #[.slice (some ⟨b, off, none⟩) L cap] w fun e w' => e = .returned (.int .i64 (gcdU f L : Nat)) ∧ Below w.heap.size w w' := by
 have hF := foldValsS_in 221 rfl b off L cap (fun i => (f i : Nat)) (fun i => (gcdU f i : Nat)) hL w hb hv (fun j W hj => by
  have h1 := gcdU_le f j (fun i hi => (hf i (by omega)).1) (fun i hi => (hf i (by omega)).2)
  have h2 := (hf j hj).2
  exact two_in (gcdU f j) (f j) (by omega) (by omega) W)
 have hF' : Calls Tryz.prog 219 #[.func (.func 241) #[] #[.pointer (some ⟨w.heap.size, 0, none⟩)], .int .i64 0, .func (.func 221) #[] #[]]
  (w.alloc (.cells #[.slice (some ⟨b, off, none⟩) L cap] 28)) fun e w' => e = .returned (.int .i64 (gcdU f L : Nat)) ∧ Below w.heap.size w w' := hF
 clear hF hv hf
 go_enter Tryz.func196, Tryz.ntmps196
 go_wp2_with (first | (go_at_call 220; refine (values_in _ _ _ _).mono ?_; rintro e w' ⟨rfl, rfl⟩) | (go_at_call 219; refine hF'.mono ?_; rintro e w2 ⟨rfl, hB⟩))
 go_ret
 exact ⟨rfl, hB⟩
set_option maxHeartbeats 1000000 in
theorem implSharedS (row : Int) (w : World) : Calls Tryz.prog 163 #[.int .i64 row] w fun e w' => e = .returned (.int .i64 (sharedV row)) ∧ Below w.heap.size w w' := by
 by_cases hbad : row < 2 ∨ 60 < row
 · rw [sharedV_bad hbad]
   by_cases h2 : row < 2
   all_goals
    go_enter Tryz.func163, Tryz.ntmps163
    go_wp2
    go_ret
    exact ⟨rfl, Below.refl _ _⟩
 · obtain ⟨N, rfl⟩ : ∃ N : Nat, row = N := ⟨row.toNat, by omega⟩
   have hN2 : 2 ≤ N := by omega
   have hN : N ≤ 60 := by omega
   rw [sharedV_nat hN2 hN]
   have h1 : (1 : Int) ≤ (N : Int) := by omega
   have h3 : ¬ (N : Int) < 2 := by omega
   have h4 : ¬ (60 : Int) < (N : Int) := by omega
   have h5 : (N : Int) ≤ (N : Int) + 1 := by omega
   have hsh : shared N = gcdU (fun k => bin N (k + 1)) (N - 1) := rfl
   clear hbad
   go_enter Tryz.func163, Tryz.ntmps163
   go_wp2_with (go_at_call 197; refine (lastRow_in N hN _).mono ?_; rintro e w1 ⟨g, rfl, hrow, hB⟩)
   have hS := sharedOfAllS_in g 1 (N - 1) N (fun k => bin N (k + 1)) (by omega) w1 hrow.lt (fun i hi => ⟨bin_pos _ _ (by omega), bin_60 hN _⟩) (fun i hi => by have := hrow.cell (i := i + 1) (by omega); rw [Nat.add_comm 1 i]; exact this)
   rw [← hsh] at hS
   clear hsh
   go_wp2_with (go_at_call 196; refine hS.mono ?_; rintro e w2 ⟨rfl, hB2⟩)
   go_ret
   exact ⟨rfl, hB.trans (hB2.mono hB.size)⟩
end
section
open Go.RowKit Go.BigFrame
theorem lies_intsQ {w : World} {v : Value} {xs : List Int} (h : Ints w v xs) (h1 : 1 ≤ xs.length) : Lies v := by
 rcases h with ⟨a, c, rfl, h⟩ | ⟨g, c, rfl, _⟩
 · rw [h] at h1; simp at h1
 · exact .inr ⟨_, _, _, rfl⟩
def SaidBy (f : FuncId) (cnt : Nat) (out : List Int → List Int → List Nat) : Prop :=
 ∀ (x p v : Value) (row ns : List Int) (w : World), Ints w x row → sideB row = true → Ints w v ns → ns.length = cnt → (∀ n ∈ ns, 0 ≤ n ∧ n ≤ 999999999) → Env w →
   Calls Tryz.prog f #[.agg #[x, p], v] w fun e w' => e = .returned (.string (str (out row ns))) ∧ Below w.heap.size w w'
theorem said_ones : SaidBy 126 0 (fun row ns => qA row ns 1) := by
 intro x p v row ns w hx hs hv hn hns hE
 have hl := sideB_len hs
 have hB0 := (Below.refl _ w).alloc (Nat.le_refl _) (.cells #[x, p] 31)
 obtain ⟨c0, c1⟩ := desk_box (w := w) (x := x) (p := p) (t := 31)
 obtain ⟨W1, hW1⟩ : ∃ W1, w.alloc (.cells #[x, p] 31) = W1 := ⟨_, rfl⟩
 rw [hW1] at hB0 c0 c1
 have hE1 := hE.below hB0
 have hO := implOnes x row W1 (hx.below hB0) (lies_intsQ hx hl.1) (by omega)
 have hT := fun V hV => implTold (onesV row) (by have := onesV_big hs; omega) V hV
 show Calls Tryz.prog _ _ w fun e w' => e = .returned (.string (str (toldI (onesV row)))) ∧ Below w.heap.size w w'
 obtain ⟨N, hN⟩ : ∃ N, onesV row = N := ⟨_, rfl⟩
 rw [hN] at hO hT ⊢
 obtain ⟨S, hS⟩ : ∃ S, str (toldI N) = S := ⟨_, rfl⟩
 rw [hS] at hT ⊢
 clear hx hv hE hN hS hns
 go_enter Tryz.func126, Tryz.ntmps126
 go_wp2_with fail
 go_at_call 159
 refine hO.mono ?_
 rintro e W2 ⟨rfl, hB2⟩
 have hE2 := hE1.below hB2
 go_wp2_with fail
 go_at_call 158
 refine (hT _ hE2).mono ?_
 rintro e W3 ⟨rfl, hB3⟩
 go_wp2
 go_ret
 exact ⟨rfl, (hB0.trans (hB2.mono hB0.size)).trans (hB3.mono (lT9 hB0.size hB2.size))⟩
theorem said_last : SaidBy 127 0 (fun row ns => qA row ns 2) := by
 intro x p v row ns w hx hs hv hn hns hE
 have hl := sideB_len hs
 have hB0 := (Below.refl _ w).alloc (Nat.le_refl _) (.cells #[x, p] 31)
 obtain ⟨c0, c1⟩ := desk_box (w := w) (x := x) (p := p) (t := 31)
 obtain ⟨W1, hW1⟩ : ∃ W1, w.alloc (.cells #[x, p] 31) = W1 := ⟨_, rfl⟩
 rw [hW1] at hB0 c0 c1
 have hE1 := hE.below hB0
 have hO := implEnd x row W1 (hx.below hB0) (lies_intsQ hx hl.1) (by omega)
 have hT := fun V hV => implTold (endV row) (by have := endV_big hs; omega) V hV
 show Calls Tryz.prog _ _ w fun e w' => e = .returned (.string (str (toldI (endV row)))) ∧ Below w.heap.size w w'
 obtain ⟨N, hN⟩ : ∃ N, endV row = N := ⟨_, rfl⟩
 rw [hN] at hO hT ⊢
 obtain ⟨S, hS⟩ : ∃ S, str (toldI N) = S := ⟨_, rfl⟩
 rw [hS] at hT ⊢
 clear hx hv hE hN hS hns
 go_enter Tryz.func127, Tryz.ntmps127
 go_wp2_with fail
 go_at_call 160
 refine hO.mono ?_
 rintro e W2 ⟨rfl, hB2⟩
 have hE2 := hE1.below hB2
 go_wp2_with fail
 go_at_call 158
 refine (hT _ hE2).mono ?_
 rintro e W3 ⟨rfl, hB3⟩
 go_wp2
 go_ret
 exact ⟨rfl, (hB0.trans (hB2.mono hB0.size)).trans (hB3.mono (lT9 hB0.size hB2.size))⟩
theorem said_end : SaidBy 128 0 (fun row ns => qA row ns 3) := by
 intro x p v row ns w hx hs hv hn hns hE
 have hl := sideB_len hs
 have hB0 := (Below.refl _ w).alloc (Nat.le_refl _) (.cells #[x, p] 31)
 obtain ⟨c0, c1⟩ := desk_box (w := w) (x := x) (p := p) (t := 31)
 obtain ⟨W1, hW1⟩ : ∃ W1, w.alloc (.cells #[x, p] 31) = W1 := ⟨_, rfl⟩
 rw [hW1] at hB0 c0 c1
 have hE1 := hE.below hB0
 have hO := implEnd10 x row W1 (hx.below hB0) (lies_intsQ hx hl.1) (by omega)
 have hT := fun V hV => implTold (endI row) (by have := endI_big row; omega) V hV
 show Calls Tryz.prog _ _ w fun e w' => e = .returned (.string (str (toldI (endI row)))) ∧ Below w.heap.size w w'
 obtain ⟨N, hN⟩ : ∃ N, endI row = N := ⟨_, rfl⟩
 obtain ⟨b, hb⟩ : ∃ b, endB row = b := ⟨_, rfl⟩
 rw [hN, hb] at hO
 rw [hN] at hT ⊢
 obtain ⟨S, hS⟩ : ∃ S, str (toldI N) = S := ⟨_, rfl⟩
 rw [hS] at hT ⊢
 clear hx hv hE hN hS hb hns
 go_enter Tryz.func128, Tryz.ntmps128
 go_wp2_with fail
 go_at_call 161
 refine hO.mono ?_
 rintro e W2 ⟨rfl, hB2⟩
 have hE2 := hE1.below hB2
 go_wp2_with fail
 go_at_call 158
 refine (hT _ hE2).mono ?_
 rintro e W3 ⟨rfl, hB3⟩
 go_wp2
 go_ret
 exact ⟨rfl, (hB0.trans (hB2.mono hB0.size)).trans (hB3.mono (lT9 hB0.size hB2.size))⟩
theorem upSum_in (n : Nat) (hn : n ≤ 12) (w : World) : Calls Tryz.prog 162 #[.int .i64 n] w fun e w' => e = .returned (.int .i64 ((n * (n + 1) / 2 : Nat) : Int)) ∧ w = w' := by
 rcases (show n = 0 ∨ n = 1 ∨ n = 2 ∨ n = 3 ∨ n = 4 ∨ n = 5 ∨ n = 6 ∨ n = 7 ∨ n = 8 ∨ n = 9 ∨ n = 10 ∨ n = 11 ∨ n = 12 by omega) with rfl | rfl | rfl | rfl | rfl | rfl | rfl | rfl | rfl | rfl | rfl | rfl | rfl
 all_goals
  go_enter Tryz.func162, Tryz.ntmps162
  go_wp2
  go_ret
  exact ⟨by simp, rfl⟩
theorem half_two (n : Nat) : 2 * (n * (n + 1) / 2) = n * (n + 1) := by
 have h : n * (n + 1) % 2 = 0 := by
  rcases Nat.mod_two_eq_zero_or_one n with h | h
  · rw [Nat.mul_mod, h]; simp
  · rw [Nat.mul_mod, show (n + 1) % 2 = 0 by omega]; simp
 omega
theorem said_balanced : SaidBy 129 0 (fun row ns => qA row ns 4) := by
 intro x p v row ns w hx hs hv hn hns hE
 have hl := sideB_len hs
 have hB0 := (Below.refl _ w).alloc (Nat.le_refl _) (.cells #[x, p] 31)
 obtain ⟨c0, c1⟩ := desk_box (w := w) (x := x) (p := p) (t := 31)
 have hO := fun V (hV : Below w.heap.size w V) => implOnes x row V (hx.below hV) (lies_intsQ hx hl.1) (by omega)
 have hU := fun V => upSum_in row.length hl.2 V
 have h0 := ones_nn hs
 have h1 := onesV_big hs
 have hx2 := half_two row.length
 show Calls Tryz.prog _ _ w fun e w' => e = .returned (.string (str (if 4 * onesV row = (row.length : Int) * ((row.length : Int) + 1) then [121, 101, 115] else [110, 111]))) ∧ Below w.heap.size w w'
 obtain ⟨xa, xc, rfl⟩ := hx.shape
 obtain ⟨N, hN⟩ : ∃ N, onesV row = N := ⟨_, rfl⟩
 obtain ⟨M, hM⟩ : ∃ M, row.length * (row.length + 1) / 2 = M := ⟨_, rfl⟩
 have hMl : M ≤ 78 := by
  have : row.length * (row.length + 1) ≤ 12 * 13 := Nat.mul_le_mul hl.2 (by omega)
  omega
 have hiff : (4 * N = (row.length : Int) * ((row.length : Int) + 1)) ↔ 2 * N = (M : Int) := by
  have : ((row.length * (row.length + 1) : Nat) : Int) = (row.length : Int) * ((row.length : Int) + 1) := by simp
  rw [← this, ← hx2, hM]
  omega
 rw [hN] at hO h0 h1 ⊢
 rw [hM] at hU
 obtain ⟨L, hL⟩ : ∃ L, row.length = L := ⟨_, rfl⟩
 rw [hL] at hO hU hiff ⊢
 obtain ⟨W1, hW1⟩ : ∃ W1, w.alloc (.cells #[.slice xa L xc, p] 31) = W1 := ⟨_, rfl⟩
 rw [hL, hW1] at hB0 c0 c1
 have d0 : ∀ m : After W1, m.now.cell? ⟨w.heap.size, 0, none⟩ = some (.slice xa L xc) := fun m => (m.ok.cell (p := ⟨w.heap.size, 0, none⟩) (World.block_lt_of_cell? _ _ c0)).trans c0
 have hOq := fun m : After W1 => hO m.now (hB0.trans (m.ok.mono hB0.size))
 have hUq := fun m : After W1 => hU m.now
 have hw : IntKind.i64.wrap (2 * N) = 2 * N := IntWalk.i64_in _ (by omega)
 have hhy := hide hiff
 have hB0h := hB0
 clear hx hv hE hN hO hU hM hL hs hl hx2 hiff hns hMl c0 c1
 by_cases he : 2 * N = (M : Int)
 · have hif : (if 4 * N = (L : Int) * ((L : Int) + 1) then ([121, 101, 115] : List Nat) else [110, 111]) = [121, 101, 115] := if_pos (hhy.out.2 he)
   rw [hif]
   clear hhy hif
   go_enter Tryz.func129, Tryz.ntmps129
   go_wp2
   refine wp_region_below W1 (by kernel_rfl) (by kernel_rfl) (Below.refl _ _) ?_
   repeat (go_big_quiet_step (first | (go_at_call 159; exact after_of (hOq _)) | (go_at_call 162; exact after_of_same (hUq _))))
   refine wpQuiet_nil ?_
   rintro _ ⟨nq, rfl⟩
   go_wp2
   go_ret
   exact ⟨rfl, hB0h.trans (nq.ok.mono hB0h.size)⟩
 · have hif : (if 4 * N = (L : Int) * ((L : Int) + 1) then ([121, 101, 115] : List Nat) else [110, 111]) = [110, 111] := if_neg (fun h => he (hhy.out.1 h))
   rw [hif]
   clear hhy hif
   go_enter Tryz.func129, Tryz.ntmps129
   go_wp2
   refine wp_region_below W1 (by kernel_rfl) (by kernel_rfl) (Below.refl _ _) ?_
   repeat (go_big_quiet_step (first | (go_at_call 159; exact after_of (hOq _)) | (go_at_call 162; exact after_of_same (hUq _))))
   refine wpQuiet_nil ?_
   rintro _ ⟨nq, rfl⟩
   go_wp2
   go_ret
   exact ⟨rfl, hB0h.trans (nq.ok.mono hB0h.size)⟩
theorem said_shared : SaidBy 130 1 (fun row ns => qA row ns 5) := by
 intro x p v row ns w hx hs hv hn hns hE
 obtain ⟨a, rfl⟩ : ∃ a, ns = [a] := by
  match ns, hn with
  | [a], _ => exact ⟨a, rfl⟩
 have ha := hns a (by simp)
 have hB0 := (Below.refl _ w).alloc (Nat.le_refl _) (.cells #[x, p] 31)
 obtain ⟨W1, hW1⟩ : ∃ W1, w.alloc (.cells #[x, p] 31) = W1 := ⟨_, rfl⟩
 rw [hW1] at hB0
 have hE1 := hE.below hB0
 obtain ⟨g, cap, rfl, hg, hc⟩ : ∃ g cap, v = .slice (some ⟨g, 0, none⟩) 1 cap ∧ g < w.heap.size ∧ ∀ i, i < 1 → w.cell? ⟨g, i, none⟩ = some (.int .i64 ([a].getD i 0)) := by
  rcases hv with ⟨_, _, _, h⟩ | ⟨g, cap, rfl, h1, h2⟩
  · cases h
  · exact ⟨g, cap, rfl, h1, h2⟩
 have q0 : ∀ m : After W1, m.now.cell? ⟨g, 0, none⟩ = some (.int .i64 a) := fun m => ((hB0.trans (m.ok.mono hB0.size)).cell (p := ⟨g, 0, none⟩) hg).trans (hc 0 (by omega))
 have hO := fun m : After W1 => implSharedS a m.now
 have hT := fun m : After W1 => implTold (sharedV a) (sharedV_big a) m.now (hE1.below m.ok)
 show Calls Tryz.prog _ _ w fun e w' => e = .returned (.string (str (toldI (sharedV a)))) ∧ Below w.heap.size w w'
 obtain ⟨N, hN⟩ : ∃ N, sharedV a = N := ⟨_, rfl⟩
 rw [hN] at hT ⊢
 simp only [hN] at hO
 obtain ⟨S, hS⟩ : ∃ S, str (toldI N) = S := ⟨_, rfl⟩
 rw [hS] at hT ⊢
 clear hx hv hE hN hS hc hg hns hs hE1
 have r0 := q0 ⟨W1, Below.refl _ _⟩
 have hO1 := hO ⟨W1, Below.refl _ _⟩
 simp only at r0 hO1
 go_enter Tryz.func130, Tryz.ntmps130
 go_wp2_with fail
 go_at_call 163
 refine hO1.mono ?_
 rintro e W2 ⟨rfl, hB2⟩
 have hT2 := hT ⟨W2, hB2⟩
 simp only at hT2
 go_wp2_with fail
 go_at_call 158
 refine hT2.mono ?_
 rintro e W3 ⟨rfl, hB3⟩
 go_wp2
 go_ret
 exact ⟨rfl, (hB0.trans (hB2.mono hB0.size)).trans (hB3.mono (lT9 hB0.size hB2.size))⟩
theorem said_ways : SaidBy 131 1 (fun row ns => qA row ns 6) := by
 intro x p v row ns w hx hs hv hn hns hE
 obtain ⟨a, rfl⟩ : ∃ a, ns = [a] := by
  match ns, hn with
  | [a], _ => exact ⟨a, rfl⟩
 have ha := hns a (by simp)
 have hB0 := (Below.refl _ w).alloc (Nat.le_refl _) (.cells #[x, p] 31)
 obtain ⟨W1, hW1⟩ : ∃ W1, w.alloc (.cells #[x, p] 31) = W1 := ⟨_, rfl⟩
 rw [hW1] at hB0
 have hE1 := hE.below hB0
 obtain ⟨g, cap, rfl, hg, hc⟩ : ∃ g cap, v = .slice (some ⟨g, 0, none⟩) 1 cap ∧ g < w.heap.size ∧ ∀ i, i < 1 → w.cell? ⟨g, i, none⟩ = some (.int .i64 ([a].getD i 0)) := by
  rcases hv with ⟨_, _, _, h⟩ | ⟨g, cap, rfl, h1, h2⟩
  · cases h
  · exact ⟨g, cap, rfl, h1, h2⟩
 have q0 : ∀ m : After W1, m.now.cell? ⟨g, 0, none⟩ = some (.int .i64 a) := fun m => ((hB0.trans (m.ok.mono hB0.size)).cell (p := ⟨g, 0, none⟩) hg).trans (hc 0 (by omega))
 have hO := fun m : After W1 => implWaysOf a m.now
 have hT := fun m : After W1 => implTold (waysV a) (waysV_big a) m.now (hE1.below m.ok)
 show Calls Tryz.prog _ _ w fun e w' => e = .returned (.string (str (toldI (waysV a)))) ∧ Below w.heap.size w w'
 obtain ⟨N, hN⟩ : ∃ N, waysV a = N := ⟨_, rfl⟩
 rw [hN] at hT ⊢
 simp only [hN] at hO
 obtain ⟨S, hS⟩ : ∃ S, str (toldI N) = S := ⟨_, rfl⟩
 rw [hS] at hT ⊢
 clear hx hv hE hN hS hc hg hns hs hE1
 have r0 := q0 ⟨W1, Below.refl _ _⟩
 have hO1 := hO ⟨W1, Below.refl _ _⟩
 simp only at r0 hO1
 go_enter Tryz.func131, Tryz.ntmps131
 go_wp2_with fail
 go_at_call 164
 refine hO1.mono ?_
 rintro e W2 ⟨rfl, hB2⟩
 have hT2 := hT ⟨W2, hB2⟩
 simp only at hT2
 go_wp2_with fail
 go_at_call 158
 refine hT2.mono ?_
 rintro e W3 ⟨rfl, hB3⟩
 go_wp2
 go_ret
 exact ⟨rfl, (hB0.trans (hB2.mono hB0.size)).trans (hB3.mono (lT9 hB0.size hB2.size))⟩
theorem said_cell : SaidBy 132 2 (fun row ns => qA row ns 7) := by
 intro x p v row ns w hx hs hv hn hns hE
 obtain ⟨a, b, rfl⟩ : ∃ a b, ns = [a, b] := by
  match ns, hn with
  | [a, b], _ => exact ⟨a, b, rfl⟩
 have ha := hns a (by simp)
 have hb := hns b (by simp)
 have hB0 := (Below.refl _ w).alloc (Nat.le_refl _) (.cells #[x, p] 31)
 obtain ⟨W1, hW1⟩ : ∃ W1, w.alloc (.cells #[x, p] 31) = W1 := ⟨_, rfl⟩
 rw [hW1] at hB0
 have hE1 := hE.below hB0
 obtain ⟨g, cap, rfl, hg, hc⟩ : ∃ g cap, v = .slice (some ⟨g, 0, none⟩) 2 cap ∧ g < w.heap.size ∧ ∀ i, i < 2 → w.cell? ⟨g, i, none⟩ = some (.int .i64 ([a, b].getD i 0)) := by
  rcases hv with ⟨_, _, _, h⟩ | ⟨g, cap, rfl, h1, h2⟩
  · cases h
  · exact ⟨g, cap, rfl, h1, h2⟩
 have q0 : ∀ m : After W1, m.now.cell? ⟨g, 0, none⟩ = some (.int .i64 a) := fun m => ((hB0.trans (m.ok.mono hB0.size)).cell (p := ⟨g, 0, none⟩) hg).trans (hc 0 (by omega))
 have q1 : ∀ m : After W1, m.now.cell? ⟨g, 1, none⟩ = some (.int .i64 b) := fun m => ((hB0.trans (m.ok.mono hB0.size)).cell (p := ⟨g, 1, none⟩) hg).trans (hc 1 (by omega))
 have hO := fun m : After W1 => implCell a b m.now
 have hT := fun m : After W1 => implTold (cellV a b) (cellV_big a b) m.now (hE1.below m.ok)
 show Calls Tryz.prog _ _ w fun e w' => e = .returned (.string (str (toldI (cellV a b)))) ∧ Below w.heap.size w w'
 obtain ⟨N, hN⟩ : ∃ N, cellV a b = N := ⟨_, rfl⟩
 rw [hN] at hT ⊢
 simp only [hN] at hO
 obtain ⟨S, hS⟩ : ∃ S, str (toldI N) = S := ⟨_, rfl⟩
 rw [hS] at hT ⊢
 clear hx hv hE hN hS hc hg hns hs hE1
 go_enter Tryz.func132, Tryz.ntmps132
 go_wp2
 refine wp_region_below W1 (by kernel_rfl) (by kernel_rfl) (Below.refl _ _) ?_
 repeat (go_big_quiet_step (first | (go_at_call 63; exact after_of (hO _)) | (go_at_call 158; exact after_of (hT _))))
 refine wpQuiet_nil ?_
 rintro _ ⟨nq, rfl⟩
 go_wp2
 go_ret
 exact ⟨rfl, hB0.trans (nq.ok.mono hB0.size)⟩
theorem said_kept : SaidBy 133 2 (fun row ns => qA row ns 8) := by
 intro x p v row ns w hx hs hv hn hns hE
 obtain ⟨a, b, rfl⟩ : ∃ a b, ns = [a, b] := by
  match ns, hn with
  | [a, b], _ => exact ⟨a, b, rfl⟩
 have ha := hns a (by simp)
 have hb := hns b (by simp)
 have hB0 := (Below.refl _ w).alloc (Nat.le_refl _) (.cells #[x, p] 31)
 obtain ⟨W1, hW1⟩ : ∃ W1, w.alloc (.cells #[x, p] 31) = W1 := ⟨_, rfl⟩
 rw [hW1] at hB0
 have hE1 := hE.below hB0
 obtain ⟨g, cap, rfl, hg, hc⟩ : ∃ g cap, v = .slice (some ⟨g, 0, none⟩) 2 cap ∧ g < w.heap.size ∧ ∀ i, i < 2 → w.cell? ⟨g, i, none⟩ = some (.int .i64 ([a, b].getD i 0)) := by
  rcases hv with ⟨_, _, _, h⟩ | ⟨g, cap, rfl, h1, h2⟩
  · cases h
  · exact ⟨g, cap, rfl, h1, h2⟩
 have q0 : ∀ m : After W1, m.now.cell? ⟨g, 0, none⟩ = some (.int .i64 a) := fun m => ((hB0.trans (m.ok.mono hB0.size)).cell (p := ⟨g, 0, none⟩) hg).trans (hc 0 (by omega))
 have q1 : ∀ m : After W1, m.now.cell? ⟨g, 1, none⟩ = some (.int .i64 b) := fun m => ((hB0.trans (m.ok.mono hB0.size)).cell (p := ⟨g, 1, none⟩) hg).trans (hc 1 (by omega))
 have hO := fun m : After W1 => implLeftIn a b (by unfold Fits; omega) m.now
 have hT := fun m : After W1 => implTold (keepV a b) (keepV_big a b) m.now (hE1.below m.ok)
 show Calls Tryz.prog _ _ w fun e w' => e = .returned (.string (str (toldI (keepV a b)))) ∧ Below w.heap.size w w'
 obtain ⟨N, hN⟩ : ∃ N, keepV a b = N := ⟨_, rfl⟩
 rw [hN] at hT ⊢
 simp only [hN] at hO
 obtain ⟨S, hS⟩ : ∃ S, str (toldI N) = S := ⟨_, rfl⟩
 rw [hS] at hT ⊢
 clear hx hv hE hN hS hc hg hns hs hE1
 go_enter Tryz.func133, Tryz.ntmps133
 go_wp2
 refine wp_region_below W1 (by kernel_rfl) (by kernel_rfl) (Below.refl _ _) ?_
 repeat (go_big_quiet_step (first | (go_at_call 165; exact after_of (hO _)) | (go_at_call 158; exact after_of (hT _))))
 refine wpQuiet_nil ?_
 rintro _ ⟨nq, rfl⟩
 go_wp2
 go_ret
 exact ⟨rfl, hB0.trans (nq.ok.mono hB0.size)⟩
theorem said_left : SaidBy 134 3 (fun row ns => qA row ns 9) := by
 intro x p v row ns w hx hs hv hn hns hE
 obtain ⟨a, b, c, rfl⟩ : ∃ a b c, ns = [a, b, c] := by
  match ns, hn with
  | [a, b, c], _ => exact ⟨a, b, c, rfl⟩
 have ha := hns a (by simp)
 have hb := hns b (by simp)
 have hc := hns c (by simp)
 have hB0 := (Below.refl _ w).alloc (Nat.le_refl _) (.cells #[x, p] 31)
 obtain ⟨W1, hW1⟩ : ∃ W1, w.alloc (.cells #[x, p] 31) = W1 := ⟨_, rfl⟩
 rw [hW1] at hB0
 have hE1 := hE.below hB0
 obtain ⟨g, cap, rfl, hg, hc⟩ : ∃ g cap, v = .slice (some ⟨g, 0, none⟩) 3 cap ∧ g < w.heap.size ∧ ∀ i, i < 3 → w.cell? ⟨g, i, none⟩ = some (.int .i64 ([a, b, c].getD i 0)) := by
  rcases hv with ⟨_, _, _, h⟩ | ⟨g, cap, rfl, h1, h2⟩
  · cases h
  · exact ⟨g, cap, rfl, h1, h2⟩
 have q0 : ∀ m : After W1, m.now.cell? ⟨g, 0, none⟩ = some (.int .i64 a) := fun m => ((hB0.trans (m.ok.mono hB0.size)).cell (p := ⟨g, 0, none⟩) hg).trans (hc 0 (by omega))
 have q1 : ∀ m : After W1, m.now.cell? ⟨g, 1, none⟩ = some (.int .i64 b) := fun m => ((hB0.trans (m.ok.mono hB0.size)).cell (p := ⟨g, 1, none⟩) hg).trans (hc 1 (by omega))
 have q2 : ∀ m : After W1, m.now.cell? ⟨g, 2, none⟩ = some (.int .i64 c) := fun m => ((hB0.trans (m.ok.mono hB0.size)).cell (p := ⟨g, 2, none⟩) hg).trans (hc 2 (by omega))
 have hO := fun m : After W1 => implLeft a b c (by unfold Fits; omega) m.now
 have hT := fun m : After W1 => implTold (leftV a b c) (leftV_big a b c) m.now (hE1.below m.ok)
 show Calls Tryz.prog _ _ w fun e w' => e = .returned (.string (str (toldI (leftV a b c)))) ∧ Below w.heap.size w w'
 obtain ⟨N, hN⟩ : ∃ N, leftV a b c = N := ⟨_, rfl⟩
 rw [hN] at hT ⊢
 simp only [hN] at hO
 obtain ⟨S, hS⟩ : ∃ S, str (toldI N) = S := ⟨_, rfl⟩
 rw [hS] at hT ⊢
 clear hx hv hE hN hS hc hg hns hs hE1
 go_enter Tryz.func134, Tryz.ntmps134
 go_wp2
 refine wp_region_below W1 (by kernel_rfl) (by kernel_rfl) (Below.refl _ _) ?_
 repeat (go_big_quiet_step (first | (go_at_call 166; exact after_of (hO _)) | (go_at_call 158; exact after_of (hT _))))
 refine wpQuiet_nil ?_
 rintro _ ⟨nq, rfl⟩
 go_wp2
 go_ret
 exact ⟨rfl, hB0.trans (nq.ok.mono hB0.size)⟩
theorem said_often : SaidBy 135 3 (fun row ns => qA row ns 10) := by
 intro x p v row ns w hx hs hv hn hns hE
 obtain ⟨a, b, c, rfl⟩ : ∃ a b c, ns = [a, b, c] := by
  match ns, hn with
  | [a, b, c], _ => exact ⟨a, b, c, rfl⟩
 have ha := hns a (by simp)
 have hb := hns b (by simp)
 have hc := hns c (by simp)
 have hB0 := (Below.refl _ w).alloc (Nat.le_refl _) (.cells #[x, p] 31)
 obtain ⟨W1, hW1⟩ : ∃ W1, w.alloc (.cells #[x, p] 31) = W1 := ⟨_, rfl⟩
 rw [hW1] at hB0
 have hE1 := hE.below hB0
 obtain ⟨g, cap, rfl, hg, hc⟩ : ∃ g cap, v = .slice (some ⟨g, 0, none⟩) 3 cap ∧ g < w.heap.size ∧ ∀ i, i < 3 → w.cell? ⟨g, i, none⟩ = some (.int .i64 ([a, b, c].getD i 0)) := by
  rcases hv with ⟨_, _, _, h⟩ | ⟨g, cap, rfl, h1, h2⟩
  · cases h
  · exact ⟨g, cap, rfl, h1, h2⟩
 have q0 : ∀ m : After W1, m.now.cell? ⟨g, 0, none⟩ = some (.int .i64 a) := fun m => ((hB0.trans (m.ok.mono hB0.size)).cell (p := ⟨g, 0, none⟩) hg).trans (hc 0 (by omega))
 have q1 : ∀ m : After W1, m.now.cell? ⟨g, 1, none⟩ = some (.int .i64 b) := fun m => ((hB0.trans (m.ok.mono hB0.size)).cell (p := ⟨g, 1, none⟩) hg).trans (hc 1 (by omega))
 have q2 : ∀ m : After W1, m.now.cell? ⟨g, 2, none⟩ = some (.int .i64 c) := fun m => ((hB0.trans (m.ok.mono hB0.size)).cell (p := ⟨g, 2, none⟩) hg).trans (hc 2 (by omega))
 have hO := fun m : After W1 => implCellT a b c (by unfold Fits; omega) m.now
 have hT := fun m : After W1 => implTold (cellTV a b c) (cellTV_big a b c) m.now (hE1.below m.ok)
 show Calls Tryz.prog _ _ w fun e w' => e = .returned (.string (str (toldI (cellTV a b c)))) ∧ Below w.heap.size w w'
 obtain ⟨N, hN⟩ : ∃ N, cellTV a b c = N := ⟨_, rfl⟩
 rw [hN] at hT ⊢
 simp only [hN] at hO
 obtain ⟨S, hS⟩ : ∃ S, str (toldI N) = S := ⟨_, rfl⟩
 rw [hS] at hT ⊢
 clear hx hv hE hN hS hc hg hns hs hE1
 go_enter Tryz.func135, Tryz.ntmps135
 go_wp2
 refine wp_region_below W1 (by kernel_rfl) (by kernel_rfl) (Below.refl _ _) ?_
 repeat (go_big_quiet_step (first | (go_at_call 167; exact after_of (hO _)) | (go_at_call 158; exact after_of (hT _))))
 refine wpQuiet_nil ?_
 rintro _ ⟨nq, rfl⟩
 go_wp2
 go_ret
 exact ⟨rfl, hB0.trans (nq.ok.mono hB0.size)⟩
theorem said_carries : SaidBy 136 3 (fun row ns => qA row ns 11) := by
 intro x p v row ns w hx hs hv hn hns hE
 obtain ⟨a, b, c, rfl⟩ : ∃ a b c, ns = [a, b, c] := by
  match ns, hn with
  | [a, b, c], _ => exact ⟨a, b, c, rfl⟩
 have ha := hns a (by simp)
 have hb := hns b (by simp)
 have hc := hns c (by simp)
 have hB0 := (Below.refl _ w).alloc (Nat.le_refl _) (.cells #[x, p] 31)
 obtain ⟨W1, hW1⟩ : ∃ W1, w.alloc (.cells #[x, p] 31) = W1 := ⟨_, rfl⟩
 rw [hW1] at hB0
 have hE1 := hE.below hB0
 obtain ⟨g, cap, rfl, hg, hc⟩ : ∃ g cap, v = .slice (some ⟨g, 0, none⟩) 3 cap ∧ g < w.heap.size ∧ ∀ i, i < 3 → w.cell? ⟨g, i, none⟩ = some (.int .i64 ([a, b, c].getD i 0)) := by
  rcases hv with ⟨_, _, _, h⟩ | ⟨g, cap, rfl, h1, h2⟩
  · cases h
  · exact ⟨g, cap, rfl, h1, h2⟩
 have q0 : ∀ m : After W1, m.now.cell? ⟨g, 0, none⟩ = some (.int .i64 a) := fun m => ((hB0.trans (m.ok.mono hB0.size)).cell (p := ⟨g, 0, none⟩) hg).trans (hc 0 (by omega))
 have q1 : ∀ m : After W1, m.now.cell? ⟨g, 1, none⟩ = some (.int .i64 b) := fun m => ((hB0.trans (m.ok.mono hB0.size)).cell (p := ⟨g, 1, none⟩) hg).trans (hc 1 (by omega))
 have q2 : ∀ m : After W1, m.now.cell? ⟨g, 2, none⟩ = some (.int .i64 c) := fun m => ((hB0.trans (m.ok.mono hB0.size)).cell (p := ⟨g, 2, none⟩) hg).trans (hc 2 (by omega))
 have hO := fun m : After W1 => implCarries a b c m.now
 have hT := fun m : After W1 => implTold (carriesV a b c) (carriesV_big a b c) m.now (hE1.below m.ok)
 show Calls Tryz.prog _ _ w fun e w' => e = .returned (.string (str (toldI (carriesV a b c)))) ∧ Below w.heap.size w w'
 obtain ⟨N, hN⟩ : ∃ N, carriesV a b c = N := ⟨_, rfl⟩
 rw [hN] at hT ⊢
 simp only [hN] at hO
 obtain ⟨S, hS⟩ : ∃ S, str (toldI N) = S := ⟨_, rfl⟩
 rw [hS] at hT ⊢
 clear hx hv hE hN hS hc hg hns hs hE1
 go_enter Tryz.func136, Tryz.ntmps136
 go_wp2
 refine wp_region_below W1 (by kernel_rfl) (by kernel_rfl) (Below.refl _ _) ?_
 repeat (go_big_quiet_step (first | (go_at_call 168; exact after_of (hO _)) | (go_at_call 158; exact after_of (hT _))))
 refine wpQuiet_nil ?_
 rintro _ ⟨nq, rfl⟩
 go_wp2
 go_ret
 exact ⟨rfl, hB0.trans (nq.ok.mono hB0.size)⟩
set_option maxRecDepth 100000 in
set_option maxHeartbeats 1000000 in
theorem said_row : SaidBy 125 0 (fun row ns => qA row ns 0) := by
 intro x p v row ns w hx hs hv hn hns hE
 have hl := sideB_len hs
 have hbit := fun i (hi : i < row.length) => sideB_at hs hi
 show Calls Tryz.prog _ _ w fun e w' => e = .returned (.string (str (rowTx row))) ∧ Below w.heap.size w w'
 have hB0 := (Below.refl _ w).alloc (Nat.le_refl _) (.cells #[x, p] 31)
 obtain ⟨c0, c1⟩ := desk_box (w := w) (x := x) (p := p) (t := 31)
 have z0 := World.size_alloc w (.cells #[x, p] 31)
 obtain ⟨g, cap, rfl, hg, hc⟩ : ∃ g cap, x = .slice (some ⟨g, 0, none⟩) row.length cap ∧ g < w.heap.size ∧ ∀ i, i < row.length → w.cell? ⟨g, i, none⟩ = some (.int .i64 (row.getD i 0)) := by
  rcases hx with ⟨_, _, _, h⟩ | ⟨g, cap, rfl, h1, h2⟩
  · rw [h] at hl; simp at hl
  · exact ⟨g, cap, rfl, h1, h2⟩
 obtain ⟨N, hN⟩ : ∃ N, row.length = N := ⟨_, rfl⟩
 rw [hN] at hB0 c0 c1 z0 hc hl hbit ⊢
 obtain ⟨W1, hW1⟩ : ∃ W1, w.alloc (.cells #[.slice (some ⟨g, 0, none⟩) N cap, p] 31) = W1 := ⟨_, rfl⟩
 rw [hW1] at hB0 c0 c1 z0
 have l0 := World.block_lt_of_cell? _ _ c0
 have hB1 : Below w.heap.size w (W1.alloc (.cells #[.pointer none, .slice none 0 0] 87)) := hB0.alloc hB0.size _
 have d0 : (W1.alloc (.cells #[.pointer none, .slice none 0 0] 87)).cell? ⟨w.heap.size, 0, none⟩ = some (.slice (some ⟨g, 0, none⟩) N cap) := (((Below.refl _ W1).alloc (Nat.le_refl _) _).cell (p := ⟨w.heap.size, 0, none⟩) l0).trans c0
 have hbl0 : BldJ (W1.alloc (.cells #[.pointer none, .slice none 0 0] 87)) W1.heap.size [] := Lib.IsBuilderF.of (Lib.fresh_isBuilder _ _ W1)
 have hz1 : w.heap.size ≤ W1.heap.size := hB0.size
 obtain ⟨W2, hW2⟩ : ∃ W2, W1.alloc (.cells #[.pointer none, .slice none 0 0] 87) = W2 := ⟨_, rfl⟩
 rw [hW2] at hB1 hbl0 d0
 rw [z0] at hbl0 hz1
 have hz2 : w.heap.size + 1 ≤ W2.heap.size := by rw [← hW2, World.size_alloc]; omega
 have hall : ∀ k, k < N → rowTx (row.take (k + 1)) = rowTx (row.take k) ++ decI (row.getD k 0) := fun k hk => by
  have : row.take (k + 1) = row.take k ++ [row.getD k 0] := by
   rw [List.take_add_one, eG9 (by omega), List.getD, eG9 (by omega)]; rfl
  unfold rowTx
  rw [this, List.flatMap_append]
  simp
 have hlen : ∀ k, k ≤ N → (rowTx (row.take k)).length ≤ 12 := fun k hk => by
  have h1 : ∀ m, m ≤ N → (rowTx (row.take m)).length = m := fun m => by
   induction m with
   | zero => intro _; simp [rowTx]
   | succ m ih =>
     intro hm
     rw [hall m (by omega), List.length_append, ih (by omega)]
     have := hbit m (by omega)
     rcases (show row.getD m 0 = 0 ∨ row.getD m 0 = 1 by omega) with e | e <;> rw [e] <;> rfl
  rw [h1 k hk]; omega
 replace hall := hide hall
 replace hlen := hide hlen
 have hfin : rowTx (row.take N) = rowTx row := by rw [← hN, List.take_length]
 replace hfin := hide hfin
 obtain ⟨R, hR⟩ : ∃ R, rowTx row = R := ⟨_, rfl⟩
 rw [hR] at hfin ⊢
 clear hx hv c0 c1 hB0 hs hns hR hN l0
 go_enter Tryz.func125, Tryz.ntmps125
 go_wp2
 go_loopw [11] (fun p wr => ∃ k : Nat, k ≤ N ∧ p = .int .i64 k ∧ BldJ wr (w.heap.size + 1) (rowTx (row.take k)) ∧ Below w.heap.size w wr ∧ w.heap.size + 1 ≤ wr.heap.size) (fun p _ => N - (intOf p).toNat)
 case atStart => exact ⟨0, by omega, rfl, hbl0, hB1, hz2⟩
 case round =>
  clear hB1 hbl0
  obtain ⟨k, hk, rfl, hbl, hB, hBz⟩ := hrel
  by_cases hlt : k < N
  · have hki : (k : Int) < (N : Int) := by omega
    have d1 := (hB.cell (p := ⟨g, k, none⟩) hg).trans (hc k hlt)
    have hb01 := hbit k hlt
    have hst := hide (hall.out k hlt)
    have hl1 := hide (hlen.out k hk)
    obtain ⟨y, hy⟩ : ∃ y, row.getD k 0 = y := ⟨_, rfl⟩
    rw [hy] at d1 hb01 hst
    have hI := itoaBig_in y (by omega) (by omega) wr (hE.below hB)
    have hdl : (decI y).length ≤ 1 := by
     rcases (show y = 0 ∨ y = 1 by omega) with e | e <;> rw [e] <;> decide
    have hl2 : (rowTx (row.take k)).length ≤ 12 := hl1.out
    obtain ⟨X, hX⟩ : ∃ X, rowTx (row.take k) = X := ⟨_, rfl⟩
    rw [hX] at hbl hst hl2
    clear hc hall hlen hbit hy hl1
    go_wp2_with fail
    go_at_call 58
    refine hI.mono ?_
    rintro e w2 ⟨rfl, hB2⟩
    have hbl2 := hbl.below hB2
    have hBw := hB.trans (hB2.mono hB.size)
    have hz2 := hB2.size
    have hW := hbl2.str (decI y) (by omega) (by omega) (by omega)
    rw [← hst.out] at hW
    obtain ⟨S, hS⟩ : ∃ S, str (decI y) = S := ⟨_, rfl⟩
    rw [hS] at hW ⊢
    clear hI hS hdl hbl hX
    go_wp2_with fail
    go_at_call 59
    refine hW.mono ?_
    rintro e w3 ⟨rfl, hbl3, hB3⟩
    have hz3 := hB3.size
    have hBw3 := hBw.trans (hB3.mono hz1)
    go_wp2
    go_roundw
    case rel => exact ⟨k + 1, by omega, by go_num, hbl3, hBw3, by omega⟩
    case measure => simp [intOf]; omega
  · obtain rfl : k = N := by omega
    have hki : ¬ ((k : Nat) : Int) < (k : Int) := by omega
    have hW := hbl.text hBz
    rw [hfin.out] at hW
    clear hbl hc hall hlen hbit hfin
    go_wp2_with (go_at_call 61; refine hW.mono ?_; clear hW; rintro e w3 ⟨rfl, hB3⟩)
    go_ret
    exact ⟨rfl, hB.trans (hB3.mono hz1)⟩
end
section
open Go.RowKit
def wL (i : Nat) : List Nat := match i with
 | 0 => [102, 108, 105, 112]
 | 1 => [112, 117, 116]
 | 2 => [117, 110, 100, 101, 114]
 | 3 => [116, 117, 114, 110]
 | 4 => [114, 111, 117, 110, 100]
 | 5 => [98, 97, 99, 107]
 | _ => []
def ixL (p : List Nat) : Int := if p = wL 0 then 0 else if p = wL 1 then 1 else if p = wL 2 then 2 else if p = wL 3 then 3 else if p = wL 4 then 4 else if p = wL 5 then 5 else -1
theorem wL_byte : ((List.range 6).all fun i => (wL i).all fun c => decide (c < 256)) = true := by decide
theorem ixL_at : ((List.range 6).all fun i => decide (ixL (wL i) = i)) = true := by decide
theorem words_str : ∀ i, i < 6 → wordsA[i]? = some (.string (str (wL i)))
 | 0, _ => by kernel_rfl
 | 1, _ => by kernel_rfl
 | 2, _ => by kernel_rfl
 | 3, _ => by kernel_rfl
 | 4, _ => by kernel_rfl
 | 5, _ => by kernel_rfl
 | _ + 6, h => by omega
end
end Go.Proofs.YtiaaefapbcjgmaaGreatDoor
