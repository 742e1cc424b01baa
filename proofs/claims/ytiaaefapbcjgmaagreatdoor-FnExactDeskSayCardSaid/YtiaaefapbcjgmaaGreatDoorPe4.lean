/-
  Parts of the proofs, laid together: Answer12, Ask12, LineI12, LineS12, Q12Y, Read12b, Read12c, RegStoreP, Said12, SayI12, SayI12s, TxtRow12.
-/
import Derived.WalkKit
import Derived.Laws.Concat
import Derived.Laws.Strings2
import Derived.OrdersIn
import Derived.TacticsIn
import Derived.Test.YtiaaefapbcjgmaaGreatDoorProg
import Derived.OwnWalkIn
import Derived.Deep.RegionLaw
import Derived.RangeFuncBox
import Derived.Laws.DeepStrings4
import Derived.Laws.Cover1
import Derived.Maps.AppendAt
import Derived.WalkSpells
import Derived.RangeFuncNested
import Derived.RangeFuncBound
import Derived.RangeFuncCalls
import Derived.RangeFuncLeaves
import Derived.BigRegion
import Derived.Shelf.Abstract
import Derived.Shelf.RegionOpen
import Derived.TacticsInMore
import Derived.LoopNIn
import Derived.LoopIn
import Derived.Deep.QuietTactic
import Derived.BigQuiet
import Derived.Below
import Derived.Laws.BytesString
import Derived.Deep.RegionWith
import Derived.DeepKeys5
import Derived.Maps.Keyed
import Derived.Deep.DeepCutAuto
import Derived.Laws.AppendOwnNone
import Derived.Laws.CopyOwn
import Derived.StillTailTactics
import Derived.Maps.OwnSet
import Derived.Laws.Bits64
import Derived.Laws.Bits64b
import Derived.Lib.AppendZeros
import Derived.Lib.AppendZerosOnto
import Derived.ControlIn
import Derived.Lib.AtoiAll
import Derived.Lib.AtoiAllCases
import Derived.Lib.ItoaNum
import Derived.Lib.ItoaMem
import Derived.Lib.SplitLaws
import Derived.Lib.AppendIntMem
import Derived.WideLaws
import Derived.Lib.SlicesS
import Derived.BigCall
import Derived.Maps.Own
import Derived.Maps.OwnOps
import Derived.StringKeys
import Derived.Shelf.Strings.BuilderK
import Derived.Lib.FrozenHead
import Derived.Tactics
import Derived.Tactics2
import Derived.Defers
import Derived.Laws.Pointers
import Derived.Laws.LoneSync
import Derived.RegionTactic
import Derived.RegionCalls
import Derived.ChangeAlike
import Derived.Laws.EntriesVeiled
import Derived.Laws.OwnMore
import Derived.Test.YtiaaefapbcjgmaaGreatDoorLay12
import Derived.Test.YtiaaefapbcjgmaaGreatDoorLay6
import Derived.Test.YtiaaefapbcjgmaaGreatDoorPe0
import Derived.Test.YtiaaefapbcjgmaaGreatDoorPe1
import Derived.Test.YtiaaefapbcjgmaaGreatDoorPe2
import Derived.Test.YtiaaefapbcjgmaaGreatDoorPe3
namespace Go.Proofs.YtiaaefapbcjgmaaGreatDoor
open Go.RowKit Go.Maps

/-- The exponents of 1. -/
def exp0 : DataW Unit := ((((((DataW.map []).put (litI 2) (datI 0)).put (litI 3) (datI 0)).put (litI 5) (datI 0)).put (litI 7) (datI 0)).put (litI 11) (datI 0)).put (litI 13) (datI 0)

theorem exp0_eq : exp0 = .map [(litI 2, datI 0), (litI 3, datI 0), (litI 5, datI 0), (litI 7, datI 0), (litI 11, datI 0), (litI 13, datI 0)] := by rfl

/-- A number laid at a key: the run of it, as an equation. -/
theorem OwnM.update {w : World} {b n : Nat} {D : DataW Unit} (h : OwnM w b n D) (hn : n < 4000000000000000000) (p z : Int) (hp : (litI p).wf = true) (hz : (litI z).wf = true) :
    ∃ w', (Instr.mapUpdate 218 (.map (some b)) (.int .i64 p) (.int .i64 z)).run Tryz.prog w = .ok () w' ∧ OwnM w' b (n + 1) (D.put (litI p) (datI z)) ∧ w.grownBy w' (some b) :=
  World.ownsMap.update h keyI Tryz.underlying218 (by unfold maxLen; omega) (keyOf_int_mk Tryz.underlying3 hp) (plainElem_int Tryz.underlying3 hz)

set_option maxHeartbeats 1000000 in
theorem noExp (w : World) : Calls Tryz.prog 224 #[] w fun e w' => e = .returned (.map (some w.heap.size)) ∧ OwnM w' w.heap.size 6 exp0 ∧ Below w.heap.size w w' := by
  have hmm := @run_makeMap Tryz.prog
  have h0 : OwnM (w.alloc (.map #[] 0)) w.heap.size 0 (.map []) := World.ownsMap_made w Tryz.prog 3 (plainElem (H := Unit) Tryz.prog 3)
  have hB0 : Below w.heap.size w (w.alloc (.map #[] 0)) := (Below.refl _ w).alloc (Nat.le_refl _) _
  obtain ⟨w1, r1, h1, g1⟩ := h0.update (by omega) 2 0 (by decide) (by decide)
  obtain ⟨w2, r2, h2, g2⟩ := h1.update (by omega) 3 0 (by decide) (by decide)
  obtain ⟨w3, r3, h3, g3⟩ := h2.update (by omega) 5 0 (by decide) (by decide)
  obtain ⟨w4, r4, h4, g4⟩ := h3.update (by omega) 7 0 (by decide) (by decide)
  obtain ⟨w5, r5, h5, g5⟩ := h4.update (by omega) 11 0 (by decide) (by decide)
  obtain ⟨w6, r6, h6, g6⟩ := h5.update (by omega) 13 0 (by decide) (by decide)
  have hl : ∀ j, some w.heap.size = some j → w.heap.size ≤ j := fun j hj => by cases hj; exact Nat.le_refl _
  have hB1 := hB0.grown g1 hB0.size hl
  have hB2 := hB1.grown g2 hB1.size hl
  have hB3 := hB2.grown g3 hB2.size hl
  have hB4 := hB3.grown g4 hB3.size hl
  have hB5 := hB4.grown g5 hB4.size hl
  have hB6 := hB5.grown g6 hB5.size hl
  clear hB0 hB1 hB2 hB3 hB4 hB5 g1 g2 g3 g4 g5 g6 h0 h1 h2 h3 h4 h5 hl
  go_enter Tryz.func224, Tryz.ntmps224
  go_wp2
  go_ret
  exact ⟨rfl, h6, hB6⟩

theorem exp0_has (p : Int) : Maps.has exp0 (litI p) = prmI p := by
  rw [exp0_eq, Maps.has_eq]
  unfold prmI
  rw [Bool.eq_iff_iff]
  simp [Lit.sameKey]
  omega

theorem OwnM.look_ok {w : World} {b n : Nat} {D : DataW Unit} (h : OwnM w b n D) (p : Int) (hp : (litI p).wf = true) :
    ∃ c, (Instr.lookup 218 (.map (some b)) (.int .i64 p) true).run Tryz.prog w = .ok (.tuple #[.int .i64 c, .bool (Maps.has D (litI p))]) w := by
  obtain ⟨v, ps, h1, h2⟩ := World.ownsMap.look_ok h keyI Tryz.underlying218 (zeroI w) (plainElem_int Tryz.underlying3 (by decide)) (keyOf_int_mk Tryz.underlying3 hp)
  obtain ⟨c, rfl, _, _⟩ := plainElem_int_inv Tryz.underlying3 h2
  exact ⟨c, h1⟩

theorem fits_wf {p : Int} (h : Fits p) : (litI p).wf = true := WalkArith.wf_i64 h

theorem implPrime (p : Int) (hp : Fits p) (w : World) : Calls Tryz.prog 198 #[.int .i64 p] w fun e w' => e = .returned (.bool (prmI p)) ∧ Below w.heap.size w w' := by
  have hwf := fits_wf hp
  have hh := exp0_has p
  cases hv : prmI p
  all_goals
    rw [hv] at hh
    clear hv
    go_enter Tryz.func198, Tryz.ntmps198
    go_wp2_with fail
    go_at_call 224
    refine (noExp _).mono ?_
    rintro e w1 ⟨rfl, hown, hB⟩
    obtain ⟨c, hl⟩ := hown.look_ok p hwf
    rw [hh] at hl
    clear hh hown
    go_wp2
    go_ret
    exact ⟨rfl, hB⟩

theorem implPrime_is {p : Int} {b : Bool} (hp : Fits p) (h : prmI p = b) (w : World) : Calls Tryz.prog 198 #[.int .i64 p] w fun e w' => e = .returned (.bool b) ∧ Below w.heap.size w w' := h ▸ implPrime p hp w
end Go.Proofs.YtiaaefapbcjgmaaGreatDoor
namespace Go.Proofs.YtiaaefapbcjgmaaGreatDoor
open Go.RowKit

theorem implLeftIn (row p : Int) (hf : Fits p) (w : World) : Calls Tryz.prog 165 #[.int .i64 row, .int .i64 p] w fun e w' => e = .returned (.int .i64 (keepV row p)) ∧ Below w.heap.size w w' := by
  cases hpr : prmI p with
  | false =>
    have hP := fun w => implPrime_is hf hpr w
    rw [keepV_bad (show badK row p from .inr (.inr hpr))]
    clear hpr hf
    go_enter Tryz.func165, Tryz.ntmps165
    go_wp2_with (go_at_call 198; (with_reducible refine (hP _).mono ?_); rintro e w1 ⟨rfl, hB1⟩)
    go_ret
    exact ⟨rfl, hB1⟩
  | true =>
    have hP := fun w => implPrime_is hf hpr w
    obtain ⟨P, rfl, hp⟩ := prmI_t hpr
    have hC := fun w => implCount row P w
    have hcv : countV row P = keepV row P := by
      by_cases hbad : badK row P
      · rw [keepV_bad hbad]
        unfold badK at hbad
        refine countV_bad ?_
        unfold bad1
        rcases hbad with h | h | h
        · exact .inl h
        · exact .inr (.inl h)
        · rw [hpr] at h; cases h
      · obtain ⟨n, P', rfl, h2, hn, hp'⟩ := badK_nat hbad
        exact keepV_count hn hp
    rw [hcv] at hC
    clear hcv hpr hf
    go_enter Tryz.func165, Tryz.ntmps165
    go_wp2_with (first | (go_at_call 198; (with_reducible refine (hP _).mono ?_); rintro e w1 ⟨rfl, hB1⟩) | (go_at_call 199; (with_reducible refine (hC _).mono ?_); rintro e w2 ⟨rfl, hB2⟩))
    go_ret
    exact ⟨rfl, hB1.trans (hB2.mono hB1.size)⟩

/-- What the small triangle's block holds: the prime, the once's word, its lock, the cells. -/
def smV (p : Nat) (d s : Int) (T : Nat → Nat) : Nat → Option Value := fun i =>
  if i = 0 then some (.int .i64 p) else if i = 1 then some (.int .u32 d) else if i = 2 then some (.int .i32 s) else if 4 ≤ i ∧ i < 260 then some (.int .i64 (T (i - 4))) else none

abbrev SmAt (w : World) (R p : Nat) (d s : Int) (T : Nat → Nat) : Prop := BlkAt w R 195 260 (smV p d s T)

theorem SmAt.done {w : World} {R p : Nat} {d s : Int} {T : Nat → Nat} (h : SmAt w R p d s T) (d' : Int) : SmAt (w.setCell ⟨R, 1, none⟩ (.int .u32 d')) R p d' s T :=
  (BlkAt.set h (.int .u32 d') (by omega)).weaken (fun i v hi => by
    unfold smV at hi
    unfold updV smV
    by_cases e : i = 1
    · subst e; simpa using hi
    · rw [if_neg e]; rw [if_neg e] at hi ⊢; exact hi)

theorem SmAt.state {w : World} {R p : Nat} {d s : Int} {T : Nat → Nat} (h : SmAt w R p d s T) (s' : Int) : SmAt (w.setCell ⟨R, 2, none⟩ (.int .i32 s')) R p d s' T :=
  (BlkAt.set h (.int .i32 s') (by omega)).weaken (fun i v hi => by
    unfold smV at hi
    unfold updV smV
    by_cases e : i = 2
    · subst e; simpa using hi
    · rw [if_neg e]; rw [if_neg e] at hi ⊢; exact hi)

theorem SmAt.cell0 {w : World} {R p : Nat} {d s : Int} {T : Nat → Nat} (h : SmAt w R p d s T) : w.cell? ⟨R, 0, none⟩ = some (.int .i64 p) := BlkAt.cell h rfl

theorem SmAt.cell1 {w : World} {R p : Nat} {d s : Int} {T : Nat → Nat} (h : SmAt w R p d s T) : w.cell? ⟨R, 1, none⟩ = some (.int .u32 d) := BlkAt.cell h rfl

theorem SmAt.cell2 {w : World} {R p : Nat} {d s : Int} {T : Nat → Nat} (h : SmAt w R p d s T) : w.cell? ⟨R, 2, none⟩ = some (.int .i32 s) := BlkAt.cell h rfl

theorem smV_at (p : Nat) (d s : Int) (T : Nat → Nat) {i : Nat} (hi : i < 256) : smV p d s T (4 + i) = some (.int .i64 (T i)) := by
  unfold smV
  rw [if_neg (by omega), if_neg (by omega), if_neg (by omega), if_pos (by omega), show 4 + i - 4 = i by omega]

theorem raceOff (w : World) : (callFunc 257 #[]).run Tryz.prog w = .ok (.value (.tuple #[])) w := run_call_mark0 Tryz.func257 (by kernel_rfl) (by kernel_rfl) (by kernel_rfl) .disable (by kernel_rfl) w

theorem raceOn (w : World) : (callFunc 259 #[]).run Tryz.prog w = .ok (.value (.tuple #[])) w := run_call_mark0 Tryz.func259 (by kernel_rfl) (by kernel_rfl) (by kernel_rfl) .enable (by kernel_rfl) w

theorem raceAcquire (a : Addr) (w : World) : (callFunc 260 #[.pointer (some a)]).run Tryz.prog w = .ok (.value (.tuple #[])) w := run_call_marked Tryz.func260 (by kernel_rfl) (by kernel_rfl) (by kernel_rfl) .acquire (by kernel_rfl) a w

theorem raceMerge (a : Addr) (w : World) : (callFunc 262 #[.pointer (some a)]).run Tryz.prog w = .ok (.value (.tuple #[])) w := run_call_marked Tryz.func262 (by kernel_rfl) (by kernel_rfl) (by kernel_rfl) .releaseMerge (by kernel_rfl) a w

/-- '(*sync/atomic.Bool).Store(true)', entered as a deferred call: the cell holds 1. -/
theorem store_deferred (a : Addr) (x : Value) (u : FrameMode) (w : World) (hc : w.cell? a = some x) (hz : w.frozen? a = false) :
    CallsD Tryz.prog 252 #[.pointer (some a), .bool true] u w fun e u' w' => u' = u ∧ (e = .returned (.tuple #[]) ∧ w' = w.drew.setCell a (.int .u32 1)) := by
  have hc' : w.drew.cell? a = some x := by go_simp
  have hz' : w.drew.frozen? a = false := by go_simp
  have hst := run_call_store (P := Tryz.prog) Tryz.func255 (by kernel_rfl) (by kernel_rfl) (by kernel_rfl) (by kernel_rfl) (k := .u32) (y := 1) hc' hz'
  go_enter_d Tryz.func252, Tryz.ntmps252
  go_wp2
  go_region_calls
  all_goals (go_end0; exact ⟨rfl, rfl⟩)

set_option maxRecDepth 100000 in
/-- '(*sync.Mutex).Unlock', entered as a deferred call, the lock held and nobody waiting. -/
theorem unlock_deferred (a : Addr) (u : FrameMode) (w : World) (hc : w.cell? a = some (.int .i32 1)) (hz : w.frozen? a = false) :
    CallsD Tryz.prog 251 #[.pointer (some a)] u w fun e u' w' => u' = u ∧ (e = .returned (.tuple #[]) ∧ w' = w.setCell a (.int .i32 0)) := by
  have hd := raceOff
  have he := raceOn
  have hr := raceMerge
  have hadd := run_call_add (P := Tryz.prog) Tryz.func263 (by kernel_rfl) (by kernel_rfl) (by kernel_rfl) .i32 (by kernel_rfl) (y := -1) (s := 0) hc hz (by simp [go_sem]; rfl)
  have hcv := run_convert_to_unsafe (P := Tryz.prog) (src := 248) (dst := 140) Tryz.underlying248 Tryz.underlying140 (by kernel_rfl) hc
  go_enter_d Tryz.func251, Tryz.ntmps251
  go_wp2
  go_end0
  go_wp2
  go_end0
  exact ⟨rfl, rfl⟩

set_option maxRecDepth 100000 in
/-- '(*sync.Mutex).Lock', the lock free. -/
theorem lock_free (a : Addr) (w : World) (hc : w.cell? a = some (.int .i32 0)) (hz : w.frozen? a = false) :
    Calls Tryz.prog 250 #[.pointer (some a)] w fun e w' => e = .returned (.tuple #[]) ∧ w' = w.setCell a (.int .i32 1) := by
  have hd := raceOff
  have he := raceOn
  have ha := raceAcquire
  have hcas := run_call_cas_hit (P := Tryz.prog) Tryz.func258 (by kernel_rfl) (by kernel_rfl) (by kernel_rfl) .i32 (by kernel_rfl) (y := 1) hc hz
  have hc' : (w.setCell a (.int .i32 1)).cell? a = some (.int .i32 1) := World.cell?_setCell_same w a _ hc
  have hcv := run_convert_to_unsafe (P := Tryz.prog) (src := 248) (dst := 140) Tryz.underlying248 Tryz.underlying140 (by kernel_rfl) hc'
  go_enter Tryz.func250, Tryz.ntmps250
  go_wp2
  first | go_end0 | (simp only [Exit.inBlock, Exit.then]; refine bodyPost_ret (results_none rfl _ _ _) rfl ?_) | refine bodyPost_ret (results_none rfl _ _ _) rfl ?_
  go_wp2
  go_end0
  exact ⟨rfl, rfl⟩
end Go.Proofs.YtiaaefapbcjgmaaGreatDoor
namespace Go.Proofs.YtiaaefapbcjgmaaGreatDoor
open Go.RowKit Go.Shelf
attribute [local go_sem] Oper.semAt_some

theorem grown_seq {w W W' : World} {r1 r2 row : Option Nat} (h1 : w.grownBy W r1) (h2 : W.grownBy W' r2) (k1 : ∀ k, r1 = some k → k < w.heap.size → row = some k) (k2 : ∀ k, r2 = some k → k < w.heap.size → row = some k) : w.grownBy W' row :=
  ⟨h2.os.trans h1.os, h2.tape.trans h1.tape, h2.output.trans h1.output, Nat.le_trans h1.size h2.size, fun b hb hr =>
    (h2.block b (Nat.lt_of_lt_of_le hb h1.size) (fun e => hr (k2 b e.symm hb).symm)).trans (h1.block b hb (fun e => hr (k1 b e.symm hb).symm))⟩

/-- The cells when j rows have been made. -/
def tabU (p j i : Nat) : Nat := if i / 16 < j then bin (i / 16) (i % 16) % p else 0

theorem tabU_zero (p i : Nat) : tabU p 0 i = 0 := by unfold tabU; rw [if_neg (by omega)]

theorem tabU_at {p j a b : Nat} (ha : a < j) (hb : b < 16) : tabU p j (16 * a + b) = bin a b % p := by
  unfold tabU; rw [show (16 * a + b) / 16 = a by omega, show (16 * a + b) % 16 = b by omega, if_pos ha]

/-- Row x has been copied and kept. -/
theorem tab_next {p x : Nat} {d s : Int} {i : Nat} {v : Value} {V : Nat → Option Value} (hV : ∀ i, (i < 4 ∨ 4 + x * 16 + 16 ≤ i ∨ i < 4 + x * 16) → V i = smV p d s (tabU p x) i) (h : smV p d s (tabU p (x + 1)) i = some v) :
    (if 4 + x * 16 ≤ i ∧ i < 4 + x * 16 + 16 then some (Value.int .i64 ((bin x (i - (4 + x * 16)) % p : Nat) : Int)) else V i) = some v := by
  by_cases e : 4 + x * 16 ≤ i ∧ i < 4 + x * 16 + 16
  · rw [if_pos e]
    unfold smV at h
    by_cases e2 : i < 260
    · rw [if_neg (by omega), if_neg (by omega), if_neg (by omega), if_pos (by omega)] at h
      unfold tabU at h
      rw [show (i - 4) / 16 = x by omega, if_pos (by omega), show (i - 4) % 16 = i - (4 + x * 16) by omega] at h
      exact h
    · rw [if_neg (by omega), if_neg (by omega), if_neg (by omega), if_neg (by omega)] at h; cases h
  · rw [if_neg e, hV i (by omega), ← h]
    unfold smV tabU
    by_cases e2 : 4 ≤ i
    · have : ((i - 4) / 16 < x) = ((i - 4) / 16 < x + 1) := by apply propext; omega
      simp only [this]
    · rw [if_neg (show ¬ (4 ≤ i ∧ i < 260) by omega), if_neg (show ¬ (4 ≤ i ∧ i < 260) by omega)]

/-- 'copy(d, s)' into a part of a block. -/
theorem copy_blk (w : World) (ty : TypeId) (g off dL dC b sL sC N : Nat) (t : TypeId) (V : Nat → Option Value) (f : Nat → Nat)
    (hle : sL ≤ dL) (hfit : off + sL ≤ N) (hr : BlkAt w g t N V)
    (hs : ∀ i, i < sL → w.cell? ⟨b, i, none⟩ = some (.int .i64 (f i))) :
    ∃ w', (Builtin.copy_ #[28, 28] ty #[.slice (some ⟨g, off, none⟩) dL dC, .slice (some ⟨b, 0, none⟩) sL sC]).run Tryz.prog w = .ok (.int .i64 sL) w' ∧
      BlkAt w' g t N (fun i => if off ≤ i ∧ i < off + sL then some (.int .i64 (f (i - off))) else V i) ∧ w.grownBy w' (some g) := by
  obtain ⟨cur, h1, h2, h3⟩ := hr
  have hmin : Nat.min sL dL = sL := Nat.min_eq_left hle
  have hrun := run_copy_row Tryz.prog w 28 28 ty 3 g off dL dC ⟨b, 0, none⟩ sL sC cur t ((List.range sL).map fun i => Value.int .i64 (f i)) Tryz.underlying28 (by kernel_rfl) h1 (by rw [hmin]; simp)
    (fun j v hj => by
      rw [List.getElem?_map] at hj
      by_cases e : j < sL
      · rw [List.getElem?_range e] at hj
        have hadd : (⟨b, 0, none⟩ : Addr).add j = ⟨b, j, none⟩ := by unfold Addr.add; split <;> simp_all
        rw [hadd, hs j e]; simpa using hj
      · rw [List.getElem?_eq_none (by simp; omega)] at hj; cases hj) (by simp; omega) (fun v hv => by simp at hv; obtain ⟨i, _, rfl⟩ := hv; rfl)
  refine ⟨_, by simpa [goInt] using hrun, ⟨_, setRow_heap w g cur _ t _ h1, by simp; omega, fun i v hi => ?_⟩, ⟨rfl, rfl, rfl, by simp, fun k _ hr => setRow_other w g k _ (fun e => hr (by rw [e]))⟩⟩
  · have ht : (List.take off cur.toList).length = off := by simp; omega
    dsimp only at hi
    rw [List.getElem?_toArray]
    by_cases e1 : i < off
    · rw [if_neg (by omega)] at hi
      rw [List.getElem?_append_left (by omega), List.getElem?_take, if_pos e1, Array.getElem?_toList]; exact h3 i v hi
    · rw [List.getElem?_append_right (by omega), ht]
      by_cases e2 : i < off + sL
      · rw [if_pos ⟨by omega, e2⟩] at hi
        rw [List.getElem?_append_left (by simp; omega), List.getElem?_map, List.getElem?_range (by omega)]
        exact hi
      · rw [if_neg (by omega)] at hi
        rw [List.getElem?_append_right (by simp; omega), List.getElem?_drop, Array.getElem?_toList]
        simp only [List.length_map, List.length_range]
        rw [show off + sL + (i - off - sL) = i by omega]; exact h3 i v hi

set_option maxRecDepth 100000 in
set_option maxHeartbeats 1000000 in
theorem fill_in (R p : Nat) (hp : prm p) (w : World) (h : SmAt w R p 0 1 (fun _ => 0)) : Calls Tryz.prog 244 #[.pointer (some ⟨R, 0, none⟩)] w fun e w' =>
    (∃ v, e = .returned v) ∧ SmAt w' R p 0 1 (tabU p p) ∧ w.grownBy w' (some R) := by
  have hp2 := prm_two hp
  have hRw := BlkAt.lt h
  obtain ⟨L, hL⟩ : ∃ L, p = L + 1 := ⟨p - 1, by omega⟩
  refine (callsIn_wide (n := 9)).1 ?_
  refine callsIn_of_wp_marks Tryz.func244 rfl trivial ?_ rfl
  simp only [Tryz.ntmps244, List.size_toArray, List.length_cons, List.length_nil, Nat.reduceAdd, Nat.reduceSub, Array.replicate_succ, Array.replicate_zero, List.push_toArray, List.append_toArray, List.nil_append, List.cons_append]
  have h1 : SmAt (w.alloc (.cells #[.pointer (some ⟨R, 0, none⟩)] 221)) R p 0 1 (fun _ => 0) := BlkAt.kept h (World.grownBy_alloc w _ none) (by simp)
  have hc0 := SmAt.cell0 h1
  have hpi : (p : Int) - 1 = (L : Int) := by omega
  have hLb : L ≤ 12 := by omega
  have hL' := hide hL
  clear hL
  gi_wp2_with (refine ⟨trivial, ?_⟩; gi_at_call 145; refine (callsIn_wide.2 (rowsTo_in _ _)).mono ?_; rintro e w' ⟨rfl, rfl⟩)
  clear hc0 hpi
  obtain ⟨W0, hW0⟩ : ∃ W0, ((w.alloc (.cells #[.pointer (some ⟨R, 0, none⟩)] 221)).alloc (Obj.cells #[Value.int IntKind.i64 L] 3)) = W0 := ⟨_, rfl⟩
  have hsz1 : W0.heap.size ≤ w.heap.size + 2 := by rw [← hW0]; simp
  have hsz2 : w.heap.size + 2 ≤ W0.heap.size := by rw [← hW0]; simp
  have hbox : Boxed W0 w.heap.size 221 (.pointer (some ⟨R, 0, none⟩)) := by rw [← hW0]; exact (Boxed.new w _ _).alloc _
  have hbx : Boxed W0 (w.heap.size + 1) 3 (.int .i64 L) := by rw [← hW0]; have := Boxed.new (w.alloc (.cells #[.pointer (some ⟨R, 0, none⟩)] 221)) 3 (.int .i64 L); rwa [World.size_alloc] at this
  have hgr : w.grownBy W0 (some R) := by rw [← hW0]; exact grown_seq (World.grownBy_alloc w _ none) (World.grownBy_alloc _ _ none) (fun _ e => by cases e) (fun _ e => by cases e)
  have hsm : SmAt W0 R p 0 1 (fun _ => 0) := by rw [← hW0]; exact BlkAt.kept h1 (World.grownBy_alloc _ _ none) (by simp)
  rw [hW0]
  clear hW0 h1
  refine wpIn_rangeFunc_mem rfl (by omega) (gf := 182) (lb := #[.pointer (some ⟨w.heap.size + 1, 0, none⟩)]) rfl trivial (enters_of Tryz.func182 (by kernel_rfl) rfl)
    (rows_stops (9 - 1) (w.heap.size + 1) L (by omega) (by omega) W0 (by omega) hbx.cell) (fun _ _ => rfl) (by omega)
    (fun pre x W o h => ⟨h.1, h.2.1, h.2.2.of_block (World.putObj_heap_other (by omega))⟩) (fun xs W o h => ⟨h.1, h.2.of_block (World.putObj_heap_other (by omega))⟩)
    (fun pre W o h => by obtain ⟨j, h1, h2, h3⟩ := h; exact ⟨j, h1, h2, h3.of_block (World.putObj_heap_other (by omega))⟩)
    (fun pre W => Boxed W w.heap.size 221 (.pointer (some ⟨R, 0, none⟩)) ∧ SmAt W R p 0 1 (tabU p pre.length) ∧ w.grownBy W (some R)) (fun _ _ _ => False)
    (fun s A B row hs hg hr => ⟨hs.1.kept hg (fun e => by have := hr _ e.symm; omega), BlkAt.kept hs.2.1 hg (fun e => by have := hr _ e.symm; omega), grown_seq hs.2.2 hg (fun k e _ => e) (fun k e hk => by have := hr _ e; omega)⟩)
    (fun _ _ _ _ _ hs _ _ => hs) ⟨hbox, hsm.weaken (fun i v hi => by rw [show tabU p ([] : List Nat).length = fun _ => 0 by funext i; exact tabU_zero p i] at hi; exact hi), hgr⟩
    (fun x => { tmps := #[.pointer (some ⟨R, 0, none⟩), .pointer (some ⟨w.heap.size, 0, none⟩), .slice (some ⟨W0.heap.size + 2, 0, none⟩) (x + 1) (L + 1), undef, .pointer (some ⟨R, 0, none⟩), .pointer (some ⟨R, 0, none⟩), .pointer (some ⟨R, 0, none⟩), .int .i64 p, .int .i64 L,
      .func (.func 182) #[] #[.pointer (some ⟨w.heap.size + 1, 0, none⟩)], .slice (some ⟨W0.heap.size + 2, 0, none⟩) (x + 1) (L + 1), undef, undef, undef, undef, undef, undef, undef, undef, undef, undef, undef, undef, undef, undef, undef, undef, undef, undef, undef, undef, undef, undef], defers := [] }) ?assign ?body ?done ?stop
  case assign =>
    intro l x W K hK
    gi_wp2
    exact hK
  case body =>
    rintro l pre x W hlt ⟨hb, hS, hB⟩ ⟨hpre, hx, hrow⟩
    have hc := hb.cell
    have hpl : pre.length = x := by subst hpre; simp
    rw [hpl] at hS
    have hc0 := SmAt.cell0 hS
    have hx16 : (x : Int) < 16 := by omega
    obtain ⟨W2, hcp, hS2, hg2⟩ := copy_blk W 3 R (4 + x * 16) 16 16 (W0.heap.size + 2) (x + 1) (L + 1) 260 _ _ (bin x) (by omega) (by omega) hS (fun i hi => hrow.cell (i := i) (by omega))
    have hb2 := hb.kept hg2 (by simp; omega)
    have hcb := hb2.cell
    have hcz : W2.cell? ⟨R, 0, none⟩ = some (.int .i64 p) := BlkAt.cell hS2 (by rw [if_neg (by omega)]; rfl)
    gi_wp2
    have hkl := keepLeft_blk R (4 + x * 16) 16 16 260 _ _ (bin x) p W2.drew (by omega) (by omega) (by omega) (by omega) (fun i => bin_small x i (by omega)) (hS2.of_block rfl) (fun i hi => by
      by_cases e : i < x + 1
      · rw [if_pos (by omega), show 4 + x * 16 + i - (4 + x * 16) = i by omega]
      · rw [if_neg (by omega), Nat.add_assoc, smV_at p 0 1 _ (by omega)]
        unfold tabU
        rw [if_neg (by omega), bin_over x i (by omega)])
    have hcb' : W2.drew.cell? ⟨w.heap.size, 0, none⟩ = some (.pointer (some ⟨R, 0, none⟩)) := hcb
    have hcz' : W2.drew.cell? ⟨R, 0, none⟩ = some (.int .i64 p) := hcz
    have hbl : ∀ k, k ≠ R → k < W.heap.size → W2.drew.heap[k]? = W.heap[k]? := fun k hk hlt => hg2.block k hlt (fun e => hk (by injection e))
    obtain ⟨Post, hPost⟩ : ∃ Post : World → Prop, Post = fun W3 => SmAt W3 R p 0 1 (tabU p (x + 1)) ∧ W.grownBy W3 (some R) := ⟨_, rfl⟩
    have hkl' : Calls Tryz.prog 248 #[.slice (some ⟨R, 4 + x * 16, none⟩) 16 16, .int .i64 p] W2.drew fun e w' => (∃ v, e = .returned v) ∧ Post w' := hkl.mono fun e w' ⟨h1, h2, h3⟩ => ⟨h1, by
      rw [hPost]
      refine ⟨h2.weaken (fun i v hi => tab_next (V := fun i => if 4 + x * 16 ≤ i ∧ i < 4 + x * 16 + (x + 1) then some (.int .i64 (bin x (i - (4 + x * 16)))) else smV p 0 1 (tabU p x) i) (fun i hi => ?_) hi), grown_seq hg2 (⟨h3.os, h3.tape, h3.output, h3.size, h3.block⟩ : W2.grownBy w' (some R)) (fun _ e _ => e) (fun _ e _ => e)⟩
      rw [if_neg (by omega)]⟩
    have hPost' := hide hPost
    clear hS2 hkl hcb hcz hc hc0 hcp hrow hPost
    refine wpIn_region_inv (by kernel_rfl) (by kernel_rfl) (fun M b V => ∃ s0 s1 s2 s3 s4 s5 s6 s7 s8 s9 s10 : Value, b = { tmps := #[.pointer (some ⟨R, 0, none⟩), .pointer (some ⟨w.heap.size, 0, none⟩), .slice (some ⟨W0.heap.size + 2, 0, none⟩) (x + 1) (L + 1), .int .i64 x, .pointer (some ⟨R, 0, none⟩), .pointer (some ⟨R, 0, none⟩), .pointer (some ⟨R, 0, none⟩), .int .i64 p, .int .i64 L,
        .func (.func 182) #[] #[.pointer (some ⟨w.heap.size + 1, 0, none⟩)], .slice (some ⟨W0.heap.size + 2, 0, none⟩) (x + 1) (L + 1), .slice (some ⟨W0.heap.size + 2, 0, none⟩) (x + 1) (L + 1), .int .i64 ((x : Int) + 1), .int .i64 x, .pointer (some ⟨R, 0, none⟩), .int .i64 x, .pointer (some ⟨R, 0, none⟩), .pointer (some ⟨R, 4, none⟩), .pointer (some ⟨R, 4 + x * 16, none⟩), .slice (some ⟨R, 4 + x * 16, none⟩) 16 16, .slice (some ⟨W0.heap.size + 2, 0, none⟩) (x + 1) (L + 1), .int .i64 ((x : Int) + 1), s0, s1, s2, s3, s4, s5, s6, s7, s8, s9, s10], defers := [] } ∧
        (M 0 = true → s0 = .pointer (some ⟨R, 0, none⟩)) ∧ (M 1 = true → s1 = .int .i64 x) ∧ (M 2 = true → s2 = .pointer (some ⟨R, 0, none⟩) ∧ M 0 = true) ∧ (M 3 = true → s3 = .pointer (some ⟨R, 4, none⟩) ∧ M 2 = true) ∧
        (M 4 = true → s4 = .pointer (some ⟨R, 4 + x * 16, none⟩) ∧ M 3 = true) ∧ (M 5 = true → s5 = .slice (some ⟨R, 4 + x * 16, none⟩) 16 16 ∧ M 4 = true) ∧ (M 6 = true → s6 = .pointer (some ⟨R, 0, none⟩)) ∧ (M 7 = true → s7 = .pointer (some ⟨R, 0, none⟩) ∧ M 6 = true) ∧
        (M 8 = true → s8 = .pointer (some ⟨R, 0, none⟩) ∧ M 7 = true) ∧ (M 9 = true → s9 = .int .i64 p ∧ M 8 = true) ∧
        ((M 10 = false ∧ V = W2.drew) ∨ (M 10 = true ∧ M 0 = true ∧ M 6 = true ∧ M 9 = true ∧ Post V))) ?h0 ?step ?fin
    case h0 => exact ⟨undef, undef, undef, undef, undef, undef, undef, undef, undef, undef, undef, rfl, by simp, by simp, by simp, by simp, by simp, by simp, by simp, by simp, by simp, by simp, .inl ⟨rfl, rfl⟩⟩
    case step =>
      rintro M b V i o ho hMi hde ⟨s0, s1, s2, s3, s4, s5, s6, s7, s8, s9, s10, rfl, f0, f1, f2, f3, f4, f5, f6, f7, f8, f9, fw⟩ Q' hQ'
      have hi : i < 11 := (Array.getElem?_eq_some_iff.1 ho).1
      have hQ := hide hQ'
      clear hQ'
      rcases (show i = 0 ∨ i = 1 ∨ i = 2 ∨ i = 3 ∨ i = 4 ∨ i = 5 ∨ i = 6 ∨ i = 7 ∨ i = 8 ∨ i = 9 ∨ i = 10 by omega) with rfl | rfl | rfl | rfl | rfl | rfl | rfl | rfl | rfl | rfl | rfl
      all_goals
        simp at ho
        subst ho
        simp [Region.binds] at hde
      case' inl => rcases fw with ⟨fw0, rfl⟩ | ⟨_, h1, h2, h3, _⟩
      case' inr.inr.inl => obtain rfl := f0 hde
      case' inr.inr.inr.inl => obtain ⟨rfl, h0⟩ := f2 hde
      case' inr.inr.inr.inr.inl => obtain ⟨rfl, h0⟩ := f3 hde.1; obtain rfl := f1 hde.2
      case' inr.inr.inr.inr.inr.inl => obtain ⟨rfl, h0⟩ := f4 hde
      case' inr.inr.inr.inr.inr.inr.inl => rcases fw with ⟨fw0, rfl⟩ | ⟨_, h1, h2, h3, _⟩
      case' inr.inr.inr.inr.inr.inr.inr.inl => obtain rfl := f6 hde
      case' inr.inr.inr.inr.inr.inr.inr.inr.inl => obtain ⟨rfl, h0⟩ := f7 hde
      case' inr.inr.inr.inr.inr.inr.inr.inr.inr.inl => obtain ⟨rfl, h0⟩ := f8 hde; rcases fw with ⟨fw0, rfl⟩ | ⟨_, h1, h2, h3, _⟩
      case' inr.inr.inr.inr.inr.inr.inr.inr.inr.inr => obtain ⟨rfl, h5⟩ := f5 hde.1; obtain ⟨rfl, h9⟩ := f9 hde.2; rcases fw with ⟨fw0, rfl⟩ | ⟨h1, _⟩
      all_goals
        first | (rw [h1] at hMi; cases hMi; done) | (rw [h2] at hMi; cases hMi; done) | (rw [h3] at hMi; cases hMi; done) | skip
      all_goals
        gi_wp2_with (refine ⟨trivial, ?_⟩; gi_at_call 248; refine (callsIn_wide.2 hkl').mono ?_; clear hkl'; rintro e W3 ⟨⟨v, rfl⟩, hP3⟩)
        refine hQ.out _ _ ⟨_, _, _, _, _, _, _, _, _, _, _, rfl, ?_, ?_, ?_, ?_, ?_, ?_, ?_, ?_, ?_, ?_, ?_⟩
        all_goals first
          | (intro hM; first
            | exact rfl
            | exact ⟨rfl, by simpa using hde⟩
            | exact ⟨rfl, by simpa using hde.1⟩
            | exact f0 (by simpa using hM)
            | exact f1 (by simpa using hM)
            | exact f6 (by simpa using hM)
            | (have g := f2 (by simpa using hM); exact ⟨by first | rfl | exact g.1, by first | (simp; done) | simpa using g.2⟩)
            | (have g := f3 (by simpa using hM); exact ⟨by first | rfl | exact g.1, by first | (simp; done) | simpa using g.2⟩)
            | (have g := f4 (by simpa using hM); exact ⟨by first | rfl | exact g.1, by first | (simp; done) | simpa using g.2⟩)
            | (have g := f5 (by simpa using hM); exact ⟨by first | rfl | exact g.1, by first | (simp; done) | simpa using g.2⟩)
            | (have g := f7 (by simpa using hM); exact ⟨by first | rfl | exact g.1, by first | (simp; done) | simpa using g.2⟩)
            | (have g := f8 (by simpa using hM); exact ⟨by first | rfl | exact g.1, by first | (simp; done) | simpa using g.2⟩)
            | (have g := f9 (by simpa using hM); exact ⟨by first | rfl | exact g.1, by first | (simp; done) | simpa using g.2⟩))
          | exact .inl ⟨by simpa using fw0, rfl⟩
          | exact .inr ⟨by simp, by simpa using (f2 (f3 (f4 h5).2).2).2, by simpa using (f7 (f8 h9).2).2, by simpa using hde.2, hP3⟩
          | exact fw.elim (fun ⟨u, v⟩ => .inl ⟨by simpa using u, v⟩) (fun ⟨u, v, x, y, z⟩ => .inr ⟨by simpa using u, by simpa using v, by simpa using x, by simpa using y, z⟩)
    case fin =>
      rintro M b V hall ⟨s0, s1, s2, s3, s4, s5, s6, s7, s8, s9, s10, rfl, _, _, _, _, _, _, _, _, _, _, fw⟩
      rcases fw with ⟨u, _⟩ | ⟨_, _, _, _, hP3⟩
      · rw [hall 10 (by simp)] at u; cases u
      · rw [hPost'.out] at hP3
        obtain ⟨hS3, hg3⟩ := hP3
        gi_wp2
        refine ⟨KeepsSet.of_grownBy hg3 (fun r e => by cases e; omega), hb.kept hg3 (by simp; omega), ?_, grown_seq hB hg3 (fun _ e _ => e) (fun _ e _ => e)⟩
        rw [show (pre ++ [x]).length = x + 1 by simp [hpl]]
        exact hS3
  case done =>
    rintro ys W ⟨rfl, hrow⟩ ⟨hb, hS, hB⟩ hK
    rw [List.length_range] at hS
    gi_wp2
    refine ⟨by simp, .inl ⟨_, _, rfl, run_takeDeferred hK, ?_⟩⟩
    refine ⟨_, results_none rfl _ _ _, ⟨_, rfl⟩, ?_, ?_⟩
    · rw [hL'.out]; rw [hL'.out] at hS; exact BlkAt.kept hS (grownBy_putObj' W _ _) (by simp; omega)
    · exact grown_seq hB (grownBy_putObj' W _ _) (fun _ e _ => e) (fun k e hk => by cases e; omega)
  case stop =>
    rintro c pre W _ h _
    exact h.elim
end Go.Proofs.YtiaaefapbcjgmaaGreatDoor
namespace Go.Proofs.YtiaaefapbcjgmaaGreatDoor
open Go.RowKit

set_option maxRecDepth 100000 in
set_option maxHeartbeats 1600000 in
theorem slow_in (R p : Nat) (hp : prm p) (w : World) (h : SmAt w R p 0 0 (fun _ => 0)) :
    Calls Tryz.prog 247 #[.pointer (some ⟨R, 1, none⟩), .func (.func 244) #[.pointer (some ⟨R, 0, none⟩)] #[]] w fun e w' => e = .returned (.tuple #[]) ∧ SmAt w' R p 1 0 (tabU p p) ∧ w.grownBy w' (some R) := by
  have h1 := h.state 1
  have hg1 : w.grownBy (w.setCell ⟨R, 2, none⟩ (.int .i32 1)) (some R) := grownBy_set (grownBy_refl _ _) _ _
  have hl := run_call_load (P := Tryz.prog) Tryz.func249 (by kernel_rfl) (by kernel_rfl) (by kernel_rfl) .u32 (by kernel_rfl) (w := w.setCell ⟨R, 2, none⟩ (.int .i32 1)) (a := ⟨R, 1, none⟩) (x := 0) h1.cell1
  have hnot : ∀ (x : Bool) (w : World), (Op.unary .not (.bool x)).run Tryz.prog w = .ok (.bool (!x)) w := fun _ _ => rfl
  go_enter_defers Tryz.func247, Tryz.ntmps247
  go_wp2_with (go_at_call 250; refine (lock_free ⟨R, 2, none⟩ _ h.cell2 (BlkAt.frozen h 2)).mono ?_; rintro e w' ⟨rfl, rfl⟩)
  go_wp2_with (first | (go_at_call 246; go_in) | (go_at_call 244; refine (fill_in R p hp _ h1).mono ?_; clear hl; rintro e w2 ⟨⟨v, rfl⟩, h2, hg2⟩))
  refine leaves_cons (f := 252) (args := #[.pointer (some ⟨R, 1, none⟩), .bool true]) (by simp) (by simp [go_sem]) ?_
  refine (store_deferred ⟨R, 1, none⟩ (.int .u32 0) .returning _ h2.cell1 (BlkAt.frozen h2 1)).mono ?_
  rintro e u' w'' ⟨rfl, rfl, rfl⟩
  have h3 := SmAt.done (BlkAt.of_block (w' := w2.drew) h2 rfl) 1
  refine leaves_cons (f := 251) (args := #[.pointer (some ⟨R, 2, none⟩)]) (by simp [settle]) (by simp [go_sem]) ?_
  refine (unlock_deferred ⟨R, 2, none⟩ _ _ h3.cell2 (BlkAt.frozen h3 2)).mono ?_
  rintro e u' w'' ⟨rfl, rfl, rfl⟩
  have h4 := h3.state 0
  have hgE : w.grownBy ((w2.drew.setCell ⟨R, 1, none⟩ (.int .u32 1)).setCell ⟨R, 2, none⟩ (.int .i32 0)) (some R) := grownBy_set (grownBy_set (grownBy_drew (hg1.trans hg2)) _ _) _ _
  simp only [Leaves, settle]
  exact ⟨_, results_none rfl _ _ _, rfl, h4, hgE⟩

/-- Do, not yet done. -/
theorem do_first (R p : Nat) (hp : prm p) (w : World) (h : SmAt w R p 0 0 (fun _ => 0)) :
    Calls Tryz.prog 243 #[.pointer (some ⟨R, 1, none⟩), .func (.func 244) #[.pointer (some ⟨R, 0, none⟩)] #[]] w fun e w' => (∃ v, e = .returned v) ∧ SmAt w' R p 1 0 (tabU p p) ∧ w.grownBy w' (some R) := by
  have hl := run_call_load (P := Tryz.prog) Tryz.func249 (by kernel_rfl) (by kernel_rfl) (by kernel_rfl) .u32 (by kernel_rfl) h.cell1
  have hnot : ∀ (x : Bool) (w : World), (Op.unary .not (.bool x)).run Tryz.prog w = .ok (.bool (!x)) w := fun _ _ => rfl
  go_enter Tryz.func243, Tryz.ntmps243
  go_wp2_with (first | (go_at_call 247; refine (slow_in R p hp _ h).mono ?_; rintro e w' ⟨rfl, h2, hg2⟩) | (go_at_call 246; go_in))
  go_end0
  exact ⟨⟨_, rfl⟩, h2, hg2⟩

/-- Do, done already. -/
theorem do_done (R p : Nat) (T : Nat → Nat) (fv : Value) (w : World) (h : SmAt w R p 1 0 T) :
    Calls Tryz.prog 243 #[.pointer (some ⟨R, 1, none⟩), fv] w fun e w' => (∃ v, e = .returned v) ∧ w' = w := by
  have hl := run_call_load (P := Tryz.prog) Tryz.func249 (by kernel_rfl) (by kernel_rfl) (by kernel_rfl) .u32 (by kernel_rfl) h.cell1
  have hnot : ∀ (x : Bool) (w : World), (Op.unary .not (.bool x)).run Tryz.prog w = .ok (.bool (!x)) w := fun _ _ => rfl
  go_enter Tryz.func243, Tryz.ntmps243
  go_wp2_with (go_at_call 246; go_in)
  go_end0
  exact ⟨⟨_, rfl⟩, rfl⟩

/-- The small triangle, not yet filled or filled. -/
def Sm (w : World) (R p : Nat) : Prop := SmAt w R p 0 0 (fun _ => 0) ∨ SmAt w R p 1 0 (tabU p p)

theorem Sm.once {w : World} {R p : Nat} (hp : prm p) (h : Sm w R p) :
    Calls Tryz.prog 243 #[.pointer (some ⟨R, 1, none⟩), .func (.func 244) #[.pointer (some ⟨R, 0, none⟩)] #[]] w fun e w' => (∃ v, e = .returned v) ∧ SmAt w' R p 1 0 (tabU p p) ∧ w.grownBy w' (some R) := by
  rcases h with h | h
  · exact do_first R p hp w h
  · exact (do_done R p _ _ w h).mono fun e w' ⟨h1, h2⟩ => ⟨h1, h2 ▸ h, h2 ▸ grownBy_refl _ _⟩

theorem Sm.kept {w w' : World} {R p : Nat} {row : Option Nat} (h : Sm w R p) (hg : w.grownBy w' row) (hr : some R ≠ row) : Sm w' R p := by
  rcases h with h | h
  · exact .inl (BlkAt.kept h hg hr)
  · exact .inr (BlkAt.kept h hg hr)

theorem Sm.drew {w : World} {R p : Nat} (h : Sm w R p) : Sm w.drew R p := by
  rcases h with h | h
  · exact .inl (BlkAt.of_block h rfl)
  · exact .inr (BlkAt.of_block h rfl)

theorem Sm.cell0 {w : World} {R p : Nat} (h : Sm w R p) : w.cell? ⟨R, 0, none⟩ = some (.int .i64 p) := by
  rcases h with h | h
  · exact SmAt.cell0 h
  · exact SmAt.cell0 h

theorem Sm.lt {w : World} {R p : Nat} (h : Sm w R p) : R < w.heap.size := by
  rcases h with h | h
  · exact BlkAt.lt h
  · exact BlkAt.lt h

set_option maxHeartbeats 400000 in
theorem smallCell_in (R p a b : Nat) (hp : prm p) (ha : a < p) (hb : b < p) (w : World) (h : Sm w R p) : Calls Tryz.prog 226 #[.pointer (some ⟨R, 0, none⟩), .int .i64 a, .int .i64 b] w fun e w' =>
    e = .returned (.int .i64 ((bin a b % p : Nat) : Int)) ∧ Sm w' R p ∧ w.grownBy w' (some R) := by
  have hp2 := prm_two hp
  have hmf : ∀ (fn : Fn) (first cap : Array Value) (w : World), (Instr.makeFunc fn first cap).run Tryz.prog w = .ok (.func fn first cap) w := fun _ _ _ _ => rfl
  have hO := h.once hp
  clear h
  obtain ⟨C, hC⟩ : ∃ C, bin a b % p = C := ⟨_, rfl⟩
  rw [hC]
  have hC' := hide hC
  clear hC
  go_enter Tryz.func226, Tryz.ntmps226
  go_wp2_with fail
  go_at_call 243
  refine hO.mono ?_
  clear hO
  rintro e w1 ⟨⟨v, rfl⟩, h1, hg1⟩
  have hc : w1.cell? ⟨R, 4 + a * 16 + b, none⟩ = some (.int .i64 C) := by
    have := BlkAt.cell h1 (i := 4 + (16 * a + b)) (smV_at p 1 0 _ (by omega))
    rw [tabU_at ha (by omega), hC'.out] at this
    rw [show 4 + a * 16 + b = 4 + (16 * a + b) by omega]; exact this
  have ha16 : (a : Int) < 16 := by omega
  have hb16 : (b : Int) < 16 := by omega
  go_wp2
  go_ret
  exact ⟨rfl, .inr h1, hg1⟩
end Go.Proofs.YtiaaefapbcjgmaaGreatDoor
namespace Go.Proofs.YtiaaefapbcjgmaaGreatDoor
open Go.RowKit Go.Shelf
attribute [local go_sem] Oper.semAt_some

set_option maxRecDepth 100000 in
set_option maxHeartbeats 1000000 in
theorem leftIn_in (R X Y p : Nat) (hp : prm p) (hX : X ≤ 999999999) (hY : Y ≤ 999999999) (w : World) (h : Sm w R p) : Calls Tryz.prog 200 #[.pointer (some ⟨R, 0, none⟩), .int .i64 X, .int .i64 Y] w fun e w' =>
    e = .returned (.int .i64 ((bin X Y % p : Nat) : Int)) ∧ Sm w' R p ∧ w.grownBy w' (some R) := by
  have hp2 := prm_two hp
  have hR := h.lt
  refine (callsIn_wide (n := 9)).1 ?_
  refine callsIn_of_wp_marks Tryz.func200 rfl trivial ?_ rfl
  simp only [Tryz.ntmps200, List.size_toArray, List.length_cons, List.length_nil, Nat.reduceAdd, Nat.reduceSub, Array.replicate_succ, Array.replicate_zero, List.push_toArray, List.append_toArray, List.nil_append, List.cons_append]
  have hc0 : ((w.alloc (.cells #[.pointer (some ⟨R, 0, none⟩)] 221)).alloc (.cells #[.int .i64 1] 3)).cell? ⟨R, 0, none⟩ = some (.int .i64 p) := ((h.kept (World.grownBy_alloc w _ none) (by simp)).kept (World.grownBy_alloc _ _ none) (by simp)).cell0
  have hcb : ((w.alloc (.cells #[.pointer (some ⟨R, 0, none⟩)] 221)).alloc (.cells #[.int .i64 1] 3)).cell? ⟨w.heap.size, 0, none⟩ = some (.pointer (some ⟨R, 0, none⟩)) := ((Boxed.new w _ _).alloc _).cell
  gi_wp2_with (refine ⟨trivial, ?_⟩; gi_at_call 203; refine (callsIn_wide.2 (digitsBeside_in _ _ _ _)).mono ?_; rintro e w' ⟨rfl, rfl⟩)
  clear hc0 hcb
  obtain ⟨W0, hW0⟩ : ∃ W0, (((((w.alloc (.cells #[.pointer (some ⟨R, 0, none⟩)] 221)).alloc (.cells #[.int .i64 1] 3)).alloc (.cells #[.int .i64 X] 3)).alloc (.cells #[.int .i64 Y] 3)).alloc (.cells #[.int .i64 p] 3)) = W0 := ⟨_, rfl⟩
  have hsz1 : W0.heap.size ≤ w.heap.size + 5 := by rw [← hW0]; simp
  have hsz2 : w.heap.size + 5 ≤ W0.heap.size := by rw [← hW0]; simp
  have hb0 : Boxed W0 w.heap.size 221 (.pointer (some ⟨R, 0, none⟩)) := by rw [← hW0]; exact ((((boxed_at _ _ (by simp)).alloc _).alloc _).alloc _).alloc _
  have hb1 : Boxed W0 (w.heap.size + 1) 3 (.int .i64 1) := by rw [← hW0]; exact (((boxed_at _ _ (by simp)).alloc _).alloc _).alloc _
  have hb3 : Boxed W0 (w.heap.size + 1 + 1) 3 (.int .i64 X) := by rw [← hW0]; exact ((boxed_at _ _ (by simp)).alloc _).alloc _
  have hb4 : Boxed W0 (w.heap.size + 1 + 1 + 1) 3 (.int .i64 Y) := by rw [← hW0]; exact (boxed_at _ _ (by simp)).alloc _
  have hb5 : Boxed W0 (w.heap.size + 1 + 1 + 1 + 1) 3 (.int .i64 p) := by rw [← hW0]; exact boxed_at _ _ (by simp)
  have hgr : w.grownBy W0 (some R) := by
    rw [← hW0]
    exact grown_seq (grown_seq (grown_seq (grown_seq (grown_seq (row := some R) (grownBy_refl w none) (World.grownBy_alloc _ _ none) (fun _ e => by cases e) (fun _ e => by cases e)) (World.grownBy_alloc _ _ none) (fun _ e _ => e) (fun _ e => by cases e)) (World.grownBy_alloc _ _ none) (fun _ e _ => e) (fun _ e => by cases e)) (World.grownBy_alloc _ _ none) (fun _ e _ => e) (fun _ e => by cases e)) (World.grownBy_alloc _ _ none) (fun _ e _ => e) (fun _ e => by cases e)
  have hsm : Sm W0 R p := by
    rw [← hW0]
    exact ((((h.kept (World.grownBy_alloc _ _ none) (by simp)).kept (World.grownBy_alloc _ _ none) (by simp)).kept (World.grownBy_alloc _ _ none) (by simp)).kept (World.grownBy_alloc _ _ none) (by simp)).kept (World.grownBy_alloc _ _ none) (by simp)
  rw [hW0]
  clear hW0
  have hone : prodL ([] : List (Nat × Nat)) % p = 1 := by show 1 % p = 1; exact Nat.mod_eq_of_lt (by omega)
  refine wpIn_rangeFunc_mem rfl (by omega) (gf := 228) (lb := #[.pointer (some ⟨w.heap.size + 1 + 1, 0, none⟩), .pointer (some ⟨w.heap.size + 1 + 1 + 1 + 1, 0, none⟩), .pointer (some ⟨w.heap.size + 1 + 1 + 1, 0, none⟩)]) rfl trivial (enters_of Tryz.func228 (by kernel_rfl) rfl)
    (beside_stops (9 - 1) (w.heap.size + 1 + 1) (w.heap.size + 1 + 1 + 1 + 1) (w.heap.size + 1 + 1 + 1) X Y p (by omega) (by omega) hp2.1 (by omega) (by omega) W0 (by omega) (by omega) (by omega) hb3.cell hb5.cell hb4.cell) (fun _ _ => rfl) (by omega)
    (fun pre x W o h => by obtain ⟨R1, R2, m, k, ht, h1, h2, h3⟩ := h; exact ⟨R1, R2, m, k, ht, h1.of_block (World.putObj_heap_other (by unfold Two at ht; omega)), h2.of_block (World.putObj_heap_other (by unfold Two at ht; omega)), h3⟩) (fun xs W o h => h) (fun pre W o h => h)
    (fun pre W => Boxed W w.heap.size 221 (.pointer (some ⟨R, 0, none⟩)) ∧ Boxed W (w.heap.size + 1) 3 (.int .i64 ((prodL pre % p : Nat) : Int)) ∧ Sm W R p ∧ w.grownBy W (some R)) (fun _ _ _ => False)
    (fun s A B row hs hg hr => ⟨hs.1.kept hg (fun e => by have := hr _ e.symm; omega), hs.2.1.kept hg (fun e => by have := hr _ e.symm; omega), hs.2.2.1.kept hg (fun e => by have := hr _ e.symm; omega), grown_seq hs.2.2.2 hg (fun k e _ => e) (fun k e hk => by have := hr _ e; omega)⟩)
    (fun _ _ _ _ _ hs _ _ => hs) ⟨hb0, by rw [hone]; exact hb1, hsm, hgr⟩
    (fun x => { tmps := #[.pointer (some ⟨R, 0, none⟩), .int .i64 X, .int .i64 Y, .pointer (some ⟨w.heap.size, 0, none⟩), undef, undef, .int .i64 0, .pointer (some ⟨w.heap.size + 1, 0, none⟩), .int .i64 x.1, .int .i64 x.2, .int .i64 X, .int .i64 Y, .pointer (some ⟨R, 0, none⟩), .pointer (some ⟨R, 0, none⟩), .pointer (some ⟨R, 0, none⟩), .int .i64 p,
      .func (.func 228) #[] #[.pointer (some ⟨w.heap.size + 1 + 1, 0, none⟩), .pointer (some ⟨w.heap.size + 1 + 1 + 1 + 1, 0, none⟩), .pointer (some ⟨w.heap.size + 1 + 1 + 1, 0, none⟩)], .int .i64 x.1, .int .i64 x.2, undef, undef, undef, undef, undef, undef, undef, undef, undef, undef, undef, undef], defers := [] }) ?assign ?body ?done ?stop
  case assign =>
    intro l x W K hK
    gi_wp2
    exact hK
  case body =>
    rintro l pre ⟨u, v⟩ W hlt ⟨hx0, hx1, hS, hB⟩ ⟨R1, R2, m, k, _, _, _, _, hu, hv⟩
    simp only at hu hv
    have hstep := prodL_step (p := p) pre (u, v)
    simp only at hstep
    have hAl : prodL pre % p < p := Nat.mod_lt _ (by omega)
    have hCl : bin u v % p < p := Nat.mod_lt _ (by omega)
    have hcall := fun V (hV : Sm V R p) => smallCell_in R p u v hp hu hv V hV
    obtain ⟨A, hA⟩ : ∃ A, prodL pre % p = A := ⟨_, rfl⟩
    obtain ⟨C, hC⟩ : ∃ C, bin u v % p = C := ⟨_, rfl⟩
    rw [hA, hC] at hstep
    rw [hA] at hAl hx1
    rw [hC] at hCl
    simp only [hC] at hcall
    clear hA hC
    obtain ⟨D, hD⟩ : ∃ D, A * C = D := ⟨_, rfl⟩
    have hDl : D ≤ 13 * 13 := by rw [← hD]; exact Nat.mul_le_mul (by omega) (by omega)
    have hDi : (A : Int) * (C : Int) = (D : Int) := by rw [← hD]; simp
    rw [hD] at hstep
    clear hD
    have hq := tmod_n D p
    rw [hstep] at hq
    have hrl : prodL (pre ++ [(u, v)]) % p < p := Nat.mod_lt _ (by omega)
    clear hstep
    obtain ⟨E, hE⟩ : ∃ E, prodL (pre ++ [(u, v)]) % p = E := ⟨_, rfl⟩
    rw [hE] at hq hrl
    have hE' := hide hE
    clear hE
    have hw1 : IntKind.i64.wrap (D : Int) = D := IntWalk.i64_in _ (by omega)
    have hw2 : IntKind.i64.wrap (E : Int) = E := IntWalk.i64_in _ (by omega)
    have hp0 : ((p : Int) == 0) = false := by simp; omega
    obtain ⟨Pre, hPre⟩ : ∃ Pre : World → Prop, Pre = fun V => Boxed V w.heap.size 221 (.pointer (some ⟨R, 0, none⟩)) ∧ Boxed V (w.heap.size + 1) 3 (.int .i64 A) ∧ Sm V R p ∧ W.grownBy V (some R) := ⟨_, rfl⟩
    obtain ⟨Post, hPost⟩ : ∃ Post : World → Prop, Post = fun V => Boxed V w.heap.size 221 (.pointer (some ⟨R, 0, none⟩)) ∧ Boxed V (w.heap.size + 1) 3 (.int .i64 E) ∧ Sm V R p ∧ ∃ V0, W.grownBy V0 (some R) ∧ V0.grownBy V (some (w.heap.size + 1)) := ⟨_, rfl⟩
    have p0 : Pre W.drew := by rw [hPre]; exact ⟨hx0, hx1, hS.drew, grownBy_drew (grownBy_refl _ _)⟩
    have pbox : ∀ V, Pre V → V.cell? ⟨w.heap.size, 0, none⟩ = some (.pointer (some ⟨R, 0, none⟩)) := fun V h => by rw [hPre] at h; exact h.1.cell
    have pleft : ∀ V, Pre V → V.cell? ⟨w.heap.size + 1, 0, none⟩ = some (.int .i64 A) := fun V h => by rw [hPre] at h; exact h.2.1.cell
    have pfr : ∀ V, Pre V → V.frozen? ⟨w.heap.size + 1, 0, none⟩ = false := fun V h => by rw [hPre] at h; exact h.2.1.frozen
    have pp : ∀ V, Pre V → V.cell? ⟨R, 0, none⟩ = some (.int .i64 p) := fun V h => by rw [hPre] at h; exact h.2.2.1.cell0
    have pcall : ∀ V, Pre V → Calls Tryz.prog 226 #[.pointer (some ⟨R, 0, none⟩), .int .i64 u, .int .i64 v] V fun e w' => e = .returned (.int .i64 C) ∧ Pre w' := fun V h => by
      rw [hPre] at h ⊢
      exact (hcall V h.2.2.1).mono fun e w' ⟨h1, h2, h3⟩ => ⟨h1, h.1.kept h3 (by simp; omega), h.2.1.kept h3 (by simp; omega), h2, h.2.2.2.trans h3⟩
    have ppost : ∀ V, Pre V → Post (V.setCell ⟨w.heap.size + 1, 0, none⟩ (.int .i64 E)) := fun V h => by
      rw [hPre] at h
      rw [hPost]
      exact ⟨h.1.other (by omega) _, h.2.1.set _, h.2.2.1.kept (grownBy_set (grownBy_refl V (some (w.heap.size + 1))) 0 (.int .i64 E)) (by simp; omega), V, h.2.2.2, grownBy_set (grownBy_refl _ _) _ _⟩
    have hPost' := hide hPost
    clear hcall hPre hPost
    gi_wp2
    refine wpIn_region_inv (by kernel_rfl) (by kernel_rfl) (fun M b V => ∃ s0 s1 s2 s3 s4 s5 s6 s7 s8 s9 s10 : Value, b = { tmps := #[.pointer (some ⟨R, 0, none⟩), .int .i64 X, .int .i64 Y, .pointer (some ⟨w.heap.size, 0, none⟩), undef, undef, .int .i64 0, .pointer (some ⟨w.heap.size + 1, 0, none⟩), .int .i64 u, .int .i64 v, .int .i64 X, .int .i64 Y, .pointer (some ⟨R, 0, none⟩), .pointer (some ⟨R, 0, none⟩), .pointer (some ⟨R, 0, none⟩), .int .i64 p,
      .func (.func 228) #[] #[.pointer (some ⟨w.heap.size + 1 + 1, 0, none⟩), .pointer (some ⟨w.heap.size + 1 + 1 + 1 + 1, 0, none⟩), .pointer (some ⟨w.heap.size + 1 + 1 + 1, 0, none⟩)], .int .i64 u, .int .i64 v, s0, s1, s2, s3, s4, s5, s6, s7, s8, s9, s10, undef], defers := [] } ∧
        (M 0 = true → s0 = .int .i64 A) ∧ (M 1 = true → s1 = .pointer (some ⟨R, 0, none⟩)) ∧ (M 2 = true → s2 = .int .i64 u) ∧ (M 3 = true → s3 = .int .i64 v) ∧
        (M 4 = true → s4 = .int .i64 C ∧ M 1 = true) ∧ (M 5 = true → s5 = .int .i64 D ∧ M 0 = true ∧ M 4 = true) ∧ (M 6 = true → s6 = .pointer (some ⟨R, 0, none⟩)) ∧ (M 7 = true → s7 = .pointer (some ⟨R, 0, none⟩) ∧ M 6 = true) ∧
        (M 8 = true → s8 = .pointer (some ⟨R, 0, none⟩) ∧ M 7 = true) ∧ (M 9 = true → s9 = .int .i64 p ∧ M 8 = true) ∧ (M 10 = true → s10 = .int .i64 E ∧ M 5 = true ∧ M 9 = true) ∧
        ((M 11 = false ∧ Pre V) ∨ (M 11 = true ∧ M 0 = true ∧ M 1 = true ∧ M 4 = true ∧ M 6 = true ∧ M 9 = true ∧ Post V))) ?h0 ?step ?fin
    case h0 => exact ⟨undef, undef, undef, undef, undef, undef, undef, undef, undef, undef, undef, rfl, by simp, by simp, by simp, by simp, by simp, by simp, by simp, by simp, by simp, by simp, by simp, .inl ⟨rfl, p0⟩⟩
    case step =>
      rintro M b V i o ho hMi hde ⟨s0, s1, s2, s3, s4, s5, s6, s7, s8, s9, s10, rfl, f0, f1, f2, f3, f4, f5, f6, f7, f8, f9, f10, fw⟩ Q' hQ'
      have hi : i < 12 := (Array.getElem?_eq_some_iff.1 ho).1
      have hQ := hide hQ'
      clear hQ'
      rcases (show i = 0 ∨ i = 1 ∨ i = 2 ∨ i = 3 ∨ i = 4 ∨ i = 5 ∨ i = 6 ∨ i = 7 ∨ i = 8 ∨ i = 9 ∨ i = 10 ∨ i = 11 by omega) with rfl | rfl | rfl | rfl | rfl | rfl | rfl | rfl | rfl | rfl | rfl | rfl
      all_goals
        simp at ho
        subst ho
        simp [Region.binds] at hde
      case' inl => have gw := fw; rcases gw with ⟨fw0, hP⟩ | ⟨h11, h1, h2, h3, h4, h5, _⟩; have hc := pleft V hP
      case' inr.inl => have gw := fw; rcases gw with ⟨fw0, hP⟩ | ⟨h11, h1, h2, h3, h4, h5, _⟩; have hc := pbox V hP
      case' inr.inr.inr.inr.inl => obtain rfl := f1 hde.1; obtain rfl := f2 hde.2.1; obtain rfl := f3 hde.2.2; rcases fw with ⟨fw0, hP⟩ | ⟨h11, h1, h2, h3, h4, h5, _⟩; have hcl := pcall V hP
      case' inr.inr.inr.inr.inr.inl => obtain rfl := f0 hde.1; obtain ⟨rfl, _⟩ := f4 hde.2
      case' inr.inr.inr.inr.inr.inr.inl => have gw := fw; rcases gw with ⟨fw0, hP⟩ | ⟨h11, h1, h2, h3, h4, h5, _⟩; have hc := pbox V hP
      case' inr.inr.inr.inr.inr.inr.inr.inl => obtain rfl := f6 hde
      case' inr.inr.inr.inr.inr.inr.inr.inr.inl => obtain ⟨rfl, _⟩ := f7 hde
      case' inr.inr.inr.inr.inr.inr.inr.inr.inr.inl => obtain ⟨rfl, _⟩ := f8 hde; have gw := fw; rcases gw with ⟨fw0, hP⟩ | ⟨h11, h1, h2, h3, h4, h5, _⟩; have hc := pp V hP
      case' inr.inr.inr.inr.inr.inr.inr.inr.inr.inr.inl => obtain ⟨rfl, _⟩ := f5 hde.1; obtain ⟨rfl, _⟩ := f9 hde.2
      case' inr.inr.inr.inr.inr.inr.inr.inr.inr.inr.inr => obtain ⟨rfl, g5, g9⟩ := f10 hde.1; rcases fw with ⟨fw0, hP⟩ | ⟨h11, h1, h2, h3, h4, h5, _⟩; have hc := pleft V hP; have hfz := pfr V hP
      all_goals
        first | (rw [h1] at hMi; cases hMi; done) | (rw [h2] at hMi; cases hMi; done) | (rw [h3] at hMi; cases hMi; done) | (rw [h4] at hMi; cases hMi; done) | (rw [h5] at hMi; cases hMi; done) | (rw [h11] at hMi; cases hMi; done) | skip
      all_goals
        gi_wp2_with (refine ⟨trivial, ?_⟩; gi_at_call 226; refine (callsIn_wide.2 hcl).mono ?_; clear hcl; rintro e W3 ⟨rfl, hP3⟩)
        refine hQ.out _ _ ⟨_, _, _, _, _, _, _, _, _, _, _, rfl, ?_, ?_, ?_, ?_, ?_, ?_, ?_, ?_, ?_, ?_, ?_, ?_⟩
        all_goals first
          | (intro hM; first
            | exact rfl
            | exact ⟨rfl, by simpa using hde⟩
            | exact ⟨rfl, by simpa using hde.1⟩
            | exact ⟨rfl, by simpa using hde.1, by simpa using hde.2⟩
            | exact f0 (by simpa using hM)
            | exact f1 (by simpa using hM)
            | exact f2 (by simpa using hM)
            | exact f3 (by simpa using hM)
            | exact f6 (by simpa using hM)
            | (have g := f4 (by simpa using hM); exact ⟨by first | rfl | exact g.1, by first | (simp; done) | simpa using g.2⟩)
            | (have g := f5 (by simpa using hM); exact ⟨by first | rfl | exact g.1, by first | (simp; done) | simpa using g.2.1, by first | (simp; done) | simpa using g.2.2⟩)
            | (have g := f7 (by simpa using hM); exact ⟨by first | rfl | exact g.1, by first | (simp; done) | simpa using g.2⟩)
            | (have g := f8 (by simpa using hM); exact ⟨by first | rfl | exact g.1, by first | (simp; done) | simpa using g.2⟩)
            | (have g := f9 (by simpa using hM); exact ⟨by first | rfl | exact g.1, by first | (simp; done) | simpa using g.2⟩)
            | (have g := f10 (by simpa using hM); exact ⟨by first | rfl | exact g.1, by first | (simp; done) | simpa using g.2.1, by first | (simp; done) | simpa using g.2.2⟩))
          | exact .inl ⟨by simpa using fw0, hP⟩
          | exact .inl ⟨by simpa using fw0, hP3⟩
          | exact .inr ⟨by simp, by simpa using (f5 g5).2.1, by simpa using (f4 (f5 g5).2.2).2, by simpa using (f5 g5).2.2, by simpa using (f7 (f8 (f9 g9).2).2).2, by simpa using g9, ppost V hP⟩
          | exact fw.elim (fun ⟨a, b⟩ => .inl ⟨by simpa using a, b⟩) (fun ⟨a, b, c, d, e, f, z⟩ => .inr ⟨by simpa using a, by simpa using b, by simpa using c, by simpa using d, by simpa using e, by simpa using f, z⟩)
    case fin =>
      rintro M b V hall ⟨s0, s1, s2, s3, s4, s5, s6, s7, s8, s9, s10, rfl, _, _, _, _, _, _, _, _, _, _, _, fw⟩
      rcases fw with ⟨a, _⟩ | ⟨_, _, _, _, _, _, hP3⟩
      · rw [hall 11 (by simp)] at a; cases a
      · rw [hPost'.out] at hP3
        obtain ⟨q0, q1, q2, V0, q3, q4⟩ := hP3
        gi_wp2
        refine ⟨(KeepsSet.of_grownBy q3 (fun r e => by cases e; omega)).trans (KeepsSet.of_grownBy q4 (fun r e => by cases e; omega)), q0, by rw [hE'.out]; exact q1, q2, grown_seq (grown_seq hB q3 (fun _ e _ => e) (fun _ e _ => e)) q4 (fun _ e _ => e) (fun k e hk => by cases e; omega)⟩
  case done =>
    rintro ys W hys ⟨hx0, hx1, hS, hB⟩ hK
    obtain rfl : ys = pairs p X Y := hys
    rw [prodL_left hp] at hx1
    have hc := hx1.cell
    gi_wp2
    refine ⟨by simp, .inl ⟨_, _, rfl, run_takeDeferred hK, ?_⟩⟩
    refine ⟨_, results_tmp rfl _ _ _, rfl, hS.kept (grownBy_putObj' W _ _) (by simp; omega), ?_⟩
    exact grown_seq hB (grownBy_putObj' W _ _) (fun _ e _ => e) (fun k e hk => by cases e; omega)
  case stop =>
    rintro c pre W _ h _
    exact h.elim

/-- The small triangle's block: as it is laid, and with the prime in it. -/
def smZ : Array Value := #[.int .i64 0, .int .u32 0, .int .i32 0, .int .u32 0] ++ Array.replicate 256 (.int .i64 0)

def smP (p : Int) : Array Value := #[.int .i64 p, .int .u32 0, .int .i32 0, .int .u32 0] ++ Array.replicate 256 (.int .i64 0)

theorem smP_built (p : Int) : Tryz.prog.built 195 [(0, .int .i64 p)] = some (smP p) := by kernel_rfl

theorem smZ_zero (w : World) : (zeroValue 195).run Tryz.prog w = .ok (.agg smZ) w := by kernel_rfl

theorem smP_info (p : Int) : (Tryz.prog.info? 195).map (·.size) = some (smP p).size := by kernel_rfl

theorem smZ_size (p : Int) : smZ.size = (smP p).size := by kernel_rfl

theorem smP_one (p : Int) : (smP p).all (·.oneCell') = true := by kernel_rfl

theorem smP_size (p : Int) : (smP p).size = 260 := by kernel_rfl

theorem smP_at (p : Nat) (i : Nat) (v : Value) (h : smV p 0 0 (fun _ => 0) i = some v) : (smP p)[i]? = some v := by
  unfold smV at h
  unfold smP
  by_cases e0 : i = 0
  · subst e0; simpa using h
  · by_cases e1 : i = 1
    · subst e1; simpa using h
    · by_cases e2 : i = 2
      · subst e2; simpa using h
      · by_cases e3 : 4 ≤ i ∧ i < 260
        · rw [if_neg e0, if_neg e1, if_neg e2, if_pos e3] at h
          rw [Array.getElem?_append_right (by simp; omega), Array.getElem?_replicate, if_pos (by simp; omega)]
          exact h
        · rw [if_neg e0, if_neg e1, if_neg e2, if_neg e3] at h; cases h

theorem build_sm {ops : Array Oper} {rest : List Oper} {o : Oper} {a : Act} {w : World} {Q : Exit → Act → World → Prop} (hg : o.guard = none) (x : Operand) (ho : o.op = .build 195 #[(0, x)]) (p : Int) (hx : a.eval x = .int .i64 p)
    (h : wpList Tryz.prog ops Q rest (a.put o.dst (.agg (smP p))) w) : wpList Tryz.prog ops Q (o :: rest) a w := by
  refine wpList_plain hg fun K hK => ?_
  unfold Oper.wp execOp
  simp only [ho]
  have := run_build (P := Tryz.prog) w 195 #[(0, .int .i64 p)] (smP p) (smP_built p)
  simp [hx, this]
  exact hK _ _ h

theorem alloc_sm {ops : Array Oper} {rest : List Oper} {o : Oper} {a : Act} {w : World} {Q : Exit → Act → World → Prop} (hg : o.guard = none) (ho : o.op = .alloc 195)
    (h : wpList Tryz.prog ops Q rest (a.put o.dst (.pointer (some ⟨w.heap.size, 0, none⟩))) (w.alloc (.cells smZ 195))) : wpList Tryz.prog ops Q (o :: rest) a w := by
  refine wpList_plain hg fun K hK => ?_
  unfold Oper.wp execOp
  simp only [ho]
  have hr : (Instr.alloc 195 true (.tuple #[])).run Tryz.prog w = .ok (.pointer (some ⟨w.heap.size, 0, none⟩)) (w.alloc (.cells smZ 195)) := by
    unfold Instr.alloc
    simp only [Sem.run_bind, smZ_zero, Result.andThen_ok]
    rfl
  simp [hr]
  exact hK _ _ h

theorem store_sm {ops : Array Oper} {rest : List Oper} {o : Oper} {a : Act} {w : World} {Q : Exit → Act → World → Prop} (hgd : o.guard = none) (x y : Operand) (ho : o.op = .store 195 x y) (g p : Nat)
    (hx : a.eval x = .pointer (some ⟨g, 0, none⟩)) (hy : a.eval y = .agg (smP p)) (hg : w.heap[g]? = some (.cells smZ 195 (0, 0)))
    (h : ∀ w', SmAt w' g p 0 0 (fun _ => 0) → w.grownBy w' (some g) → wpList Tryz.prog ops Q rest (a.put o.dst undef) w') : wpList Tryz.prog ops Q (o :: rest) a w :=
  wpList_store_row hgd 195 x y ho g (smP p) hx hy 195 smZ hg (smP_info p) (smZ_size p) (smP_one p)
    (h _ ⟨smP p, setRow_heap w g smZ _ _ _ hg, smP_size p, smP_at p⟩ ⟨rfl, rfl, rfl, by simp, fun k _ hr => setRow_other w g k _ (fun e => hr (by rw [e]))⟩)

set_option maxHeartbeats 400000 in
theorem implLeft (row place p : Int) (hpf : Fits p) (w : World) : Calls Tryz.prog 166 #[.int .i64 row, .int .i64 place, .int .i64 p] w fun e w' => e = .returned (.int .i64 (leftV row place p)) ∧ Below w.heap.size w w' := by
  by_cases h1 : row < 0 ∨ 999999999 < row
  · rw [leftV_bad (h1.imp id .inl)]
    go_enter Tryz.func166, Tryz.ntmps166
    go_wp2_with (go_at_call 55; refine (within_f _ _ _ (by omega)).mono ?_; rintro e w' ⟨rfl, rfl⟩)
    go_ret
    exact ⟨rfl, Below.refl _ _⟩
  · by_cases h2 : place < 0 ∨ 999999999 < place
    · rw [leftV_bad (.inr (.inr (h2.imp id .inl)))]
      go_enter Tryz.func166, Tryz.ntmps166
      go_wp2_with (first | (go_at_call 55; refine (within_t _ _ _ (by omega) (by omega)).mono ?_; rintro e w' ⟨rfl, rfl⟩) | (go_at_call 55; refine (within_f _ _ _ (by omega)).mono ?_; rintro e w' ⟨rfl, rfl⟩))
      go_ret
      exact ⟨rfl, Below.refl _ _⟩
    · cases hpr : prmI p with
      | false =>
        rw [leftV_bad (.inr (.inr (.inr (.inr hpr))))]
        have hP := fun w => implPrime_is hpf hpr w
        clear hpr
        go_enter Tryz.func166, Tryz.ntmps166
        go_wp2_with (first | (go_at_call 55; refine (within_t _ _ _ (by omega) (by omega)).mono ?_; rintro e w' ⟨rfl, rfl⟩) | (go_at_call 198; refine (hP _).mono ?_; rintro e w' ⟨rfl, hB⟩))
        go_ret
        exact ⟨rfl, hB⟩
      | true =>
        have hP := fun w => implPrime_is hpf hpr w
        obtain ⟨B, rfl, hB⟩ := prmI_t hpr
        obtain ⟨N, rfl⟩ : ∃ N : Nat, row = N := ⟨row.toNat, by omega⟩
        obtain ⟨K, rfl⟩ : ∃ K : Nat, place = K := ⟨place.toNat, by omega⟩
        have hN : N ≤ 999999999 := by omega
        have hK : K ≤ 999999999 := by omega
        rw [leftV_nat hN hK hB]
        have hU := fun R w h => leftIn_in R N K B hB hN hK w h
        generalize bin N K % B = T at *
        clear hpr
        go_enter Tryz.func166, Tryz.ntmps166
        go_wp2_with (first
          | (go_at_call 55; refine (within_t _ _ _ (by omega) (by omega)).mono ?_; rintro e w' ⟨rfl, rfl⟩)
          | (go_at_call 198; refine (hP _).mono ?_; rintro e w1 ⟨rfl, hB1⟩)
          | (refine build_sm rfl _ rfl B rfl ?_)
          | (refine alloc_sm rfl rfl ?_)
          | (refine store_sm rfl _ _ rfl w1.heap.size B rfl rfl (heap_alloc_new _ _) ?_; intro w2 hS2 hg2)
          | (go_at_call 200; refine (hU _ _ (.inl hS2)).mono ?_; rintro e w3 ⟨rfl, _, hg3⟩))
        go_ret
        refine ⟨rfl, ?_⟩
        have hb1 := (hB1.alloc hB1.size (.cells smZ 195)).grown hg2 (by have := hB1.size; simp; omega) (fun k e => by cases e; exact hB1.size)
        exact hb1.grown hg3 hb1.size (fun k e => by cases e; exact hB1.size)
end Go.Proofs.YtiaaefapbcjgmaaGreatDoor
namespace Go.Proofs.YtiaaefapbcjgmaaGreatDoor
open Go.RowKit Go.Maps

theorem upTo (N B : Nat) (hN : N ≤ 999999999) (hB2 : 2 ≤ B) (hB13 : B ≤ 13) (w : World) : Calls Tryz.prog 227 #[.int .i64 N, .int .i64 B] w fun e w' => e = .returned (.int .i64 (tup B N)) ∧ w = w' := by
  have hlt := tup_le hB2 N
  obtain ⟨S, hS⟩ : ∃ S, tup B N = S := ⟨_, rfl⟩
  rw [hS] at hlt ⊢
  have hS0 : 0 + tup B N = S := by omega
  clear hS
  go_enter Tryz.func227, Tryz.ntmps227
  go_wp2
  go_loop [0, 5] (fun n s => ∃ m t : Nat, n = .int .i64 m ∧ s = .int .i64 t ∧ m ≤ N ∧ t + tup B m = S) (fun n _ => (intOf n).toNat)
  case atStart => exact ⟨N, 0, rfl, rfl, Nat.le_refl _, hS0⟩
  case round =>
    clear hS0
    obtain ⟨m, t, rfl, rfl, hm, hs⟩ := hrel
    by_cases hlt : 0 < m
    · rw [tup_pos hB2 hlt] at hs
      have hq2 := tdiv_n m B
      have hb0 : ((B : Int) == 0) = false := by simp; omega
      have hdl := Nat.div_lt_self hlt hB2
      generalize m / B = q at *
      have hs' := hide hs
      have hts : t + q ≤ S := by omega
      clear hs
      have hw2 : IntKind.i64.wrap (q : Int) = q := IntWalk.i64_in _ (by omega)
      go_wp2
      go_round
      case rel => exact ⟨q, t + q, rfl, by go_num, by omega, by have := hs'.out; omega⟩
      case measure => simp [intOf]; omega
    · obtain rfl : m = 0 := by omega
      rw [tup_zero] at hs
      obtain rfl : t = S := by omega
      clear hs
      go_wp2
      go_ret
      exact ⟨rfl, rfl⟩

set_option maxHeartbeats 400000 in
theorem timesAt_in (N K B : Nat) (hN : N ≤ 499999999) (hK : K ≤ N) (hB2 : 2 ≤ B) (hB13 : B ≤ 13) (w : World) : Calls Tryz.prog 201 #[.int .i64 N, .int .i64 K, .int .i64 B] w fun e w' => e = .returned (.int .i64 (cars B N K)) ∧ w = w' := by
  obtain ⟨R, hR⟩ : ∃ R, N - K = R := ⟨_, rfl⟩
  have hRi : (N : Int) - (K : Int) = (R : Int) := by omega
  have e1 := fun w => upTo N B (by omega) hB2 hB13 w
  have e2 := fun w => upTo K B (by omega) hB2 hB13 w
  have e3 := fun w => upTo R B (by omega) hB2 hB13 w
  have hc := tup_cars hB2 hK
  rw [hR] at hc
  have hl := tup_le hB2 N
  generalize tup B N = T1 at *
  generalize tup B K = T2 at *
  generalize tup B R = T3 at *
  generalize cars B N K = C at *
  have hv := hide (show (T1 : Int) - T2 - T3 = C by omega)
  have hl1 : (T1 : Int) ≤ 499999999 := by omega
  have hl2 : (T2 : Int) ≤ 499999999 := by omega
  have hl3 : (T3 : Int) ≤ 499999999 := by omega
  clear hc hR hl
  go_enter Tryz.func201, Tryz.ntmps201
  go_wp2_with (first | (go_at_call 227; (with_reducible refine (e1 _).mono ?_); rintro e w' ⟨rfl, rfl⟩) | (go_at_call 227; (with_reducible refine (e2 _).mono ?_); rintro e w' ⟨rfl, rfl⟩) | (go_at_call 227; (with_reducible refine (e3 _).mono ?_); rintro e w' ⟨rfl, rfl⟩))
  go_ret
  exact ⟨ret_int hv.out, rfl⟩

set_option maxHeartbeats 400000 in
theorem implCellT (row place p : Int) (hp : Fits p) (w : World) : Calls Tryz.prog 167 #[.int .i64 row, .int .i64 place, .int .i64 p] w fun e w' => e = .returned (.int .i64 (cellTV row place p)) ∧ Below w.heap.size w w' := by
  by_cases h1 : row < 0 ∨ 499999999 < row
  · rw [cellTV_bad (h1.imp id .inl)]
    go_enter Tryz.func167, Tryz.ntmps167
    go_wp2_with (go_at_call 55; refine (within_f _ _ _ (by omega)).mono ?_; rintro e w' ⟨rfl, rfl⟩)
    go_ret
    exact ⟨rfl, Below.refl _ _⟩
  · by_cases h2 : place < 0 ∨ row < place
    · rw [cellTV_bad (.inr (.inr (h2.imp id .inl)))]
      go_enter Tryz.func167, Tryz.ntmps167
      go_wp2_with (first | (go_at_call 55; refine (within_t _ _ _ (by omega) (by omega)).mono ?_; rintro e w' ⟨rfl, rfl⟩) | (go_at_call 55; refine (within_f _ _ _ (by omega)).mono ?_; rintro e w' ⟨rfl, rfl⟩))
      go_ret
      exact ⟨rfl, Below.refl _ _⟩
    · cases hpr : prmI p with
      | false =>
        rw [cellTV_bad (.inr (.inr (.inr (.inr hpr))))]
        have hP := fun w => implPrime_is hp hpr w
        clear hpr
        go_enter Tryz.func167, Tryz.ntmps167
        go_wp2_with (first | (go_at_call 55; refine (within_t _ _ _ (by omega) (by omega)).mono ?_; rintro e w' ⟨rfl, rfl⟩) | (go_at_call 198; refine (hP _).mono ?_; rintro e w' ⟨rfl, hB⟩))
        go_ret
        exact ⟨rfl, hB⟩
      | true =>
        have hP := fun w => implPrime_is hp hpr w
        obtain ⟨B, rfl, hB⟩ := prmI_t hpr
        obtain ⟨N, rfl⟩ : ∃ N : Nat, row = N := ⟨row.toNat, by omega⟩
        obtain ⟨K, rfl⟩ : ∃ K : Nat, place = K := ⟨place.toNat, by omega⟩
        have hN : N ≤ 499999999 := by omega
        have hK : K ≤ N := by omega
        have hB2 := prm_two hB
        rw [cellTV_nat hN hK hB]
        have hU := fun w => timesAt_in N K B hN hK hB2.1 hB2.2 w
        generalize cars B N K = T at *
        clear hpr
        go_enter Tryz.func167, Tryz.ntmps167
        go_wp2_with (first | (go_at_call 55; refine (within_t _ _ _ (by omega) (by omega)).mono ?_; rintro e w' ⟨rfl, rfl⟩) | (go_at_call 198; refine (hP _).mono ?_; rintro e w' ⟨rfl, hB⟩) | (go_at_call 201; refine (hU _).mono ?_; rintro e w' ⟨rfl, rfl⟩))
        go_ret
        exact ⟨rfl, hB⟩
end Go.Proofs.YtiaaefapbcjgmaaGreatDoor
namespace Go.Proofs.YtiaaefapbcjgmaaGreatDoor
open Go.RowKit

set_option maxHeartbeats 400000 in
theorem specLeftIn (row p : Int) (w : World) : Calls Tryz.prog 116 #[.int .i64 row, .int .i64 p] w fun e w' => e = .returned (.int .i64 (keepV row p)) ∧ w = w' := by
  by_cases hbad : badK row p
  · rw [keepV_bad hbad]
    unfold badK at hbad
    cases hpr : prmI p with
    | false =>
      have hP := fun w => specPrime_is hpr w
      clear hpr hbad
      go_enter Tryz.func116, Tryz.ntmps116
      go_wp2_with (go_at_call 150; refine (hP _).mono ?_; rintro e w' ⟨rfl, rfl⟩)
      go_ret
      exact ⟨rfl, rfl⟩
    | true =>
      have hP := fun w => specPrime_is hpr w
      have hr : row < 0 ∨ 999999999 < row := by
        rcases hbad with h | h | h
        · exact .inl h
        · exact .inr h
        · rw [hpr] at h; cases h
      clear hpr hbad
      go_enter Tryz.func116, Tryz.ntmps116
      go_wp2_with (first | (go_at_call 150; refine (hP _).mono ?_; rintro e w' ⟨rfl, rfl⟩) | (go_at_call 95; refine (l1In_f _ _ _ _ (by omega)).mono ?_; rintro e w' ⟨rfl, rfl⟩))
      go_ret
      exact ⟨rfl, rfl⟩
  · obtain ⟨N, P, rfl, rfl, hN, hp⟩ := badK_nat hbad
    rw [← keepV_count hN hp]
    have hP := fun w => specPrime_is (prmI_ok hp) w
    have hC := fun w => specCount N P w
    obtain ⟨c, hc⟩ : ∃ c, countV N P = c := ⟨_, rfl⟩
    rw [hc] at hC ⊢
    clear hbad hc
    go_enter Tryz.func116, Tryz.ntmps116
    go_wp2_with (first | (go_at_call 150; refine (hP _).mono ?_; rintro e w' ⟨rfl, rfl⟩) | (go_at_call 95; refine (l1In_t _ _ _ _ (by omega) (by omega)).mono ?_; rintro e w' ⟨rfl, rfl⟩) | (go_at_call 151; refine (hC _).mono ?_; rintro e w' ⟨rfl, rfl⟩))
    go_ret
    exact ⟨rfl, rfl⟩

set_option maxHeartbeats 400000 in
/-- A small cell. -/
theorem specSmall (a b p : Nat) (ha : a < p) (hb : b < p) (hp : 2 ≤ p) (hp2 : p ≤ 13) (w : World) : Calls Tryz.prog 152 #[.int .i64 a, .int .i64 b, .int .i64 p] w fun e w' => e = .returned (.int .i64 ((bin a b % p : Nat) : Int)) ∧ w = w' := by
  by_cases hab : a < b
  · have hv := hide (bin_over a b hab)
    go_enter Tryz.func152, Tryz.ntmps152
    go_wp2
    go_ret
    exact ⟨by rw [hv.out, Nat.zero_mod]; rfl, rfl⟩
  · have hba : b ≤ a := by omega
    have hp0 : ((p : Int) == 0) = false := by simp; omega
    go_enter Tryz.func152, Tryz.ntmps152
    go_wp2
    go_loop [7, 8] (fun t k => ∃ j : Nat, k = .int .i64 j ∧ t = .int .i64 (bin a j) ∧ j ≤ b) (fun _ k => b - (intOf k).toNat)
    case atStart => exact ⟨0, rfl, by rw [bin_zero]; rfl, by omega⟩
    case round =>
      obtain ⟨j, rfl, rfl, hj⟩ := hrel
      have hbs := bin_le a j
      have hpw : (2 : Nat) ^ a ≤ 4096 := Nat.pow_le_pow_right (by omega) (by omega : a ≤ 12)
      by_cases hlt : j < b
      · obtain ⟨r, hr⟩ : ∃ r, a - j = r := ⟨_, rfl⟩
        have hri : (a : Int) - (j : Int) = (r : Int) := by omega
        have hd := bin_div a j
        rw [hr] at hd
        have hbs2 := bin_le a (j + 1)
        obtain ⟨D, hD⟩ : ∃ D, bin a j * r = D := ⟨_, rfl⟩
        have hDl : D ≤ 4096 * 12 := by rw [← hD]; exact Nat.mul_le_mul (by omega) (by omega)
        have hDi : ((bin a j : Nat) : Int) * (r : Int) = (D : Int) := by rw [← hD]; simp
        rw [hD] at hd
        have hq := tdiv_n D (j + 1)
        rw [hd] at hq
        have hq' : Int.tdiv (D : Int) ((j : Int) + 1) = ((bin a (j + 1) : Nat) : Int) := hq
        clear hD hd hq hr
        have hj0 : ((j : Int) + 1 == 0) = false := by simp; omega
        generalize bin a j = S at *
        obtain ⟨S2, hS2⟩ : ∃ S2, bin a (j + 1) = S2 := ⟨_, rfl⟩
        rw [hS2] at hq' hbs2
        have hS2' := hide hS2
        clear hS2
        have hw1 : IntKind.i64.wrap (D : Int) = D := IntWalk.i64_in _ (by omega)
        have hw2 : IntKind.i64.wrap (S2 : Int) = S2 := IntWalk.i64_in _ (by omega)
        have hw3 : IntKind.i64.wrap (r : Int) = r := IntWalk.i64_in _ (by omega)
        go_wp2
        go_round
        case rel => exact ⟨j + 1, by go_num, by rw [hS2'.out], by omega⟩
        case measure => simp [intOf]; omega
      · obtain rfl : j = b := by omega
        have hq := tmod_n (bin a j) p
        have hml := Nat.mod_lt (bin a j) (show 0 < p by omega)
        obtain ⟨C, hC⟩ : ∃ C, bin a j % p = C := ⟨_, rfl⟩
        rw [hC] at hq hml
        have hC' := hide hC
        clear hC
        have hw1 : IntKind.i64.wrap (C : Int) = C := IntWalk.i64_in _ (by omega)
        go_wp2
        go_ret
        exact ⟨ret_int (by rw [← hC'.out]; rfl), rfl⟩

set_option maxHeartbeats 1000000 in
theorem specLeft (row place p : Int) (w : World) : Calls Tryz.prog 117 #[.int .i64 row, .int .i64 place, .int .i64 p] w fun e w' => e = .returned (.int .i64 (leftV row place p)) ∧ Below w.heap.size w w' := by
  cases hpr : prmI p with
  | false =>
    rw [leftV_bad (.inr (.inr (.inr (.inr hpr))))]
    have hP := fun w => specPrime_is hpr w
    clear hpr
    go_enter Tryz.func117, Tryz.ntmps117
    go_wp2_with (go_at_call 150; refine (hP _).mono ?_; rintro e w' ⟨rfl, rfl⟩)
    go_ret
    exact ⟨rfl, Below.refl _ _⟩
  | true =>
    have hP := fun w => specPrime_is hpr w
    by_cases hbad : row < 0 ∨ 999999999 < row ∨ place < 0 ∨ 999999999 < place
    · rw [leftV_bad (by unfold badL; omega)]
      clear hpr
      by_cases h1 : row < 0 ∨ 999999999 < row
      all_goals
        go_enter Tryz.func117, Tryz.ntmps117
        go_wp2_with (first | (go_at_call 150; refine (hP _).mono ?_; rintro e w' ⟨rfl, rfl⟩) | (go_at_call 95; refine (l1In_t _ _ _ _ (by omega) (by omega)).mono ?_; rintro e w' ⟨rfl, rfl⟩) | (go_at_call 95; refine (l1In_f _ _ _ _ (by omega)).mono ?_; rintro e w' ⟨rfl, rfl⟩))
        go_ret
        exact ⟨rfl, Below.refl _ _⟩
    · obtain ⟨B, rfl, hB⟩ := prmI_t hpr
      obtain ⟨N, rfl⟩ : ∃ N : Nat, row = N := ⟨row.toNat, by omega⟩
      obtain ⟨K, rfl⟩ : ∃ K : Nat, place = K := ⟨place.toNat, by omega⟩
      have hN : N ≤ 999999999 := by omega
      have hK : K ≤ 999999999 := by omega
      rw [leftV_nat hN hK hB]
      have hB2 := (prm_two hB).1
      have hB13 := (prm_two hB).2
      obtain ⟨T, hT⟩ : ∃ T, bin N K % B = T := ⟨_, rfl⟩
      rw [hT]
      have hTl : T < B := by rw [← hT]; exact Nat.mod_lt _ (by omega)
      have hT' := hide (show 1 * bin N K % B = T by rw [Nat.one_mul]; exact hT)
      clear hT hbad hpr
      have hB0 : ((B : Int) == 0) = false := by simp; omega
      have hB00 : (B = 0) = False := by simp; omega
      go_enter Tryz.func117, Tryz.ntmps117
      go_wp2_with (first | (go_at_call 150; refine (hP _).mono ?_; rintro e w' ⟨rfl, rfl⟩) | (go_at_call 95; refine (l1In_t _ _ _ _ (by omega) (by omega)).mono ?_; rintro e w' ⟨rfl, rfl⟩))
      clear hP
      go_loopw [0, 1, 7] (fun r c t wr => ∃ m k A : Nat, r = .int .i64 m ∧ c = .int .i64 k ∧ t = .int .i64 A ∧ m ≤ N ∧ k ≤ K ∧ A < B ∧ A * bin m k % B = T ∧ Below w.heap.size w wr) (fun r c _ _ => (intOf r).toNat + (intOf c).toNat)
      case atStart => exact ⟨N, K, 1, rfl, rfl, rfl, Nat.le_refl _, Nat.le_refl _, by omega, hT'.out, Below.refl _ _⟩
      case round =>
        clear hT'
        obtain ⟨m, k, A, rfl, rfl, rfl, hm, hk, hA, hs, hBl⟩ := hrel
        by_cases hlt : 0 < m + k
        · rw [Nat.mul_mod, lucas_div hB, ← Nat.mul_mod, Nat.mul_comm (bin (m / B) (k / B)), ← Nat.mul_assoc, Nat.mul_mod, ← Nat.mod_mod (A * bin (m % B) (k % B)) B] at hs
          rw [← Nat.mul_mod] at hs
          have hq1 := tmod_n m B
          have hq2 := tdiv_n m B
          have hq3 := tmod_n k B
          have hq4 := tdiv_n k B
          have hr1 := Nat.mod_lt m (show 0 < B by omega)
          have hr2 := Nat.mod_lt k (show 0 < B by omega)
          have hl1 := Nat.div_le_self m B
          have hl2 := Nat.div_le_self k B
          have hdl : m / B + k / B < m + k := by
            rcases Nat.eq_zero_or_pos m with h | h
            · have := Nat.div_lt_self (n := k) (k := B) (by omega) hB2; omega
            · have := Nat.div_lt_self (n := m) (k := B) h hB2; omega
          have hcall := fun w => specSmall (m % B) (k % B) B hr1 hr2 hB2 hB13 w
          have hCl : bin (m % B) (k % B) % B < B := Nat.mod_lt _ (by omega)
          have hmm : A * bin (m % B) (k % B) % B = A * (bin (m % B) (k % B) % B) % B := by rw [Nat.mul_mod, Nat.mod_eq_of_lt hA]
          rw [hmm] at hs
          clear hmm
          generalize m % B = r1 at *
          generalize m / B = q1 at *
          generalize k % B = r2 at *
          generalize k / B = q2 at *
          obtain ⟨C, hC⟩ : ∃ C, bin r1 r2 % B = C := ⟨_, rfl⟩
          simp only [hC] at hcall
          rw [hC] at hs hCl
          clear hC
          obtain ⟨D, hD⟩ : ∃ D, A * C = D := ⟨_, rfl⟩
          have hDl : D ≤ 13 * 13 := by rw [← hD]; exact Nat.mul_le_mul (by omega) (by omega)
          have hDi : (A : Int) * (C : Int) = (D : Int) := by rw [← hD]; simp
          rw [hD] at hs
          clear hD
          have hq5 := tmod_n D B
          have hEl := Nat.mod_lt D (show 0 < B by omega)
          generalize D % B = E at *
          have hs' := hide hs
          clear hs
          have hw1 : IntKind.i64.wrap (r1 : Int) = r1 := IntWalk.i64_in _ (by omega)
          have hw2 : IntKind.i64.wrap (q1 : Int) = q1 := IntWalk.i64_in _ (by omega)
          have hw3 : IntKind.i64.wrap (r2 : Int) = r2 := IntWalk.i64_in _ (by omega)
          have hw4 : IntKind.i64.wrap (q2 : Int) = q2 := IntWalk.i64_in _ (by omega)
          have hw5 : IntKind.i64.wrap (D : Int) = D := IntWalk.i64_in _ (by omega)
          have hw6 : IntKind.i64.wrap (E : Int) = E := IntWalk.i64_in _ (by omega)
          by_cases hm0 : 0 < m
          · go_wp2
            go_quiet ((go_at_call 152; refine Calls.quiet_of_same ((hcall _).mono fun e w' h => ⟨h.1, h.2.symm⟩)))
            go_wp2
            go_roundw
            case rel => exact ⟨q1, q2, E, rfl, rfl, rfl, by omega, by omega, hEl, hs'.out, ⟨hBl.os, hBl.tape, hBl.output, hBl.size, hBl.block⟩⟩
            case measure => simp [intOf]; omega
          · have hk0 : 0 < k := by omega
            go_wp2
            go_quiet ((go_at_call 152; refine Calls.quiet_of_same ((hcall _).mono fun e w' h => ⟨h.1, h.2.symm⟩)))
            go_wp2
            go_roundw
            case rel => exact ⟨q1, q2, E, rfl, rfl, rfl, by omega, by omega, hEl, hs'.out, ⟨hBl.os, hBl.tape, hBl.output, hBl.size, hBl.block⟩⟩
            case measure => simp [intOf]; omega
        · obtain ⟨rfl, rfl⟩ : m = 0 ∧ k = 0 := by omega
          rw [bin_zero, Nat.mul_one, Nat.mod_eq_of_lt hA] at hs
          subst hs
          go_wp2
          go_ret
          exact ⟨rfl, hBl⟩
end Go.Proofs.YtiaaefapbcjgmaaGreatDoor
namespace Go.Proofs.YtiaaefapbcjgmaaGreatDoor
open Go.RowKit Go.Shelf
attribute [local go_sem] Oper.semAt_some

set_option maxRecDepth 100000 in
set_option maxHeartbeats 1000000 in
theorem foldS_in (gf jf n : Nat) (hjf : jf = 221) (lb : Array Value) (f g : Nat → Int) (K : Nat → Nat → Prop) (w : World)
    (eg : ∀ args w, (callFunc gf args).run Tryz.prog w = .ok (.enter gf args) w)
    (hseq : ∀ W, Below w.heap.size w W → SeqMem Fence.wide 8 Tryz.prog gf lb 0 (fun _ (j : Nat) => #[.int .i64 (f j)]) (NumHd n) K (NumS n) (fun _ _ _ => True) W)
    (hK : ∀ n0 k, K n0 k → k < w.heap.size)
    (hj : ∀ j W, j < n → Calls Tryz.prog jf #[.int .i64 (g j), .int .i64 (f j)] W fun e W' => e = .returned (.int .i64 (g (j + 1))) ∧ Below W.heap.size W W') :
    Calls Tryz.prog 219 #[.func (.func gf) #[] lb, .int .i64 (g 0), .func (.func jf) #[] #[]] w fun e w' => e = .returned (.int .i64 (g n)) ∧ Below w.heap.size w w' := by
  subst hjf
  refine (callsIn_wide (n := 9)).1 ?_
  refine callsIn_of_wp_marks Tryz.func219 rfl trivial ?_ rfl
  simp only [Tryz.ntmps219, List.size_toArray, List.length_cons, List.length_nil, Nat.reduceAdd, Nat.reduceSub, Array.replicate_succ, Array.replicate_zero, List.push_toArray, List.append_toArray, List.nil_append, List.cons_append]
  obtain ⟨g0, hg0⟩ : ∃ g0, g 0 = g0 := ⟨_, rfl⟩
  rw [hg0]
  have hg0' := hide hg0
  clear hg0
  gi_wp2
  obtain ⟨W0, hW0⟩ : ∃ W0, ((w.alloc (Obj.cells #[Value.int IntKind.i64 g0] 3)).alloc (Obj.cells #[Value.func (.func 221) #[] #[]] 95)) = W0 := ⟨_, rfl⟩
  have hsz1 : W0.heap.size ≤ w.heap.size + 2 := by rw [← hW0]; simp
  have hsz2 : w.heap.size + 2 ≤ W0.heap.size := by rw [← hW0]; simp
  have hbs : Boxed W0 w.heap.size 3 (.int .i64 g0) := by rw [← hW0]; exact (Boxed.new w _ _).alloc _
  have hbj : Boxed W0 (w.heap.size + 1) 95 (.func (.func 221) #[] #[]) := by rw [← hW0]; have := Boxed.new (w.alloc (Obj.cells #[Value.int IntKind.i64 g0] 3)) 95 (.func (.func 221) #[] #[]); rwa [World.size_alloc] at this
  have hbel : Below w.heap.size w W0 := by rw [← hW0]; exact ((Below.refl _ w).alloc (Nat.le_refl _) _).alloc (by simp) _
  rw [hW0]
  clear hW0
  refine wpIn_rangeFunc_mem rfl (by omega) (gf := gf) (lb := lb) rfl trivial eg
    (hseq W0 hbel) (fun _ _ => rfl) (fun h => by have := hK _ _ h; omega)
    (fun pre x W o h => h) (fun ys W o h => h) (fun pre W o h => h)
    (fun pre W => Boxed W w.heap.size 3 (.int .i64 (g pre.length)) ∧ Boxed W (w.heap.size + 1) 95 (.func (.func 221) #[] #[]) ∧ Below w.heap.size w W) (fun _ _ _ => False)
    (fun s A B row hs hg hr => ⟨hs.1.kept hg (fun e => by have := hr _ e.symm; omega), hs.2.1.kept hg (fun e => by have := hr _ e.symm; omega), hs.2.2.grown hg hs.2.2.size (fun k e => by have := hr _ e; omega)⟩)
    (fun _ _ _ _ _ hs _ _ => hs) ⟨by rw [List.length_nil, hg0'.out]; exact hbs, hbj, hbel⟩
    (fun x => { tmps := #[.func (.func gf) #[] lb, .int .i64 g0, .func (.func 221) #[] #[], undef, .pointer (some ⟨w.heap.size, 0, none⟩), .pointer (some ⟨w.heap.size + 1, 0, none⟩), .int .i64 0, .int .i64 (f x), .func (.func gf) #[] lb, .int .i64 (f x), undef, undef, undef, undef, undef], defers := [] }) ?assign ?body ?done ?stop
  case assign =>
    intro l x W Q hQ
    gi_wp2
    exact hQ
  case body =>
    rintro l pre x W hlt ⟨hbx, hbjj, hB⟩ ⟨hpre, hx⟩
    have hpl : pre.length = x := by rw [hpre, List.length_range]
    have hpl2 : (pre ++ [x]).length = x + 1 := by rw [List.length_append, hpl]; rfl
    rw [hpl] at hbx
    have hc := hbx.cell
    have hf := hbx.frozen
    have hcj := hbjj.cell
    have hcall := fun W => hj x W hx
    obtain ⟨z, hz⟩ : ∃ z, f x = z := ⟨_, rfl⟩
    obtain ⟨a, ha⟩ : ∃ a, g x = a := ⟨_, rfl⟩
    obtain ⟨b, hb⟩ : ∃ b, g (x + 1) = b := ⟨_, rfl⟩
    rw [hz, ha, hb] at hcall
    rw [ha] at hbx hc
    rw [hz]
    rw [← hpl2] at hb
    have hb' := hide hb
    clear hz ha hb hpl hpl2 hg0'
    · gi_wp2_with (refine ⟨trivial, ?_⟩; gi_at_call 221; refine (callsIn_wide.2 (hcall _)).mono ?_; rintro e w1 ⟨rfl, hB1⟩; have hb1 : Boxed w1 w.heap.size 3 (.int .i64 a) := (hB1.block _ hbx.lt).trans hbx; have hc1 := hb1.cell; have hf1 := hb1.frozen)
      refine ⟨(KeepsSet.of_below (hB1.mono (Nat.le_refl _)) (fun k hk => by
        rcases hk with hk | hk | hk
        · omega
        · omega
        · have := hK _ _ hk; have := hB.size; omega)).trans (KeepsSet.setCell _ _ _ (fun h => by
        rcases h with h | h | h
        · omega
        · omega
        · have := hK _ _ h; omega)), ?_, ?_, ?_⟩
      · rw [hb'.out]; exact hb1.set _
      · exact Boxed.other (W := w1) ((hB1.block _ hbjj.lt).trans hbjj) (by omega) _
      · exact (hB.trans (hB1.mono hB.size)).setCell (p := ⟨w.heap.size, 0, none⟩) (Nat.le_refl _) _
  case done =>
    rintro ys W hys ⟨hbx, hbjj, hB⟩ hK
    obtain rfl : ys = List.range n := hys
    rw [List.length_range] at hbx
    have hc := hbx.cell
    gi_wp2
    refine ⟨by simp, .inl ⟨_, _, rfl, run_takeDeferred hK, ?_⟩⟩
    refine ⟨_, results_tmp rfl _ _ _, rfl, ?_⟩
    exact hB.grown (grownBy_putObj' W _ _) hB.size (fun k e => by cases e; omega)
  case stop =>
    rintro c pre W _ h _
    exact h.elim

/-- The numbers of a slice, folded. -/
theorem foldValsS_in (jf : Nat) (hjf : jf = 221) (b off L cap : Nat) (f g : Nat → Int) (hL : L ≤ 1000000) (w : World) (hb : b < w.heap.size)
    (hv : ∀ i, i < L → w.cell? ⟨b, off + i, none⟩ = some (.int .i64 (f i)))
    (hj : ∀ j W, j < L → Calls Tryz.prog jf #[.int .i64 (g j), .int .i64 (f j)] W fun e W' => e = .returned (.int .i64 (g (j + 1))) ∧ Below W.heap.size W W') :
    Calls Tryz.prog 219 #[.func (.func 241) #[] #[.pointer (some ⟨w.heap.size, 0, none⟩)], .int .i64 (g 0), .func (.func jf) #[] #[]]
      (w.alloc (.cells #[.slice (some ⟨b, off, none⟩) L cap] 28)) fun e w' => e = .returned (.int .i64 (g L)) ∧ Below w.heap.size w w' := by
  have hA := (Below.refl w.heap.size w).alloc (Nat.le_refl _) (.cells #[.slice (some ⟨b, off, none⟩) L cap] 28)
  have hbx := Boxed.new w 28 (.slice (some ⟨b, off, none⟩) L cap)
  obtain ⟨W0, hW0⟩ : ∃ W0, w.alloc (.cells #[.slice (some ⟨b, off, none⟩) L cap] 28) = W0 := ⟨_, rfl⟩
  rw [hW0] at hA hbx ⊢
  refine (foldS_in 241 jf L hjf _ f g (fun _ k => k = b) W0 (enters_of Tryz.func241 (by kernel_rfl) rfl) (fun W hW => ?_) (fun _ k hk => by have := hA.size; omega) hj).mono
    fun e w' h => ⟨h.1, hA.trans (h.2.mono hA.size)⟩
  have hs := hA.size
  have hs2 := hW.size
  exact vals_stops 8 w.heap.size b off L cap f hL (by omega) W (Nat.lt_of_lt_of_le hbx.lt hs2) (by omega) ((hW.cell (p := ⟨w.heap.size, 0, none⟩) hbx.lt).trans hbx.cell)
    (fun i hi => (hW.cell (p := ⟨b, off + i, none⟩) (by show b < _; omega)).trans ((hA.cell (p := ⟨b, off + i, none⟩) hb).trans (hv i hi)))

theorem sharedOfAllS_in (b off L cap : Nat) (f : Nat → Nat) (hL : L ≤ 1000000) (w : World) (hb : b < w.heap.size) (hf : ∀ i, i < L → 0 < f i ∧ f i ≤ 1152921504606846976)
    (hv : ∀ i, i < L → w.cell? ⟨b, off + i, none⟩ = some (.int .i64 (f i : Nat))) :
    Calls Tryz.prog 196 #[.slice (some ⟨b, off, none⟩) L cap] w fun e w' => e = .returned (.int .i64 (gcdU f L : Nat)) ∧ Below w.heap.size w w' := by
  have hF := foldValsS_in 221 rfl b off L cap (fun i => (f i : Nat)) (fun i => (gcdU f i : Nat)) hL w hb hv (fun j W hj => by
    have h1 := gcdU_le f j (fun i hi => (hf i (by omega)).1) (fun i hi => (hf i (by omega)).2)
    have h2 := (hf j hj).2
    exact two_in (gcdU f j) (f j) (by omega) (by omega) W)
  have hF' : Calls Tryz.prog 219 #[.func (.func 241) #[] #[.pointer (some ⟨w.heap.size, 0, none⟩)], .int .i64 0, .func (.func 221) #[] #[]]
      (w.alloc (.cells #[.slice (some ⟨b, off, none⟩) L cap] 28)) fun e w' => e = .returned (.int .i64 (gcdU f L : Nat)) ∧ Below w.heap.size w w' := hF
  clear hF hv hf
  go_enter Tryz.func196, Tryz.ntmps196
  go_wp2_with (first | (go_at_call 220; refine (values_in _ _ _ _).mono ?_; rintro e w' ⟨rfl, rfl⟩) | (go_at_call 219; refine hF'.mono ?_; rintro e w2 ⟨rfl, hB⟩))
  go_ret
  exact ⟨rfl, hB⟩

set_option maxHeartbeats 1000000 in
theorem implSharedS (row : Int) (w : World) : Calls Tryz.prog 163 #[.int .i64 row] w fun e w' => e = .returned (.int .i64 (sharedV row)) ∧ Below w.heap.size w w' := by
  by_cases hbad : row < 2 ∨ 60 < row
  · rw [sharedV_bad hbad]
    by_cases h2 : row < 2
    all_goals
      go_enter Tryz.func163, Tryz.ntmps163
      go_wp2
      go_ret
      exact ⟨rfl, Below.refl _ _⟩
  · obtain ⟨N, rfl⟩ : ∃ N : Nat, row = N := ⟨row.toNat, by omega⟩
    have hN2 : 2 ≤ N := by omega
    have hN : N ≤ 60 := by omega
    rw [sharedV_nat hN2 hN]
    have h1 : (1 : Int) ≤ (N : Int) := by omega
    have h3 : ¬ (N : Int) < 2 := by omega
    have h4 : ¬ (60 : Int) < (N : Int) := by omega
    have h5 : (N : Int) ≤ (N : Int) + 1 := by omega
    have hsh : shared N = gcdU (fun k => bin N (k + 1)) (N - 1) := rfl
    clear hbad
    go_enter Tryz.func163, Tryz.ntmps163
    go_wp2_with (go_at_call 197; refine (lastRow_in N hN _).mono ?_; rintro e w1 ⟨g, rfl, hrow, hB⟩)
    have hS := sharedOfAllS_in g 1 (N - 1) N (fun k => bin N (k + 1)) (by omega) w1 hrow.lt (fun i hi => ⟨bin_pos _ _ (by omega), bin_60 hN _⟩) (fun i hi => by have := hrow.cell (i := i + 1) (by omega); rw [Nat.add_comm 1 i]; exact this)
    rw [← hsh] at hS
    clear hsh
    go_wp2_with (go_at_call 196; refine hS.mono ?_; rintro e w2 ⟨rfl, hB2⟩)
    go_ret
    exact ⟨rfl, hB.trans (hB2.mono hB.size)⟩
end Go.Proofs.YtiaaefapbcjgmaaGreatDoor
namespace Go.Proofs.YtiaaefapbcjgmaaGreatDoor
open Go.RowKit Go.BigFrame

theorem lies_intsQ {w : World} {v : Value} {xs : List Int} (h : Ints w v xs) (h1 : 1 ≤ xs.length) : Lies v := by
  rcases h with ⟨a, c, rfl, h⟩ | ⟨g, c, rfl, _⟩
  · rw [h] at h1; simp at h1
  · exact .inr ⟨_, _, _, rfl⟩

/-- A question is answered: with these numbers, by that text. -/
def SaidBy (f : FuncId) (cnt : Nat) (out : List Int → List Int → List Nat) : Prop :=
  ∀ (x p v : Value) (row ns : List Int) (w : World), Ints w x row → sideB row = true → Ints w v ns → ns.length = cnt → (∀ n ∈ ns, 0 ≤ n ∧ n ≤ 999999999) → Env w →
    Calls Tryz.prog f #[.agg #[x, p], v] w fun e w' => e = .returned (.string (str (out row ns))) ∧ Below w.heap.size w w'

theorem said_ones : SaidBy 126 0 (fun row ns => qA row ns 1) := by
  intro x p v row ns w hx hs hv hn hns hE
  have hl := sideB_len hs
  have hB0 := (Below.refl _ w).alloc (Nat.le_refl _) (.cells #[x, p] 31)
  obtain ⟨c0, c1⟩ := desk_box (w := w) (x := x) (p := p) (t := 31)
  obtain ⟨W1, hW1⟩ : ∃ W1, w.alloc (.cells #[x, p] 31) = W1 := ⟨_, rfl⟩
  rw [hW1] at hB0 c0 c1
  have hE1 := hE.below hB0
  have hO := implOnes x row W1 (hx.below hB0) (lies_intsQ hx hl.1) (by omega)
  have hT := fun V hV => implTold (onesV row) (by have := onesV_big hs; omega) V hV
  show Calls Tryz.prog _ _ w fun e w' => e = .returned (.string (str (toldI (onesV row)))) ∧ Below w.heap.size w w'
  obtain ⟨N, hN⟩ : ∃ N, onesV row = N := ⟨_, rfl⟩
  rw [hN] at hO hT ⊢
  obtain ⟨S, hS⟩ : ∃ S, str (toldI N) = S := ⟨_, rfl⟩
  rw [hS] at hT ⊢
  clear hx hv hE hN hS hns
  go_enter Tryz.func126, Tryz.ntmps126
  go_wp2_with fail
  go_at_call 159
  refine hO.mono ?_
  rintro e W2 ⟨rfl, hB2⟩
  have hE2 := hE1.below hB2
  go_wp2_with fail
  go_at_call 158
  refine (hT _ hE2).mono ?_
  rintro e W3 ⟨rfl, hB3⟩
  go_wp2
  go_ret
  exact ⟨rfl, (hB0.trans (hB2.mono hB0.size)).trans (hB3.mono (Nat.le_trans hB0.size hB2.size))⟩

theorem said_last : SaidBy 127 0 (fun row ns => qA row ns 2) := by
  intro x p v row ns w hx hs hv hn hns hE
  have hl := sideB_len hs
  have hB0 := (Below.refl _ w).alloc (Nat.le_refl _) (.cells #[x, p] 31)
  obtain ⟨c0, c1⟩ := desk_box (w := w) (x := x) (p := p) (t := 31)
  obtain ⟨W1, hW1⟩ : ∃ W1, w.alloc (.cells #[x, p] 31) = W1 := ⟨_, rfl⟩
  rw [hW1] at hB0 c0 c1
  have hE1 := hE.below hB0
  have hO := implEnd x row W1 (hx.below hB0) (lies_intsQ hx hl.1) (by omega)
  have hT := fun V hV => implTold (endV row) (by have := endV_big hs; omega) V hV
  show Calls Tryz.prog _ _ w fun e w' => e = .returned (.string (str (toldI (endV row)))) ∧ Below w.heap.size w w'
  obtain ⟨N, hN⟩ : ∃ N, endV row = N := ⟨_, rfl⟩
  rw [hN] at hO hT ⊢
  obtain ⟨S, hS⟩ : ∃ S, str (toldI N) = S := ⟨_, rfl⟩
  rw [hS] at hT ⊢
  clear hx hv hE hN hS hns
  go_enter Tryz.func127, Tryz.ntmps127
  go_wp2_with fail
  go_at_call 160
  refine hO.mono ?_
  rintro e W2 ⟨rfl, hB2⟩
  have hE2 := hE1.below hB2
  go_wp2_with fail
  go_at_call 158
  refine (hT _ hE2).mono ?_
  rintro e W3 ⟨rfl, hB3⟩
  go_wp2
  go_ret
  exact ⟨rfl, (hB0.trans (hB2.mono hB0.size)).trans (hB3.mono (Nat.le_trans hB0.size hB2.size))⟩

theorem said_end : SaidBy 128 0 (fun row ns => qA row ns 3) := by
  intro x p v row ns w hx hs hv hn hns hE
  have hl := sideB_len hs
  have hB0 := (Below.refl _ w).alloc (Nat.le_refl _) (.cells #[x, p] 31)
  obtain ⟨c0, c1⟩ := desk_box (w := w) (x := x) (p := p) (t := 31)
  obtain ⟨W1, hW1⟩ : ∃ W1, w.alloc (.cells #[x, p] 31) = W1 := ⟨_, rfl⟩
  rw [hW1] at hB0 c0 c1
  have hE1 := hE.below hB0
  have hO := implEnd10 x row W1 (hx.below hB0) (lies_intsQ hx hl.1) (by omega)
  have hT := fun V hV => implTold (endI row) (by have := endI_big row; omega) V hV
  show Calls Tryz.prog _ _ w fun e w' => e = .returned (.string (str (toldI (endI row)))) ∧ Below w.heap.size w w'
  obtain ⟨N, hN⟩ : ∃ N, endI row = N := ⟨_, rfl⟩
  obtain ⟨b, hb⟩ : ∃ b, endB row = b := ⟨_, rfl⟩
  rw [hN, hb] at hO
  rw [hN] at hT ⊢
  obtain ⟨S, hS⟩ : ∃ S, str (toldI N) = S := ⟨_, rfl⟩
  rw [hS] at hT ⊢
  clear hx hv hE hN hS hb hns
  go_enter Tryz.func128, Tryz.ntmps128
  go_wp2_with fail
  go_at_call 161
  refine hO.mono ?_
  rintro e W2 ⟨rfl, hB2⟩
  have hE2 := hE1.below hB2
  go_wp2_with fail
  go_at_call 158
  refine (hT _ hE2).mono ?_
  rintro e W3 ⟨rfl, hB3⟩
  go_wp2
  go_ret
  exact ⟨rfl, (hB0.trans (hB2.mono hB0.size)).trans (hB3.mono (Nat.le_trans hB0.size hB2.size))⟩

theorem upSum_in (n : Nat) (hn : n ≤ 12) (w : World) : Calls Tryz.prog 162 #[.int .i64 n] w fun e w' => e = .returned (.int .i64 ((n * (n + 1) / 2 : Nat) : Int)) ∧ w = w' := by
  rcases (show n = 0 ∨ n = 1 ∨ n = 2 ∨ n = 3 ∨ n = 4 ∨ n = 5 ∨ n = 6 ∨ n = 7 ∨ n = 8 ∨ n = 9 ∨ n = 10 ∨ n = 11 ∨ n = 12 by omega) with rfl | rfl | rfl | rfl | rfl | rfl | rfl | rfl | rfl | rfl | rfl | rfl | rfl
  all_goals
    go_enter Tryz.func162, Tryz.ntmps162
    go_wp2
    go_ret
    exact ⟨by simp, rfl⟩

theorem half_two (n : Nat) : 2 * (n * (n + 1) / 2) = n * (n + 1) := by
  have h : n * (n + 1) % 2 = 0 := by
    rcases Nat.mod_two_eq_zero_or_one n with h | h
    · rw [Nat.mul_mod, h]; simp
    · rw [Nat.mul_mod, show (n + 1) % 2 = 0 by omega]; simp
  omega

theorem said_balanced : SaidBy 129 0 (fun row ns => qA row ns 4) := by
  intro x p v row ns w hx hs hv hn hns hE
  have hl := sideB_len hs
  have hB0 := (Below.refl _ w).alloc (Nat.le_refl _) (.cells #[x, p] 31)
  obtain ⟨c0, c1⟩ := desk_box (w := w) (x := x) (p := p) (t := 31)
  have hO := fun V (hV : Below w.heap.size w V) => implOnes x row V (hx.below hV) (lies_intsQ hx hl.1) (by omega)
  have hU := fun V => upSum_in row.length hl.2 V
  have h0 := ones_nn hs
  have h1 := onesV_big hs
  have hx2 := half_two row.length
  show Calls Tryz.prog _ _ w fun e w' => e = .returned (.string (str (if 4 * onesV row = (row.length : Int) * ((row.length : Int) + 1) then [121, 101, 115] else [110, 111]))) ∧ Below w.heap.size w w'
  obtain ⟨xa, xc, rfl⟩ := hx.shape
  obtain ⟨N, hN⟩ : ∃ N, onesV row = N := ⟨_, rfl⟩
  obtain ⟨M, hM⟩ : ∃ M, row.length * (row.length + 1) / 2 = M := ⟨_, rfl⟩
  have hMl : M ≤ 78 := by
    have : row.length * (row.length + 1) ≤ 12 * 13 := Nat.mul_le_mul hl.2 (by omega)
    omega
  have hiff : (4 * N = (row.length : Int) * ((row.length : Int) + 1)) ↔ 2 * N = (M : Int) := by
    have : ((row.length * (row.length + 1) : Nat) : Int) = (row.length : Int) * ((row.length : Int) + 1) := by simp
    rw [← this, ← hx2, hM]
    omega
  rw [hN] at hO h0 h1 ⊢
  rw [hM] at hU
  obtain ⟨L, hL⟩ : ∃ L, row.length = L := ⟨_, rfl⟩
  rw [hL] at hO hU hiff ⊢
  obtain ⟨W1, hW1⟩ : ∃ W1, w.alloc (.cells #[.slice xa L xc, p] 31) = W1 := ⟨_, rfl⟩
  rw [hL, hW1] at hB0 c0 c1
  have d0 : ∀ m : After W1, m.now.cell? ⟨w.heap.size, 0, none⟩ = some (.slice xa L xc) := fun m => (m.ok.cell (p := ⟨w.heap.size, 0, none⟩) (World.block_lt_of_cell? _ _ c0)).trans c0
  have hOq := fun m : After W1 => hO m.now (hB0.trans (m.ok.mono hB0.size))
  have hUq := fun m : After W1 => hU m.now
  have hw : IntKind.i64.wrap (2 * N) = 2 * N := IntWalk.i64_in _ (by omega)
  have hhy := hide hiff
  have hB0h := hB0
  clear hx hv hE hN hO hU hM hL hs hl hx2 hiff hns hMl c0 c1
  by_cases he : 2 * N = (M : Int)
  · have hif : (if 4 * N = (L : Int) * ((L : Int) + 1) then ([121, 101, 115] : List Nat) else [110, 111]) = [121, 101, 115] := if_pos (hhy.out.2 he)
    rw [hif]
    clear hhy hif
    go_enter Tryz.func129, Tryz.ntmps129
    go_wp2
    refine wp_region_below W1 (by kernel_rfl) (by kernel_rfl) (Below.refl _ _) ?_
    repeat (go_big_quiet_step (first | (go_at_call 159; exact after_of (hOq _)) | (go_at_call 162; exact after_of_same (hUq _))))
    refine wpQuiet_nil ?_
    rintro _ ⟨nq, rfl⟩
    go_wp2
    go_ret
    exact ⟨rfl, hB0h.trans (nq.ok.mono hB0h.size)⟩
  · have hif : (if 4 * N = (L : Int) * ((L : Int) + 1) then ([121, 101, 115] : List Nat) else [110, 111]) = [110, 111] := if_neg (fun h => he (hhy.out.1 h))
    rw [hif]
    clear hhy hif
    go_enter Tryz.func129, Tryz.ntmps129
    go_wp2
    refine wp_region_below W1 (by kernel_rfl) (by kernel_rfl) (Below.refl _ _) ?_
    repeat (go_big_quiet_step (first | (go_at_call 159; exact after_of (hOq _)) | (go_at_call 162; exact after_of_same (hUq _))))
    refine wpQuiet_nil ?_
    rintro _ ⟨nq, rfl⟩
    go_wp2
    go_ret
    exact ⟨rfl, hB0h.trans (nq.ok.mono hB0h.size)⟩

theorem said_shared : SaidBy 130 1 (fun row ns => qA row ns 5) := by
  intro x p v row ns w hx hs hv hn hns hE
  obtain ⟨a, rfl⟩ : ∃ a, ns = [a] := by
    match ns, hn with
    | [a], _ => exact ⟨a, rfl⟩
  have ha := hns a (by simp)
  have hB0 := (Below.refl _ w).alloc (Nat.le_refl _) (.cells #[x, p] 31)
  obtain ⟨W1, hW1⟩ : ∃ W1, w.alloc (.cells #[x, p] 31) = W1 := ⟨_, rfl⟩
  rw [hW1] at hB0
  have hE1 := hE.below hB0
  obtain ⟨g, cap, rfl, hg, hc⟩ : ∃ g cap, v = .slice (some ⟨g, 0, none⟩) 1 cap ∧ g < w.heap.size ∧ ∀ i, i < 1 → w.cell? ⟨g, i, none⟩ = some (.int .i64 ([a].getD i 0)) := by
    rcases hv with ⟨_, _, _, h⟩ | ⟨g, cap, rfl, h1, h2⟩
    · cases h
    · exact ⟨g, cap, rfl, h1, h2⟩
  have q0 : ∀ m : After W1, m.now.cell? ⟨g, 0, none⟩ = some (.int .i64 a) := fun m => ((hB0.trans (m.ok.mono hB0.size)).cell (p := ⟨g, 0, none⟩) hg).trans (hc 0 (by omega))
  have hO := fun m : After W1 => implSharedS a m.now
  have hT := fun m : After W1 => implTold (sharedV a) (sharedV_big a) m.now (hE1.below m.ok)
  show Calls Tryz.prog _ _ w fun e w' => e = .returned (.string (str (toldI (sharedV a)))) ∧ Below w.heap.size w w'
  obtain ⟨N, hN⟩ : ∃ N, sharedV a = N := ⟨_, rfl⟩
  rw [hN] at hT ⊢
  simp only [hN] at hO
  obtain ⟨S, hS⟩ : ∃ S, str (toldI N) = S := ⟨_, rfl⟩
  rw [hS] at hT ⊢
  clear hx hv hE hN hS hc hg hns hs hE1
  have r0 := q0 ⟨W1, Below.refl _ _⟩
  have hO1 := hO ⟨W1, Below.refl _ _⟩
  simp only at r0 hO1
  go_enter Tryz.func130, Tryz.ntmps130
  go_wp2_with fail
  go_at_call 163
  refine hO1.mono ?_
  rintro e W2 ⟨rfl, hB2⟩
  have hT2 := hT ⟨W2, hB2⟩
  simp only at hT2
  go_wp2_with fail
  go_at_call 158
  refine hT2.mono ?_
  rintro e W3 ⟨rfl, hB3⟩
  go_wp2
  go_ret
  exact ⟨rfl, (hB0.trans (hB2.mono hB0.size)).trans (hB3.mono (Nat.le_trans hB0.size hB2.size))⟩

theorem said_ways : SaidBy 131 1 (fun row ns => qA row ns 6) := by
  intro x p v row ns w hx hs hv hn hns hE
  obtain ⟨a, rfl⟩ : ∃ a, ns = [a] := by
    match ns, hn with
    | [a], _ => exact ⟨a, rfl⟩
  have ha := hns a (by simp)
  have hB0 := (Below.refl _ w).alloc (Nat.le_refl _) (.cells #[x, p] 31)
  obtain ⟨W1, hW1⟩ : ∃ W1, w.alloc (.cells #[x, p] 31) = W1 := ⟨_, rfl⟩
  rw [hW1] at hB0
  have hE1 := hE.below hB0
  obtain ⟨g, cap, rfl, hg, hc⟩ : ∃ g cap, v = .slice (some ⟨g, 0, none⟩) 1 cap ∧ g < w.heap.size ∧ ∀ i, i < 1 → w.cell? ⟨g, i, none⟩ = some (.int .i64 ([a].getD i 0)) := by
    rcases hv with ⟨_, _, _, h⟩ | ⟨g, cap, rfl, h1, h2⟩
    · cases h
    · exact ⟨g, cap, rfl, h1, h2⟩
  have q0 : ∀ m : After W1, m.now.cell? ⟨g, 0, none⟩ = some (.int .i64 a) := fun m => ((hB0.trans (m.ok.mono hB0.size)).cell (p := ⟨g, 0, none⟩) hg).trans (hc 0 (by omega))
  have hO := fun m : After W1 => implWaysOf a m.now
  have hT := fun m : After W1 => implTold (waysV a) (waysV_big a) m.now (hE1.below m.ok)
  show Calls Tryz.prog _ _ w fun e w' => e = .returned (.string (str (toldI (waysV a)))) ∧ Below w.heap.size w w'
  obtain ⟨N, hN⟩ : ∃ N, waysV a = N := ⟨_, rfl⟩
  rw [hN] at hT ⊢
  simp only [hN] at hO
  obtain ⟨S, hS⟩ : ∃ S, str (toldI N) = S := ⟨_, rfl⟩
  rw [hS] at hT ⊢
  clear hx hv hE hN hS hc hg hns hs hE1
  have r0 := q0 ⟨W1, Below.refl _ _⟩
  have hO1 := hO ⟨W1, Below.refl _ _⟩
  simp only at r0 hO1
  go_enter Tryz.func131, Tryz.ntmps131
  go_wp2_with fail
  go_at_call 164
  refine hO1.mono ?_
  rintro e W2 ⟨rfl, hB2⟩
  have hT2 := hT ⟨W2, hB2⟩
  simp only at hT2
  go_wp2_with fail
  go_at_call 158
  refine hT2.mono ?_
  rintro e W3 ⟨rfl, hB3⟩
  go_wp2
  go_ret
  exact ⟨rfl, (hB0.trans (hB2.mono hB0.size)).trans (hB3.mono (Nat.le_trans hB0.size hB2.size))⟩

theorem said_cell : SaidBy 132 2 (fun row ns => qA row ns 7) := by
  intro x p v row ns w hx hs hv hn hns hE
  obtain ⟨a, b, rfl⟩ : ∃ a b, ns = [a, b] := by
    match ns, hn with
    | [a, b], _ => exact ⟨a, b, rfl⟩
  have ha := hns a (by simp)
  have hb := hns b (by simp)
  have hB0 := (Below.refl _ w).alloc (Nat.le_refl _) (.cells #[x, p] 31)
  obtain ⟨W1, hW1⟩ : ∃ W1, w.alloc (.cells #[x, p] 31) = W1 := ⟨_, rfl⟩
  rw [hW1] at hB0
  have hE1 := hE.below hB0
  obtain ⟨g, cap, rfl, hg, hc⟩ : ∃ g cap, v = .slice (some ⟨g, 0, none⟩) 2 cap ∧ g < w.heap.size ∧ ∀ i, i < 2 → w.cell? ⟨g, i, none⟩ = some (.int .i64 ([a, b].getD i 0)) := by
    rcases hv with ⟨_, _, _, h⟩ | ⟨g, cap, rfl, h1, h2⟩
    · cases h
    · exact ⟨g, cap, rfl, h1, h2⟩
  have q0 : ∀ m : After W1, m.now.cell? ⟨g, 0, none⟩ = some (.int .i64 a) := fun m => ((hB0.trans (m.ok.mono hB0.size)).cell (p := ⟨g, 0, none⟩) hg).trans (hc 0 (by omega))
  have q1 : ∀ m : After W1, m.now.cell? ⟨g, 1, none⟩ = some (.int .i64 b) := fun m => ((hB0.trans (m.ok.mono hB0.size)).cell (p := ⟨g, 1, none⟩) hg).trans (hc 1 (by omega))
  have hO := fun m : After W1 => implCell a b m.now
  have hT := fun m : After W1 => implTold (cellV a b) (cellV_big a b) m.now (hE1.below m.ok)
  show Calls Tryz.prog _ _ w fun e w' => e = .returned (.string (str (toldI (cellV a b)))) ∧ Below w.heap.size w w'
  obtain ⟨N, hN⟩ : ∃ N, cellV a b = N := ⟨_, rfl⟩
  rw [hN] at hT ⊢
  simp only [hN] at hO
  obtain ⟨S, hS⟩ : ∃ S, str (toldI N) = S := ⟨_, rfl⟩
  rw [hS] at hT ⊢
  clear hx hv hE hN hS hc hg hns hs hE1
  go_enter Tryz.func132, Tryz.ntmps132
  go_wp2
  refine wp_region_below W1 (by kernel_rfl) (by kernel_rfl) (Below.refl _ _) ?_
  repeat (go_big_quiet_step (first | (go_at_call 63; exact after_of (hO _)) | (go_at_call 158; exact after_of (hT _))))
  refine wpQuiet_nil ?_
  rintro _ ⟨nq, rfl⟩
  go_wp2
  go_ret
  exact ⟨rfl, hB0.trans (nq.ok.mono hB0.size)⟩

theorem said_kept : SaidBy 133 2 (fun row ns => qA row ns 8) := by
  intro x p v row ns w hx hs hv hn hns hE
  obtain ⟨a, b, rfl⟩ : ∃ a b, ns = [a, b] := by
    match ns, hn with
    | [a, b], _ => exact ⟨a, b, rfl⟩
  have ha := hns a (by simp)
  have hb := hns b (by simp)
  have hB0 := (Below.refl _ w).alloc (Nat.le_refl _) (.cells #[x, p] 31)
  obtain ⟨W1, hW1⟩ : ∃ W1, w.alloc (.cells #[x, p] 31) = W1 := ⟨_, rfl⟩
  rw [hW1] at hB0
  have hE1 := hE.below hB0
  obtain ⟨g, cap, rfl, hg, hc⟩ : ∃ g cap, v = .slice (some ⟨g, 0, none⟩) 2 cap ∧ g < w.heap.size ∧ ∀ i, i < 2 → w.cell? ⟨g, i, none⟩ = some (.int .i64 ([a, b].getD i 0)) := by
    rcases hv with ⟨_, _, _, h⟩ | ⟨g, cap, rfl, h1, h2⟩
    · cases h
    · exact ⟨g, cap, rfl, h1, h2⟩
  have q0 : ∀ m : After W1, m.now.cell? ⟨g, 0, none⟩ = some (.int .i64 a) := fun m => ((hB0.trans (m.ok.mono hB0.size)).cell (p := ⟨g, 0, none⟩) hg).trans (hc 0 (by omega))
  have q1 : ∀ m : After W1, m.now.cell? ⟨g, 1, none⟩ = some (.int .i64 b) := fun m => ((hB0.trans (m.ok.mono hB0.size)).cell (p := ⟨g, 1, none⟩) hg).trans (hc 1 (by omega))
  have hO := fun m : After W1 => implLeftIn a b (by unfold Fits; omega) m.now
  have hT := fun m : After W1 => implTold (keepV a b) (keepV_big a b) m.now (hE1.below m.ok)
  show Calls Tryz.prog _ _ w fun e w' => e = .returned (.string (str (toldI (keepV a b)))) ∧ Below w.heap.size w w'
  obtain ⟨N, hN⟩ : ∃ N, keepV a b = N := ⟨_, rfl⟩
  rw [hN] at hT ⊢
  simp only [hN] at hO
  obtain ⟨S, hS⟩ : ∃ S, str (toldI N) = S := ⟨_, rfl⟩
  rw [hS] at hT ⊢
  clear hx hv hE hN hS hc hg hns hs hE1
  go_enter Tryz.func133, Tryz.ntmps133
  go_wp2
  refine wp_region_below W1 (by kernel_rfl) (by kernel_rfl) (Below.refl _ _) ?_
  repeat (go_big_quiet_step (first | (go_at_call 165; exact after_of (hO _)) | (go_at_call 158; exact after_of (hT _))))
  refine wpQuiet_nil ?_
  rintro _ ⟨nq, rfl⟩
  go_wp2
  go_ret
  exact ⟨rfl, hB0.trans (nq.ok.mono hB0.size)⟩

theorem said_left : SaidBy 134 3 (fun row ns => qA row ns 9) := by
  intro x p v row ns w hx hs hv hn hns hE
  obtain ⟨a, b, c, rfl⟩ : ∃ a b c, ns = [a, b, c] := by
    match ns, hn with
    | [a, b, c], _ => exact ⟨a, b, c, rfl⟩
  have ha := hns a (by simp)
  have hb := hns b (by simp)
  have hc := hns c (by simp)
  have hB0 := (Below.refl _ w).alloc (Nat.le_refl _) (.cells #[x, p] 31)
  obtain ⟨W1, hW1⟩ : ∃ W1, w.alloc (.cells #[x, p] 31) = W1 := ⟨_, rfl⟩
  rw [hW1] at hB0
  have hE1 := hE.below hB0
  obtain ⟨g, cap, rfl, hg, hc⟩ : ∃ g cap, v = .slice (some ⟨g, 0, none⟩) 3 cap ∧ g < w.heap.size ∧ ∀ i, i < 3 → w.cell? ⟨g, i, none⟩ = some (.int .i64 ([a, b, c].getD i 0)) := by
    rcases hv with ⟨_, _, _, h⟩ | ⟨g, cap, rfl, h1, h2⟩
    · cases h
    · exact ⟨g, cap, rfl, h1, h2⟩
  have q0 : ∀ m : After W1, m.now.cell? ⟨g, 0, none⟩ = some (.int .i64 a) := fun m => ((hB0.trans (m.ok.mono hB0.size)).cell (p := ⟨g, 0, none⟩) hg).trans (hc 0 (by omega))
  have q1 : ∀ m : After W1, m.now.cell? ⟨g, 1, none⟩ = some (.int .i64 b) := fun m => ((hB0.trans (m.ok.mono hB0.size)).cell (p := ⟨g, 1, none⟩) hg).trans (hc 1 (by omega))
  have q2 : ∀ m : After W1, m.now.cell? ⟨g, 2, none⟩ = some (.int .i64 c) := fun m => ((hB0.trans (m.ok.mono hB0.size)).cell (p := ⟨g, 2, none⟩) hg).trans (hc 2 (by omega))
  have hO := fun m : After W1 => implLeft a b c (by unfold Fits; omega) m.now
  have hT := fun m : After W1 => implTold (leftV a b c) (leftV_big a b c) m.now (hE1.below m.ok)
  show Calls Tryz.prog _ _ w fun e w' => e = .returned (.string (str (toldI (leftV a b c)))) ∧ Below w.heap.size w w'
  obtain ⟨N, hN⟩ : ∃ N, leftV a b c = N := ⟨_, rfl⟩
  rw [hN] at hT ⊢
  simp only [hN] at hO
  obtain ⟨S, hS⟩ : ∃ S, str (toldI N) = S := ⟨_, rfl⟩
  rw [hS] at hT ⊢
  clear hx hv hE hN hS hc hg hns hs hE1
  go_enter Tryz.func134, Tryz.ntmps134
  go_wp2
  refine wp_region_below W1 (by kernel_rfl) (by kernel_rfl) (Below.refl _ _) ?_
  repeat (go_big_quiet_step (first | (go_at_call 166; exact after_of (hO _)) | (go_at_call 158; exact after_of (hT _))))
  refine wpQuiet_nil ?_
  rintro _ ⟨nq, rfl⟩
  go_wp2
  go_ret
  exact ⟨rfl, hB0.trans (nq.ok.mono hB0.size)⟩

theorem said_often : SaidBy 135 3 (fun row ns => qA row ns 10) := by
  intro x p v row ns w hx hs hv hn hns hE
  obtain ⟨a, b, c, rfl⟩ : ∃ a b c, ns = [a, b, c] := by
    match ns, hn with
    | [a, b, c], _ => exact ⟨a, b, c, rfl⟩
  have ha := hns a (by simp)
  have hb := hns b (by simp)
  have hc := hns c (by simp)
  have hB0 := (Below.refl _ w).alloc (Nat.le_refl _) (.cells #[x, p] 31)
  obtain ⟨W1, hW1⟩ : ∃ W1, w.alloc (.cells #[x, p] 31) = W1 := ⟨_, rfl⟩
  rw [hW1] at hB0
  have hE1 := hE.below hB0
  obtain ⟨g, cap, rfl, hg, hc⟩ : ∃ g cap, v = .slice (some ⟨g, 0, none⟩) 3 cap ∧ g < w.heap.size ∧ ∀ i, i < 3 → w.cell? ⟨g, i, none⟩ = some (.int .i64 ([a, b, c].getD i 0)) := by
    rcases hv with ⟨_, _, _, h⟩ | ⟨g, cap, rfl, h1, h2⟩
    · cases h
    · exact ⟨g, cap, rfl, h1, h2⟩
  have q0 : ∀ m : After W1, m.now.cell? ⟨g, 0, none⟩ = some (.int .i64 a) := fun m => ((hB0.trans (m.ok.mono hB0.size)).cell (p := ⟨g, 0, none⟩) hg).trans (hc 0 (by omega))
  have q1 : ∀ m : After W1, m.now.cell? ⟨g, 1, none⟩ = some (.int .i64 b) := fun m => ((hB0.trans (m.ok.mono hB0.size)).cell (p := ⟨g, 1, none⟩) hg).trans (hc 1 (by omega))
  have q2 : ∀ m : After W1, m.now.cell? ⟨g, 2, none⟩ = some (.int .i64 c) := fun m => ((hB0.trans (m.ok.mono hB0.size)).cell (p := ⟨g, 2, none⟩) hg).trans (hc 2 (by omega))
  have hO := fun m : After W1 => implCellT a b c (by unfold Fits; omega) m.now
  have hT := fun m : After W1 => implTold (cellTV a b c) (cellTV_big a b c) m.now (hE1.below m.ok)
  show Calls Tryz.prog _ _ w fun e w' => e = .returned (.string (str (toldI (cellTV a b c)))) ∧ Below w.heap.size w w'
  obtain ⟨N, hN⟩ : ∃ N, cellTV a b c = N := ⟨_, rfl⟩
  rw [hN] at hT ⊢
  simp only [hN] at hO
  obtain ⟨S, hS⟩ : ∃ S, str (toldI N) = S := ⟨_, rfl⟩
  rw [hS] at hT ⊢
  clear hx hv hE hN hS hc hg hns hs hE1
  go_enter Tryz.func135, Tryz.ntmps135
  go_wp2
  refine wp_region_below W1 (by kernel_rfl) (by kernel_rfl) (Below.refl _ _) ?_
  repeat (go_big_quiet_step (first | (go_at_call 167; exact after_of (hO _)) | (go_at_call 158; exact after_of (hT _))))
  refine wpQuiet_nil ?_
  rintro _ ⟨nq, rfl⟩
  go_wp2
  go_ret
  exact ⟨rfl, hB0.trans (nq.ok.mono hB0.size)⟩

theorem said_carries : SaidBy 136 3 (fun row ns => qA row ns 11) := by
  intro x p v row ns w hx hs hv hn hns hE
  obtain ⟨a, b, c, rfl⟩ : ∃ a b c, ns = [a, b, c] := by
    match ns, hn with
    | [a, b, c], _ => exact ⟨a, b, c, rfl⟩
  have ha := hns a (by simp)
  have hb := hns b (by simp)
  have hc := hns c (by simp)
  have hB0 := (Below.refl _ w).alloc (Nat.le_refl _) (.cells #[x, p] 31)
  obtain ⟨W1, hW1⟩ : ∃ W1, w.alloc (.cells #[x, p] 31) = W1 := ⟨_, rfl⟩
  rw [hW1] at hB0
  have hE1 := hE.below hB0
  obtain ⟨g, cap, rfl, hg, hc⟩ : ∃ g cap, v = .slice (some ⟨g, 0, none⟩) 3 cap ∧ g < w.heap.size ∧ ∀ i, i < 3 → w.cell? ⟨g, i, none⟩ = some (.int .i64 ([a, b, c].getD i 0)) := by
    rcases hv with ⟨_, _, _, h⟩ | ⟨g, cap, rfl, h1, h2⟩
    · cases h
    · exact ⟨g, cap, rfl, h1, h2⟩
  have q0 : ∀ m : After W1, m.now.cell? ⟨g, 0, none⟩ = some (.int .i64 a) := fun m => ((hB0.trans (m.ok.mono hB0.size)).cell (p := ⟨g, 0, none⟩) hg).trans (hc 0 (by omega))
  have q1 : ∀ m : After W1, m.now.cell? ⟨g, 1, none⟩ = some (.int .i64 b) := fun m => ((hB0.trans (m.ok.mono hB0.size)).cell (p := ⟨g, 1, none⟩) hg).trans (hc 1 (by omega))
  have q2 : ∀ m : After W1, m.now.cell? ⟨g, 2, none⟩ = some (.int .i64 c) := fun m => ((hB0.trans (m.ok.mono hB0.size)).cell (p := ⟨g, 2, none⟩) hg).trans (hc 2 (by omega))
  have hO := fun m : After W1 => implCarries a b c m.now
  have hT := fun m : After W1 => implTold (carriesV a b c) (carriesV_big a b c) m.now (hE1.below m.ok)
  show Calls Tryz.prog _ _ w fun e w' => e = .returned (.string (str (toldI (carriesV a b c)))) ∧ Below w.heap.size w w'
  obtain ⟨N, hN⟩ : ∃ N, carriesV a b c = N := ⟨_, rfl⟩
  rw [hN] at hT ⊢
  simp only [hN] at hO
  obtain ⟨S, hS⟩ : ∃ S, str (toldI N) = S := ⟨_, rfl⟩
  rw [hS] at hT ⊢
  clear hx hv hE hN hS hc hg hns hs hE1
  go_enter Tryz.func136, Tryz.ntmps136
  go_wp2
  refine wp_region_below W1 (by kernel_rfl) (by kernel_rfl) (Below.refl _ _) ?_
  repeat (go_big_quiet_step (first | (go_at_call 168; exact after_of (hO _)) | (go_at_call 158; exact after_of (hT _))))
  refine wpQuiet_nil ?_
  rintro _ ⟨nq, rfl⟩
  go_wp2
  go_ret
  exact ⟨rfl, hB0.trans (nq.ok.mono hB0.size)⟩

set_option maxRecDepth 100000 in
set_option maxHeartbeats 1000000 in
theorem said_row : SaidBy 125 0 (fun row ns => qA row ns 0) := by
  intro x p v row ns w hx hs hv hn hns hE
  have hl := sideB_len hs
  have hbit := fun i (hi : i < row.length) => sideB_at hs hi
  show Calls Tryz.prog _ _ w fun e w' => e = .returned (.string (str (rowTx row))) ∧ Below w.heap.size w w'
  have hB0 := (Below.refl _ w).alloc (Nat.le_refl _) (.cells #[x, p] 31)
  obtain ⟨c0, c1⟩ := desk_box (w := w) (x := x) (p := p) (t := 31)
  have z0 := World.size_alloc w (.cells #[x, p] 31)
  obtain ⟨g, cap, rfl, hg, hc⟩ : ∃ g cap, x = .slice (some ⟨g, 0, none⟩) row.length cap ∧ g < w.heap.size ∧ ∀ i, i < row.length → w.cell? ⟨g, i, none⟩ = some (.int .i64 (row.getD i 0)) := by
    rcases hx with ⟨_, _, _, h⟩ | ⟨g, cap, rfl, h1, h2⟩
    · rw [h] at hl; simp at hl
    · exact ⟨g, cap, rfl, h1, h2⟩
  obtain ⟨N, hN⟩ : ∃ N, row.length = N := ⟨_, rfl⟩
  rw [hN] at hB0 c0 c1 z0 hc hl hbit ⊢
  obtain ⟨W1, hW1⟩ : ∃ W1, w.alloc (.cells #[.slice (some ⟨g, 0, none⟩) N cap, p] 31) = W1 := ⟨_, rfl⟩
  rw [hW1] at hB0 c0 c1 z0
  have l0 := World.block_lt_of_cell? _ _ c0
  have hB1 : Below w.heap.size w (W1.alloc (.cells #[.pointer none, .slice none 0 0] 87)) := hB0.alloc hB0.size _
  have d0 : (W1.alloc (.cells #[.pointer none, .slice none 0 0] 87)).cell? ⟨w.heap.size, 0, none⟩ = some (.slice (some ⟨g, 0, none⟩) N cap) := (((Below.refl _ W1).alloc (Nat.le_refl _) _).cell (p := ⟨w.heap.size, 0, none⟩) l0).trans c0
  have hbl0 : BldJ (W1.alloc (.cells #[.pointer none, .slice none 0 0] 87)) W1.heap.size [] := Lib.IsBuilderF.of (Lib.fresh_isBuilder _ _ W1)
  have hz1 : w.heap.size ≤ W1.heap.size := hB0.size
  obtain ⟨W2, hW2⟩ : ∃ W2, W1.alloc (.cells #[.pointer none, .slice none 0 0] 87) = W2 := ⟨_, rfl⟩
  rw [hW2] at hB1 hbl0 d0
  rw [z0] at hbl0 hz1
  have hz2 : w.heap.size + 1 ≤ W2.heap.size := by rw [← hW2, World.size_alloc]; omega
  have hall : ∀ k, k < N → rowTx (row.take (k + 1)) = rowTx (row.take k) ++ decI (row.getD k 0) := fun k hk => by
    have : row.take (k + 1) = row.take k ++ [row.getD k 0] := by
      rw [List.take_add_one, List.getElem?_eq_getElem (by omega), List.getD, List.getElem?_eq_getElem (by omega)]; rfl
    unfold rowTx
    rw [this, List.flatMap_append]
    simp
  have hlen : ∀ k, k ≤ N → (rowTx (row.take k)).length ≤ 12 := fun k hk => by
    have h1 : ∀ m, m ≤ N → (rowTx (row.take m)).length = m := fun m => by
      induction m with
      | zero => intro _; simp [rowTx]
      | succ m ih =>
        intro hm
        rw [hall m (by omega), List.length_append, ih (by omega)]
        have := hbit m (by omega)
        rcases (show row.getD m 0 = 0 ∨ row.getD m 0 = 1 by omega) with e | e <;> rw [e] <;> rfl
    rw [h1 k hk]; omega
  replace hall := hide hall
  replace hlen := hide hlen
  have hfin : rowTx (row.take N) = rowTx row := by rw [← hN, List.take_length]
  replace hfin := hide hfin
  obtain ⟨R, hR⟩ : ∃ R, rowTx row = R := ⟨_, rfl⟩
  rw [hR] at hfin ⊢
  clear hx hv c0 c1 hB0 hs hns hR hN l0
  go_enter Tryz.func125, Tryz.ntmps125
  go_wp2
  go_loopw [11] (fun p wr => ∃ k : Nat, k ≤ N ∧ p = .int .i64 k ∧ BldJ wr (w.heap.size + 1) (rowTx (row.take k)) ∧ Below w.heap.size w wr ∧ w.heap.size + 1 ≤ wr.heap.size) (fun p _ => N - (intOf p).toNat)
  case atStart => exact ⟨0, by omega, rfl, hbl0, hB1, hz2⟩
  case round =>
    clear hB1 hbl0
    obtain ⟨k, hk, rfl, hbl, hB, hBz⟩ := hrel
    by_cases hlt : k < N
    · have hki : (k : Int) < (N : Int) := by omega
      have d1 := (hB.cell (p := ⟨g, k, none⟩) hg).trans (hc k hlt)
      have hb01 := hbit k hlt
      have hst := hide (hall.out k hlt)
      have hl1 := hide (hlen.out k hk)
      obtain ⟨y, hy⟩ : ∃ y, row.getD k 0 = y := ⟨_, rfl⟩
      rw [hy] at d1 hb01 hst
      have hI := itoaBig_in y (by omega) (by omega) wr (hE.below hB)
      have hdl : (decI y).length ≤ 1 := by
        rcases (show y = 0 ∨ y = 1 by omega) with e | e <;> rw [e] <;> decide
      have hl2 : (rowTx (row.take k)).length ≤ 12 := hl1.out
      obtain ⟨X, hX⟩ : ∃ X, rowTx (row.take k) = X := ⟨_, rfl⟩
      rw [hX] at hbl hst hl2
      clear hc hall hlen hbit hy hl1
      go_wp2_with fail
      go_at_call 58
      refine hI.mono ?_
      rintro e w2 ⟨rfl, hB2⟩
      have hbl2 := hbl.below hB2
      have hBw := hB.trans (hB2.mono hB.size)
      have hz2 := hB2.size
      have hW := hbl2.str (decI y) (by omega) (by omega) (by omega)
      rw [← hst.out] at hW
      obtain ⟨S, hS⟩ : ∃ S, str (decI y) = S := ⟨_, rfl⟩
      rw [hS] at hW ⊢
      clear hI hS hdl hbl hX
      go_wp2_with fail
      go_at_call 59
      refine hW.mono ?_
      rintro e w3 ⟨rfl, hbl3, hB3⟩
      have hz3 := hB3.size
      have hBw3 := hBw.trans (hB3.mono hz1)
      go_wp2
      go_roundw
      case rel => exact ⟨k + 1, by omega, by go_num, hbl3, hBw3, by omega⟩
      case measure => simp [intOf]; omega
    · obtain rfl : k = N := by omega
      have hki : ¬ ((k : Nat) : Int) < (k : Int) := by omega
      have hW := hbl.text hBz
      rw [hfin.out] at hW
      clear hbl hc hall hlen hbit hfin
      go_wp2_with (go_at_call 61; refine hW.mono ?_; clear hW; rintro e w3 ⟨rfl, hB3⟩)
      go_ret
      exact ⟨rfl, hB.trans (hB3.mono hz1)⟩
end Go.Proofs.YtiaaefapbcjgmaaGreatDoor
namespace Go.Proofs.YtiaaefapbcjgmaaGreatDoor
open Go.RowKit

def wL (i : Nat) : List Nat := match i with
  | 0 => [102, 108, 105, 112]
  | 1 => [112, 117, 116]
  | 2 => [117, 110, 100, 101, 114]
  | 3 => [116, 117, 114, 110]
  | 4 => [114, 111, 117, 110, 100]
  | 5 => [98, 97, 99, 107]
  | _ => []

def ixL (p : List Nat) : Int := if p = wL 0 then 0 else if p = wL 1 then 1 else if p = wL 2 then 2 else if p = wL 3 then 3 else if p = wL 4 then 4 else if p = wL 5 then 5 else -1

theorem wL_byte : ((List.range 6).all fun i => (wL i).all fun c => decide (c < 256)) = true := by decide

theorem ixL_at : ((List.range 6).all fun i => decide (ixL (wL i) = i)) = true := by decide

theorem words_str : ∀ i, i < 6 → wordsA[i]? = some (.string (str (wL i)))
  | 0, _ => by kernel_rfl
  | 1, _ => by kernel_rfl
  | 2, _ => by kernel_rfl
  | 3, _ => by kernel_rfl
  | 4, _ => by kernel_rfl
  | 5, _ => by kernel_rfl
  | _ + 6, h => by omega

theorem index_in (p : List Nat) (hp : ∀ x ∈ p, x < 256) (g : Nat) (W : World) (hc : ∀ k v, wordsA[k]? = some v → W.cell? ⟨g, k, none⟩ = some v) :
    Calls Tryz.prog 92 #[.slice (some ⟨g, 0, none⟩) 6 6, .string (str p)] W fun e w' => e = .returned (.int .i64 (ixL p)) ∧ W = w' := by
  have hcw : ∀ i, i < 6 → W.cell? ⟨g, i, none⟩ = some (.string (str (wL i))) := fun i hi => hc i _ (words_str i hi)
  have hit : ∀ i, i < 6 → str p = str (wL i) → ixL p = i := fun i hi e => by
    have hb := List.all_eq_true.1 wL_byte i (List.mem_range.2 hi)
    have hx := List.all_eq_true.1 ixL_at i (List.mem_range.2 hi)
    have e2 : p = wL i := str_inj hp (fun x hx => by have := List.all_eq_true.1 hb x hx; simpa using this) (congrArg (fun b : ByteArray => b.data.toList) e)
    subst e2
    simpa using hx
  have miss : (∀ j, j < 6 → ¬ str p = str (wL j)) → ixL p = -1 := fun h => by
    have h' : ∀ j, j < 6 → ¬ p = wL j := fun j hj e => h j hj (by rw [e])
    unfold ixL
    rw [if_neg (h' 0 (by omega)), if_neg (h' 1 (by omega)), if_neg (h' 2 (by omega)), if_neg (h' 3 (by omega)), if_neg (h' 4 (by omega)), if_neg (h' 5 (by omega))]
  replace hcw := hide hcw
  replace hit := hide hit
  replace miss := hide miss
  obtain ⟨X, hX⟩ : ∃ X, str p = X := ⟨_, rfl⟩
  rw [hX] at hit miss ⊢
  obtain ⟨R, hR⟩ : ∃ R, ixL p = R := ⟨_, rfl⟩
  rw [hR] at hit miss ⊢
  clear hc hX hR hp
  go_enter Tryz.func92, Tryz.ntmps92
  go_wp2
  go_loopw [8] (fun a wr => ∃ i : Nat, i ≤ 6 ∧ a = .int .i64 i ∧ wr = W ∧ Hid (∀ j, j < i → ¬ X = str (wL j))) (fun a _ => 6 - (intOf a).toNat)
  case atStart => exact ⟨0, by omega, rfl, rfl, hide fun j hj => absurd hj (Nat.not_lt_zero j)⟩
  case round =>
    obtain ⟨i, hi, rfl, rfl, hno⟩ := hrel
    by_cases hlt : i < 6
    · have hlti : (i : Int) < 6 := by omega
      have hcell := hcw.out i hlt
      obtain ⟨Y, hY⟩ : ∃ Y, str (wL i) = Y := ⟨_, rfl⟩
      rw [hY] at hcell
      by_cases e : X = Y
      · have hr := hit.out i hlt (e.trans hY.symm)
        subst e
        subst hr
        go_wp2
        go_ret
        exact ⟨rfl, rfl⟩
      · have hne := (Lib.bytes_beq_false_iff X Y).2 e
        have hno' := hide (show ∀ j, j < i + 1 → ¬ X = str (wL j) from fun j hj => by
          rcases Nat.lt_or_ge j i with h | h
          · exact hno.out j h
          · obtain rfl : j = i := by omega
            rw [hY]; exact e)
        clear hno
        go_wp2
        go_roundw
        case rel => exact ⟨i + 1, by omega, by go_num, trivial, hno'⟩
        case measure => simp [intOf]; omega
    · obtain rfl : i = 6 := by omega
      have hr := miss.out hno.out
      subst hr
      go_wp2
      go_ret
      exact ⟨rfl, rfl⟩

/-- What ReadDeed finds of a text: the kind by the word, the number behind it. -/
def okR (i : Nat) : Bool :=
  let a := nthD i
  let r := rlV (deedT a.1 a.2)
  decide (ixL r.1 = a.1 ∧ r.2.headD 0 = a.2)

set_option maxRecDepth 100000 in
theorem okR_all : ((List.range 114).all okR) = true := by decide +kernel

theorem okR_of {l : List Nat} {a : Int × Int} (h : readD l = some a) : ixL (rlV l).1 = a.1 ∧ (rlV l).2.headD 0 = a.2 := by
  obtain ⟨h1, h2⟩ := readD_text h
  subst h2
  obtain ⟨i, hi, he⟩ := isD_nth (deedT_is h1)
  have h3 := List.all_eq_true.1 okR_all i (List.mem_range.2 hi)
  unfold okR at h3
  rw [he] at h3
  simpa using h3

theorem rdv_none {l : List Nat} (h : ixL (rlV l).1 < 0) : rdV l = ((0, 0), false) := by
  unfold rdV
  cases hr : readD l with
  | none => rfl
  | some a =>
    have := (okR_of hr).1
    obtain ⟨h3, h4⟩ := readD_text hr
    rw [← h4] at h3
    have h5 := deedT_is h3
    unfold isD at h5
    omega

theorem rdv_other {l : List Nat} (h : ¬ deedT (ixL (rlV l).1) ((rlV l).2.headD 0) = l) : rdV l = ((0, 0), false) := by
  unfold rdV
  cases hr : readD l with
  | none => rfl
  | some a =>
    obtain ⟨h1, h2⟩ := okR_of hr
    rw [h1, h2] at h
    exact absurd (readD_text hr).2 h

theorem rdv_this {l : List Nat} (h0 : 0 ≤ ixL (rlV l).1) (h : deedT (ixL (rlV l).1) ((rlV l).2.headD 0) = l) : rdV l = ((ixL (rlV l).1, (rlV l).2.headD 0), true) := by
  unfold rdV
  have hne : l ≠ [] := fun e => by
    subst e
    revert h0
    decide
  have h2 := read_of_text (k := ixL (rlV l).1) (n := (rlV l).2.headD 0) (by rw [h]; exact hne)
  rw [h] at h2
  rw [h2]

theorem numsL_le : ∀ (ps : List (List Nat)) (ns : List Int), numsL ps = some ns → ∀ x ∈ ns, 0 ≤ x ∧ x ≤ 999999999
  | [], ns, h, x, hx => by
    rw [numsL] at h
    injection h with h
    subst h
    cases hx
  | p :: r, ns, h, x, hx => by
    rw [numsL_cons] at h
    cases hd : digT p with
    | none => rw [hd] at h; cases h
    | some m =>
      rw [hd] at h
      simp only at h
      cases hr : numsL r with
      | none => rw [hr] at h; cases h
      | some ms =>
        rw [hr] at h
        injection h with h
        subst h
        rcases List.mem_cons.1 hx with rfl | hx
        · have := (dig_is hd).1; omega
        · exact numsL_le r ms hr x hx

theorem rl_le (l : List Nat) : ∀ x ∈ (rlV l).2, 0 ≤ x ∧ x ≤ 999999999 := by
  unfold rlV
  cases h : numsL (cutT 32 l).tail with
  | none => intro x hx; cases hx
  | some ns => exact numsL_le _ ns h

theorem rl_byte (l : List Nat) (hl : ∀ x ∈ l, x < 256) : ∀ x ∈ (rlV l).1, x < 256 := by
  unfold rlV
  cases h : numsL (cutT 32 l).tail with
  | none => intro x hx; cases hx
  | some ns =>
    intro x hx
    have := cutL_mem 32 l [] ((cutT 32 l).getD 0 []) (word_mem _ 0 (cutL_pos 32 l []))
    exact hl x ((this.1 x hx).resolve_left (by simp))

theorem ixL_le (p : List Nat) : -1 ≤ ixL p ∧ ixL p ≤ 5 := by
  unfold ixL
  repeat' split
  all_goals omega
end Go.Proofs.YtiaaefapbcjgmaaGreatDoor
namespace Go.Proofs.YtiaaefapbcjgmaaGreatDoor
open Go.RowKit

theorem ints_first {w : World} {base : Nat} {v : Value} {xs : List Int} (h : w.ownsRow base 3 1 v xs.length (xs.map (Value.int .i64))) :
    (xs = [] ∧ ∃ a c, v = .slice a 0 c) ∨ (∃ g c n, xs ≠ [] ∧ v = .slice (some ⟨g, 0, none⟩) (n + 1) c ∧ xs.length = n + 1 ∧ base ≤ g ∧ w.cell? ⟨g, 0, none⟩ = some (.int .i64 (xs.headD 0))) := by
  cases xs with
  | nil =>
    rcases h.2 with ⟨rfl, _⟩ | ⟨g, cap, cur, rfl, _⟩
    · exact .inl ⟨rfl, _, _, rfl⟩
    · exact .inl ⟨rfl, _, _, rfl⟩
  | cons x xs =>
    rcases h.2 with ⟨_, h0⟩ | ⟨g, cap, cur, rfl, hb, hk, hn, hm, hs, hx⟩
    · simp at h0
    · refine .inr ⟨g, cap, xs.length, by simp, rfl, by simp, hb, ?_⟩
      have h0 := congrArg (fun q : List Value => q[0]?) hx
      simp at h0
      simp [World.cell?, hk, h0]

theorem cr_blockD {W : World} {b : Nat} {cur : Array Value} {t : TypeId} (h : W.heap[b]? = some (.cells cur t (0, 0))) (p : Nat) (v : Value) : (W.setCell ⟨b, p, none⟩ v).heap[b]? = some (.cells (cur.setIfInBounds p v) t (0, 0)) := by
  obtain ⟨hlt, hk⟩ := Array.getElem?_eq_some_iff.1 h
  show (W.heap.modify b _)[b]? = _
  rw [Array.getElem?_eq_getElem (by rw [Array.size_modify]; exact hlt), Array.getElem_modify_self, hk]; rfl

set_option maxRecDepth 100000 in
set_option maxHeartbeats 2000000 in
theorem implReadDeed (l : List Nat) (hl : ∀ x ∈ l, x < 256) (hn : l.length ≤ 1100000) (w : World) (hE : Env w) : Calls Tryz.prog 46 #[.string (str l)] w fun e w' => e = .returned (.tuple #[dV (rdV l).1.1 (rdV l).1.2, .bool (rdV l).2]) ∧ Below w.heap.size w w' := by
  have hR := fun V hV => readLine_in l hl hn V hV
  have hI := fun g W hc => index_in (rlV l).1 (rl_byte l hl) g W hc
  have h1 := rdv_none (l := l)
  have h2 := rdv_other (l := l)
  have h3 := rdv_this (l := l)
  have hle := ixL_le (rlV l).1
  have hns := rl_le l
  obtain ⟨⟨p, xs⟩, hr⟩ : ∃ r, rlV l = r := ⟨_, rfl⟩
  rw [hr] at hR hI h1 h2 h3 hle hns
  simp only at hR hI h1 h2 h3 hle hns
  obtain ⟨K, hK⟩ : ∃ K, ixL p = K := ⟨_, rfl⟩
  rw [hK] at hI h1 h2 h3 hle
  have hNb : 0 ≤ xs.headD 0 ∧ xs.headD 0 ≤ 999999999 := by
    cases xs with
    | nil => exact ⟨by decide, by decide⟩
    | cons x xs => exact hns x (by simp)
  have hT := fun V => implDeedText K (xs.headD 0) ⟨by omega, by omega⟩ ⟨by omega, by omega⟩ V
  have hcmp : ((str (deedT K (xs.headD 0))).toList == (str l).toList) = decide (deedT K (xs.headD 0) = l) := by
    rw [Bool.eq_iff_iff, beq_iff_eq, decide_eq_true_eq, str_toList, str_toList]
    exact ⟨fun e => str_inj (fun x hx => (deed_byte _ _ x hx).1) hl e, fun e => by rw [e]⟩
  obtain ⟨P, hP⟩ : ∃ P, str p = P := ⟨_, rfl⟩
  obtain ⟨S, hS⟩ : ∃ S, str l = S := ⟨_, rfl⟩
  rw [hS] at hR hcmp ⊢
  rw [hP] at hR hI
  clear hr hK hP hS hns hl hn
  have hB0 : Below w.heap.size w (w.alloc (.cells #[.int .i64 0, .int .i64 0] 39)) := (Below.refl _ w).alloc (Nat.le_refl _) _
  have hres0 := World.alloc_heap_new w (.cells #[.int .i64 0, .int .i64 0] 39)
  have hsz0 := World.size_alloc w (.cells #[.int .i64 0, .int .i64 0] 39)
  have hE0 := hE.below hB0
  obtain ⟨W0, hW0⟩ : ∃ W0, w.alloc (.cells #[.int .i64 0, .int .i64 0] 39) = W0 := ⟨_, rfl⟩
  rw [hW0] at hB0 hres0 hsz0 hE0
  have hres : ∀ W, Below W0.heap.size W0 W → W.heap[w.heap.size]? = some (.cells #[.int .i64 0, .int .i64 0] 39 (0, 0)) := fun W hW => (hW.block _ (by omega)).trans hres0
  replace hres := hide hres
  have hk : K < 0 ∨ 0 ≤ K := by omega
  rcases hk with hk | hk
  · have hrd := hide (h1 hk)
    clear h1 h2 h3 hT hcmp hNb
    go_enter Tryz.func46, Tryz.ntmps46
    go_wp2_with (first
      | (go_at_call 91; refine (hR _ hE0).mono ?_; clear hR; rintro e w1 ⟨v, rfl, hown, hB1⟩)
      | (go_at_call 57; refine (words_at _).mono ?_; go_loud (rintro e w2 ⟨rfl, hwk, hB2⟩; have hB12 := hB1.trans (hB2.mono hB1.size); have hI2 := hI _ _ hwk; have hr8 := hres.out _ hB12; have d0 : w2.cell? ⟨w.heap.size, 0, none⟩ = some (.int .i64 0) := (by simp [World.cell?, hr8]); have d1 : w2.cell? ⟨w.heap.size, 1, none⟩ = some (.int .i64 0) := (by simp [World.cell?, hr8]); have f0 : w2.frozen? ⟨w.heap.size, 0, none⟩ = false := (by simp [World.frozen?, hr8]); have f1 : w2.frozen? ⟨w.heap.size, 1, none⟩ = false := (by simp [World.frozen?, hr8]); clear hI hwk))
      | (go_at_call 92; refine hI2.mono ?_; clear hI2; rintro e w3 ⟨rfl, rfl⟩))
    have hset := deed_set hr8 0 0
    refine bodyPost_ret (results_deed rfl _ _ w.heap.size 0 0 rfl hset) rfl ⟨by rw [hrd.out]; rfl, ?_⟩
    exact (((hB0.trans (hB12.mono hB0.size)).setCell (p := ⟨w.heap.size, 0, none⟩) (Nat.le_refl _) _).setCell (p := ⟨w.heap.size, 1, none⟩) (Nat.le_refl _) _)
  · obtain ⟨DT, hDT⟩ : ∃ DT, str (deedT K (xs.headD 0)) = DT := ⟨_, rfl⟩
    obtain ⟨N, hN⟩ : ∃ N, xs.headD 0 = N := ⟨_, rfl⟩
    rw [hN] at h2 h3 hT hcmp hDT
    rw [hDT] at hT hcmp
    unfold dV at hT
    have hk1 : ¬ K < 0 := by omega
    have hfin : Hid (rdV l = if deedT K N = l then ((K, N), true) else ((0, 0), false)) := by
      by_cases e : deedT K N = l
      · rw [if_pos e]; exact hide (h3 hk e)
      · rw [if_neg e]; exact hide (h2 e)
    have hfirst := fun (W : World) (v : Value) (h : W.ownsRow W0.heap.size 3 1 v xs.length (xs.map (Value.int .i64))) => ints_first h
    rw [hN] at hfirst
    have hNx : xs = [] → N = 0 := fun e => by rw [← hN, e]; rfl
    clear h1 h2 h3 hDT hNb hN
    go_enter Tryz.func46, Tryz.ntmps46
    go_wp2_with (go_at_call 91; refine (hR _ hE0).mono ?_; clear hR)
    intro e w1 v he hown hB1
    subst he
    rw [← hsz0] at hown hB1
    have hf := hfirst _ _ hown
    clear hfirst hown
    rcases hf with ⟨hx0, a0, c0, rfl⟩ | ⟨g, c0, n0, hx0, rfl, hx1, hg, hcell⟩
    · have hN0 := hNx hx0
      subst hx0
      subst hN0
      go_wp2_with (first
        | (go_at_call 57; refine (words_at _).mono ?_; go_loud (rintro e w2 ⟨rfl, hwk, hB2⟩; have hB12 := hB1.trans (hB2.mono hB1.size); have hI2 := hI _ _ hwk; clear hI hwk))
        | (go_at_call 92; refine hI2.mono ?_; clear hI2; rintro e w3 ⟨rfl, rfl⟩)
        | (go_at_call 15; refine (hT _).mono ?_; clear hT))
      rintro e w4 ⟨rfl, hB4⟩
      have hbx := World.alloc_heap_new w2 (.cells #[.int .i64 K, .int .i64 0] 39)
      have hbs := World.size_alloc w2 (.cells #[.int .i64 K, .int .i64 0] 39)
      have hBb : Below W0.heap.size W0 (w2.alloc (.cells #[.int .i64 K, .int .i64 0] 39)) := hB12.alloc hB12.size _
      have hBb4 := hBb.trans (hB4.mono hBb.size)
      have hbx4 := (hB4.block _ (by omega)).trans hbx
      obtain ⟨b, hb⟩ : ∃ b, w2.heap.size = b := ⟨_, rfl⟩
      rw [hb] at hbx4 ⊢
      clear hbx hbs hBb hB4 hb
      have hr8 := hres.out _ hBb4
      have d0 : w4.cell? ⟨w.heap.size, 0, none⟩ = some (.int .i64 0) := (by simp [World.cell?, hr8])
      have d1 : w4.cell? ⟨w.heap.size, 1, none⟩ = some (.int .i64 0) := (by simp [World.cell?, hr8])
      have f0 : w4.frozen? ⟨w.heap.size, 0, none⟩ = false := (by simp [World.frozen?, hr8])
      have f1 : w4.frozen? ⟨w.heap.size, 1, none⟩ = false := (by simp [World.frozen?, hr8])
      have b0 : w4.cell? ⟨b, 0, none⟩ = some (.int .i64 K) := (by simp [World.cell?, hbx4])
      have b1 : w4.cell? ⟨b, 1, none⟩ = some (.int .i64 0) := (by simp [World.cell?, hbx4])
      by_cases he : deedT K 0 = l
      · have hfin' := hfin.out
        rw [if_pos he] at hfin'
        rw [decide_eq_true he] at hcmp
        replace hfin' := hide hfin'
        clear hfin
        go_wp2
        have hset := deed_set hr8 K 0
        refine bodyPost_ret (results_deed rfl _ _ w.heap.size K 0 rfl hset) rfl ⟨by rw [hfin'.out]; rfl, ?_⟩
        exact (((hB0.trans (hBb4.mono hB0.size)).setCell (p := ⟨w.heap.size, 0, none⟩) (Nat.le_refl _) _).setCell (p := ⟨w.heap.size, 1, none⟩) (Nat.le_refl _) _)
      · have hfin' := hfin.out
        rw [if_neg he] at hfin'
        rw [decide_eq_false he] at hcmp
        replace hfin' := hide hfin'
        clear hfin
        go_wp2
        have hset := deed_set hr8 0 0
        refine bodyPost_ret (results_deed rfl _ _ w.heap.size 0 0 rfl hset) rfl ⟨by rw [hfin'.out]; rfl, ?_⟩
        exact (((hB0.trans (hBb4.mono hB0.size)).setCell (p := ⟨w.heap.size, 0, none⟩) (Nat.le_refl _) _).setCell (p := ⟨w.heap.size, 1, none⟩) (Nat.le_refl _) _)
    · go_wp2_with (first
        | (go_at_call 57; refine (words_at _).mono ?_)
        | (go_at_call 92; refine hI2.mono ?_; clear hI2; rintro e w3 ⟨rfl, rfl⟩)
        | (go_at_call 15; refine (hT _).mono ?_; clear hT))
      rintro e w2 ⟨rfl, hwk, hB2⟩
      have hB12 := hB1.trans (hB2.mono hB1.size)
      have hI2 := hI _ _ hwk
      have hg2 := World.block_lt_of_cell? w1 _ hcell
      have hcell2 := (hB2.cell (p := ⟨g, 0, none⟩) hg2).trans hcell
      have hsz2 := hB2.size
      have hbx := World.alloc_heap_new w2 (.cells #[.int .i64 K, .int .i64 0] 39)
      have hbs := World.size_alloc w2 (.cells #[.int .i64 K, .int .i64 0] 39)
      have hBb : Below W0.heap.size W0 (w2.alloc (.cells #[.int .i64 K, .int .i64 0] 39)) := hB12.alloc hB12.size _
      have hcell3 : (w2.alloc (.cells #[.int .i64 K, .int .i64 0] 39)).cell? ⟨g, 0, none⟩ = some (.int .i64 N) := (((Below.refl w2.heap.size w2).alloc (Nat.le_refl _) _).cell (p := ⟨g, 0, none⟩) (Nat.lt_of_lt_of_le hg2 hsz2)).trans hcell2
      have hbsz := hB12.size
      obtain ⟨b, hb⟩ : ∃ b, w2.heap.size = b := ⟨_, rfl⟩
      obtain ⟨W3, hW3⟩ : ∃ W3, w2.alloc (.cells #[.int .i64 K, .int .i64 0] 39) = W3 := ⟨_, rfl⟩
      rw [hW3] at hbx hbs hBb hcell3
      rw [hb] at hbx hbs hbsz hsz2
      have e0 : W3.cell? ⟨b, 0, none⟩ = some (.int .i64 K) := (by simp [World.cell?, hbx])
      have e1 : W3.cell? ⟨b, 1, none⟩ = some (.int .i64 0) := (by simp [World.cell?, hbx])
      have g0 : W3.frozen? ⟨b, 0, none⟩ = false := (by simp [World.frozen?, hbx])
      have g1 : W3.frozen? ⟨b, 1, none⟩ = false := (by simp [World.frozen?, hbx])
      have hbx6 : (W3.setCell ⟨b, 1, none⟩ (.int .i64 0)).heap[b]? = some (.cells #[.int .i64 K, .int .i64 0] 39 (0, 0)) := cr_blockD hbx 1 _
      have hBb6 : Below W0.heap.size W0 (W3.setCell ⟨b, 1, none⟩ (.int .i64 0)) := hBb.setCell (p := ⟨b, 1, none⟩) hbsz _
      obtain ⟨W6, hW6⟩ : ∃ W6, W3.setCell ⟨b, 1, none⟩ (.int .i64 0) = W6 := ⟨_, rfl⟩
      rw [hW6] at hbx6 hBb6
      have j0 : W6.cell? ⟨b, 0, none⟩ = some (.int .i64 K) := (by simp [World.cell?, hbx6])
      have j1 : W6.cell? ⟨b, 1, none⟩ = some (.int .i64 0) := (by simp [World.cell?, hbx6])
      have k0 : W6.frozen? ⟨b, 0, none⟩ = false := (by simp [World.frozen?, hbx6])
      have k1 : W6.frozen? ⟨b, 1, none⟩ = false := (by simp [World.frozen?, hbx6])
      have hgb : g ≠ b := by have : g < w1.heap.size := hg2; omega
      have hcell6 : W6.cell? ⟨g, 0, none⟩ = some (.int .i64 N) := by
        rw [← hW6]
        exact (World.cell?_of_block (Below.heap_setCell W3 ⟨b, 1, none⟩ _ g hgb)).trans hcell3
      have hbx5 : (W6.setCell ⟨b, 1, none⟩ (.int .i64 N)).heap[b]? = some (.cells #[.int .i64 K, .int .i64 N] 39 (0, 0)) := cr_blockD hbx6 1 _
      have hB5 : Below W0.heap.size W0 (W6.setCell ⟨b, 1, none⟩ (.int .i64 N)) := hBb6.setCell (p := ⟨b, 1, none⟩) hbsz _
      obtain ⟨W5, hW5⟩ : ∃ W5, W6.setCell ⟨b, 1, none⟩ (.int .i64 N) = W5 := ⟨_, rfl⟩
      rw [hW5] at hbx5 hB5
      have i0 : W5.cell? ⟨b, 0, none⟩ = some (.int .i64 K) := (by simp [World.cell?, hbx5])
      have i1 : W5.cell? ⟨b, 1, none⟩ = some (.int .i64 N) := (by simp [World.cell?, hbx5])
      clear hwk hI hcell hcell2 hg2 hsz2 hbs hBb hBb6
      go_wp2_with (first
        | (go_at_call 92; refine hI2.mono ?_; clear hI2; rintro e w3 ⟨rfl, rfl⟩)
        | (go_at_call 15; refine (hT _).mono ?_; clear hT))
      rintro e w4 ⟨rfl, hB4⟩
      have hb5 := (Array.getElem?_eq_some_iff.1 hbx5).1
      have hBb4 := hB5.trans (hB4.mono hB5.size)
      have hbx4 := (hB4.block _ hb5).trans hbx5
      clear hbx hB5 hB4 e0 e1 g0 g1 i0 i1 hcell3 hbx5 j0 j1 k0 k1 hcell6 hbx6
      have hr8 := hres.out _ hBb4
      have d0 : w4.cell? ⟨w.heap.size, 0, none⟩ = some (.int .i64 0) := (by simp [World.cell?, hr8])
      have d1 : w4.cell? ⟨w.heap.size, 1, none⟩ = some (.int .i64 0) := (by simp [World.cell?, hr8])
      have f0 : w4.frozen? ⟨w.heap.size, 0, none⟩ = false := (by simp [World.frozen?, hr8])
      have f1 : w4.frozen? ⟨w.heap.size, 1, none⟩ = false := (by simp [World.frozen?, hr8])
      have b0 : w4.cell? ⟨b, 0, none⟩ = some (.int .i64 K) := (by simp [World.cell?, hbx4])
      have b1 : w4.cell? ⟨b, 1, none⟩ = some (.int .i64 N) := (by simp [World.cell?, hbx4])
      by_cases he : deedT K N = l
      · have hfin' := hfin.out
        rw [if_pos he] at hfin'
        rw [decide_eq_true he] at hcmp
        replace hfin' := hide hfin'
        clear hfin
        go_wp2
        have hset := deed_set hr8 K N
        refine bodyPost_ret (results_deed rfl _ _ w.heap.size K N rfl hset) rfl ⟨by rw [hfin'.out]; rfl, ?_⟩
        exact (((hB0.trans (hBb4.mono hB0.size)).setCell (p := ⟨w.heap.size, 0, none⟩) (Nat.le_refl _) _).setCell (p := ⟨w.heap.size, 1, none⟩) (Nat.le_refl _) _)
      · have hfin' := hfin.out
        rw [if_neg he] at hfin'
        rw [decide_eq_false he] at hcmp
        replace hfin' := hide hfin'
        clear hfin
        go_wp2
        have hset := deed_set hr8 0 0
        refine bodyPost_ret (results_deed rfl _ _ w.heap.size 0 0 rfl hset) rfl ⟨by rw [hfin'.out]; rfl, ?_⟩
        exact (((hB0.trans (hBb4.mono hB0.size)).setCell (p := ⟨w.heap.size, 0, none⟩) (Nat.le_refl _) _).setCell (p := ⟨w.heap.size, 1, none⟩) (Nat.le_refl _) _)
end Go.Proofs.YtiaaefapbcjgmaaGreatDoor
namespace Go.Proofs.YtiaaefapbcjgmaaGreatDoor
open Go.RowKit

theorem rl_len (l : List Nat) : (rlV l).1.length ≤ l.length := by
  unfold rlV
  split
  · simp
  · have hpos := cutL_pos 32 l []
    have := cutL_mem 32 l [] ((cutT 32 l).getD 0 []) (word_mem _ 0 hpos)
    exact Nat.le_trans this.2 (by simp)

theorem nums_le : ∀ {p : List (List Nat)} {ns : List Int}, numsL p = some ns → ∀ n ∈ ns, 0 ≤ n ∧ n ≤ 999999999
  | [], ns, h, n, hn => by cases h; simp at hn
  | w :: r, ns, h, n, hn => by
    rw [numsL] at h
    split at h
    · cases h
    · rename_i m hm
      split at h
      · cases h
      · rename_i ms h2
        cases h
        rcases List.mem_cons.1 hn with rfl | hn
        · have := (dig_is hm).1; omega
        · exact nums_le h2 n hn

theorem rl_nums (l : List Nat) : ∀ n ∈ (rlV l).2, 0 ≤ n ∧ n ≤ 999999999 := by
  unfold rlV
  split
  · simp
  · rename_i ns h
    exact nums_le h

theorem said_all : ∀ i, i < 12 → SaidBy (qF i) (qC i) (fun row ns => qA row ns i)
  | 0, _ => said_row
  | 1, _ => said_ones
  | 2, _ => said_last
  | 3, _ => said_end
  | 4, _ => said_balanced
  | 5, _ => said_shared
  | 6, _ => said_ways
  | 7, _ => said_cell
  | 8, _ => said_kept
  | 9, _ => said_left
  | 10, _ => said_often
  | 11, _ => said_carries
  | _ + 12, h => by omega

set_option maxRecDepth 100000 in
set_option maxHeartbeats 4000000 in
theorem answered_in (x p : Value) (row : List Int) (l : List Nat) (w : World) (hx : Ints w x row) (hs : sideB row = true) (hl : ∀ c ∈ l, c < 256) (hn : l.length ≤ 1100000) (hE : Env w) :
    Calls Tryz.prog 53 #[.agg #[x, p], .string (str l)] w fun e w' => e = .returned (.string (str (ansV row l))) ∧ Below w.heap.size w w' := by
  have hB0 := (Below.refl _ w).alloc (Nat.le_refl _) (.cells #[x, p] 31)
  obtain ⟨c0, c1⟩ := desk_box (w := w) (x := x) (p := p) (t := 31)
  obtain ⟨W1, hW1⟩ : ∃ W1, w.alloc (.cells #[x, p] 31) = W1 := ⟨_, rfl⟩
  rw [hW1] at hB0 c0 c1
  have hb0 : w.heap.size < W1.heap.size := World.block_lt_of_cell? _ _ c0
  have hE1 := hE.below hB0
  have hx1 := hx.below hB0
  have hRl := readLine_in l hl hn W1 hE1
  have hwb := rl_byte l hl
  have hwl := rl_len l
  have hns := rl_nums l
  unfold ansV
  obtain ⟨⟨Wd, ns⟩, hr⟩ : ∃ r, rlV l = r := ⟨_, rfl⟩
  rw [hr] at hRl hwb hwl hns ⊢
  simp only at hRl hwb hwl hns ⊢
  obtain ⟨LS, hLS⟩ : ∃ LS, str l = LS := ⟨_, rfl⟩
  rw [hLS] at hRl ⊢
  obtain ⟨OUT, hO⟩ : ∃ O, (if qI Wd < 12 ∧ ns.length = qC (qI Wd) then qA row ns (qI Wd) else whatT) = O := ⟨_, rfl⟩
  rw [hO]
  replace hO := hide hO
  clear hx hr hLS hE
  go_enter Tryz.func53, Tryz.ntmps53
  go_wp2_with fail
  go_at_call 91
  refine hRl.mono ?_
  rintro e W2 ⟨v, rfl, hown, hB2⟩
  have hI2 := Ints.of_owns hown
  obtain ⟨va, vc, rfl⟩ := own_form hown
  clear hRl hown
  go_wp2_with fail
  go_at_call 97
  refine (questions_in _).mono ?_
  rintro e W3 ⟨rfl, hQ, hB3⟩
  obtain ⟨qv, hlook, hv1, hv2⟩ := qLook hQ Wd hwb (by omega)
  have hB13 := hB2.trans (hB3.mono hB2.size)
  have hI3 := hI2.below hB3
  clear hQ hwb hwl hI2
  obtain ⟨XW, hXW⟩ : ∃ XW, str Wd = XW := ⟨_, rfl⟩
  rw [hXW] at hlook ⊢
  by_cases hq : qI Wd < 12
  · obtain rfl := hv1 hq
    rw [decide_eq_true hq] at hlook
    obtain ⟨i, hi⟩ : ∃ i, qI Wd = i := ⟨_, rfl⟩
    rw [hi] at hq hlook
    have hO1 : ns.length = qC i → OUT = qA row ns i := fun h => by rw [← hO.out, hi, if_pos ⟨hq, h⟩]
    have hO2 : ¬ ns.length = qC i → OUT = whatT := fun h => by rw [← hO.out, hi, if_neg (fun e => h e.2)]
    replace hO1 := hide hO1
    replace hO2 := hide hO2
    clear hv1 hv2 hi hXW hO
    have hB14 := hB13.alloc hB13.size (.cells #[.int .i64 (qC i : Nat), .func (.func (qF i)) #[] #[]] 121)
    have kq := World.alloc_heap_new W3 (.cells #[.int .i64 (qC i : Nat), .func (.func (qF i)) #[] #[]] 121)
    have hB34 := (Below.refl _ W3).alloc (Nat.le_refl _) (.cells #[.int .i64 (qC i : Nat), .func (.func (qF i)) #[] #[]] 121)
    by_cases hc : ns.length = qC i
    · have hS := said_all i hq x p (.slice va ns.length vc) row ns (W3.alloc (.cells #[.int .i64 (qC i : Nat), .func (.func (qF i)) #[] #[]] 121)) (hx1.below hB14) hs (hI3.below hB34) hc hns (hE1.below hB14)
      have hOe := hide (hO1.out hc)
      rw [hc] at hS ⊢
      rcases (show i = 0 ∨ i = 1 ∨ i = 2 ∨ i = 3 ∨ i = 4 ∨ i = 5 ∨ i = 6 ∨ i = 7 ∨ i = 8 ∨ i = 9 ∨ i = 10 ∨ i = 11 by omega) with rfl | rfl | rfl | rfl | rfl | rfl | rfl | rfl | rfl | rfl | rfl | rfl
      · have e1 : qV 0 = .agg #[.int .i64 0, .func (.func 125) #[] #[]] := rfl
        have e2 : (((qC 0 : Nat) : Int)) = 0 := rfl
        have e3 : qF 0 = 125 := rfl
        have e4 : qC 0 = 0 := rfl
        rw [e1] at hlook
        simp only [e2, e3] at hS kq hB14 hB34
        rw [e4] at hS ⊢
        obtain ⟨W4, hW4⟩ : ∃ W4, W3.alloc (.cells #[.int .i64 0, .func (.func 125) #[] #[]] 121) = W4 := ⟨_, rfl⟩
        rw [hW4] at hS kq hB14 hB34
        have d0 := (hB14.cell (p := ⟨w.heap.size, 0, none⟩) hb0).trans c0
        have d1 := (hB14.cell (p := ⟨w.heap.size, 1, none⟩) hb0).trans c1
        obtain ⟨m0, m1, _, _⟩ := row_at kq
        have hBf := hB0.trans (hB14.mono hB0.size)
        obtain ⟨R, hR⟩ : ∃ R, str (qA row ns 0) = R := ⟨_, rfl⟩
        rw [hR] at hS
        have hRe := hide (show str OUT = R by rw [hOe.out, hR])
        clear hO1 hO2 hOe hB0 hx1 hE1 hB2 hB3 hB13 hB14 hB34 hI3 c0 c1 kq hR e1 e2 e3 e4 hs hns hc
        go_wp2_with (go_at_call 125; refine hS.mono ?_; clear hS; rintro e W5 ⟨rfl, hB5⟩)
        go_ret
        exact ⟨by rw [hRe.out]; rfl, hBf.trans (hB5.mono hBf.size)⟩
      · have e1 : qV 1 = .agg #[.int .i64 0, .func (.func 126) #[] #[]] := rfl
        have e2 : (((qC 1 : Nat) : Int)) = 0 := rfl
        have e3 : qF 1 = 126 := rfl
        have e4 : qC 1 = 0 := rfl
        rw [e1] at hlook
        simp only [e2, e3] at hS kq hB14 hB34
        rw [e4] at hS ⊢
        obtain ⟨W4, hW4⟩ : ∃ W4, W3.alloc (.cells #[.int .i64 0, .func (.func 126) #[] #[]] 121) = W4 := ⟨_, rfl⟩
        rw [hW4] at hS kq hB14 hB34
        have d0 := (hB14.cell (p := ⟨w.heap.size, 0, none⟩) hb0).trans c0
        have d1 := (hB14.cell (p := ⟨w.heap.size, 1, none⟩) hb0).trans c1
        obtain ⟨m0, m1, _, _⟩ := row_at kq
        have hBf := hB0.trans (hB14.mono hB0.size)
        obtain ⟨R, hR⟩ : ∃ R, str (qA row ns 1) = R := ⟨_, rfl⟩
        rw [hR] at hS
        have hRe := hide (show str OUT = R by rw [hOe.out, hR])
        clear hO1 hO2 hOe hB0 hx1 hE1 hB2 hB3 hB13 hB14 hB34 hI3 c0 c1 kq hR e1 e2 e3 e4 hs hns hc
        go_wp2_with (go_at_call 126; refine hS.mono ?_; clear hS; rintro e W5 ⟨rfl, hB5⟩)
        go_ret
        exact ⟨by rw [hRe.out]; rfl, hBf.trans (hB5.mono hBf.size)⟩
      · have e1 : qV 2 = .agg #[.int .i64 0, .func (.func 127) #[] #[]] := rfl
        have e2 : (((qC 2 : Nat) : Int)) = 0 := rfl
        have e3 : qF 2 = 127 := rfl
        have e4 : qC 2 = 0 := rfl
        rw [e1] at hlook
        simp only [e2, e3] at hS kq hB14 hB34
        rw [e4] at hS ⊢
        obtain ⟨W4, hW4⟩ : ∃ W4, W3.alloc (.cells #[.int .i64 0, .func (.func 127) #[] #[]] 121) = W4 := ⟨_, rfl⟩
        rw [hW4] at hS kq hB14 hB34
        have d0 := (hB14.cell (p := ⟨w.heap.size, 0, none⟩) hb0).trans c0
        have d1 := (hB14.cell (p := ⟨w.heap.size, 1, none⟩) hb0).trans c1
        obtain ⟨m0, m1, _, _⟩ := row_at kq
        have hBf := hB0.trans (hB14.mono hB0.size)
        obtain ⟨R, hR⟩ : ∃ R, str (qA row ns 2) = R := ⟨_, rfl⟩
        rw [hR] at hS
        have hRe := hide (show str OUT = R by rw [hOe.out, hR])
        clear hO1 hO2 hOe hB0 hx1 hE1 hB2 hB3 hB13 hB14 hB34 hI3 c0 c1 kq hR e1 e2 e3 e4 hs hns hc
        go_wp2_with (go_at_call 127; refine hS.mono ?_; clear hS; rintro e W5 ⟨rfl, hB5⟩)
        go_ret
        exact ⟨by rw [hRe.out]; rfl, hBf.trans (hB5.mono hBf.size)⟩
      · have e1 : qV 3 = .agg #[.int .i64 0, .func (.func 128) #[] #[]] := rfl
        have e2 : (((qC 3 : Nat) : Int)) = 0 := rfl
        have e3 : qF 3 = 128 := rfl
        have e4 : qC 3 = 0 := rfl
        rw [e1] at hlook
        simp only [e2, e3] at hS kq hB14 hB34
        rw [e4] at hS ⊢
        obtain ⟨W4, hW4⟩ : ∃ W4, W3.alloc (.cells #[.int .i64 0, .func (.func 128) #[] #[]] 121) = W4 := ⟨_, rfl⟩
        rw [hW4] at hS kq hB14 hB34
        have d0 := (hB14.cell (p := ⟨w.heap.size, 0, none⟩) hb0).trans c0
        have d1 := (hB14.cell (p := ⟨w.heap.size, 1, none⟩) hb0).trans c1
        obtain ⟨m0, m1, _, _⟩ := row_at kq
        have hBf := hB0.trans (hB14.mono hB0.size)
        obtain ⟨R, hR⟩ : ∃ R, str (qA row ns 3) = R := ⟨_, rfl⟩
        rw [hR] at hS
        have hRe := hide (show str OUT = R by rw [hOe.out, hR])
        clear hO1 hO2 hOe hB0 hx1 hE1 hB2 hB3 hB13 hB14 hB34 hI3 c0 c1 kq hR e1 e2 e3 e4 hs hns hc
        go_wp2_with (go_at_call 128; refine hS.mono ?_; clear hS; rintro e W5 ⟨rfl, hB5⟩)
        go_ret
        exact ⟨by rw [hRe.out]; rfl, hBf.trans (hB5.mono hBf.size)⟩
      · have e1 : qV 4 = .agg #[.int .i64 0, .func (.func 129) #[] #[]] := rfl
        have e2 : (((qC 4 : Nat) : Int)) = 0 := rfl
        have e3 : qF 4 = 129 := rfl
        have e4 : qC 4 = 0 := rfl
        rw [e1] at hlook
        simp only [e2, e3] at hS kq hB14 hB34
        rw [e4] at hS ⊢
        obtain ⟨W4, hW4⟩ : ∃ W4, W3.alloc (.cells #[.int .i64 0, .func (.func 129) #[] #[]] 121) = W4 := ⟨_, rfl⟩
        rw [hW4] at hS kq hB14 hB34
        have d0 := (hB14.cell (p := ⟨w.heap.size, 0, none⟩) hb0).trans c0
        have d1 := (hB14.cell (p := ⟨w.heap.size, 1, none⟩) hb0).trans c1
        obtain ⟨m0, m1, _, _⟩ := row_at kq
        have hBf := hB0.trans (hB14.mono hB0.size)
        obtain ⟨R, hR⟩ : ∃ R, str (qA row ns 4) = R := ⟨_, rfl⟩
        rw [hR] at hS
        have hRe := hide (show str OUT = R by rw [hOe.out, hR])
        clear hO1 hO2 hOe hB0 hx1 hE1 hB2 hB3 hB13 hB14 hB34 hI3 c0 c1 kq hR e1 e2 e3 e4 hs hns hc
        go_wp2_with (go_at_call 129; refine hS.mono ?_; clear hS; rintro e W5 ⟨rfl, hB5⟩)
        go_ret
        exact ⟨by rw [hRe.out]; rfl, hBf.trans (hB5.mono hBf.size)⟩
      · have e1 : qV 5 = .agg #[.int .i64 1, .func (.func 130) #[] #[]] := rfl
        have e2 : (((qC 5 : Nat) : Int)) = 1 := rfl
        have e3 : qF 5 = 130 := rfl
        have e4 : qC 5 = 1 := rfl
        rw [e1] at hlook
        simp only [e2, e3] at hS kq hB14 hB34
        rw [e4] at hS ⊢
        obtain ⟨W4, hW4⟩ : ∃ W4, W3.alloc (.cells #[.int .i64 1, .func (.func 130) #[] #[]] 121) = W4 := ⟨_, rfl⟩
        rw [hW4] at hS kq hB14 hB34
        have d0 := (hB14.cell (p := ⟨w.heap.size, 0, none⟩) hb0).trans c0
        have d1 := (hB14.cell (p := ⟨w.heap.size, 1, none⟩) hb0).trans c1
        obtain ⟨m0, m1, _, _⟩ := row_at kq
        have hBf := hB0.trans (hB14.mono hB0.size)
        obtain ⟨R, hR⟩ : ∃ R, str (qA row ns 5) = R := ⟨_, rfl⟩
        rw [hR] at hS
        have hRe := hide (show str OUT = R by rw [hOe.out, hR])
        clear hO1 hO2 hOe hB0 hx1 hE1 hB2 hB3 hB13 hB14 hB34 hI3 c0 c1 kq hR e1 e2 e3 e4 hs hns hc
        go_wp2_with (go_at_call 130; refine hS.mono ?_; clear hS; rintro e W5 ⟨rfl, hB5⟩)
        go_ret
        exact ⟨by rw [hRe.out]; rfl, hBf.trans (hB5.mono hBf.size)⟩
      · have e1 : qV 6 = .agg #[.int .i64 1, .func (.func 131) #[] #[]] := rfl
        have e2 : (((qC 6 : Nat) : Int)) = 1 := rfl
        have e3 : qF 6 = 131 := rfl
        have e4 : qC 6 = 1 := rfl
        rw [e1] at hlook
        simp only [e2, e3] at hS kq hB14 hB34
        rw [e4] at hS ⊢
        obtain ⟨W4, hW4⟩ : ∃ W4, W3.alloc (.cells #[.int .i64 1, .func (.func 131) #[] #[]] 121) = W4 := ⟨_, rfl⟩
        rw [hW4] at hS kq hB14 hB34
        have d0 := (hB14.cell (p := ⟨w.heap.size, 0, none⟩) hb0).trans c0
        have d1 := (hB14.cell (p := ⟨w.heap.size, 1, none⟩) hb0).trans c1
        obtain ⟨m0, m1, _, _⟩ := row_at kq
        have hBf := hB0.trans (hB14.mono hB0.size)
        obtain ⟨R, hR⟩ : ∃ R, str (qA row ns 6) = R := ⟨_, rfl⟩
        rw [hR] at hS
        have hRe := hide (show str OUT = R by rw [hOe.out, hR])
        clear hO1 hO2 hOe hB0 hx1 hE1 hB2 hB3 hB13 hB14 hB34 hI3 c0 c1 kq hR e1 e2 e3 e4 hs hns hc
        go_wp2_with (go_at_call 131; refine hS.mono ?_; clear hS; rintro e W5 ⟨rfl, hB5⟩)
        go_ret
        exact ⟨by rw [hRe.out]; rfl, hBf.trans (hB5.mono hBf.size)⟩
      · have e1 : qV 7 = .agg #[.int .i64 2, .func (.func 132) #[] #[]] := rfl
        have e2 : (((qC 7 : Nat) : Int)) = 2 := rfl
        have e3 : qF 7 = 132 := rfl
        have e4 : qC 7 = 2 := rfl
        rw [e1] at hlook
        simp only [e2, e3] at hS kq hB14 hB34
        rw [e4] at hS ⊢
        obtain ⟨W4, hW4⟩ : ∃ W4, W3.alloc (.cells #[.int .i64 2, .func (.func 132) #[] #[]] 121) = W4 := ⟨_, rfl⟩
        rw [hW4] at hS kq hB14 hB34
        have d0 := (hB14.cell (p := ⟨w.heap.size, 0, none⟩) hb0).trans c0
        have d1 := (hB14.cell (p := ⟨w.heap.size, 1, none⟩) hb0).trans c1
        obtain ⟨m0, m1, _, _⟩ := row_at kq
        have hBf := hB0.trans (hB14.mono hB0.size)
        obtain ⟨R, hR⟩ : ∃ R, str (qA row ns 7) = R := ⟨_, rfl⟩
        rw [hR] at hS
        have hRe := hide (show str OUT = R by rw [hOe.out, hR])
        clear hO1 hO2 hOe hB0 hx1 hE1 hB2 hB3 hB13 hB14 hB34 hI3 c0 c1 kq hR e1 e2 e3 e4 hs hns hc
        go_wp2_with (go_at_call 132; refine hS.mono ?_; clear hS; rintro e W5 ⟨rfl, hB5⟩)
        go_ret
        exact ⟨by rw [hRe.out]; rfl, hBf.trans (hB5.mono hBf.size)⟩
      · have e1 : qV 8 = .agg #[.int .i64 2, .func (.func 133) #[] #[]] := rfl
        have e2 : (((qC 8 : Nat) : Int)) = 2 := rfl
        have e3 : qF 8 = 133 := rfl
        have e4 : qC 8 = 2 := rfl
        rw [e1] at hlook
        simp only [e2, e3] at hS kq hB14 hB34
        rw [e4] at hS ⊢
        obtain ⟨W4, hW4⟩ : ∃ W4, W3.alloc (.cells #[.int .i64 2, .func (.func 133) #[] #[]] 121) = W4 := ⟨_, rfl⟩
        rw [hW4] at hS kq hB14 hB34
        have d0 := (hB14.cell (p := ⟨w.heap.size, 0, none⟩) hb0).trans c0
        have d1 := (hB14.cell (p := ⟨w.heap.size, 1, none⟩) hb0).trans c1
        obtain ⟨m0, m1, _, _⟩ := row_at kq
        have hBf := hB0.trans (hB14.mono hB0.size)
        obtain ⟨R, hR⟩ : ∃ R, str (qA row ns 8) = R := ⟨_, rfl⟩
        rw [hR] at hS
        have hRe := hide (show str OUT = R by rw [hOe.out, hR])
        clear hO1 hO2 hOe hB0 hx1 hE1 hB2 hB3 hB13 hB14 hB34 hI3 c0 c1 kq hR e1 e2 e3 e4 hs hns hc
        go_wp2_with (go_at_call 133; refine hS.mono ?_; clear hS; rintro e W5 ⟨rfl, hB5⟩)
        go_ret
        exact ⟨by rw [hRe.out]; rfl, hBf.trans (hB5.mono hBf.size)⟩
      · have e1 : qV 9 = .agg #[.int .i64 3, .func (.func 134) #[] #[]] := rfl
        have e2 : (((qC 9 : Nat) : Int)) = 3 := rfl
        have e3 : qF 9 = 134 := rfl
        have e4 : qC 9 = 3 := rfl
        rw [e1] at hlook
        simp only [e2, e3] at hS kq hB14 hB34
        rw [e4] at hS ⊢
        obtain ⟨W4, hW4⟩ : ∃ W4, W3.alloc (.cells #[.int .i64 3, .func (.func 134) #[] #[]] 121) = W4 := ⟨_, rfl⟩
        rw [hW4] at hS kq hB14 hB34
        have d0 := (hB14.cell (p := ⟨w.heap.size, 0, none⟩) hb0).trans c0
        have d1 := (hB14.cell (p := ⟨w.heap.size, 1, none⟩) hb0).trans c1
        obtain ⟨m0, m1, _, _⟩ := row_at kq
        have hBf := hB0.trans (hB14.mono hB0.size)
        obtain ⟨R, hR⟩ : ∃ R, str (qA row ns 9) = R := ⟨_, rfl⟩
        rw [hR] at hS
        have hRe := hide (show str OUT = R by rw [hOe.out, hR])
        clear hO1 hO2 hOe hB0 hx1 hE1 hB2 hB3 hB13 hB14 hB34 hI3 c0 c1 kq hR e1 e2 e3 e4 hs hns hc
        go_wp2_with (go_at_call 134; refine hS.mono ?_; clear hS; rintro e W5 ⟨rfl, hB5⟩)
        go_ret
        exact ⟨by rw [hRe.out]; rfl, hBf.trans (hB5.mono hBf.size)⟩
      · have e1 : qV 10 = .agg #[.int .i64 3, .func (.func 135) #[] #[]] := rfl
        have e2 : (((qC 10 : Nat) : Int)) = 3 := rfl
        have e3 : qF 10 = 135 := rfl
        have e4 : qC 10 = 3 := rfl
        rw [e1] at hlook
        simp only [e2, e3] at hS kq hB14 hB34
        rw [e4] at hS ⊢
        obtain ⟨W4, hW4⟩ : ∃ W4, W3.alloc (.cells #[.int .i64 3, .func (.func 135) #[] #[]] 121) = W4 := ⟨_, rfl⟩
        rw [hW4] at hS kq hB14 hB34
        have d0 := (hB14.cell (p := ⟨w.heap.size, 0, none⟩) hb0).trans c0
        have d1 := (hB14.cell (p := ⟨w.heap.size, 1, none⟩) hb0).trans c1
        obtain ⟨m0, m1, _, _⟩ := row_at kq
        have hBf := hB0.trans (hB14.mono hB0.size)
        obtain ⟨R, hR⟩ : ∃ R, str (qA row ns 10) = R := ⟨_, rfl⟩
        rw [hR] at hS
        have hRe := hide (show str OUT = R by rw [hOe.out, hR])
        clear hO1 hO2 hOe hB0 hx1 hE1 hB2 hB3 hB13 hB14 hB34 hI3 c0 c1 kq hR e1 e2 e3 e4 hs hns hc
        go_wp2_with (go_at_call 135; refine hS.mono ?_; clear hS; rintro e W5 ⟨rfl, hB5⟩)
        go_ret
        exact ⟨by rw [hRe.out]; rfl, hBf.trans (hB5.mono hBf.size)⟩
      · have e1 : qV 11 = .agg #[.int .i64 3, .func (.func 136) #[] #[]] := rfl
        have e2 : (((qC 11 : Nat) : Int)) = 3 := rfl
        have e3 : qF 11 = 136 := rfl
        have e4 : qC 11 = 3 := rfl
        rw [e1] at hlook
        simp only [e2, e3] at hS kq hB14 hB34
        rw [e4] at hS ⊢
        obtain ⟨W4, hW4⟩ : ∃ W4, W3.alloc (.cells #[.int .i64 3, .func (.func 136) #[] #[]] 121) = W4 := ⟨_, rfl⟩
        rw [hW4] at hS kq hB14 hB34
        have d0 := (hB14.cell (p := ⟨w.heap.size, 0, none⟩) hb0).trans c0
        have d1 := (hB14.cell (p := ⟨w.heap.size, 1, none⟩) hb0).trans c1
        obtain ⟨m0, m1, _, _⟩ := row_at kq
        have hBf := hB0.trans (hB14.mono hB0.size)
        obtain ⟨R, hR⟩ : ∃ R, str (qA row ns 11) = R := ⟨_, rfl⟩
        rw [hR] at hS
        have hRe := hide (show str OUT = R by rw [hOe.out, hR])
        clear hO1 hO2 hOe hB0 hx1 hE1 hB2 hB3 hB13 hB14 hB34 hI3 c0 c1 kq hR e1 e2 e3 e4 hs hns hc
        go_wp2_with (go_at_call 136; refine hS.mono ?_; clear hS; rintro e W5 ⟨rfl, hB5⟩)
        go_ret
        exact ⟨by rw [hRe.out]; rfl, hBf.trans (hB5.mono hBf.size)⟩
    · have hWe := hide (show str OUT = ⟨#[119, 104, 97, 116]⟩ by rw [hO2.out hc]; kernel_rfl)
      have hci : ¬ ((ns.length : Nat) : Int) = ((qC i : Nat) : Int) := by omega
      unfold qV at hlook
      obtain ⟨m0, m1, _, _⟩ := row_at kq
      have hBf := hB0.trans (hB14.mono hB0.size)
      obtain ⟨N, hN⟩ : ∃ N, ns.length = N := ⟨_, rfl⟩
      obtain ⟨K, hK⟩ : ∃ K, qC i = K := ⟨_, rfl⟩
      obtain ⟨F, hF⟩ : ∃ F, qF i = F := ⟨_, rfl⟩
      rw [hN, hK] at hci
      rw [hN]
      rw [hK, hF] at hlook m0 m1 hBf
      have hne : ((N : Int) == (K : Int)) = false := by rw [beq_eq_false_iff_ne]; exact hci
      clear hO1 hO2 hB0 hx1 hE1 hB2 hB3 hB13 hB14 hB34 hI3 c0 c1 kq hN hK hF hs hns hc
      go_wp2
      go_ret
      exact ⟨by rw [hWe.out]; rfl, hBf⟩
  · obtain rfl := hv2 hq
    rw [decide_eq_false hq] at hlook
    have hWe := hide (show str OUT = ⟨#[119, 104, 97, 116]⟩ by rw [← hO.out, if_neg (fun h => hq h.1)]; kernel_rfl)
    have hB14 := hB13.alloc hB13.size (.cells #[.int .i64 0, .nilFunc] 121)
    have hBf := hB0.trans (hB14.mono hB0.size)
    clear hO hB0 hx1 hE1 hB2 hB3 hB13 hB14 hI3 c0 c1 hs hns hv1 hv2 hXW
    go_wp2
    go_ret
    exact ⟨by rw [hWe.out]; rfl, hBf⟩
end Go.Proofs.YtiaaefapbcjgmaaGreatDoor
namespace Go.Proofs.YtiaaefapbcjgmaaGreatDoor
open Go Go.RowKit Go.Shelf
attribute [local go_sem] Oper.semAt_some

theorem rdV_some {l : List Nat} {k n : Int} (h : rdV l = ((k, n), true)) : readD l = some (k, n) ∧ Fits k ∧ Fits n := by
  unfold rdV at h
  cases hr : readD l with
  | none => rw [hr] at h; cases h
  | some a =>
    rw [hr] at h
    obtain ⟨h1, h2⟩ := readD_text hr
    have h3 := deedT_is (k := a.1) (n := a.2) (by rw [h2]; exact h1)
    simp only [Prod.mk.injEq, and_true] at h
    subst h
    refine ⟨rfl, ?_⟩
    unfold isD at h3
    simp only at h3
    exact ⟨by constructor <;> omega, by constructor <;> omega⟩

theorem rdV_none' {l : List Nat} {k n : Int} (h : rdV l = ((k, n), false)) : readD l = none := by
  unfold rdV at h
  cases hr : readD l with
  | none => rfl
  | some a => rw [hr] at h; cases h

set_option maxRecDepth 100000 in
set_option maxHeartbeats 4000000 in
theorem implLine_deed (x p : Value) (d : Dk) (l : List Nat) (w : World) (hx : Ints w x d.1) (hp : PastI w p d.2) (hcap : CapP (.agg #[x, p])) (hb : deskB d = true) (hl : ∀ c ∈ l, c < 256) (hn : l.length ≤ 1100000) (hE : Env w) (k n : Int) (hr : rdV l = ((k, n), true)) :
    Calls Tryz.prog 14 #[.agg #[x, p], .string (str l)] w fun e w' => ∃ y, e = .returned (.tuple #[y, .string (str (lineV d l).2)]) ∧ OwnDk w' w.heap.size y (lineV d l).1 ∧ Below w.heap.size w w' := by
  obtain ⟨hrd, hk, hm⟩ := rdV_some hr
  rw [lineV_deed hb hrd]
  simp only
  obtain ⟨hd1, hd2, hd3⟩ := deskB_is.1 hb
  have hl1 := sideB_len hd2
  have hB : Below w.heap.size w ((w.alloc (.cells #[x, p] 31)).alloc (.cells #[.slice none 0 0, .slice none 0 0] 31)) := ((Below.refl _ w).alloc (Nat.le_refl _) _).alloc (by rw [World.size_alloc]; omega) _
  have k0 : ((w.alloc (.cells #[x, p] 31)).alloc (.cells #[.slice none 0 0, .slice none 0 0] 31)).heap[w.heap.size]? = some (.cells #[x, p] 31 (0, 0)) := (Below.heap_alloc _ _ _ (by rw [World.size_alloc]; omega)).trans (World.alloc_heap_new w _)
  have k1 := World.alloc_heap_new (w.alloc (.cells #[x, p] 31)) (.cells #[.slice none 0 0, .slice none 0 0] 31)
  rw [World.size_alloc] at k1
  have hsz : w.heap.size + 2 ≤ ((w.alloc (.cells #[x, p] 31)).alloc (.cells #[.slice none 0 0, .slice none 0 0] 31)).heap.size := by simp
  obtain ⟨W1, hW1⟩ : ∃ W1, (w.alloc (.cells #[x, p] 31)).alloc (.cells #[.slice none 0 0, .slice none 0 0] 31) = W1 := ⟨_, rfl⟩
  rw [hW1] at hB k0 k1 hsz
  have hOK := implDeskOk (.agg #[x, p]) d W1 ⟨x, p, rfl, hx.below hB, hp.below hB⟩ (deskB_size hb)
  rw [hb] at hOK
  have hKp := fun V (hV : Below w.heap.size w V) => deskOf_in x p d.1 d.2 V (hx.below hV) hl1.1 hl1.2 (hp.below hV) hd3 (fun j hj => sideB_len (hd1 _ (by rw [List.getD, List.getElem?_eq_getElem hj]; exact List.getElem_mem hj)))
  have hRd := fun V hV => implReadDeed l hl hn V hV
  have hAn := fun V (hV : Below w.heap.size w V) => answered_in x p d.1 l V (hx.below hV) hd2 hl hn (hE.below hV)
  rw [ans_qa hd2] at hAn
  have hDo := fun k n (hk : Fits k) (hn : Fits n) V (hV : Below w.heap.size w V) => implDo (.agg #[x, p]) d k n V ⟨x, p, rfl, hx.below hV, hp.below hV⟩ hcap (deskB_size hb) hk hn
  have hDo' := hDo k n hk hm
  clear hDo
  obtain ⟨D, hD⟩ : ∃ D, (doV d k n).1 = D := ⟨_, rfl⟩
  obtain ⟨bb, hbb⟩ : ∃ bb, (doV d k n).2 = bb := ⟨_, rfl⟩
  rw [hD, hbb] at hDo' ⊢
  have hEw := fun V (hV : Below w.heap.size w V) => hE.below hV
  rw [hr] at hRd
  simp only at hRd
  unfold dV at hRd
  obtain ⟨xa, xc, rfl⟩ := hx.shape
  obtain ⟨pa, pc, rfl, _⟩ := id hp
  obtain ⟨LS, hLS⟩ : ∃ LS, str l = LS := ⟨_, rfl⟩
  rw [hLS] at hRd hAn ⊢
  obtain ⟨c0, c1, _, _⟩ := row_at k0
  have l0 := (Array.getElem?_eq_some_iff.1 k0).1
  have l1 := (Array.getElem?_eq_some_iff.1 k1).1
  clear hx hp hd1 hcap hE hLS hD hbb
  refine (callsIn_wide (n := 9)).1 ?_
  refine callsIn_of_wp Tryz.func14 rfl trivial ?_ rfl
  simp only [Tryz.ntmps14, List.size_toArray, List.length_cons, List.length_nil, Nat.reduceAdd, Nat.reduceSub, Array.replicate_succ, Array.replicate_zero, List.push_toArray, List.append_toArray, List.nil_append, List.cons_append]
  gi_wp2_with fail
  refine ⟨trivial, ?_⟩
  gi_at_call 23
  refine (callsIn_wide.2 hOK).mono ?_
  rintro e W2 ⟨rfl, hB2⟩
  have hB02 := hB.trans (hB2.mono hB.size)
  have k02 := (hB2.block _ l0).trans k0
  have k12 := (hB2.block _ l1).trans k1
  have hsz2 := Nat.le_trans hsz hB2.size
  clear hOK hB2 k0 k1 l0 l1 hB hsz c0 c1
  gi_wp2_with fail
  refine ⟨trivial, ?_⟩
  gi_at_call 46
  refine (callsIn_wide.2 (hRd _ (hEw _ hB02))).mono ?_
  rintro e W3 ⟨rfl, hB3⟩
  have hB03 := hB02.trans (hB3.mono hB02.size)
  have k03 := (hB3.block _ (Array.getElem?_eq_some_iff.1 k02).1).trans k02
  have k13 := (hB3.block _ (Array.getElem?_eq_some_iff.1 k12).1).trans k12
  have hsz3 := Nat.le_trans hsz2 hB3.size
  clear hRd hEw hB3 hB02 k02 k12 hsz2
  have hB04 := hB03.alloc hB03.size (.cells #[.int .i64 k, .int .i64 n] 39)
  have hB34 := (Below.refl _ W3).alloc (Nat.le_refl _) (.cells #[.int .i64 k, .int .i64 n] 39)
  have kd := World.alloc_heap_new W3 (.cells #[.int .i64 k, .int .i64 n] 39)
  have hsz4 := Nat.le_trans hsz3 hB34.size
  have k04 := (hB34.block _ (Array.getElem?_eq_some_iff.1 k03).1).trans k03
  have k14 := (hB34.block _ (Array.getElem?_eq_some_iff.1 k13).1).trans k13
  obtain ⟨c0, c1, _, _⟩ := row_at k04
  obtain ⟨r0, r1, f0, f1⟩ := row_at k14
  obtain ⟨e0, e1, _, _⟩ := row_at kd
  have hDo4 := hDo' _ hB04
  unfold dV at hDo4
  obtain ⟨W4, hW4⟩ : ∃ W4, W3.alloc (.cells #[.int .i64 k, .int .i64 n] 39) = W4 := ⟨_, rfl⟩
  rw [hW4] at hB04 hB34 kd hsz4 k04 k14 c0 c1 r0 r1 f0 f1 e0 e1 hDo4
  clear hDo' hAn hKp hrd hk hm hr hB03 k03 k13 hsz3 hB34
  gi_wp2_with fail
  refine ⟨trivial, ?_⟩
  gi_at_call 54
  refine (callsIn_wide.2 hDo4).mono ?_
  rintro e W5 ⟨y, rfl, hy, hB5⟩
  obtain ⟨y1, y2, y3, y4, rfl⟩ := hy.form
  obtain ⟨m1, hm1⟩ : ∃ m1, D.1.length = m1 := ⟨_, rfl⟩
  obtain ⟨m2, hm2⟩ : ∃ m2, D.2.length = m2 := ⟨_, rfl⟩
  rw [hm1, hm2] at hy ⊢
  have hB05 := hB04.trans (hB5.mono hB04.size)
  have k15 := (hB5.block _ (Array.getElem?_eq_some_iff.1 k14).1).trans k14
  have hsz5 := Nat.le_trans hsz4 hB5.size
  have hB56 := (Below.refl _ W5).alloc (Nat.le_refl _) (.cells #[.slice y1 m1 y2, .slice y3 m2 y4] 31)
  have hB06 := hB05.alloc hB05.size (.cells #[.slice y1 m1 y2, .slice y3 m2 y4] 31)
  have ky := World.alloc_heap_new W5 (.cells #[.slice y1 m1 y2, .slice y3 m2 y4] 31)
  have k16 := (hB56.block _ (Array.getElem?_eq_some_iff.1 k15).1).trans k15
  have hy6 := (hy.down (base' := w.heap.size + 2) hsz4).below hB56
  obtain ⟨W6, hW6⟩ : ∃ W6, W5.alloc (.cells #[.slice y1 m1 y2, .slice y3 m2 y4] 31) = W6 := ⟨_, rfl⟩
  rw [hW6] at hB06 ky k16 hy6
  obtain ⟨g0, g1, _, _⟩ := row_at ky
  obtain ⟨r0, r1, f0, f1⟩ := row_at k16
  have hrs := hide (desk_set k16 (.slice y1 m1 y2) (.slice y3 m2 y4))
  have hown := hide (hy6.result (b := w.heap.size + 1) (base' := w.heap.size) (by omega) (by omega))
  have hBl := hide ((hB06.setCell (p := ⟨w.heap.size + 1, 0, none⟩) (Nat.le_succ _) (.slice y1 m1 y2)).setCell (p := ⟨w.heap.size + 1, 1, none⟩) (Nat.le_succ _) (.slice y3 m2 y4))
  clear hDo4 hB04 kd hsz4 k04 k14 c0 c1 e0 e1 hy hB5 hB05 k15 hsz5 hB56 hB06 ky k16 hy6 hm1 hm2
  cases bb
  all_goals
    gi_wp2
    (try simp only [Exit.inBlock, Exit.then])
    exact bodyPost_ret (results_desk2 rfl _ _ (w.heap.size + 1) _ _ rfl hrs.out) rfl ⟨_, rfl, hown.out, hBl.out⟩

set_option maxRecDepth 100000 in
set_option maxHeartbeats 4000000 in
theorem implLine_ask (x p : Value) (d : Dk) (l : List Nat) (w : World) (hx : Ints w x d.1) (hp : PastI w p d.2) (hcap : CapP (.agg #[x, p])) (hb : deskB d = true) (hl : ∀ c ∈ l, c < 256) (hn : l.length ≤ 1100000) (hE : Env w) (k n : Int) (hr : rdV l = ((k, n), false)) :
    Calls Tryz.prog 14 #[.agg #[x, p], .string (str l)] w fun e w' => ∃ y, e = .returned (.tuple #[y, .string (str (lineV d l).2)]) ∧ OwnDk w' w.heap.size y (lineV d l).1 ∧ Below w.heap.size w w' := by
  have hrd := rdV_none' hr
  rw [lineV_ask hb hrd]
  simp only
  obtain ⟨hd1, hd2, hd3⟩ := deskB_is.1 hb
  have hl1 := sideB_len hd2
  have hB : Below w.heap.size w ((w.alloc (.cells #[x, p] 31)).alloc (.cells #[.slice none 0 0, .slice none 0 0] 31)) := ((Below.refl _ w).alloc (Nat.le_refl _) _).alloc (by rw [World.size_alloc]; omega) _
  have k0 : ((w.alloc (.cells #[x, p] 31)).alloc (.cells #[.slice none 0 0, .slice none 0 0] 31)).heap[w.heap.size]? = some (.cells #[x, p] 31 (0, 0)) := (Below.heap_alloc _ _ _ (by rw [World.size_alloc]; omega)).trans (World.alloc_heap_new w _)
  have k1 := World.alloc_heap_new (w.alloc (.cells #[x, p] 31)) (.cells #[.slice none 0 0, .slice none 0 0] 31)
  rw [World.size_alloc] at k1
  have hsz : w.heap.size + 2 ≤ ((w.alloc (.cells #[x, p] 31)).alloc (.cells #[.slice none 0 0, .slice none 0 0] 31)).heap.size := by simp
  obtain ⟨W1, hW1⟩ : ∃ W1, (w.alloc (.cells #[x, p] 31)).alloc (.cells #[.slice none 0 0, .slice none 0 0] 31) = W1 := ⟨_, rfl⟩
  rw [hW1] at hB k0 k1 hsz
  have hOK := implDeskOk (.agg #[x, p]) d W1 ⟨x, p, rfl, hx.below hB, hp.below hB⟩ (deskB_size hb)
  rw [hb] at hOK
  have hKp := fun V (hV : Below w.heap.size w V) => deskOf_in x p d.1 d.2 V (hx.below hV) hl1.1 hl1.2 (hp.below hV) hd3 (fun j hj => sideB_len (hd1 _ (by rw [List.getD, List.getElem?_eq_getElem hj]; exact List.getElem_mem hj)))
  have hRd := fun V hV => implReadDeed l hl hn V hV
  have hAn := fun V (hV : Below w.heap.size w V) => answered_in x p d.1 l V (hx.below hV) hd2 hl hn (hE.below hV)
  rw [ans_qa hd2] at hAn
  have hDo := fun k n (hk : Fits k) (hn : Fits n) V (hV : Below w.heap.size w V) => implDo (.agg #[x, p]) d k n V ⟨x, p, rfl, hx.below hV, hp.below hV⟩ hcap (deskB_size hb) hk hn
  obtain ⟨RS, hRS⟩ : ∃ RS, str (qaV d.1 l) = RS := ⟨_, rfl⟩
  rw [hRS] at hAn ⊢
  have hEw := fun V (hV : Below w.heap.size w V) => hE.below hV
  rw [hr] at hRd
  simp only at hRd
  unfold dV at hRd
  obtain ⟨xa, xc, rfl⟩ := hx.shape
  obtain ⟨pa, pc, rfl, _⟩ := id hp
  obtain ⟨LS, hLS⟩ : ∃ LS, str l = LS := ⟨_, rfl⟩
  rw [hLS] at hRd hAn ⊢
  obtain ⟨c0, c1, _, _⟩ := row_at k0
  have l0 := (Array.getElem?_eq_some_iff.1 k0).1
  have l1 := (Array.getElem?_eq_some_iff.1 k1).1
  clear hx hp hd1 hcap hE hLS hRS
  refine (callsIn_wide (n := 9)).1 ?_
  refine callsIn_of_wp Tryz.func14 rfl trivial ?_ rfl
  simp only [Tryz.ntmps14, List.size_toArray, List.length_cons, List.length_nil, Nat.reduceAdd, Nat.reduceSub, Array.replicate_succ, Array.replicate_zero, List.push_toArray, List.append_toArray, List.nil_append, List.cons_append]
  gi_wp2_with fail
  refine ⟨trivial, ?_⟩
  gi_at_call 23
  refine (callsIn_wide.2 hOK).mono ?_
  rintro e W2 ⟨rfl, hB2⟩
  have hB02 := hB.trans (hB2.mono hB.size)
  have k02 := (hB2.block _ l0).trans k0
  have k12 := (hB2.block _ l1).trans k1
  have hsz2 := Nat.le_trans hsz hB2.size
  clear hOK hB2 k0 k1 l0 l1 hB hsz c0 c1
  gi_wp2_with fail
  refine ⟨trivial, ?_⟩
  gi_at_call 46
  refine (callsIn_wide.2 (hRd _ (hEw _ hB02))).mono ?_
  rintro e W3 ⟨rfl, hB3⟩
  have hB03 := hB02.trans (hB3.mono hB02.size)
  have k03 := (hB3.block _ (Array.getElem?_eq_some_iff.1 k02).1).trans k02
  have k13 := (hB3.block _ (Array.getElem?_eq_some_iff.1 k12).1).trans k12
  have hsz3 := Nat.le_trans hsz2 hB3.size
  clear hRd hEw hB3 hB02 k02 k12 hsz2
  have hB04 := hB03.alloc hB03.size (.cells #[.int .i64 k, .int .i64 n] 39)
  have hB34 := (Below.refl _ W3).alloc (Nat.le_refl _) (.cells #[.int .i64 k, .int .i64 n] 39)
  have kd := World.alloc_heap_new W3 (.cells #[.int .i64 k, .int .i64 n] 39)
  have hsz4 := Nat.le_trans hsz3 hB34.size
  have k04 := (hB34.block _ (Array.getElem?_eq_some_iff.1 k03).1).trans k03
  have k14 := (hB34.block _ (Array.getElem?_eq_some_iff.1 k13).1).trans k13
  obtain ⟨c0, c1, _, _⟩ := row_at k04
  obtain ⟨r0, r1, f0, f1⟩ := row_at k14
  obtain ⟨e0, e1, _, _⟩ := row_at kd
  obtain ⟨W4, hW4⟩ : ∃ W4, W3.alloc (.cells #[.int .i64 k, .int .i64 n] 39) = W4 := ⟨_, rfl⟩
  rw [hW4] at hB04 hB34 kd hsz4 k04 k14 c0 c1 r0 r1 f0 f1 e0 e1
  clear hDo hrd hr hB03 k03 k13 hsz3 hB34
  gi_wp2
  refine wpIn_region_put 8 [(some 21, 0), (some 22, 1), (some 23, 2), (some 24, 3), (some 25, 4), (some 26, 5), (some 27, 6), (some 28, 7)] (by kernel_rfl) (by kernel_rfl) (by kernel_rfl) (by decide) (by rfl) (by decide)
    (fun j v V => match j with | 0 => v = .pointer (some ⟨w.heap.size, 0, none⟩) | 1 => v = .slice xa d.1.length xc | 2 => v = .pointer (some ⟨w.heap.size, 1, none⟩) | 3 => v = .slice pa d.2.length pc | 4 => OwnDk V (w.heap.size + 2) v d | 5 => v = .agg #[.slice xa d.1.length xc, .slice pa d.2.length pc] | 6 => v = .string LS | 7 => v = .string RS | _ => True)
    (fun j v V V' h hB => match j, h with | 0, h => h | 1, h => h | 2, h => h | 3, h => h | 4, h => OwnDk.below h hB | 5, h => h | 6, h => h | 7, h => h | (_ + 8), _ => trivial)
    ?_ ?_
  · rintro j oo s V hj ho hBV hd Q' hQ
    have hB0V := hB04.trans (hBV.mono hB04.size)
    obtain ⟨c0, c1, _, _⟩ := row_at ((hBV.block _ (Array.getElem?_eq_some_iff.1 k04).1).trans k04)
    have zV := hBV.size
    rcases (show j = 0 ∨ j = 1 ∨ j = 2 ∨ j = 3 ∨ j = 4 ∨ j = 5 ∨ j = 6 ∨ j = 7 by omega) with rfl | rfl | rfl | rfl | rfl | rfl | rfl | rfl
    all_goals
      simp at ho
      subst ho
      simp only [putsOf, Act.put, List.setIfInBounds_toArray, List.set_cons_succ, List.set_cons_zero] at hQ ⊢
      have hQ' := hide hQ
      clear hQ
    · clear hd
      gi_wp2
      exact hQ'.out _ _ (Below.refl _ _) rfl
    · have q1 : s 0 = .pointer (some ⟨w.heap.size, 0, none⟩) := hd 0 (by kernel_rfl)
      clear hd
      gi_wp2
      have hr := hQ'.out
      simp only [q1] at hr ⊢
      exact hr _ _ (Below.refl _ _) rfl
    · clear hd
      gi_wp2
      exact hQ'.out _ _ (Below.refl _ _) rfl
    · have q1 : s 2 = .pointer (some ⟨w.heap.size, 1, none⟩) := hd 2 (by kernel_rfl)
      clear hd
      gi_wp2
      have hr := hQ'.out
      simp only [q1] at hr ⊢
      exact hr _ _ (Below.refl _ _) rfl
    · have q1 : s 1 = .slice xa d.1.length xc := hd 1 (by kernel_rfl)
      have q2 : s 3 = .slice pa d.2.length pc := hd 3 (by kernel_rfl)
      have hK := hKp V hB0V
      clear hd
      gi_wp2_with (refine ⟨trivial, ?_⟩; gi_at_call 52; go_loud (refine (callsIn_wide.2 hK).mono ?_; rintro e W9 ⟨u9, rfl, ho9, hB9⟩))
      have hr := hQ'.out
      simp only [q1, q2] at hr ⊢
      exact hr _ _ hB9 (ho9.down (by omega))
    · clear hd
      gi_wp2
      exact hQ'.out _ _ (Below.refl _ _) rfl
    · clear hd
      gi_wp2
      exact hQ'.out _ _ (Below.refl _ _) rfl
    · have q1 : s 5 = .agg #[.slice xa d.1.length xc, .slice pa d.2.length pc] := hd 5 (by kernel_rfl)
      have q2 : s 6 = .string LS := hd 6 (by kernel_rfl)
      have hA := hAn V hB0V
      clear hd
      gi_wp2_with (refine ⟨trivial, ?_⟩; gi_at_call 53; go_loud (refine (callsIn_wide.2 hA).mono ?_; rintro e W9 ⟨rfl, hB9⟩))
      have hr := hQ'.out
      simp only [q1, q2] at hr ⊢
      exact hr _ _ hB9 rfl
  · rintro s V hBV hd
    have q4 : OwnDk V (w.heap.size + 2) (s 4) d := hd 4 (by omega)
    have q7 : s 7 = .string RS := hd 7 (by omega)
    clear hd
    obtain ⟨y1, y2, y3, y4, hy4⟩ := q4.form
    rw [hy4] at q4
    have k1V := (hBV.block _ (Array.getElem?_eq_some_iff.1 k14).1).trans k14
    obtain ⟨r0, r1, f0, f1⟩ := row_at k1V
    have hB0V := hB04.trans (hBV.mono hB04.size)
    have hrs := hide (desk_set k1V (.slice y1 d.1.length y2) (.slice y3 d.2.length y4))
    have hown := hide (q4.result (b := w.heap.size + 1) (base' := w.heap.size) (by omega) (by omega))
    have hBl := hide ((hB0V.setCell (p := ⟨w.heap.size + 1, 0, none⟩) (Nat.le_succ _) (.slice y1 d.1.length y2)).setCell (p := ⟨w.heap.size + 1, 1, none⟩) (Nat.le_succ _) (.slice y3 d.2.length y4))
    clear q4 k1V hB0V hKp hAn
    simp only [putsOf, Act.put, List.setIfInBounds_toArray, List.set_cons_succ, List.set_cons_zero]
    simp only [List.drop_succ_cons, List.drop_zero]
    simp only [hy4, q7]
    gi_wp2
    (try simp only [Exit.inBlock, Exit.then])
    exact bodyPost_ret (results_desk2 rfl _ _ (w.heap.size + 1) _ _ rfl hrs.out) rfl ⟨_, rfl, hown.out, hBl.out⟩

theorem implLine_in (x p : Value) (d : Dk) (l : List Nat) (w : World) (hx : Ints w x d.1) (hp : PastI w p d.2) (hcap : CapP (.agg #[x, p])) (hb : deskB d = true) (hl : ∀ c ∈ l, c < 256) (hn : l.length ≤ 1100000) (hE : Env w) :
    Calls Tryz.prog 14 #[.agg #[x, p], .string (str l)] w fun e w' => ∃ y, e = .returned (.tuple #[y, .string (str (lineV d l).2)]) ∧ OwnDk w' w.heap.size y (lineV d l).1 ∧ Below w.heap.size w w' := by
  obtain ⟨⟨⟨k, n⟩, b⟩, hr⟩ : ∃ r, rdV l = r := ⟨_, rfl⟩
  cases b with
  | true => exact implLine_deed x p d l w hx hp hcap hb hl hn hE k n hr
  | false => exact implLine_ask x p d l w hx hp hcap hb hl hn hE k n hr

set_option maxRecDepth 100000 in
set_option maxHeartbeats 1000000 in
theorem implLine_no (x p : Value) (d : Dk) (l : List Nat) (w : World) (hx : Ints w x d.1) (hp : PastI w p d.2) (hs : DkS d) (hb : deskB d = false) :
    Calls Tryz.prog 14 #[.agg #[x, p], .string (str l)] w fun e w' => ∃ y, e = .returned (.tuple #[y, .string (str (lineV d l).2)]) ∧ OwnDk w' w.heap.size y (lineV d l).1 ∧ Below w.heap.size w w' := by
  rw [lineV_no hb]
  simp only
  rw [str_nil]
  have hB : Below w.heap.size w ((w.alloc (.cells #[x, p] 31)).alloc (.cells #[.slice none 0 0, .slice none 0 0] 31)) := ((Below.refl _ w).alloc (Nat.le_refl _) _).alloc (by rw [World.size_alloc]; omega) _
  have k0 : ((w.alloc (.cells #[x, p] 31)).alloc (.cells #[.slice none 0 0, .slice none 0 0] 31)).heap[w.heap.size]? = some (.cells #[x, p] 31 (0, 0)) := (Below.heap_alloc _ _ _ (by rw [World.size_alloc]; omega)).trans (World.alloc_heap_new w _)
  have k1 := World.alloc_heap_new (w.alloc (.cells #[x, p] 31)) (.cells #[.slice none 0 0, .slice none 0 0] 31)
  rw [World.size_alloc] at k1
  have hsz : w.heap.size + 2 ≤ ((w.alloc (.cells #[x, p] 31)).alloc (.cells #[.slice none 0 0, .slice none 0 0] 31)).heap.size := by simp
  obtain ⟨W1, hW1⟩ : ∃ W1, (w.alloc (.cells #[x, p] 31)).alloc (.cells #[.slice none 0 0, .slice none 0 0] 31) = W1 := ⟨_, rfl⟩
  rw [hW1] at hB k0 k1 hsz
  have hOK := implDeskOk (.agg #[x, p]) d W1 ⟨x, p, rfl, hx.below hB, hp.below hB⟩ hs
  rw [hb] at hOK
  obtain ⟨xa, xc, rfl⟩ := hx.shape
  obtain ⟨pa, pc, rfl, _⟩ := id hp
  obtain ⟨LS, hLS⟩ : ∃ LS, str l = LS := ⟨_, rfl⟩
  rw [hLS]
  obtain ⟨c0, c1, _, _⟩ := row_at k0
  have l0 := (Array.getElem?_eq_some_iff.1 k0).1
  have l1 := (Array.getElem?_eq_some_iff.1 k1).1
  clear hx hp hs hLS
  go_enter Tryz.func14, Tryz.ntmps14
  go_wp2_with (go_at_call 23; go_loud (refine hOK.mono ?_; clear hOK; rintro e W2 ⟨rfl, hB2⟩; have zres := (hB2.block _ l1).trans k1; obtain ⟨c0, c1, _, _⟩ := row_at ((hB2.block _ l0).trans k0); obtain ⟨r0, r1, f0, f1⟩ := row_at zres))
  (try simp only [Exit.inBlock, Exit.then])
  have hB3 := hB.trans (hB2.mono hB.size)
  have hz := hB2.size
  exact bodyPost_ret (results_desk2 rfl _ _ (w.heap.size + 1) _ _ rfl (desk_set zres (.slice none 0 0) (.slice none 0 0))) rfl ⟨_, rfl, (OwnDk.none W2 (w.heap.size + 2) (by omega)).result (b := w.heap.size + 1) (base' := w.heap.size) (by omega) (by omega), (hB3.setCell (p := ⟨w.heap.size + 1, 0, none⟩) (Nat.le_succ _) _).setCell (p := ⟨w.heap.size + 1, 1, none⟩) (Nat.le_succ _) _⟩

theorem implLine (v : Value) (d : Dk) (l : List Nat) (w : World) (hv : DeskI w v d) (hcap : CapP v) (hs : DkS d) (hl : ∀ c ∈ l, c < 256) (hn : l.length ≤ 1100000) (hE : Env w) :
    Calls Tryz.prog 14 #[v, .string (str l)] w fun e w' => ∃ y, e = .returned (.tuple #[y, .string (str (lineV d l).2)]) ∧ OwnDk w' w.heap.size y (lineV d l).1 ∧ Below w.heap.size w w' := by
  obtain ⟨x, p, rfl, hx, hp⟩ := hv
  cases hb : deskB d with
  | true => exact implLine_in x p d l w hx hp hcap hb hl hn hE
  | false => exact implLine_no x p d l w hx hp hs hb
end Go.Proofs.YtiaaefapbcjgmaaGreatDoor
namespace Go.Proofs.YtiaaefapbcjgmaaGreatDoor
open Go Go.RowKit
attribute [local go_sem] Oper.semAt_some

/-- A block of n texts, known whole. -/
def TxA (w : World) (g N : Nat) (f : Nat → List Nat) : Prop :=
  ∃ cur : Array Value, w.heap[g]? = some (.cells cur 9 (0, 0)) ∧ cur.size = N ∧ ∀ i, i < N → cur[i]? = some (txt (f i))

theorem TxA.lt {w : World} {g N : Nat} {f : Nat → List Nat} (h : TxA w g N f) : g < w.heap.size := by
  obtain ⟨cur, h1, _⟩ := h; exact (Array.getElem?_eq_some_iff.1 h1).1

theorem TxA.cell {w : World} {g N : Nat} {f : Nat → List Nat} (h : TxA w g N f) {i : Nat} (hi : i < N) : w.cell? ⟨g, i, none⟩ = some (txt (f i)) := by
  obtain ⟨cur, h1, h2, h3⟩ := h
  rw [cell_of_row w g i cur 9 (0, 0) h1]; exact h3 i hi

theorem TxA.frozen {w : World} {g N : Nat} {f : Nat → List Nat} (h : TxA w g N f) (i : Nat) : w.frozen? ⟨g, i, none⟩ = false := by
  obtain ⟨cur, h1, _⟩ := h
  simp [World.frozen?, h1]

theorem TxA.congr {w : World} {g N : Nat} {f f' : Nat → List Nat} (h : TxA w g N f) (he : ∀ i, i < N → f i = f' i) : TxA w g N f' := by
  obtain ⟨cur, h1, h2, h3⟩ := h
  exact ⟨cur, h1, h2, fun i hi => by rw [← he i hi]; exact h3 i hi⟩

theorem TxA.of_block {w w' : World} {g N : Nat} {f : Nat → List Nat} (h : TxA w g N f) (hb : w'.heap[g]? = w.heap[g]?) : TxA w' g N f := by
  obtain ⟨cur, h1, h2, h3⟩ := h
  exact ⟨cur, hb.trans h1, h2, h3⟩

theorem TxA.below {w w' : World} {g N : Nat} {f : Nat → List Nat} (h : TxA w g N f) (hB : Below w.heap.size w w') : TxA w' g N f := h.of_block (hB.block g h.lt)

theorem TxA.ne {w : World} {g N b : Nat} {f : Nat → List Nat} {c : Array Value} {t : TypeId} (h : TxA w g N f) (hb : w.heap[b]? = some (.cells c t (0, 0))) (ht : 9 ≠ t) : g ≠ b := by
  rintro rfl
  obtain ⟨cur, h1, _⟩ := h
  rw [h1] at hb
  injection hb with hb
  injection hb with _ hb
  exact ht hb

theorem TxA.set {w : World} {g N : Nat} {f : Nat → List Nat} (h : TxA w g N f) (p : Nat) (z : List Nat) : TxA (w.setCell ⟨g, p, none⟩ (txt z)) g N (fun i => if i = p then z else f i) := by
  obtain ⟨cur, h1, h2, h3⟩ := h
  refine ⟨_, set_cells h1 p (txt z), by simpa using h2, fun i hi => ?_⟩
  rw [Array.getElem?_setIfInBounds]
  by_cases e : p = i
  · subst e; simp [h2, hi]
  · rw [if_neg e, h3 i hi]; simp only []; rw [if_neg (fun h : i = p => e h.symm)]

theorem TxA.own {w : World} {base g N : Nat} {f : Nat → List Nat} (h : TxA w g N f) (hb : base ≤ g) (hN : N ≤ 1100000) {L : List (List Nat)} (hl : L.length = N) (hf : ∀ i, i < N → f i = L.getD i []) :
    w.ownsRow base 9 1 (.slice (some ⟨g, 0, none⟩) N N) N (L.map txt) := by
  obtain ⟨cur, h1, h2, h3⟩ := h
  refine ⟨by simp [hl], .inr ⟨g, N, cur, rfl, hb, h1, Nat.le_refl _, by unfold maxLen; omega, by omega, List.ext_getElem? fun i => ?_⟩⟩
  rw [List.take_of_length_le (by simp; omega), Array.getElem?_toList, List.getElem?_map]
  by_cases hi : i < N
  · rw [h3 i hi, hf i hi, List.getD, List.getElem?_eq_getElem (by omega)]
    rfl
  · rw [Array.getElem?_eq_none (by omega), List.getElem?_eq_none (by omega)]
    rfl

/-- 'make([]string, n)' in a fenced walk: a block of n empty texts, known whole. -/
theorem make_texts {F : Fence} {n : Nat} (w : World) {ops : Array Oper} {rest : List Oper} {o : Oper} {a : Act} {Q : Exit → Act → World → Prop}
    (hg : o.guard = none) (l c : Operand) (hop : o.op = Op.makeSlice 48 l c) (L C : Int) (N : Nat) (hl : a.eval l = .int .i64 L) (hc : a.eval c = .int .i64 C) (hL : L = (N : Int)) (hC : C = (N : Int)) (hN : N ≤ 1100000)
    (hK : ∀ w', TxA w' w.heap.size N (fun _ => []) → w.grownBy w' none → wpListIn F n Tryz.prog ops Q rest (a.put o.dst (.slice (some ⟨w.heap.size, 0, none⟩) N N)) w') :
    wpListIn F n Tryz.prog ops Q (o :: rest) a w := by
  obtain ⟨i0, hi, hz0, hz1, hz2⟩ := info_any Tryz.infoStr
  refine wpListIn_plain hg fun K hK' => ?_
  obtain ⟨w', hrun, r1, r2⟩ := run_make_full (P := Tryz.prog) w w.heap.size 48 9 i0 (.string ⟨#[]⟩) 1 Tryz.underlying48 hi hz0 hz1 .i64 .i64 N (by rw [hz2]; omega) (by unfold maxLen; omega) (Nat.le_refl _)
  subst hL
  subst hC
  unfold Oper.wpIn
  refine ⟨?_, ?_⟩
  · simp [Oper.about, hop]
  · rw [Oper.semAt_plain F _ _ (by rw [hop]; intro c hc'; cases hc')]
    simp [execOp, hop, hl, hc, hrun, Result.andThen]
    refine hK' _ _ (hK w' ?_ r2)
    obtain ⟨hlen, hv⟩ := r1
    rcases hv with ⟨h, _⟩ | ⟨g, cap, cur, h, _, hgb, _, _, hs, ht⟩
    · cases h
    · cases h
      refine ⟨cur, hgb, by omega, fun i hi' => ?_⟩
      have h1 : cur.toList.take (N * 1) = cur.toList := List.take_of_length_le (by simp; omega)
      rw [h1] at ht
      rw [← Array.getElem?_toList, ht, Array.getElem?_toList]
      simp [madeCells, Value.cells, hi', Nat.mod_one, txt, str]
end Go.Proofs.YtiaaefapbcjgmaaGreatDoor
namespace Go.Proofs.YtiaaefapbcjgmaaGreatDoor
open Go Go.RowKit

theorem wpIn_region_storeP {F : Fence} {n : Nat} {P : Program} {id : Nat} {ops : Array Oper} {Q : Exit → Act → World → Prop} {a : Act} {W : World} (p m : Nat) (L : List (Option Tmp × Nat)) (hm : P.follows .mixedOrders = true) (hb : backB ops = true) (ht : tailB ops m = true) (hpm : p < m) (hsz : m < ops.size)
    (hL : dstsOf ops m = L) (hok : okPuts L = true) (Φ : Bool → Nat → Value → World → Prop) (hmono : ∀ c k v V V', Φ c k v V → Below V.heap.size V V' → Φ c k v V')
    (hstep : ∀ c i o s V, i < m → i ≠ p → (c = true → needs ops p ops.size i = false) → ops[i]? = some o → Below W.heap.size W V → (∀ k, depB ops i k = true → Φ c k (s k) V) → ∀ Q' : Exit → Act → World → Prop,
      (∀ v V', Below V.heap.size V V' → Φ c i v V' → Q' .normal ((putsOf L a s).put o.dst v) V') → wpListIn F n P ops Q' [o] (putsOf L a s) V)
    (hmid : ∀ o s V, ops[p]? = some o → Below W.heap.size W V → (∀ k, depB ops p k = true → Φ false k (s k) V) → ∀ Q' : Exit → Act → World → Prop,
      (∀ v V', Below W.heap.size W V' → (∀ k, k ≠ p → Φ false k (s k) V → Φ true k (s k) V') → Φ true p v V' → Q' .normal ((putsOf L a s).put o.dst v) V') → wpListIn F n P ops Q' [o] (putsOf L a s) V)
    (htail : ∀ s V, Below W.heap.size W V → (∀ k, k < m → Φ true k (s k) V) → wpListIn F n P ops Q (ops.toList.drop m) (putsOf L a s) V) : (Code.region id ops true).wpIn F n P Q a W := by
  refine wpIn_region_store p m hm hb ht hpm hsz (putsOf L a) (fun _ V => Below W.heap.size W V) (fun V V' => Below V.heap.size V V') Φ (puts_self a L hok) ?_ (Below.refl _ _).drew (fun c k v V V' h hg => hmono c k v V V' h hg) ?_ hmid htail
  · intro i o s v hi ho
    refine puts_put s o.dst i v L a hok ?_
    rw [← hL]
    unfold dstsOf
    refine List.mem_map.2 ⟨i, List.mem_range.2 hi, ?_⟩
    rw [ho]
    rfl
  · rintro c i o s V him hip hn ho hV hd Q' hQ'
    exact hstep c i o s V him hip hn ho hV hd Q' (fun v V' h2 h3 => hQ' v V' (hV.trans (h2.mono hV.size)) h2 h3)
end Go.Proofs.YtiaaefapbcjgmaaGreatDoor
namespace Go.Proofs.YtiaaefapbcjgmaaGreatDoor
open Go Go.RowKit
attribute [local go_sem] Oper.semAt_some

/-- Lines of text in memory, from a place on. -/
def LinesI (w : World) (v : Value) (L : List (List Nat)) : Prop :=
  ∃ a cap, v = .slice a L.length cap ∧ (0 < L.length → ∃ g o, a = some ⟨g, o, none⟩ ∧ g < w.heap.size ∧ ∀ j, j < L.length → w.cell? ⟨g, o + j, none⟩ = some (txt (L.getD j [])))

theorem LinesI.below {w w' : World} {v : Value} {L : List (List Nat)} (h : LinesI w v L) (hB : Below w.heap.size w w') : LinesI w' v L := by
  obtain ⟨a, cap, rfl, hc⟩ := h
  refine ⟨a, cap, rfl, fun h0 => ?_⟩
  obtain ⟨g, o, rfl, hg, hcc⟩ := hc h0
  exact ⟨g, o, rfl, Nat.lt_of_lt_of_le hg hB.size, fun j hj => (hB.cell (p := ⟨g, o + j, none⟩) hg).trans (hcc j hj)⟩

theorem LinesI.of {w : World} {v : Value} {L : List (List Nat)} (h : Texts w v L) : LinesI w v L := by
  obtain ⟨a, cap, rfl, hc⟩ := h
  refine ⟨a, cap, rfl, fun h0 => ?_⟩
  obtain ⟨g, rfl, hg, hcc⟩ := hc h0
  exact ⟨g, 0, rfl, hg, fun j hj => by rw [Nat.zero_add]; exact hcc j _ (by rw [List.getD, List.getElem?_eq_getElem hj]; rfl)⟩

theorem take_line {L : List (List Nat)} {k : Nat} (h : k < L.length) : L.take (k + 1) = L.take k ++ [L.getD k []] := by
  rw [List.take_add_one, List.getD, List.getElem?_eq_getElem h]; rfl

theorem say_next {d : Dk} {L : List (List Nat)} {k : Nat} (h : k < L.length) : sayL d (L.take (k + 1)) =
    ((lineV (sayL d (L.take k)).1 (L.getD k [])).1, (sayL d (L.take k)).2 ++ [(lineV (sayL d (L.take k)).1 (L.getD k [])).2]) := by
  rw [take_line h, sayL_app]
  rfl

set_option maxRecDepth 100000 in
set_option maxHeartbeats 1000000 in
theorem implSay_no (x p ls : Value) (d : Dk) (L : List (List Nat)) (w : World) (hx : Ints w x d.1) (hp : PastI w p d.2) (hs : DkS d) (hb : deskB d = false ∨ 40 < L.length) (hls : LinesI w ls L) (hn : L.length ≤ 2000000) : Calls Tryz.prog 25 #[.agg #[x, p], ls] w fun e w' =>
    ∃ y, e = .returned (.tuple #[y, .slice none 0 0]) ∧ OwnDk w' w.heap.size y ([], []) ∧ Below w.heap.size w w' := by
  have hB : Below w.heap.size w ((w.alloc (.cells #[x, p] 31)).alloc (.cells #[.slice none 0 0, .slice none 0 0] 31)) := ((Below.refl _ w).alloc (Nat.le_refl _) _).alloc (by rw [World.size_alloc]; omega) _
  have k0 : ((w.alloc (.cells #[x, p] 31)).alloc (.cells #[.slice none 0 0, .slice none 0 0] 31)).heap[w.heap.size]? = some (.cells #[x, p] 31 (0, 0)) := (Below.heap_alloc _ _ _ (by rw [World.size_alloc]; omega)).trans (World.alloc_heap_new w _)
  have k1 := World.alloc_heap_new (w.alloc (.cells #[x, p] 31)) (.cells #[.slice none 0 0, .slice none 0 0] 31)
  rw [World.size_alloc] at k1
  have hsz : w.heap.size + 2 ≤ ((w.alloc (.cells #[x, p] 31)).alloc (.cells #[.slice none 0 0, .slice none 0 0] 31)).heap.size := by simp
  obtain ⟨W1, hW1⟩ : ∃ W1, (w.alloc (.cells #[x, p] 31)).alloc (.cells #[.slice none 0 0, .slice none 0 0] 31) = W1 := ⟨_, rfl⟩
  rw [hW1] at hB k0 k1 hsz
  have hOK := implDeskOk (.agg #[x, p]) d W1 ⟨x, p, rfl, hx.below hB, hp.below hB⟩ hs
  obtain ⟨xa, xc, rfl⟩ := hx.shape
  obtain ⟨pa, pc, rfl, _⟩ := id hp
  obtain ⟨la, lc, rfl, hlr⟩ := hls
  obtain ⟨N, hN⟩ : ∃ N, L.length = N := ⟨_, rfl⟩
  rw [hN] at hn hb ⊢
  obtain ⟨c0, c1, _, _⟩ := row_at k0
  have l0 := (Array.getElem?_eq_some_iff.1 k0).1
  have l1 := (Array.getElem?_eq_some_iff.1 k1).1
  have h40 : deskB d = true → (40 : Int) < (N : Int) := fun e => by
    rcases hb with h | h
    · rw [e] at h; cases h
    · omega
  clear hx hp hs hlr hb
  cases hd : deskB d <;> rw [hd] at hOK h40
  all_goals
    have h40' := h40
    clear h40
    simp at h40'
    go_enter Tryz.func25, Tryz.ntmps25
    go_wp2_with (go_at_call 23; go_loud (refine hOK.mono ?_; clear hOK; rintro e W2 ⟨rfl, hB2⟩; have zres := (hB2.block _ l1).trans k1; obtain ⟨c0, c1, _, _⟩ := row_at ((hB2.block _ l0).trans k0); obtain ⟨r0, r1, f0, f1⟩ := row_at zres))
    (try simp only [Exit.inBlock, Exit.then])
    have hB3 := hB.trans (hB2.mono hB.size)
    have hz := hB2.size
    exact bodyPost_ret (results_desk2 rfl _ _ (w.heap.size + 1) _ _ rfl (desk_set zres (.slice none 0 0) (.slice none 0 0))) rfl ⟨_, rfl, (OwnDk.none W2 (w.heap.size + 2) (by omega)).result (b := w.heap.size + 1) (base' := w.heap.size) (by omega) (by omega), (hB3.setCell (p := ⟨w.heap.size + 1, 0, none⟩) (Nat.le_succ _) _).setCell (p := ⟨w.heap.size + 1, 1, none⟩) (Nat.le_succ _) _⟩
end Go.Proofs.YtiaaefapbcjgmaaGreatDoor
namespace Go.Proofs.YtiaaefapbcjgmaaGreatDoor
open Go Go.RowKit
attribute [local go_sem] Oper.semAt_some

/-- A round of DeskSay: the desk's box b, the answers' block g. -/
structure Sk (w : World) (b g : Nat) (d : Dk) (L : List (List Nat)) (k : Nat) (x p : Value) (W : World) : Prop where
  below : Below w.heap.size w W
  res : W.heap[w.heap.size + 1]? = some (.cells #[.slice none 0 0, .slice none 0 0] 31 (0, 0))
  box : W.heap[b]? = some (.cells #[x, p] 31 (0, 0))
  lt : w.heap.size + 2 ≤ b
  glt : w.heap.size + 2 ≤ g
  own : OwnDk W (w.heap.size + 2) (.agg #[x, p]) (sayL d (L.take k)).1
  txts : TxA W g L.length (fun i => (sayL d (L.take k)).2.getD i [])
  sep : k = 0 ∨ OwnDk W (g + 1) (.agg #[x, p]) (sayL d (L.take k)).1

set_option maxRecDepth 100000 in
set_option maxHeartbeats 4000000 in
theorem implSay_sep (x p ls : Value) (d : Dk) (L : List (List Nat)) (w : World) (hx : Ints w x d.1) (hp : PastI w p d.2) (hb : deskB d = true) (hl : L.length ≤ 40) (hls : LinesI w ls L) (hby : ∀ l ∈ L, (∀ c ∈ l, c < 256) ∧ l.length ≤ 1100000) (hE : Env w) :
    Calls Tryz.prog 25 #[.agg #[x, p], ls] w fun e w' => ∃ y g, e = .returned (.tuple #[y, .slice (some ⟨g, 0, none⟩) L.length L.length]) ∧ OwnDk w' w.heap.size y (sayL d L).1 ∧ (L.length = 0 ∨ OwnDk w' (g + 1) y (sayL d L).1) ∧ w'.ownsRow w.heap.size 9 1 (.slice (some ⟨g, 0, none⟩) L.length L.length) L.length ((sayL d L).2.map txt) ∧ Below w.heap.size w w' := by
  obtain ⟨hd1, hd2, hd3⟩ := deskB_is.1 hb
  have hl1 := sideB_len hd2
  have hB : Below w.heap.size w ((w.alloc (.cells #[x, p] 31)).alloc (.cells #[.slice none 0 0, .slice none 0 0] 31)) := ((Below.refl _ w).alloc (Nat.le_refl _) _).alloc (by rw [World.size_alloc]; omega) _
  have k0 : ((w.alloc (.cells #[x, p] 31)).alloc (.cells #[.slice none 0 0, .slice none 0 0] 31)).heap[w.heap.size]? = some (.cells #[x, p] 31 (0, 0)) := (Below.heap_alloc _ _ _ (by rw [World.size_alloc]; omega)).trans (World.alloc_heap_new w _)
  have k1 := World.alloc_heap_new (w.alloc (.cells #[x, p] 31)) (.cells #[.slice none 0 0, .slice none 0 0] 31)
  rw [World.size_alloc] at k1
  have hsz : w.heap.size + 2 ≤ ((w.alloc (.cells #[x, p] 31)).alloc (.cells #[.slice none 0 0, .slice none 0 0] 31)).heap.size := by simp
  obtain ⟨W1, hW1⟩ : ∃ W1, (w.alloc (.cells #[x, p] 31)).alloc (.cells #[.slice none 0 0, .slice none 0 0] 31) = W1 := ⟨_, rfl⟩
  rw [hW1] at hB k0 k1 hsz
  have hOK := implDeskOk (.agg #[x, p]) d W1 ⟨x, p, rfl, hx.below hB, hp.below hB⟩ (deskB_size hb)
  rw [hb] at hOK
  have hKp := fun V (hV : Below w.heap.size w V) => deskOf_in x p d.1 d.2 V (hx.below hV) hl1.1 hl1.2 (hp.below hV) hd3 (fun j hj => sideB_len (hd1 _ (by rw [List.getD, List.getElem?_eq_getElem hj]; exact List.getElem_mem hj)))
  obtain ⟨xa, xc, rfl⟩ := hx.shape
  obtain ⟨pa, pc, rfl, _⟩ := id hp
  obtain ⟨la, lc, rfl, hlr⟩ := hls
  obtain ⟨N, hN⟩ : ∃ N, L.length = N := ⟨_, rfl⟩
  rw [hN] at hl hlr ⊢
  have hl' : ¬ (40 : Int) < (N : Int) := by omega
  obtain ⟨c0, c1, _, _⟩ := row_at k0
  have l0 := (Array.getElem?_eq_some_iff.1 k0).1
  have l1 := (Array.getElem?_eq_some_iff.1 k1).1
  clear hx hp hd1
  refine (callsIn_wide (n := 9)).1 ?_
  refine callsIn_of_wp Tryz.func25 rfl trivial ?_ rfl
  simp only [Tryz.ntmps25, List.size_toArray, List.length_cons, List.length_nil, Nat.reduceAdd, Nat.reduceSub, Array.replicate_succ, Array.replicate_zero, List.push_toArray, List.append_toArray, List.nil_append, List.cons_append]
  gi_wp2_with fail
  refine ⟨trivial, ?_⟩
  gi_at_call 23
  refine (callsIn_wide.2 hOK).mono ?_
  rintro e W2 ⟨rfl, hB2⟩
  have hB02 := hB.trans (hB2.mono hB.size)
  have k02 := (hB2.block _ l0).trans k0
  have k12 := (hB2.block _ l1).trans k1
  have hsz2 := Nat.le_trans hsz hB2.size
  clear hOK hB2 k0 k1 l0 l1 hB hsz c0 c1 hW1
  gi_wp2
  refine wpIn_region_storeP 9 10 [(some 19, 0), (some 20, 1), (some 21, 2), (some 22, 3), (some 23, 4), (some 24, 5), (some 25, 6), (some 26, 7), (some 6, 8), (none, 9)] (by kernel_rfl) (by kernel_rfl) (by kernel_rfl) (by decide) (by decide) (by rfl) (by decide)
    (fun c j v V => match j with | 0 => v = .pointer (some ⟨w.heap.size, 0, none⟩) | 1 => v = .slice xa d.1.length xc | 2 => v = .pointer (some ⟨w.heap.size, 1, none⟩) | 3 => v = .slice pa d.2.length pc | 4 => OwnDk V (w.heap.size + 2) v d | 5 => v = .slice la N lc | 6 => v = .int .i64 N | 7 => ∃ g, v = .slice (some ⟨g, 0, none⟩) N N ∧ w.heap.size + 2 ≤ g ∧ TxA V g N (fun _ => []) | 8 => ∃ b x p, v = .pointer (some ⟨b, 0, none⟩) ∧ W2.heap.size ≤ b ∧ V.heap[b]? = some (.cells #[x, p] 31 (0, 0)) ∧ if c = true then OwnDk V (w.heap.size + 2) (.agg #[x, p]) d else (x = .slice none 0 0 ∧ p = .slice none 0 0) | _ => True)
    (fun c j v V V' h hB => match j, h with | 0, h => h | 1, h => h | 2, h => h | 3, h => h | 4, h => OwnDk.below h hB | 5, h => h | 6, h => h | 7, ⟨g, h1, h2, h3⟩ => ⟨g, h1, h2, h3.below hB⟩ | 8, ⟨b, x, p, h1, h2, h3, h4⟩ => ⟨b, x, p, h1, h2, (hB.block _ (Array.getElem?_eq_some_iff.1 h3).1).trans h3, by cases c with | false => simpa using h4 | true => simpa using OwnDk.below (by simpa using h4) hB⟩ | (_ + 9), _ => trivial)
    ?step ?mid ?tail
  case step =>
    rintro c j oo s V hj hj9 hn9 ho hBV hd Q' hQ
    have hB0V := hB02.trans (hBV.mono hB02.size)
    obtain ⟨c0, c1, _, _⟩ := row_at ((hBV.block _ (Array.getElem?_eq_some_iff.1 k02).1).trans k02)
    have zV := hBV.size
    rcases (show j = 0 ∨ j = 1 ∨ j = 2 ∨ j = 3 ∨ j = 4 ∨ j = 5 ∨ j = 6 ∨ j = 7 ∨ j = 8 by omega) with rfl | rfl | rfl | rfl | rfl | rfl | rfl | rfl | rfl
    all_goals
      clear hj9 hj
      simp at ho
      subst ho
      simp only [putsOf, Act.put, List.setIfInBounds_toArray, List.set_cons_succ, List.set_cons_zero] at hQ ⊢
      have hQ' := hide hQ
      clear hQ
    · clear hd
      gi_wp2
      exact hQ'.out _ _ (Below.refl _ _) rfl
    · have q1 : s 0 = .pointer (some ⟨w.heap.size, 0, none⟩) := hd 0 (by kernel_rfl)
      clear hd
      gi_wp2
      have hr := hQ'.out
      simp only [q1] at hr ⊢
      exact hr _ _ (Below.refl _ _) rfl
    · clear hd
      gi_wp2
      exact hQ'.out _ _ (Below.refl _ _) rfl
    · have q1 : s 2 = .pointer (some ⟨w.heap.size, 1, none⟩) := hd 2 (by kernel_rfl)
      clear hd
      gi_wp2
      have hr := hQ'.out
      simp only [q1] at hr ⊢
      exact hr _ _ (Below.refl _ _) rfl
    · have q1 : s 1 = .slice xa d.1.length xc := hd 1 (by kernel_rfl)
      have q2 : s 3 = .slice pa d.2.length pc := hd 3 (by kernel_rfl)
      have hK := hKp V hB0V
      clear hd
      gi_wp2_with (refine ⟨trivial, ?_⟩; gi_at_call 52; go_loud (refine (callsIn_wide.2 hK).mono ?_; rintro e W9 ⟨u9, rfl, ho9, hB9⟩))
      have hr := hQ'.out
      simp only [q1, q2] at hr ⊢
      exact hr _ _ hB9 (ho9.down (by omega))
    · clear hd
      gi_wp2
      exact hQ'.out _ _ (Below.refl _ _) rfl
    · have q1 : s 5 = .slice la N lc := hd 5 (by kernel_rfl)
      clear hd
      gi_wp2
      have hr := hQ'.out
      simp only [q1] at hr ⊢
      exact hr _ _ (Below.refl _ _) rfl
    · have q1 : s 6 = .int .i64 N := hd 6 (by kernel_rfl)
      clear hd
      refine make_texts V rfl _ _ rfl N N N (by simp [go_sem, q1]) (by simp [go_sem, q1]) rfl rfl (by omega) ?_
      intro V' hT hg
      have hr := hQ'.out
      have hbV : Below V.heap.size V V' := (Below.refl _ V).grown hg (Nat.le_refl _) (fun q e => by cases e)
      simp only [wpListIn]
      exact hr _ _ hbV ⟨_, rfl, by omega, hT⟩
    · clear hd
      have hc : c = false := by
        cases c with
        | false => rfl
        | true => exact absurd ((hn9 rfl).symm.trans (by kernel_rfl)) Bool.false_ne_true
      subst hc
      have hbA := (Below.refl _ V).alloc (Nat.le_refl _) (.cells #[.slice none 0 0, .slice none 0 0] 31)
      have hbk := World.alloc_heap_new V (.cells #[.slice none 0 0, .slice none 0 0] 31)
      have hfin := hide (And.intro hbA hbk)
      clear hbA hbk
      gi_wp2
      exact hQ'.out _ _ hfin.out.1 ⟨_, _, _, rfl, zV, hfin.out.2, by simp⟩
  case mid =>
    rintro oo s V ho hBV hd Q' hQ
    simp at ho
    subst ho
    simp only [putsOf, Act.put, List.setIfInBounds_toArray, List.set_cons_succ, List.set_cons_zero] at hQ ⊢
    have hQ' := hide hQ
    clear hQ
    obtain ⟨b, x, p, q8, hb2, hbx, hz⟩ : ∃ b x p, s 8 = .pointer (some ⟨b, 0, none⟩) ∧ W2.heap.size ≤ b ∧ V.heap[b]? = some (.cells #[x, p] 31 (0, 0)) ∧ if false = true then OwnDk V (w.heap.size + 2) (.agg #[x, p]) d else (x = .slice none 0 0 ∧ p = .slice none 0 0) := hd 8 (by kernel_rfl)
    obtain ⟨rfl, rfl⟩ : x = .slice none 0 0 ∧ p = .slice none 0 0 := by simpa using hz
    have q4 : OwnDk V (w.heap.size + 2) (s 4) d := hd 4 (by kernel_rfl)
    clear hd hz
    obtain ⟨y1, y2, y3, y4, hy4⟩ := q4.form
    rw [hy4] at q4
    obtain ⟨z0, z1, z2, z3⟩ := row_at hbx
    have hst := hide (And.intro (ownDk_stored q4 hbx) (And.intro (desk_set hbx (.slice y1 d.1.length y2) (.slice y3 d.2.length y4)) ((hBV.setCell (p := ⟨b, 0, none⟩) hb2 (.slice y1 d.1.length y2)).setCell (p := ⟨b, 1, none⟩) hb2 (.slice y3 d.2.length y4))))
    have hbxh := hide hbx
    clear q4 hbx
    gi_wp2
    have hr := hQ'.out
    simp only [hy4, q8] at hr ⊢
    refine hr undef _ hst.out.2.2 ?_ trivial
    intro k hk h
    match k, h with
    | 0, h => exact h
    | 1, h => exact h
    | 2, h => exact h
    | 3, h => exact h
    | 4, h =>
      show OwnDk _ _ (s 4) d
      rw [hy4]
      exact hst.out.1
    | 5, h => exact h
    | 6, h => exact h
    | 7, ⟨g, h1, h2, h3⟩ =>
      have hne := h3.ne hbxh.out (by decide)
      have g0 := grownBy_setAt V b 0 (.slice y1 d.1.length y2)
      have g1 := grownBy_setAt (V.setCell ⟨b, 0, none⟩ (.slice y1 d.1.length y2)) b 1 (.slice y3 d.2.length y4)
      exact ⟨g, h1, h2, (h3.of_block (g0.block _ h3.lt (fun e => by injection e with e; exact hne e))).of_block (g1.block _ (Nat.lt_of_lt_of_le h3.lt g0.size) (fun e => by injection e with e; exact hne e))⟩
    | 8, h => exact ⟨b, _, _, q8, hb2, hst.out.2.1, by simpa using hst.out.1⟩
    | (_ + 9), _ => trivial
  case tail =>
    rintro s V hBV hd
    obtain ⟨g, q7, hg2, htx⟩ : ∃ g, s 7 = .slice (some ⟨g, 0, none⟩) N N ∧ w.heap.size + 2 ≤ g ∧ TxA V g N (fun _ => []) := hd 7 (by omega)
    obtain ⟨b, x, p, q8, hb2, hbx, hz⟩ : ∃ b x p, s 8 = .pointer (some ⟨b, 0, none⟩) ∧ W2.heap.size ≤ b ∧ V.heap[b]? = some (.cells #[x, p] 31 (0, 0)) ∧ if true = true then OwnDk V (w.heap.size + 2) (.agg #[x, p]) d else (x = .slice none 0 0 ∧ p = .slice none 0 0) := hd 8 (by omega)
    have hown : OwnDk V (w.heap.size + 2) (.agg #[x, p]) d := by simpa using hz
    clear hd hz
    have hS0 : Sk w b g d L 0 x p V := ⟨hB02.trans (hBV.mono hB02.size), (hBV.block _ (Array.getElem?_eq_some_iff.1 k12).1).trans k12, hbx, by omega, hg2, by rw [List.take_zero]; exact hown, by rw [hN, List.take_zero]; exact htx, .inl rfl⟩
    have hlen := hide (fun k => sayL_len (L.take k) d)
    clear hBV hg2 htx hb2 hbx hown hKp hB02 k02 k12 hsz2
    simp only [putsOf, Act.put, List.setIfInBounds_toArray, List.set_cons_succ, List.set_cons_zero]
    simp only [List.drop_succ_cons, List.drop_zero]
    simp only [q7, q8]
    gi_wp2
    gi_loopw [29] (fun i wr => ∃ (k : Nat) (x p : Value), k ≤ N ∧ i = .int .i64 k ∧ Sk w b g d L k x p wr) (fun i _ => N - (intOf i).toNat)
    case atStart => exact ⟨0, _, _, Nat.zero_le _, rfl, hS0⟩
    case round =>
      obtain ⟨k, u, q, hk, rfl, hSi⟩ := hrel
      clear hS0
      obtain ⟨rB, rres, rbox, rlt, rg, rown, rtx, rsep⟩ := hSi
      by_cases hlt : k < N
      · have hki : (k : Int) < (N : Int) := by omega
        obtain ⟨gl, o, rfl, hgl, hc⟩ := hlr (by omega)
        have e1 := (rB.cell (p := ⟨gl, o + k, none⟩) hgl).trans (hc k hlt)
        have hmem : L.getD k [] ∈ L := by rw [List.getD, List.getElem?_eq_getElem (by omega)]; exact List.getElem_mem _
        obtain ⟨hb1, hb2⟩ := hby _ hmem
        have hnx := say_next (d := d) (L := L) (k := k) (by omega)
        have hdb := sayL_desk (L.take k) d hb
        have hA := hlen.out k
        rw [List.length_take] at hA
        obtain ⟨l, hl0⟩ : ∃ l, L.getD k [] = l := ⟨_, rfl⟩
        rw [hl0] at e1 hb1 hb2 hnx
        obtain ⟨⟨dk, A⟩, hdk⟩ : ∃ r, sayL d (L.take k) = r := ⟨_, rfl⟩
        rw [hdk] at rown hnx hdb rtx hA
        simp only at rown hnx hdb rtx hA
        have hLine := implLine (.agg #[u, q]) dk l wr rown.deskI rown.cap (deskB_size hdb) hb1 hb2 (hE.below rB)
        obtain ⟨⟨D, tx⟩, hDt⟩ : ∃ r, lineV dk l = r := ⟨_, rfl⟩
        rw [hDt] at hLine hnx
        simp only at hLine hnx
        unfold txt at e1
        obtain ⟨X, hX⟩ : ∃ X, str l = X := ⟨_, rfl⟩
        obtain ⟨T, hT⟩ : ∃ T, str tx = T := ⟨_, rfl⟩
        rw [hX] at e1 hLine
        rw [hT] at hLine
        have hTt : txt tx = .string T := by unfold txt; rw [hT]
        have hAl : A.length = k := by omega
        have hnxh := hide hnx
        obtain ⟨q1, q2, q3, q4, hq⟩ := rown.form
        injection hq with hq
        simp at hq
        obtain ⟨rfl, rfl⟩ := hq
        obtain ⟨m0, m1, f0, f1⟩ := row_at rbox
        have lbx := (Array.getElem?_eq_some_iff.1 rbox).1
        have lgx := rtx.lt
        have hgb := rtx.ne rbox (by decide)
        clear hX hT hDt hdk hl0 hnx hdb hmem hb1 hb2 hc hlr hA rown rsep hlen hby
        gi_wp2_with fail
        refine ⟨trivial, ?_⟩
        gi_at_call 14
        refine (callsIn_wide.2 hLine).mono ?_
        rintro e V2 ⟨y, rfl, hy, b2⟩
        obtain ⟨y1, y2, y3, y4, rfl⟩ := hy.form
        have zB := rB.trans (b2.mono rB.size)
        have zbox := (b2.block _ lbx).trans rbox
        have zres := (b2.block _ (Array.getElem?_eq_some_iff.1 rres).1).trans rres
        have ztx := rtx.below b2
        have zs := b2.size
        clear rB rbox rres rtx m0 m1 f0 f1 hLine b2 e1
        have g0 := grownBy_setAt V2 b 0 (.slice y1 D.1.length y2)
        have g1 := grownBy_setAt (V2.setCell ⟨b, 0, none⟩ (.slice y1 D.1.length y2)) b 1 (.slice y3 D.2.length y4)
        have zbox3 := desk_set zbox (.slice y1 D.1.length y2) (.slice y3 D.2.length y4)
        have own3 := (hy.old lbx g0).old lbx g1
        have zB3 := (zB.setCell (p := ⟨b, 0, none⟩) (Nat.le_trans (by omega) rlt) (.slice y1 D.1.length y2)).setCell (p := ⟨b, 1, none⟩) (Nat.le_trans (by omega) rlt) (.slice y3 D.2.length y4)
        have zres3 := (g1.block _ (Nat.lt_of_lt_of_le (Array.getElem?_eq_some_iff.1 zres).1 g0.size) (fun e => by injection e with e; omega)).trans ((g0.block _ (Array.getElem?_eq_some_iff.1 zres).1 (fun e => by injection e with e; omega)).trans zres)
        have ztx3 := (ztx.of_block (g0.block _ ztx.lt (fun e => by injection e with e; exact hgb e))).of_block (g1.block _ (Nat.lt_of_lt_of_le ztx.lt g0.size) (fun e => by injection e with e; exact hgb e))
        obtain ⟨m0, m1, f0, f1⟩ := row_at zbox
        obtain ⟨V3, hV3⟩ : ∃ V3, (V2.setCell ⟨b, 0, none⟩ (.slice y1 D.1.length y2)).setCell ⟨b, 1, none⟩ (.slice y3 D.2.length y4) = V3 := ⟨_, rfl⟩
        rw [hV3] at zbox3 own3 zB3 zres3 ztx3
        have t0 := ztx3.cell (i := k) (by omega)
        have t1 := ztx3.frozen k
        have g2 := grownBy_setAt V3 g k (.string T)
        have fin : Sk w b g d L (k + 1) (.slice y1 D.1.length y2) (.slice y3 D.2.length y4) (V3.setCell ⟨g, k, none⟩ (.string T)) := by
          refine ⟨zB3.setCell (p := ⟨g, k, none⟩) (Nat.le_trans (by omega) rg) _, ?_, ?_, rlt, rg, ?_, ?_, .inr ?_⟩
          · exact (g2.block _ (Array.getElem?_eq_some_iff.1 zres3).1 (fun e => by injection e with e; omega)).trans zres3
          · exact (g2.block _ (Array.getElem?_eq_some_iff.1 zbox3).1 (fun e => by injection e with e; exact hgb e.symm)).trans zbox3
          · rw [hnxh.out]
            exact (own3.old lgx g2).down (by have := zB.size; omega)
          · rw [hnxh.out, ← hTt]
            refine (ztx3.set k tx).congr fun i hi => ?_
            simp only
            by_cases e : i = k
            · rw [if_pos e, e, List.getD, List.getElem?_append_right (by omega), hAl, Nat.sub_self]; rfl
            · rw [if_neg e, List.getD, List.getD]
              by_cases e2 : i < k
              · rw [List.getElem?_append_left (by omega)]
              · rw [List.getElem?_eq_none (by omega), List.getElem?_eq_none (by simp; omega)]
          · rw [hnxh.out]
            exact (own3.old lgx g2).down (by omega)
        have finh := hide fin
        clear fin g0 g1 g2 zbox3 own3 zB3 zres3 ztx3 zbox zres ztx hy zB
        gi_wp2
        go_roundw
        case rel => exact ⟨k + 1, _, _, by omega, by go_num, finh.out⟩
        case measure => simp [intOf]; omega
      · obtain rfl : k = N := by omega
        have hki : ¬ (k : Int) < (k : Int) := by omega
        have ht : L.take k = L := by rw [← hN, List.take_length]
        have hln := hlen.out k
        rw [ht] at rown rtx hln rsep
        obtain ⟨q1, q2, q3, q4, hq⟩ := rown.form
        injection hq with hq
        simp at hq
        obtain ⟨rfl, rfl⟩ := hq
        obtain ⟨n1, hn1⟩ : ∃ n1, (sayL d L).1.1.length = n1 := ⟨_, rfl⟩
        obtain ⟨n2, hn2⟩ : ∃ n2, (sayL d L).1.2.length = n2 := ⟨_, rfl⟩
        rw [hn1, hn2] at rown rbox rsep
        obtain ⟨m0, m1, _, _⟩ := row_at rbox
        obtain ⟨r0, r1, f0, f1⟩ := row_at rres
        have g0 := grownBy_setAt wr (w.heap.size + 1) 0 (.slice q1 n1 q2)
        have g1 := grownBy_setAt (wr.setCell ⟨w.heap.size + 1, 0, none⟩ (.slice q1 n1 q2)) (w.heap.size + 1) 1 (.slice q3 n2 q4)
        have hrs := hide (desk_set rres (.slice q1 n1 q2) (.slice q3 n2 q4))
        have hown := hide (rown.result (b := w.heap.size + 1) (base' := w.heap.size) (by omega) (by omega))
        have hsp := hide (rsep.imp id fun h => h.result (b := w.heap.size + 1) (base' := g + 1) (by omega) (by omega))
        have hBl := hide ((rB.setCell (p := ⟨w.heap.size + 1, 0, none⟩) (Nat.le_succ _) (.slice q1 n1 q2)).setCell (p := ⟨w.heap.size + 1, 1, none⟩) (Nat.le_succ _) (.slice q3 n2 q4))
        have htxs := hide ((((rtx.of_block (g0.block _ rtx.lt (fun e => by injection e with e; omega))).of_block (g1.block _ (Nat.lt_of_lt_of_le rtx.lt g0.size) (fun e => by injection e with e; omega)))).own (base := w.heap.size) (by omega) (by omega) (L := (sayL d L).2) hln (fun _ _ => rfl))
        rw [hN] at htxs
        clear rB rown rsep ht hlr hlen hby hE rtx g0 g1 hb
        gi_wp2
        (try simp only [Exit.inBlock, Exit.then])
        exact bodyPost_ret (results_desk2 rfl _ _ (w.heap.size + 1) _ _ rfl hrs.out) rfl ⟨_, g, rfl, hown.out, hsp.out, htxs.out, hBl.out⟩

/-- DeskSay of the program, with a place between the answers and the desk's rows. -/
theorem implSayS (v ls : Value) (d : Dk) (L : List (List Nat)) (w : World) (hv : DeskI w v d) (hs : DkS d) (hls : LinesI w ls L) (hn : L.length ≤ 2000000) (hby : ∀ l ∈ L, (∀ c ∈ l, c < 256) ∧ l.length ≤ 1100000) (hE : Env w) :
    Calls Tryz.prog 25 #[v, ls] w fun e w' => ∃ y u bs, e = .returned (.tuple #[y, u]) ∧ w.heap.size ≤ bs ∧ OwnDk w' bs y (sayV d L).1 ∧ w'.ownsRow w.heap.size 9 1 u (sayV d L).2.length ((sayV d L).2.map txt) ∧ ((sayV d L).2.length = 0 ∨ ∀ g, u.ownBlock = some g → g < bs) ∧ Below w.heap.size w w' := by
  obtain ⟨x, p, rfl, hx, hp⟩ := hv
  by_cases h : deskB d = true ∧ L.length ≤ 40
  · unfold sayV
    rw [if_pos h, sayL_len]
    refine (implSay_sep x p ls d L w hx hp h.1 h.2 hls hby hE).mono fun e w' ⟨y, g, h1, h2, hsp, h3, h4⟩ => ?_
    rcases hsp with h0 | hsp
    · exact ⟨y, _, w.heap.size, h1, Nat.le_refl _, h2, h3, .inl h0, h4⟩
    · exact ⟨y, _, g + 1, h1, by have := (h3.lt g rfl).1; omega, hsp, h3, .inr (fun k e => by
        have := Option.some.inj (show some g = some k from e)
        omega), h4⟩
  · unfold sayV
    rw [if_neg h]
    refine (implSay_no x p ls d L w hx hp hs ?_ hls hn).mono fun e w' ⟨y, h1, h2, h3⟩ => ⟨y, _, w.heap.size, h1, Nat.le_refl _, h2, World.ownsRow_nil _ _ _ _, .inl rfl, h3⟩
    cases hb : deskB d with
    | false => exact .inl rfl
    | true =>
      right
      rcases Nat.lt_or_ge 40 L.length with h1 | h1
      · exact h1
      · exact absurd ⟨hb, h1⟩ h
end Go.Proofs.YtiaaefapbcjgmaaGreatDoor
namespace Go.Proofs.YtiaaefapbcjgmaaGreatDoor
open Go.RowKit Go.BigFrame

theorem specNum (n : Int) (h0 : 0 ≤ n) (h1 : n ≤ 1000000000000000000) (w : World) : Calls Tryz.prog 67 #[.int .i64 n] w fun e w' => e = .returned (.string (str (decI n))) ∧ Below w.heap.size w w' := by
  obtain ⟨u, rfl⟩ : ∃ u : Nat, n = u := ⟨n.toNat, by omega⟩
  exact specNumber 20 u (Nat.lt_of_le_of_lt (show u ≤ 1000000000000000000 by omega) (by decide)) (by omega) (by omega) w

theorem specTold (n : Int) (h1 : n ≤ 1000000000000000000) (w : World) : Calls Tryz.prog 112 #[.int .i64 n] w fun e w' => e = .returned (.string (str (toldI n))) ∧ Below w.heap.size w w' := by
  by_cases h0 : n < 0
  · have e : toldI n = [110, 111, 110, 101] := by unfold toldI; rw [if_pos h0]
    rw [e]
    go_enter Tryz.func112, Tryz.ntmps112
    go_wp2
    go_ret
    exact ⟨rfl, Below.refl _ _⟩
  · rw [toldI_dec (by omega)]
    have hI := specNum n (by omega) h1 w
    obtain ⟨X, hX⟩ : ∃ X, str (decI n) = X := ⟨_, rfl⟩
    rw [hX] at hI ⊢
    go_enter Tryz.func112, Tryz.ntmps112
    go_wp2_with (go_at_call 67; refine hI.mono ?_; rintro e w1 ⟨rfl, hB⟩)
    go_ret
    exact ⟨rfl, hB⟩

set_option maxHeartbeats 1000000 in
theorem ask_cell (a b : Int) (v : Value) (w : World) (hv : Ints w v [a, b]) : Calls Tryz.prog 73 #[.string ⟨#[99, 101, 108, 108]⟩, v] w fun e w' => e = .returned (.string (str (toldI (cellV a b)))) ∧ Below w.heap.size w w' := by
  obtain ⟨g, cap, rfl, hg, hc⟩ : ∃ g cap, v = .slice (some ⟨g, 0, none⟩) 2 cap ∧ g < w.heap.size ∧ ∀ i, i < 2 → w.cell? ⟨g, i, none⟩ = some (.int .i64 ([a, b].getD i 0)) := by
    rcases hv with ⟨_, _, _, h⟩ | ⟨g, cap, rfl, h1, h2⟩
    · cases h
    · exact ⟨g, cap, rfl, h1, h2⟩
  have q0 : ∀ m : After w, m.now.cell? ⟨g, 0, none⟩ = some (.int .i64 a) := fun m => (m.ok.cell (p := ⟨g, 0, none⟩) hg).trans (hc 0 (by omega))
  have q1 : ∀ m : After w, m.now.cell? ⟨g, 1, none⟩ = some (.int .i64 b) := fun m => (m.ok.cell (p := ⟨g, 1, none⟩) hg).trans (hc 1 (by omega))
  have hO := fun m : After w => specCell a b m.now
  have hT := fun m : After w => specTold (cellV a b) (cellV_big a b) m.now
  obtain ⟨N, hN⟩ : ∃ N, cellV a b = N := ⟨_, rfl⟩
  rw [hN] at hT ⊢
  simp only [hN] at hO
  obtain ⟨S, hS⟩ : ∃ S, str (toldI N) = S := ⟨_, rfl⟩
  rw [hS] at hT ⊢
  clear hv hN hS hc hg
  go_enter Tryz.func73, Tryz.ntmps73
  go_wp2
  refine wp_region_below w (by kernel_rfl) (by kernel_rfl) (Below.refl _ _) ?_
  repeat (go_big_quiet_step (first | (go_at_call 113; exact after_of (hO _)) | (go_at_call 112; exact after_of (hT _))))
  refine wpQuiet_nil ?_
  rintro _ ⟨nq, rfl⟩
  go_wp2
  go_ret
  exact ⟨rfl, nq.ok⟩

theorem ask_cell_not (p : Option Addr) (n c : Nat) (hn : ¬ n = 2) (w : World) : Calls Tryz.prog 73 #[.string ⟨#[99, 101, 108, 108]⟩, .slice p n c] w fun e w' => e = .returned (.string (str whatT)) ∧ Below w.heap.size w w' := by
  have hni : ((n : Int) == 2) = false := by rw [beq_eq_false_iff_ne]; omega
  have hni2 : ¬ (n : Int) = 2 := by omega
  have hs : str whatT = ⟨#[119, 104, 97, 116]⟩ := by kernel_rfl
  rw [hs]
  go_enter Tryz.func73, Tryz.ntmps73
  go_wp2
  go_ret
  exact ⟨rfl, Below.refl _ _⟩

set_option maxHeartbeats 1000000 in
theorem ask_shared (a : Int) (v : Value) (w : World) (hv : Ints w v [a]) : Calls Tryz.prog 73 #[.string ⟨#[115, 104, 97, 114, 101, 100]⟩, v] w fun e w' => e = .returned (.string (str (toldI (sharedV a)))) ∧ Below w.heap.size w w' := by
  obtain ⟨g, cap, rfl, hg, hc⟩ : ∃ g cap, v = .slice (some ⟨g, 0, none⟩) 1 cap ∧ g < w.heap.size ∧ ∀ i, i < 1 → w.cell? ⟨g, i, none⟩ = some (.int .i64 ([a].getD i 0)) := by
    rcases hv with ⟨_, _, _, h⟩ | ⟨g, cap, rfl, h1, h2⟩
    · cases h
    · exact ⟨g, cap, rfl, h1, h2⟩
  have q0 : ∀ m : After w, m.now.cell? ⟨g, 0, none⟩ = some (.int .i64 a) := fun m => (m.ok.cell (p := ⟨g, 0, none⟩) hg).trans (hc 0 (by omega))
  have hO := fun m : After w => specShared a m.now
  have hT := fun m : After w => specTold (sharedV a) (sharedV_big a) m.now
  obtain ⟨N, hN⟩ : ∃ N, sharedV a = N := ⟨_, rfl⟩
  rw [hN] at hT ⊢
  simp only [hN] at hO
  obtain ⟨S, hS⟩ : ∃ S, str (toldI N) = S := ⟨_, rfl⟩
  rw [hS] at hT ⊢
  clear hv hN hS hc hg
  have r0 := q0 ⟨w, Below.refl _ _⟩
  have hO1 := hO ⟨w, Below.refl _ _⟩
  simp only at r0 hO1
  go_enter Tryz.func73, Tryz.ntmps73
  go_wp2_with fail
  go_at_call 114
  refine hO1.mono ?_
  rintro e W2 ⟨rfl, hB2⟩
  have hT2 := hT ⟨W2, hB2⟩
  simp only at hT2
  go_wp2_with fail
  go_at_call 112
  refine hT2.mono ?_
  rintro e W3 ⟨rfl, hB3⟩
  go_wp2
  go_ret
  exact ⟨rfl, hB2.trans (hB3.mono hB2.size)⟩

theorem ask_shared_not (p : Option Addr) (n c : Nat) (hn : ¬ n = 1) (w : World) : Calls Tryz.prog 73 #[.string ⟨#[115, 104, 97, 114, 101, 100]⟩, .slice p n c] w fun e w' => e = .returned (.string (str whatT)) ∧ Below w.heap.size w w' := by
  have hni : ((n : Int) == 1) = false := by rw [beq_eq_false_iff_ne]; omega
  have hni2 : ¬ (n : Int) = 1 := by omega
  have hs : str whatT = ⟨#[119, 104, 97, 116]⟩ := by kernel_rfl
  rw [hs]
  go_enter Tryz.func73, Tryz.ntmps73
  go_wp2
  go_ret
  exact ⟨rfl, Below.refl _ _⟩

set_option maxHeartbeats 1000000 in
theorem ask_ways (a : Int) (v : Value) (w : World) (hv : Ints w v [a]) : Calls Tryz.prog 73 #[.string ⟨#[119, 97, 121, 115]⟩, v] w fun e w' => e = .returned (.string (str (toldI (waysV a)))) ∧ Below w.heap.size w w' := by
  obtain ⟨g, cap, rfl, hg, hc⟩ : ∃ g cap, v = .slice (some ⟨g, 0, none⟩) 1 cap ∧ g < w.heap.size ∧ ∀ i, i < 1 → w.cell? ⟨g, i, none⟩ = some (.int .i64 ([a].getD i 0)) := by
    rcases hv with ⟨_, _, _, h⟩ | ⟨g, cap, rfl, h1, h2⟩
    · cases h
    · exact ⟨g, cap, rfl, h1, h2⟩
  have q0 : ∀ m : After w, m.now.cell? ⟨g, 0, none⟩ = some (.int .i64 a) := fun m => (m.ok.cell (p := ⟨g, 0, none⟩) hg).trans (hc 0 (by omega))
  have hO := fun m : After w => specWaysOf a m.now
  have hT := fun m : After w => specTold (waysV a) (waysV_big a) m.now
  obtain ⟨N, hN⟩ : ∃ N, waysV a = N := ⟨_, rfl⟩
  rw [hN] at hT ⊢
  simp only [hN] at hO
  obtain ⟨S, hS⟩ : ∃ S, str (toldI N) = S := ⟨_, rfl⟩
  rw [hS] at hT ⊢
  clear hv hN hS hc hg
  have r0 := q0 ⟨w, Below.refl _ _⟩
  have hO1 := hO ⟨w, Below.refl _ _⟩
  simp only at r0 hO1
  go_enter Tryz.func73, Tryz.ntmps73
  go_wp2_with fail
  go_at_call 115
  refine hO1.mono ?_
  rintro e W2 ⟨rfl, hB2⟩
  have hT2 := hT ⟨W2, hB2⟩
  simp only at hT2
  go_wp2_with fail
  go_at_call 112
  refine hT2.mono ?_
  rintro e W3 ⟨rfl, hB3⟩
  go_wp2
  go_ret
  exact ⟨rfl, hB2.trans (hB3.mono hB2.size)⟩

theorem ask_ways_not (p : Option Addr) (n c : Nat) (hn : ¬ n = 1) (w : World) : Calls Tryz.prog 73 #[.string ⟨#[119, 97, 121, 115]⟩, .slice p n c] w fun e w' => e = .returned (.string (str whatT)) ∧ Below w.heap.size w w' := by
  have hni : ((n : Int) == 1) = false := by rw [beq_eq_false_iff_ne]; omega
  have hni2 : ¬ (n : Int) = 1 := by omega
  have hs : str whatT = ⟨#[119, 104, 97, 116]⟩ := by kernel_rfl
  rw [hs]
  go_enter Tryz.func73, Tryz.ntmps73
  go_wp2
  go_ret
  exact ⟨rfl, Below.refl _ _⟩

set_option maxHeartbeats 1000000 in
theorem ask_kept (a b : Int) (v : Value) (w : World) (hv : Ints w v [a, b]) : Calls Tryz.prog 73 #[.string ⟨#[107, 101, 112, 116]⟩, v] w fun e w' => e = .returned (.string (str (toldI (keepV a b)))) ∧ Below w.heap.size w w' := by
  obtain ⟨g, cap, rfl, hg, hc⟩ : ∃ g cap, v = .slice (some ⟨g, 0, none⟩) 2 cap ∧ g < w.heap.size ∧ ∀ i, i < 2 → w.cell? ⟨g, i, none⟩ = some (.int .i64 ([a, b].getD i 0)) := by
    rcases hv with ⟨_, _, _, h⟩ | ⟨g, cap, rfl, h1, h2⟩
    · cases h
    · exact ⟨g, cap, rfl, h1, h2⟩
  have q0 : ∀ m : After w, m.now.cell? ⟨g, 0, none⟩ = some (.int .i64 a) := fun m => (m.ok.cell (p := ⟨g, 0, none⟩) hg).trans (hc 0 (by omega))
  have q1 : ∀ m : After w, m.now.cell? ⟨g, 1, none⟩ = some (.int .i64 b) := fun m => (m.ok.cell (p := ⟨g, 1, none⟩) hg).trans (hc 1 (by omega))
  have hO := fun m : After w => specLeftIn a b m.now
  have hT := fun m : After w => specTold (keepV a b) (keepV_big a b) m.now
  obtain ⟨N, hN⟩ : ∃ N, keepV a b = N := ⟨_, rfl⟩
  rw [hN] at hT ⊢
  simp only [hN] at hO
  obtain ⟨S, hS⟩ : ∃ S, str (toldI N) = S := ⟨_, rfl⟩
  rw [hS] at hT ⊢
  clear hv hN hS hc hg
  go_enter Tryz.func73, Tryz.ntmps73
  go_wp2
  refine wp_region_below w (by kernel_rfl) (by kernel_rfl) (Below.refl _ _) ?_
  repeat (go_big_quiet_step (first | (go_at_call 116; exact after_of_same (hO _)) | (go_at_call 112; exact after_of (hT _))))
  refine wpQuiet_nil ?_
  rintro _ ⟨nq, rfl⟩
  go_wp2
  go_ret
  exact ⟨rfl, nq.ok⟩

theorem ask_kept_not (p : Option Addr) (n c : Nat) (hn : ¬ n = 2) (w : World) : Calls Tryz.prog 73 #[.string ⟨#[107, 101, 112, 116]⟩, .slice p n c] w fun e w' => e = .returned (.string (str whatT)) ∧ Below w.heap.size w w' := by
  have hni : ((n : Int) == 2) = false := by rw [beq_eq_false_iff_ne]; omega
  have hni2 : ¬ (n : Int) = 2 := by omega
  have hs : str whatT = ⟨#[119, 104, 97, 116]⟩ := by kernel_rfl
  rw [hs]
  go_enter Tryz.func73, Tryz.ntmps73
  go_wp2
  go_ret
  exact ⟨rfl, Below.refl _ _⟩

set_option maxHeartbeats 1000000 in
theorem ask_left (a b c : Int) (v : Value) (w : World) (hv : Ints w v [a, b, c]) : Calls Tryz.prog 73 #[.string ⟨#[108, 101, 102, 116]⟩, v] w fun e w' => e = .returned (.string (str (toldI (leftV a b c)))) ∧ Below w.heap.size w w' := by
  obtain ⟨g, cap, rfl, hg, hc⟩ : ∃ g cap, v = .slice (some ⟨g, 0, none⟩) 3 cap ∧ g < w.heap.size ∧ ∀ i, i < 3 → w.cell? ⟨g, i, none⟩ = some (.int .i64 ([a, b, c].getD i 0)) := by
    rcases hv with ⟨_, _, _, h⟩ | ⟨g, cap, rfl, h1, h2⟩
    · cases h
    · exact ⟨g, cap, rfl, h1, h2⟩
  have q0 : ∀ m : After w, m.now.cell? ⟨g, 0, none⟩ = some (.int .i64 a) := fun m => (m.ok.cell (p := ⟨g, 0, none⟩) hg).trans (hc 0 (by omega))
  have q1 : ∀ m : After w, m.now.cell? ⟨g, 1, none⟩ = some (.int .i64 b) := fun m => (m.ok.cell (p := ⟨g, 1, none⟩) hg).trans (hc 1 (by omega))
  have q2 : ∀ m : After w, m.now.cell? ⟨g, 2, none⟩ = some (.int .i64 c) := fun m => (m.ok.cell (p := ⟨g, 2, none⟩) hg).trans (hc 2 (by omega))
  have hO := fun m : After w => specLeft a b c m.now
  have hT := fun m : After w => specTold (leftV a b c) (leftV_big a b c) m.now
  obtain ⟨N, hN⟩ : ∃ N, leftV a b c = N := ⟨_, rfl⟩
  rw [hN] at hT ⊢
  simp only [hN] at hO
  obtain ⟨S, hS⟩ : ∃ S, str (toldI N) = S := ⟨_, rfl⟩
  rw [hS] at hT ⊢
  clear hv hN hS hc hg
  go_enter Tryz.func73, Tryz.ntmps73
  go_wp2
  refine wp_region_below w (by kernel_rfl) (by kernel_rfl) (Below.refl _ _) ?_
  repeat (go_big_quiet_step (first | (go_at_call 117; exact after_of (hO _)) | (go_at_call 112; exact after_of (hT _))))
  refine wpQuiet_nil ?_
  rintro _ ⟨nq, rfl⟩
  go_wp2
  go_ret
  exact ⟨rfl, nq.ok⟩

theorem ask_left_not (p : Option Addr) (n c : Nat) (hn : ¬ n = 3) (w : World) : Calls Tryz.prog 73 #[.string ⟨#[108, 101, 102, 116]⟩, .slice p n c] w fun e w' => e = .returned (.string (str whatT)) ∧ Below w.heap.size w w' := by
  have hni : ((n : Int) == 3) = false := by rw [beq_eq_false_iff_ne]; omega
  have hni2 : ¬ (n : Int) = 3 := by omega
  have hs : str whatT = ⟨#[119, 104, 97, 116]⟩ := by kernel_rfl
  rw [hs]
  go_enter Tryz.func73, Tryz.ntmps73
  go_wp2
  go_ret
  exact ⟨rfl, Below.refl _ _⟩

set_option maxHeartbeats 1000000 in
theorem ask_often (a b c : Int) (v : Value) (w : World) (hv : Ints w v [a, b, c]) : Calls Tryz.prog 73 #[.string ⟨#[111, 102, 116, 101, 110]⟩, v] w fun e w' => e = .returned (.string (str (toldI (cellTV a b c)))) ∧ Below w.heap.size w w' := by
  obtain ⟨g, cap, rfl, hg, hc⟩ : ∃ g cap, v = .slice (some ⟨g, 0, none⟩) 3 cap ∧ g < w.heap.size ∧ ∀ i, i < 3 → w.cell? ⟨g, i, none⟩ = some (.int .i64 ([a, b, c].getD i 0)) := by
    rcases hv with ⟨_, _, _, h⟩ | ⟨g, cap, rfl, h1, h2⟩
    · cases h
    · exact ⟨g, cap, rfl, h1, h2⟩
  have q0 : ∀ m : After w, m.now.cell? ⟨g, 0, none⟩ = some (.int .i64 a) := fun m => (m.ok.cell (p := ⟨g, 0, none⟩) hg).trans (hc 0 (by omega))
  have q1 : ∀ m : After w, m.now.cell? ⟨g, 1, none⟩ = some (.int .i64 b) := fun m => (m.ok.cell (p := ⟨g, 1, none⟩) hg).trans (hc 1 (by omega))
  have q2 : ∀ m : After w, m.now.cell? ⟨g, 2, none⟩ = some (.int .i64 c) := fun m => (m.ok.cell (p := ⟨g, 2, none⟩) hg).trans (hc 2 (by omega))
  have hO := fun m : After w => specCellT a b c m.now
  have hT := fun m : After w => specTold (cellTV a b c) (cellTV_big a b c) m.now
  obtain ⟨N, hN⟩ : ∃ N, cellTV a b c = N := ⟨_, rfl⟩
  rw [hN] at hT ⊢
  simp only [hN] at hO
  obtain ⟨S, hS⟩ : ∃ S, str (toldI N) = S := ⟨_, rfl⟩
  rw [hS] at hT ⊢
  clear hv hN hS hc hg
  go_enter Tryz.func73, Tryz.ntmps73
  go_wp2
  refine wp_region_below w (by kernel_rfl) (by kernel_rfl) (Below.refl _ _) ?_
  repeat (go_big_quiet_step (first | (go_at_call 118; exact after_of_same (hO _)) | (go_at_call 112; exact after_of (hT _))))
  refine wpQuiet_nil ?_
  rintro _ ⟨nq, rfl⟩
  go_wp2
  go_ret
  exact ⟨rfl, nq.ok⟩

theorem ask_often_not (p : Option Addr) (n c : Nat) (hn : ¬ n = 3) (w : World) : Calls Tryz.prog 73 #[.string ⟨#[111, 102, 116, 101, 110]⟩, .slice p n c] w fun e w' => e = .returned (.string (str whatT)) ∧ Below w.heap.size w w' := by
  have hni : ((n : Int) == 3) = false := by rw [beq_eq_false_iff_ne]; omega
  have hni2 : ¬ (n : Int) = 3 := by omega
  have hs : str whatT = ⟨#[119, 104, 97, 116]⟩ := by kernel_rfl
  rw [hs]
  go_enter Tryz.func73, Tryz.ntmps73
  go_wp2
  go_ret
  exact ⟨rfl, Below.refl _ _⟩

set_option maxHeartbeats 1000000 in
theorem ask_carries (a b c : Int) (v : Value) (w : World) (hv : Ints w v [a, b, c]) : Calls Tryz.prog 73 #[.string ⟨#[99, 97, 114, 114, 105, 101, 115]⟩, v] w fun e w' => e = .returned (.string (str (toldI (carriesV a b c)))) ∧ Below w.heap.size w w' := by
  obtain ⟨g, cap, rfl, hg, hc⟩ : ∃ g cap, v = .slice (some ⟨g, 0, none⟩) 3 cap ∧ g < w.heap.size ∧ ∀ i, i < 3 → w.cell? ⟨g, i, none⟩ = some (.int .i64 ([a, b, c].getD i 0)) := by
    rcases hv with ⟨_, _, _, h⟩ | ⟨g, cap, rfl, h1, h2⟩
    · cases h
    · exact ⟨g, cap, rfl, h1, h2⟩
  have q0 : ∀ m : After w, m.now.cell? ⟨g, 0, none⟩ = some (.int .i64 a) := fun m => (m.ok.cell (p := ⟨g, 0, none⟩) hg).trans (hc 0 (by omega))
  have q1 : ∀ m : After w, m.now.cell? ⟨g, 1, none⟩ = some (.int .i64 b) := fun m => (m.ok.cell (p := ⟨g, 1, none⟩) hg).trans (hc 1 (by omega))
  have q2 : ∀ m : After w, m.now.cell? ⟨g, 2, none⟩ = some (.int .i64 c) := fun m => (m.ok.cell (p := ⟨g, 2, none⟩) hg).trans (hc 2 (by omega))
  have hO := fun m : After w => specCarries a b c m.now
  have hT := fun m : After w => specTold (carriesV a b c) (carriesV_big a b c) m.now
  obtain ⟨N, hN⟩ : ∃ N, carriesV a b c = N := ⟨_, rfl⟩
  rw [hN] at hT ⊢
  simp only [hN] at hO
  obtain ⟨S, hS⟩ : ∃ S, str (toldI N) = S := ⟨_, rfl⟩
  rw [hS] at hT ⊢
  clear hv hN hS hc hg
  go_enter Tryz.func73, Tryz.ntmps73
  go_wp2
  refine wp_region_below w (by kernel_rfl) (by kernel_rfl) (Below.refl _ _) ?_
  repeat (go_big_quiet_step (first | (go_at_call 119; exact after_of (hO _)) | (go_at_call 112; exact after_of (hT _))))
  refine wpQuiet_nil ?_
  rintro _ ⟨nq, rfl⟩
  go_wp2
  go_ret
  exact ⟨rfl, nq.ok⟩

theorem ask_carries_not (p : Option Addr) (n c : Nat) (hn : ¬ n = 3) (w : World) : Calls Tryz.prog 73 #[.string ⟨#[99, 97, 114, 114, 105, 101, 115]⟩, .slice p n c] w fun e w' => e = .returned (.string (str whatT)) ∧ Below w.heap.size w w' := by
  have hni : ((n : Int) == 3) = false := by rw [beq_eq_false_iff_ne]; omega
  have hni2 : ¬ (n : Int) = 3 := by omega
  have hs : str whatT = ⟨#[119, 104, 97, 116]⟩ := by kernel_rfl
  rw [hs]
  go_enter Tryz.func73, Tryz.ntmps73
  go_wp2
  go_ret
  exact ⟨rfl, Below.refl _ _⟩

set_option maxRecDepth 100000 in
set_option maxHeartbeats 1000000 in
theorem ask_none (S : ByteArray) (p : Option Addr) (n c : Nat) (w : World)
    (h7 : ¬ S = ⟨#[99, 101, 108, 108]⟩)
    (h5 : ¬ S = ⟨#[115, 104, 97, 114, 101, 100]⟩)
    (h6 : ¬ S = ⟨#[119, 97, 121, 115]⟩)
    (h8 : ¬ S = ⟨#[107, 101, 112, 116]⟩)
    (h9 : ¬ S = ⟨#[108, 101, 102, 116]⟩)
    (h10 : ¬ S = ⟨#[111, 102, 116, 101, 110]⟩)
    (h11 : ¬ S = ⟨#[99, 97, 114, 114, 105, 101, 115]⟩)
    : Calls Tryz.prog 73 #[.string S, .slice p n c] w fun e w' => e = .returned (.string (str whatT)) ∧ Below w.heap.size w w' := by
  have hs : str whatT = ⟨#[119, 104, 97, 116]⟩ := by kernel_rfl
  rw [hs]
  have e7 : ¬ S.toList = [99, 101, 108, 108] := by simpa using (Lib.bytes_beq_false_iff S ⟨#[99, 101, 108, 108]⟩).2 h7
  have e5 : ¬ S.toList = [115, 104, 97, 114, 101, 100] := by simpa using (Lib.bytes_beq_false_iff S ⟨#[115, 104, 97, 114, 101, 100]⟩).2 h5
  have e6 : ¬ S.toList = [119, 97, 121, 115] := by simpa using (Lib.bytes_beq_false_iff S ⟨#[119, 97, 121, 115]⟩).2 h6
  have e8 : ¬ S.toList = [107, 101, 112, 116] := by simpa using (Lib.bytes_beq_false_iff S ⟨#[107, 101, 112, 116]⟩).2 h8
  have e9 : ¬ S.toList = [108, 101, 102, 116] := by simpa using (Lib.bytes_beq_false_iff S ⟨#[108, 101, 102, 116]⟩).2 h9
  have e10 : ¬ S.toList = [111, 102, 116, 101, 110] := by simpa using (Lib.bytes_beq_false_iff S ⟨#[111, 102, 116, 101, 110]⟩).2 h10
  have e11 : ¬ S.toList = [99, 97, 114, 114, 105, 101, 115] := by simpa using (Lib.bytes_beq_false_iff S ⟨#[99, 97, 114, 114, 105, 101, 115]⟩).2 h11
  clear h5 h6 h7 h8 h9 h10 h11
  go_enter Tryz.func73, Tryz.ntmps73
  go_wp2
  go_ret
  exact ⟨rfl, Below.refl _ _⟩

theorem specAsk (p : List Nat) (hp : ∀ x ∈ p, x < 256) (ns : List Int) (v : Value) (w : World) (hv : Ints w v ns) : Calls Tryz.prog 73 #[.string (str p), v] w fun e w' => e = .returned (.string (str (askV p ns))) ∧ Below w.heap.size w w' := by
  obtain ⟨va, vc, rfl⟩ := hv.shape
  have hne : ∀ i, i < 12 → ¬ p = qW i → ∀ S, str (qW i) = S → ¬ str p = S := fun i hi h S hS e => h (str_inj hp (qW_byte hi) (by
    have := congrArg (fun b : ByteArray => b.data.toList) (e.trans hS.symm)
    exact this))
  unfold askV
  by_cases h7 : p = [99, 101, 108, 108]
  · subst h7
    rw [show str [99, 101, 108, 108] = ⟨#[99, 101, 108, 108]⟩ by kernel_rfl]
    by_cases hn : ns.length = 2
    · match ns, hn, hv with
      | [a, b], _, hv =>
        simpa using ask_cell a b _ w hv
    · have := ask_cell_not va ns.length vc hn w
      simpa [hn] using this
  rw [if_neg (fun h => h7 h.1)]
  by_cases h5 : p = [115, 104, 97, 114, 101, 100]
  · subst h5
    rw [show str [115, 104, 97, 114, 101, 100] = ⟨#[115, 104, 97, 114, 101, 100]⟩ by kernel_rfl]
    by_cases hn : ns.length = 1
    · match ns, hn, hv with
      | [a], _, hv =>
        simpa using ask_shared a _ w hv
    · have := ask_shared_not va ns.length vc hn w
      simpa [hn] using this
  rw [if_neg (fun h => h5 h.1)]
  by_cases h6 : p = [119, 97, 121, 115]
  · subst h6
    rw [show str [119, 97, 121, 115] = ⟨#[119, 97, 121, 115]⟩ by kernel_rfl]
    by_cases hn : ns.length = 1
    · match ns, hn, hv with
      | [a], _, hv =>
        simpa using ask_ways a _ w hv
    · have := ask_ways_not va ns.length vc hn w
      simpa [hn] using this
  rw [if_neg (fun h => h6 h.1)]
  by_cases h8 : p = [107, 101, 112, 116]
  · subst h8
    rw [show str [107, 101, 112, 116] = ⟨#[107, 101, 112, 116]⟩ by kernel_rfl]
    by_cases hn : ns.length = 2
    · match ns, hn, hv with
      | [a, b], _, hv =>
        simpa using ask_kept a b _ w hv
    · have := ask_kept_not va ns.length vc hn w
      simpa [hn] using this
  rw [if_neg (fun h => h8 h.1)]
  by_cases h9 : p = [108, 101, 102, 116]
  · subst h9
    rw [show str [108, 101, 102, 116] = ⟨#[108, 101, 102, 116]⟩ by kernel_rfl]
    by_cases hn : ns.length = 3
    · match ns, hn, hv with
      | [a, b, c], _, hv =>
        simpa using ask_left a b c _ w hv
    · have := ask_left_not va ns.length vc hn w
      simpa [hn] using this
  rw [if_neg (fun h => h9 h.1)]
  by_cases h10 : p = [111, 102, 116, 101, 110]
  · subst h10
    rw [show str [111, 102, 116, 101, 110] = ⟨#[111, 102, 116, 101, 110]⟩ by kernel_rfl]
    by_cases hn : ns.length = 3
    · match ns, hn, hv with
      | [a, b, c], _, hv =>
        simpa using ask_often a b c _ w hv
    · have := ask_often_not va ns.length vc hn w
      simpa [hn] using this
  rw [if_neg (fun h => h10 h.1)]
  by_cases h11 : p = [99, 97, 114, 114, 105, 101, 115]
  · subst h11
    rw [show str [99, 97, 114, 114, 105, 101, 115] = ⟨#[99, 97, 114, 114, 105, 101, 115]⟩ by kernel_rfl]
    by_cases hn : ns.length = 3
    · match ns, hn, hv with
      | [a, b, c], _, hv =>
        simpa using ask_carries a b c _ w hv
    · have := ask_carries_not va ns.length vc hn w
      simpa [hn] using this
  rw [if_neg (fun h => h11 h.1)]
  exact ask_none _ _ _ _ w (hne 7 (by omega) h7 _ (by kernel_rfl)) (hne 5 (by omega) h5 _ (by kernel_rfl)) (hne 6 (by omega) h6 _ (by kernel_rfl)) (hne 8 (by omega) h8 _ (by kernel_rfl)) (hne 9 (by omega) h9 _ (by kernel_rfl)) (hne 10 (by omega) h10 _ (by kernel_rfl)) (hne 11 (by omega) h11 _ (by kernel_rfl))
end Go.Proofs.YtiaaefapbcjgmaaGreatDoor
namespace Go.Proofs.YtiaaefapbcjgmaaGreatDoor
open Go Go.RowKit Go.Shelf
attribute [local go_sem] Oper.semAt_some

theorem append_num_in {F : Fence} {k : Nat} {ops : Array Oper} {rest : List Oper} {o : Oper} {a : Act} {Q : Exit → Act → World → Prop} {w : World} {z : Int} (hgd : o.guard = none) (s x : Operand)
    (ho : o.op = .call { callee := .builtin .append, args := #[s, x], argTypes := #[28, 28] })
    (base : Nat) (v : Value) (n : Nat) (xs : List Value) (hs : a.eval s = v) (hown : w.ownsRow base 3 1 v n xs) (hx : a.eval x = .slice (some ⟨w.heap.size, 0, none⟩) 1 1)
    (hn : n ≤ 1000000000) (hbase : base ≤ w.heap.size)
    (h : ∀ v' w', w'.ownsRow base 3 1 v' (n + 1) (xs ++ [.int .i64 z]) → (w.alloc (.cells #[.int .i64 z] 3)).grownBy w' v.ownBlock → wpListIn F k Tryz.prog ops Q rest (a.put o.dst v') w') :
    wpListIn F k Tryz.prog ops Q (o :: rest) a (w.alloc (.cells #[.int .i64 z] 3)) := by
  obtain ⟨i0, hi, hz0, hz1, hz2⟩ := info_parts Tryz.infoInt
  refine wpListIn_append_own _ hgd s x 28 ho base 3 i0 (.int .i64 0) 1 8 Tryz.underlying28 hi hz0 hz1 hz2 rfl (by decide) v n xs hs (hown.alloc _) ⟨w.heap.size, 0, none⟩ 1 1 [.int .i64 z] hx rfl ?_ ?_ ?_ ?_ ?_ ?_
  · intro j u hj
    match j, hj with
    | 0, hj => simp at hj; subst hj; simp [Addr.add]
  · intro u hu; simp at hu; subst hu; rfl
  · unfold maxLen; omega
  · omega
  · simp; omega
  · intro v' w' h1 h2 _; exact h v' w' h1 h2

/-- What is known behind the copy: the copy lies in block b. -/
structure Ls (w : World) (b : Nat) (x p y q : Value) (d : Dk) (W : World) : Prop where
  below : Below w.heap.size w W
  box : W.heap[w.heap.size]? = some (.cells #[x, p] 31 (0, 0))
  res : W.heap[w.heap.size + 1]? = some (.cells #[.slice none 0 0, .slice none 0 0] 31 (0, 0))
  lt : w.heap.size + 2 ≤ b
  out : W.heap[b]? = some (.cells #[y, q] 31 (0, 0))
  now : W.ownsRow (w.heap.size + 2) 3 1 y d.1.length (d.1.map (Value.int .i64))
  past : OwnSS W (w.heap.size + 2) q d.2

theorem Ls.more {w : World} {b : Nat} {x p y q : Value} {d : Dk} {W V : World} (h : Ls w b x p y q d W) (hV : Below W.heap.size W V) : Ls w b x p y q d V :=
  ⟨h.below.trans (hV.mono h.below.size), (hV.block _ (Array.getElem?_eq_some_iff.1 h.box).1).trans h.box, (hV.block _ (Array.getElem?_eq_some_iff.1 h.res).1).trans h.res, h.lt, (hV.block _ (Array.getElem?_eq_some_iff.1 h.out).1).trans h.out, own_below h.now hV, h.past.below hV⟩

/-- What is handed back: the desk in the result's cells. -/
structure Lr (w : World) (d : Dk) (v : Value) (W : World) : Prop where
  desk : DeskI W v d
  cap : CapN w.heap.size v
  below : Below w.heap.size w W

theorem Ls.done {w : World} {b : Nat} {x p y q : Value} {d : Dk} {W : World} (h : Ls w b x p y q d W) :
    Lr w d (.agg #[y, q]) ((W.setCell ⟨w.heap.size + 1, 0, .none⟩ y).setCell ⟨w.heap.size + 1, 1, .none⟩ q) := by
  have g0 := grownBy_setAt W (w.heap.size + 1) 0 y
  have g1 := grownBy_setAt (W.setCell ⟨w.heap.size + 1, 0, .none⟩ y) (w.heap.size + 1) 1 q
  have n1 := own_kept h.now g0 (own_old h.now (by omega))
  have n2 := own_kept n1 g1 (own_old n1 (by omega))
  obtain ⟨us, _, ho, _⟩ := h.past
  obtain ⟨qa, qc, hqe⟩ := own_form ho
  refine ⟨⟨y, q, rfl, Ints.of_owns n2, ((h.past.old (by omega) g0).old (by omega) g1).past⟩, ?_, (h.below.setCell (p := ⟨w.heap.size + 1, 0, .none⟩) (Nat.le_succ _) y).setCell (p := ⟨w.heap.size + 1, 1, .none⟩) (Nat.le_succ _) q⟩
  subst hqe
  exact CapN.of (own_cap ho) (fun g o t e => by subst e; have := (ho.lt g rfl).1; omega)

theorem rdV_someS {l : List Nat} {k n : Int} (h : rdV l = ((k, n), true)) : readD l = some (k, n) ∧ Fits k ∧ Fits n := by
  unfold rdV at h
  cases hr : readD l with
  | none => rw [hr] at h; cases h
  | some a =>
    rw [hr] at h
    obtain ⟨h1, h2⟩ := readD_text hr
    have h3 := deedT_is (k := a.1) (n := a.2) (by rw [h2]; exact h1)
    simp only [Prod.mk.injEq, and_true] at h
    subst h
    refine ⟨rfl, ?_⟩
    unfold isD at h3
    simp only at h3
    exact ⟨by constructor <;> omega, by constructor <;> omega⟩

theorem rdV_noneS {l : List Nat} {k n : Int} (h : rdV l = ((k, n), false)) : readD l = none := by
  unfold rdV at h
  cases hr : readD l with
  | none => rfl
  | some a => rw [hr] at h; cases h

theorem lies_row {w : World} {v : Value} {xs : List Int} (h : Ints w v xs) (h1 : 1 ≤ xs.length) : Lies v := by
  rcases h with ⟨a, c, rfl, h⟩ | ⟨g, c, rfl, _⟩
  · rw [h] at h1; simp at h1
  · exact .inr ⟨_, _, _, rfl⟩

set_option maxRecDepth 100000 in
set_option maxHeartbeats 4000000 in
theorem specLine_deed (x p : Value) (d : Dk) (l : List Nat) (w : World) (hx : Ints w x d.1) (hp : PastI w p d.2) (hb : deskB d = true) (hl : ∀ c ∈ l, c < 256) (hn : l.length ≤ 1100000) (k n : Int) (hr : rdV l = ((k, n), true)) :
    Calls Tryz.prog 21 #[.agg #[x, p], .string (str l)] w fun e w' => ∃ y, e = .returned (.tuple #[y, .string (str (lineV d l).2)]) ∧ DeskI w' y (lineV d l).1 ∧ CapN w.heap.size y ∧ Below w.heap.size w w' := by
  obtain ⟨hrd, hk, hm⟩ := rdV_someS hr
  rw [lineV_deed hb hrd]
  simp only
  obtain ⟨hd1, hd2, hd3⟩ := deskB_is.1 hb
  have hl1 := sideB_len hd2
  have hB : Below w.heap.size w ((w.alloc (.cells #[x, p] 31)).alloc (.cells #[.slice none 0 0, .slice none 0 0] 31)) := ((Below.refl _ w).alloc (Nat.le_refl _) _).alloc (by rw [World.size_alloc]; omega) _
  have k0 : ((w.alloc (.cells #[x, p] 31)).alloc (.cells #[.slice none 0 0, .slice none 0 0] 31)).heap[w.heap.size]? = some (.cells #[x, p] 31 (0, 0)) := (Below.heap_alloc _ _ _ (by rw [World.size_alloc]; omega)).trans (World.alloc_heap_new w _)
  have k1 := World.alloc_heap_new (w.alloc (.cells #[x, p] 31)) (.cells #[.slice none 0 0, .slice none 0 0] 31)
  rw [World.size_alloc] at k1
  have hsz : w.heap.size + 2 ≤ ((w.alloc (.cells #[x, p] 31)).alloc (.cells #[.slice none 0 0, .slice none 0 0] 31)).heap.size := by simp
  obtain ⟨W1, hW1⟩ : ∃ W1, (w.alloc (.cells #[x, p] 31)).alloc (.cells #[.slice none 0 0, .slice none 0 0] 31) = W1 := ⟨_, rfl⟩
  rw [hW1] at hB k0 k1 hsz
  have hOK := specDeskOk (.agg #[x, p]) d W1 ⟨x, p, rfl, hx.below hB, hp.below hB⟩ (deskB_size hb)
  rw [hb] at hOK
  have hKp := fun V (hV : Below w.heap.size w V) => specCopy x p d V (hx.below hV) (hp.below hV) hb
  have hRd := fun V => specReadDeed l hl (by omega) V
  have hDo := fun V (hV : Below w.heap.size w V) => specDo (.agg #[x, p]) d k n V ⟨x, p, rfl, hx.below hV, hp.below hV⟩ (deskB_size hb) hk hm
  have hdk := do_desk hb k n
  obtain ⟨D, hD⟩ : ∃ D, (doV d k n).1 = D := ⟨_, rfl⟩
  obtain ⟨bb, hbb⟩ : ∃ bb, (doV d k n).2 = bb := ⟨_, rfl⟩
  rw [hD] at hdk
  rw [hD, hbb] at hDo ⊢
  unfold dV at hDo
  rw [hr] at hRd
  simp only at hRd
  unfold dV at hRd
  obtain ⟨xa, xc, rfl⟩ := hx.shape
  obtain ⟨pa, pc, rfl, _⟩ := id hp
  obtain ⟨LS, hLS⟩ : ∃ LS, str l = LS := ⟨_, rfl⟩
  rw [hLS] at hRd ⊢
  obtain ⟨c0, c1, _, _⟩ := row_at k0
  have l0 := (Array.getElem?_eq_some_iff.1 k0).1
  have l1 := (Array.getElem?_eq_some_iff.1 k1).1
  clear hx hp hd1 hr hLS hD hbb
  refine (callsIn_wide (n := 9)).1 ?_
  refine callsIn_of_wp Tryz.func21 rfl trivial ?_ rfl
  simp only [Tryz.ntmps21, List.size_toArray, List.length_cons, List.length_nil, Nat.reduceAdd, Nat.reduceSub, Array.replicate_succ, Array.replicate_zero, List.push_toArray, List.append_toArray, List.nil_append, List.cons_append]
  gi_wp2_with fail
  refine ⟨trivial, ?_⟩
  gi_at_call 13
  refine (callsIn_wide.2 hOK).mono ?_
  rintro e W2 ⟨rfl, hB2⟩
  have hB02 := hB.trans (hB2.mono hB.size)
  have k02 := (hB2.block _ l0).trans k0
  have k12 := (hB2.block _ l1).trans k1
  have hsz2 := Nat.le_trans hsz hB2.size
  obtain ⟨c0, c1, _, _⟩ := row_at k02
  clear hOK hB2 k0 k1 l0 l1 hB hsz
  gi_wp2_with fail
  refine ⟨trivial, ?_⟩
  gi_at_call 65
  refine (callsIn_wide.2 (hKp _ hB02)).mono ?_
  rintro e W3 ⟨y, q, rfl, hy, hq, hB3⟩
  have hLs3 : Ls w W3.heap.size (.slice xa d.1.length xc) (.slice pa d.2.length pc) y q d (W3.alloc (.cells #[y, q] 31)) := by
    have hB03 := hB02.trans (hB3.mono hB02.size)
    have hA := (Below.refl _ W3).alloc (Nat.le_refl _) (.cells #[y, q] 31)
    have h02 := (hB3.block _ (Array.getElem?_eq_some_iff.1 k02).1).trans k02
    have h12 := (hB3.block _ (Array.getElem?_eq_some_iff.1 k12).1).trans k12
    exact ⟨hB03.alloc hB03.size _, (hA.block _ (Array.getElem?_eq_some_iff.1 h02).1).trans h02, (hA.block _ (Array.getElem?_eq_some_iff.1 h12).1).trans h12, Nat.le_trans hsz2 hB3.size, World.alloc_heap_new W3 _, own_below (own_fromD hy hsz2) hA, (hq.down hsz2).below hA⟩
  obtain ⟨y1, y2, rfl⟩ := own_form hy
  obtain ⟨q1, q2, rfl⟩ := hq.form
  obtain ⟨b, hbe⟩ : ∃ b, W3.heap.size = b := ⟨_, rfl⟩
  obtain ⟨W4, hW4⟩ : ∃ W4, W3.alloc (.cells #[.slice y1 d.1.length y2, .slice q1 d.2.length q2] 31) = W4 := ⟨_, rfl⟩
  rw [hW4, hbe] at hLs3
  obtain ⟨c0, c1, _, _⟩ := row_at hLs3.box
  clear hKp hB02 k02 k12 hsz2 hy hq hB3
  gi_wp2_with fail
  refine ⟨trivial, ?_⟩
  gi_at_call 47
  refine (callsIn_wide.2 (hRd _)).mono ?_
  rintro e W5 ⟨rfl, hB5⟩
  have hLs5 := hLs3.more hB5
  have hA6 := (Below.refl _ W5).alloc (Nat.le_refl _) (.cells #[.int .i64 k, .int .i64 n] 39)
  have kd := World.alloc_heap_new W5 (.cells #[.int .i64 k, .int .i64 n] 39)
  have hLs6 := hLs5.more hA6
  clear hRd hLs3 hB5 hbe hW4
  obtain ⟨W6, hW6⟩ : ∃ W6, W5.alloc (.cells #[.int .i64 k, .int .i64 n] 39) = W6 := ⟨_, rfl⟩
  rw [hW6] at kd hLs6
  obtain ⟨c0, c1, _, _⟩ := row_at hLs6.box
  obtain ⟨r0, r1, f0, f1⟩ := row_at hLs6.res
  obtain ⟨s0, s1, _, _⟩ := row_at hLs6.out
  obtain ⟨e0, e1, _, _⟩ := row_at kd
  clear hLs5 hA6
  gi_wp2_with fail
  refine ⟨trivial, ?_⟩
  gi_at_call 66
  refine (callsIn_wide.2 (hDo _ hLs6.below)).mono ?_
  rintro e W7 ⟨u, rfl, hu, ⟨hcn, _⟩, hB7⟩
  have hLs7 := hLs6.more hB7
  have z6 := hLs6.below.size
  have hcn' : CapN (w.heap.size + 2) u := ⟨hcn.1, fun x g o t n c e => Nat.le_trans (Nat.le_trans hLs6.lt (Nat.le_of_lt (Array.getElem?_eq_some_iff.1 hLs6.out).1)) (hcn.2 x g o t n c e)⟩
  obtain ⟨ux, up, rfl, hux, hup⟩ := hu
  obtain ⟨u1, u2, rfl⟩ := hux.shape
  obtain ⟨u3, u4, rfl, _⟩ := id hup
  have hA8 := (Below.refl _ W7).alloc (Nat.le_refl _) (.cells #[.slice u1 D.1.length u2, .slice u3 D.2.length u4] 31)
  have hLs8 := hLs7.more hA8
  have ku := World.alloc_heap_new W7 (.cells #[.slice u1 D.1.length u2, .slice u3 D.2.length u4] 31)
  have hu8 : DeskI (W7.alloc (.cells #[.slice u1 D.1.length u2, .slice u3 D.2.length u4] 31)) (.agg #[.slice u1 D.1.length u2, .slice u3 D.2.length u4]) D := ⟨_, _, rfl, hux.below hA8, hup.below hA8⟩
  obtain ⟨W8, hW8⟩ : ∃ W8, W7.alloc (.cells #[.slice u1 D.1.length u2, .slice u3 D.2.length u4] 31) = W8 := ⟨_, rfl⟩
  rw [hW8] at hLs8 ku hu8
  obtain ⟨r0, r1, f0, f1⟩ := row_at hLs8.res
  obtain ⟨m0, m1, _, _⟩ := row_at ku
  have hrs := hide (desk_set hLs8.res (.slice u1 D.1.length u2) (.slice u3 D.2.length u4))
  have hfin := hide (show Lr w D (.agg #[.slice u1 D.1.length u2, .slice u3 D.2.length u4]) ((W8.setCell ⟨w.heap.size + 1, 0, none⟩ (.slice u1 D.1.length u2)).setCell ⟨w.heap.size + 1, 1, none⟩ (.slice u3 D.2.length u4)) from
    ⟨deskI_over hu8 (fun x g o t n c e => hcn'.2 x g o t n c e) (by omega) hLs8.res, ⟨hcn'.1, fun x g o t n c e => Nat.le_trans (by omega) (hcn'.2 x g o t n c e)⟩, (hLs8.below.setCell (p := ⟨w.heap.size + 1, 0, none⟩) (Nat.le_succ _) _).setCell (p := ⟨w.heap.size + 1, 1, none⟩) (Nat.le_succ _) _⟩)
  clear hDo hLs6 hLs7 hLs8 hA8 hB7 hcn hcn' hux hup hu8 kd e0 e1 ku c0 c1 s0 s1 hdk z6
  cases bb
  all_goals
    gi_wp2
    (try simp only [Exit.inBlock, Exit.then])
    exact bodyPost_ret (results_desk2 rfl _ _ (w.heap.size + 1) _ _ rfl hrs.out) rfl ⟨_, rfl, hfin.out.desk, hfin.out.cap, hfin.out.below⟩
end Go.Proofs.YtiaaefapbcjgmaaGreatDoor
