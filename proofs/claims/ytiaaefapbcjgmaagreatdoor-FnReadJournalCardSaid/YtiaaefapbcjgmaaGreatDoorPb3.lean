/-
  Parts of the proofs, laid together: Ans12, Build12, Build6, Draw12a, Draw12g, Draw12h, Draw12i, DrawDeeds, DrawJ12, Impl12t, Journal12, Math12n, Num12, Q12Y, Q12Z, Quest12, Read12, Read12a, RegMade, S12Y, Spec12g, Spec12r, Split12.
-/
import Derived.WalkKit
import Derived.Laws.Concat
import Derived.Laws.Strings2
import Derived.OrdersIn
import Derived.TacticsIn
import Derived.Test.YtiaaefapbcjgmaaGreatDoorProg
import Derived.OwnWalkIn
import Derived.Deep.RegionLaw
import Derived.RangeFuncBox
import Derived.Laws.DeepStrings4
import Derived.Laws.Cover1
import Derived.Maps.AppendAt
import Derived.WalkSpells
import Derived.RangeFuncNested
import Derived.RangeFuncBound
import Derived.RangeFuncCalls
import Derived.RangeFuncLeaves
import Derived.BigRegion
import Derived.Shelf.Abstract
import Derived.Shelf.RegionOpen
import Derived.TacticsInMore
import Derived.LoopNIn
import Derived.LoopIn
import Derived.Deep.QuietTactic
import Derived.BigQuiet
import Derived.Below
import Derived.Laws.BytesString
import Derived.Deep.RegionWith
import Derived.DeepKeys5
import Derived.Maps.Keyed
import Derived.Deep.DeepCutAuto
import Derived.Laws.AppendOwnNone
import Derived.ControlIn
import Derived.Laws.CopyOwn
import Derived.StillTailTactics
import Derived.Maps.OwnSet
import Derived.Laws.Bits64
import Derived.Laws.Bits64b
import Derived.Lib.AppendZeros
import Derived.Lib.AppendZerosOnto
import Derived.Lib.AtoiAll
import Derived.Lib.AtoiAllCases
import Derived.Lib.ItoaNum
import Derived.Lib.ItoaMem
import Derived.Lib.SplitLaws
import Derived.Lib.AppendIntMem
import Derived.WideLaws
import Derived.Lib.SlicesS
import Derived.BigCall
import Derived.Maps.Own
import Derived.Maps.OwnOps
import Derived.StringKeys
import Derived.Shelf.Strings.BuilderK
import Derived.Lib.FrozenHead
import Derived.Tactics
import Derived.Tactics2
import Derived.Defers
import Derived.Laws.Pointers
import Derived.Laws.LoneSync
import Derived.RegionTactic
import Derived.RegionCalls
import Derived.ChangeAlike
import Derived.Test.YtiaaefapbcjgmaaGreatDoorLay12
import Derived.Test.YtiaaefapbcjgmaaGreatDoorLay6
import Derived.Test.YtiaaefapbcjgmaaGreatDoorPb0
import Derived.Test.YtiaaefapbcjgmaaGreatDoorPb1
import Derived.Test.YtiaaefapbcjgmaaGreatDoorPb2
namespace Go.Proofs.YtiaaefapbcjgmaaGreatDoor
open Go Go.RowKit
attribute [local go_sem] Oper.semAt_some

set_option maxHeartbeats 2000000 in
theorem l20Side0_in (W0 : World) (R len cap p : Nat) (a : Option Addr) (w : World) (hb : Bytes W0 a len) (h : Rd W0 R a len cap w p) (hp : p ≤ 800000) :
    Calls Tryz.prog 87 #[.pointer (some ⟨R, 0, none⟩), .int .i64 0] w fun e w' => ∃ (v : Value) (xs : List Int), e = .returned v ∧ w'.ownsRow w.heap.size 3 1 v xs.length (xs.map (Value.int .i64)) ∧ 1 ≤ xs.length ∧ xs.length ≤ 12 ∧ ∃ p', p' ≤ p + 13 ∧ Rd W0 R a len cap w' p' ∧ w.grownBy w' (some R) := by
  have hRw : R < w.heap.size := (Array.getElem?_eq_some_iff.1 h.2.2).1
  have hW0R := h.2.1
  go_enter Tryz.func87, Tryz.ntmps87
  go_wp2_with fail
  go_at_call 42
  refine (pick_in W0 R len cap _ a _ _ hb (h.alloc _) (by omega)).mono ?_
  rintro e w2 ⟨x, rfl, hx0, _, hx1, hR2, hgr2, _⟩
  replace hx1 := hx1 (by omega)
  have hg0 : w.grownBy w2 (some R) := (World.grownBy_alloc w _ _).trans hgr2
  have hs2 := hgr2.size
  obtain ⟨N, rfl⟩ : ∃ N : Nat, x = N := ⟨x.toNat, by omega⟩
  have hmade : (w.alloc (.cells #[] 3)).ownsRow w.heap.size 3 1 (.slice (some ⟨w.heap.size, 0, none⟩) 0 0) 0 [] := World.ownsRow_made _ _ _ (Nat.le_refl _) (by decide) rfl
  go_wp2
  go_loopw [5, 6] (fun out n wr => ∃ (j : Nat) (zs : List Int), j ≤ N + 1 ∧ n = .int .i64 ((N : Int) + 1 - (j : Nat)) ∧ zs.length = j ∧ wr.ownsRow w.heap.size 3 1 out zs.length (zs.map (Value.int .i64)) ∧ w.grownBy wr (some R) ∧ Rd W0 R a len cap wr (p + 1 + j)) (fun _ n _ => (intOf n).toNat)
  case atStart => exact ⟨0, [], by omega, by go_num, rfl, hmade.kept hgr2 (.inr (by simp [Value.ownBlock]; omega)), hg0, hR2⟩
  case round =>
    obtain ⟨j, zs, hj, rfl, hz, hown, hgr, hR⟩ := hrel
    by_cases hjn : j ≤ N
    · have hc : (0 : Int) < (N : Int) + 1 - (j : Int) := by omega
      have hw1 : IntKind.i64.wrap ((N : Int) + 1 - (j : Int) - 1) = (N : Int) + 1 - (j : Int) - 1 := IntWalk.i64_in _ (by omega)
      have hs := hgr.size
      go_wp2_with (first
        | (go_at_call 42; refine (pick_in W0 R len cap _ a _ _ hb hR (by omega)).mono ?_; rintro e w3 ⟨x, rfl, _, _, _, hR3, hgr3, _⟩; have hown3 := hown.kept hgr3 (.inr (fun e => by have := hown.lt R e; omega)); have hs3 := hgr3.size)
        | (at_builtin; refine append_one rfl _ _ rfl w.heap.size _ _ _ rfl hown3 rfl (by omega) (by omega) ?_; intro v' w4 hown4 hgr4))
      all_goals
        have hgr4' : (w3.alloc (.cells #[.int .i64 x] 3)).grownBy w4 u5.ownBlock := hgr4
        go_roundw
        case rel =>
          have hbl : ∀ k, u5.ownBlock = some k → w.heap.size ≤ k := fun k e => (hown.lt k e).1
          refine ⟨j + 1, zs ++ [x], by omega, by go_num, by simp [hz], by simpa using hown4, ?_, ?_⟩
          · exact ((hgr.trans hgr3).andThen (World.grownBy_alloc _ _ none) (fun _ e => by cases e)).andThen hgr4' (fun k e => .inl (hbl k e))
          · rw [show p + 1 + (j + 1) = p + 1 + j + 1 by omega]
            exact (hR3.alloc _).kept hgr4' (fun e => by have := hbl R e.symm; omega) (fun k e => by have := hbl k e; omega)
        case measure => simp [intOf]; omega
    · obtain rfl : j = N + 1 := by omega
      have hc : ¬ (0 : Int) < (N : Int) + 1 - (((N + 1 : Nat)) : Int) := by omega
      have hl12 : zs.length ≤ 12 := by omega
      have hl1 : 1 ≤ zs.length := by omega
      go_wp2_with fail
      go_at_call 49
      refine (odd_zero wr R).mono ?_
      rintro e w3 ⟨rfl, rfl⟩
      go_wp2
      go_ret
      exact ⟨_, zs, rfl, hown, hl1, hl12, _, (by omega : p + 1 + (N + 1) ≤ p + 13), hR, hgr⟩

theorem pickF_in (W0 : World) (R len cap p : Nat) (a : Option Addr) (n : Int) (w : World) (hb : Bytes W0 a len) (h : Rd W0 R a len cap w p) (hp : p ≤ 1000000) :
    Calls Tryz.prog 42 #[.pointer (some ⟨R, 0, none⟩), .int .i64 n] w fun e w' => ∃ x : Int, e = .returned (.int .i64 x) ∧ 0 ≤ x ∧ (n ≤ 1000 → x ≤ 1000) ∧ Rd W0 R a len cap w' (p + 1) ∧ w.grownBy w' (some R) :=
  (pick_in W0 R len cap p a n w hb h hp).mono fun e w' ⟨x, h1, h2, h3, h4, h5, h6, _⟩ => ⟨x, h1, h2, fun hn => by
    by_cases hh : n < 1
    · rw [h3 hh]; omega
    · have := h4 (by omega); omega, h5, h6⟩

theorem Rd.lt {W0 w : World} {R len cap p : Nat} {a : Option Addr} (h : Rd W0 R a len cap w p) : R < w.heap.size := (Array.getElem?_eq_some_iff.1 h.2.2).1

/-- Eight kinds, one of which is picked. -/
def kindsL : List Int := [0, 0, 1, 1, 2, 3, 4, 5]

theorem kinds_in (i : Nat) : 0 ≤ kindsL.getD i 0 ∧ kindsL.getD i 0 ≤ 5 := by
  match i with
  | 0 => decide
  | 1 => decide
  | 2 => decide
  | 3 => decide
  | 4 => decide
  | 5 => decide
  | 6 => decide
  | 7 => decide
  | (n + 8) => simp [kindsL]

theorem quo59 (x : Nat) (h : x < 60) : ∃ y : Nat, y ≤ 1 ∧ Int.tdiv (x : Int) 59 = (y : Int) := ⟨x / 59, by omega, by rw [Int.tdiv_eq_ediv_of_nonneg (by omega)]; rfl⟩

/-- A deed that is drawn: its variable is block b, the result's block r. -/
structure Dd (W0 : World) (R len cap : Nat) (a : Option Addr) (w : World) (b : Nat) (k n : Int) (V : World) (q : Nat) : Prop where
  rd : Rd W0 R a len cap V q
  gr : w.grownBy V (some R)
  box : V.heap[b]? = some (.cells #[.int .i64 k, .int .i64 n] 39 (0, 0))
  res : V.heap[w.heap.size]? = some (.cells #[.int .i64 0, .int .i64 0] 39 (0, 0))
  lo : w.heap.size + 1 ≤ b
  rw_ : R < w.heap.size

theorem Dd.move {W0 : World} {R len cap : Nat} {a : Option Addr} {w : World} {b : Nat} {k n : Int} {V V' : World} {q q' : Nat} (h : Dd W0 R len cap a w b k n V q) (h1 : Rd W0 R a len cap V' q') (h2 : V.grownBy V' (some R)) : Dd W0 R len cap a w b k n V' q' := by
  have h3 := h.lo
  have h4 := h.rw_
  exact ⟨h1, h.gr.trans h2, (h2.block b (Array.getElem?_eq_some_iff.1 h.box).1 (fun e => by injection e with e; omega)).trans h.box, (h2.block _ (Array.getElem?_eq_some_iff.1 h.res).1 (fun e => by injection e with e; omega)).trans h.res, h3, h4⟩

theorem Dd.set1 {W0 : World} {R len cap : Nat} {a : Option Addr} {w : World} {b : Nat} {k n : Int} {V : World} {q : Nat} (h : Dd W0 R len cap a w b k n V q) (x : Int) : Dd W0 R len cap a w b k x (V.setCell ⟨b, 1, .none⟩ (.int .i64 x)) q := by
  have h3 := h.lo
  have h4 := h.rw_
  have h5 := h.rd.2.1
  have g := grownBy_setAtD V b 1 (.int .i64 x)
  exact ⟨h.rd.kept g (fun e => by injection e with e; omega) (fun k e => by injection e with e; omega), h.gr.andThen g (fun k e => .inl (by injection e with e; omega)), set_cells h.box 1 _, (g.block _ (Array.getElem?_eq_some_iff.1 h.res).1 (fun e => by injection e with e; omega)).trans h.res, h3, h4⟩

/-- The deed is handed back. -/
theorem Dd.done {W0 : World} {R len cap : Nat} {a : Option Addr} {w : World} {b : Nat} {k n : Int} {V : World} {q : Nat} (h : Dd W0 R len cap a w b k n V q) :
    ((V.setCell ⟨w.heap.size, 0, .none⟩ (.int .i64 k)).setCell ⟨w.heap.size, 1, .none⟩ (.int .i64 n)).heap[w.heap.size]? = some (.cells #[.int .i64 k, .int .i64 n] 39 (0, 0)) ∧
    Rd W0 R a len cap ((V.setCell ⟨w.heap.size, 0, .none⟩ (.int .i64 k)).setCell ⟨w.heap.size, 1, .none⟩ (.int .i64 n)) q ∧ w.grownBy ((V.setCell ⟨w.heap.size, 0, .none⟩ (.int .i64 k)).setCell ⟨w.heap.size, 1, .none⟩ (.int .i64 n)) (some R) := by
  have h4 := h.rw_
  have h5 := h.rd.2.1
  have g := grownBy_setAtD V w.heap.size 0 (.int .i64 k)
  have g2 := grownBy_setAtD (V.setCell ⟨w.heap.size, 0, .none⟩ (.int .i64 k)) w.heap.size 1 (.int .i64 n)
  exact ⟨set_cells (set_cells h.res 0 _) 1 _, (h.rd.kept g (fun e => by injection e with e; omega) (fun k e => by injection e with e; omega)).kept g2 (fun e => by injection e with e; omega) (fun k e => by injection e with e; omega),
    (h.gr.andThen g (fun k e => .inl (by injection e with e; omega))).andThen g2 (fun k e => .inl (by injection e with e; omega))⟩

theorem grown_cell12 {W W' : World} {R g : Nat} (h : W.grownBy W' (some R)) (h1 : g < W.heap.size) (h2 : g ≠ R) (i : Nat) : W'.cell? ⟨g, i, none⟩ = W.cell? ⟨g, i, none⟩ := by
  unfold World.cell?
  rw [h.block g h1 (fun e => h2 (by injection e))]

set_option maxRecDepth 100000 in
set_option maxHeartbeats 4000000 in
theorem l20Deed_in (W0 : World) (R len cap p : Nat) (a : Option Addr) (w : World) (hb : Bytes W0 a len) (h : Rd W0 R a len cap w p) (hp : p ≤ 800000) (rv : Option Addr) (rn rc : Nat) (hrn : rn ≤ 13) :
    Calls Tryz.prog 94 #[.pointer (some ⟨R, 0, none⟩), .slice rv rn rc] w fun e w' => (∃ k n, Fits k ∧ Fits n ∧ e = .returned (dV k n)) ∧ ∃ p', p' ≤ p + 30 ∧ Rd W0 R a len cap w' p' ∧ w.grownBy w' (some R) := by
  have hRw := h.lt
  have hW0R := h.2.1
  refine (callsIn_wide (n := 9)).1 ?_
  refine callsIn_of_wp Tryz.func94 rfl trivial ?_ rfl
  simp only [Tryz.ntmps94, List.size_toArray, List.length_cons, List.length_nil, Nat.reduceAdd, Nat.reduceSub, Array.replicate_succ, Array.replicate_zero, List.push_toArray, List.append_toArray, List.nil_append, List.cons_append]
  have hg1 : w.grownBy (w.alloc (.cells #[.int .i64 0, .int .i64 0] 39)) (some R) := World.grownBy_alloc w _ _
  have k1 := World.alloc_heap_new w (.cells #[.int .i64 0, .int .i64 0] 39)
  have hR1 := h.alloc (.cells #[.int .i64 0, .int .i64 0] 39)
  have z1 := World.size_alloc w (.cells #[.int .i64 0, .int .i64 0] 39)
  obtain ⟨w1, hw1⟩ : ∃ w1, w.alloc (.cells #[.int .i64 0, .int .i64 0] 39) = w1 := ⟨_, rfl⟩
  rw [hw1] at hg1 k1 hR1 z1
  have z1' : w.heap.size + 1 ≤ w1.heap.size := by omega
  clear z1
  gi_wp2
  refine wpIn_region_rd W0 R len cap p a 1 12 [(some 6, 0), (some 7, 1), (some 8, 2), (some 9, 3), (some 10, 4), (some 11, 5), (some 12, 6), (some 13, 7), (some 14, 8), (some 15, 9), (some 16, 10), (some 5, 11)] (by omega) (by kernel_rfl) (by kernel_rfl) (by kernel_rfl) (by decide) (by decide) (by rfl) (by decide) hR1
    (fun i v V => match i with | 0 => ∃ g, v = .slice (some ⟨g, 0, none⟩) 8 8 ∧ g ≠ R ∧ g < V.heap.size ∧ ∀ j, j < 8 → V.cell? ⟨g, j, none⟩ = some (.int .i64 (kindsL.getD j 0)) | 1 => v = .pointer (some ⟨R, 0, none⟩) | 2 => ∃ x : Nat, x < 8 ∧ v = .int .i64 x | 3 => ∃ g j, v = .pointer (some ⟨g, j, none⟩) ∧ g ≠ R ∧ g < V.heap.size ∧ ∃ z : Int, 0 ≤ z ∧ z ≤ 5 ∧ V.cell? ⟨g, j, none⟩ = some (.int .i64 z) | 4 => ∃ z : Int, 0 ≤ z ∧ z ≤ 5 ∧ v = .int .i64 z | 5 => v = .pointer (some ⟨R, 0, none⟩) | 6 => ∃ x : Nat, x < 60 ∧ v = .int .i64 x | 7 => ∃ x : Nat, x ≤ 1 ∧ v = .int .i64 x | 8 => ∃ z : Int, 0 ≤ z ∧ z ≤ 6 ∧ v = .int .i64 z | 9 => ∃ z : Int, 0 ≤ z ∧ z ≤ 11 ∧ v = .int .i64 z | 10 => ∃ z : Int, 0 ≤ z ∧ z ≤ 11 ∧ v = .agg #[.int .i64 z, .int .i64 0] | 11 => ∃ b, v = .pointer (some ⟨b, 0, none⟩) ∧ w1.heap.size ≤ b ∧ V.heap[b]? = some (.cells #[.int .i64 0, .int .i64 0] 39 (0, 0)) | _ => True)
    (fun i v V V' h hg => match i, h with | 0, h => (by obtain ⟨g, h1, h2, h3, h4⟩ := h; exact ⟨g, h1, h2, Nat.lt_of_lt_of_le h3 hg.size, fun j hj => (grown_cell12 hg h3 h2 j).trans (h4 j hj)⟩) | 1, h => h | 2, h => h | 3, h => (by obtain ⟨g, j, h1, h2, h3, z, h4, h5, h6⟩ := h; exact ⟨g, j, h1, h2, Nat.lt_of_lt_of_le h3 hg.size, z, h4, h5, (grown_cell12 hg h3 h2 j).trans h6⟩) | 4, h => h | 5, h => h | 6, h => h | 7, h => h | 8, h => h | 9, h => h | 10, h => h | 11, h => (by obtain ⟨b, h1, h2, h3⟩ := h; exact ⟨b, h1, h2, (hg.block b (Array.getElem?_eq_some_iff.1 h3).1 (fun e => by injection e with e; omega)).trans h3⟩) | (_ + 12), _ => trivial)
    ?step ?tail
  case step =>
    rintro i oo s V q hi ho hqb hRV hgV hd Q' hQ
    rcases (show i = 0 ∨ i = 1 ∨ i = 2 ∨ i = 3 ∨ i = 4 ∨ i = 5 ∨ i = 6 ∨ i = 7 ∨ i = 8 ∨ i = 9 ∨ i = 10 ∨ i = 11 by omega) with rfl | rfl | rfl | rfl | rfl | rfl | rfl | rfl | rfl | rfl | rfl | rfl
    all_goals
      simp at ho
      subst ho
      simp only [putsOf, Act.put, List.setIfInBounds_toArray, List.set_cons_succ, List.set_cons_zero] at hQ ⊢
      have hQ' := hide hQ
      clear hQ
    · clear hd
      have hk := World.alloc_heap_new V (.cells #[.int .i64 0, .int .i64 0, .int .i64 1, .int .i64 1, .int .i64 2, .int .i64 3, .int .i64 4, .int .i64 5] 3)
      have zV := hRV.lt
      have zV2 := World.size_alloc V (.cells #[.int .i64 0, .int .i64 0, .int .i64 1, .int .i64 1, .int .i64 2, .int .i64 3, .int .i64 4, .int .i64 5] 3)
      gi_wp2
      have hr := hQ'.out
      refine hr _ _ q (by omega) (hRV.alloc _) (World.grownBy_alloc _ _ _) ⟨V.heap.size, rfl, by omega, by rw [World.size_alloc]; omega, fun j hj => ?_⟩
      rw [World.cell?_alloc_at _ _ _ _ rfl]
      rcases (show j = 0 ∨ j = 1 ∨ j = 2 ∨ j = 3 ∨ j = 4 ∨ j = 5 ∨ j = 6 ∨ j = 7 by omega) with rfl | rfl | rfl | rfl | rfl | rfl | rfl | rfl <;> rfl
    · clear hd
      gi_wp2
      have hr := hQ'.out
      exact hr _ _ q (by omega) hRV (grownBy_refl _ _) rfl
    · have e1 : s 1 = .pointer (some ⟨R, 0, none⟩) := hd 1 (by kernel_rfl)
      clear hd
      gi_wp2_with (refine ⟨trivial, ?_⟩; gi_at_call 42; go_loud (refine (callsIn_wide.2 (pick_in W0 R len cap q a 8 V hb hRV (by omega))).mono ?_; rintro e V9 ⟨x, rfl, hx0, _, hx1, hR9, hg9, _⟩))
      have hx := hx1 (by omega)
      obtain ⟨y, rfl⟩ : ∃ y : Nat, x = y := ⟨x.toNat, by omega⟩
      have hr := hQ'.out
      simp only [e1] at hr ⊢
      exact hr _ _ (q + 1) (by omega) hR9 hg9 ⟨y, by omega, rfl⟩
    · obtain ⟨g, e1, h2, h3, h4⟩ : ∃ g, s 0 = .slice (some ⟨g, 0, none⟩) 8 8 ∧ g ≠ R ∧ g < V.heap.size ∧ ∀ j, j < 8 → V.cell? ⟨g, j, none⟩ = some (.int .i64 (kindsL.getD j 0)) := hd 0 (by kernel_rfl)
      obtain ⟨y, hy, e2⟩ : ∃ x : Nat, x < 8 ∧ s 2 = .int .i64 x := hd 2 (by kernel_rfl)
      clear hd
      have hyi : (y : Int) < 8 := by omega
      have hc := h4 y hy
      have hkz := kinds_in y
      obtain ⟨z, hz⟩ : ∃ z, kindsL.getD y 0 = z := ⟨_, rfl⟩
      rw [hz] at hc hkz
      clear h4 hz
      gi_wp2
      have hr := hQ'.out
      simp only [e1, e2] at hr ⊢
      exact hr _ _ q (by omega) hRV (grownBy_refl _ _) ⟨g, _, rfl, h2, h3, z, hkz.1, hkz.2, by simpa using hc⟩
    · obtain ⟨g, j, e1, h2, h3, z, h4, h5, h6⟩ : ∃ g j, s 3 = .pointer (some ⟨g, j, none⟩) ∧ g ≠ R ∧ g < V.heap.size ∧ ∃ z : Int, 0 ≤ z ∧ z ≤ 5 ∧ V.cell? ⟨g, j, none⟩ = some (.int .i64 z) := hd 3 (by kernel_rfl)
      clear hd
      gi_wp2
      have hr := hQ'.out
      simp only [e1] at hr ⊢
      exact hr _ _ q (by omega) hRV (grownBy_refl _ _) ⟨z, h4, h5, rfl⟩
    · clear hd
      gi_wp2
      have hr := hQ'.out
      exact hr _ _ q (by omega) hRV (grownBy_refl _ _) rfl
    · have e1 : s 5 = .pointer (some ⟨R, 0, none⟩) := hd 5 (by kernel_rfl)
      clear hd
      gi_wp2_with (refine ⟨trivial, ?_⟩; gi_at_call 42; go_loud (refine (callsIn_wide.2 (pick_in W0 R len cap q a 60 V hb hRV (by omega))).mono ?_; rintro e V9 ⟨x, rfl, hx0, _, hx1, hR9, hg9, _⟩))
      have hx := hx1 (by omega)
      obtain ⟨y, rfl⟩ : ∃ y : Nat, x = y := ⟨x.toNat, by omega⟩
      have hr := hQ'.out
      simp only [e1] at hr ⊢
      exact hr _ _ (q + 1) (by omega) hR9 hg9 ⟨y, by omega, rfl⟩
    · obtain ⟨x, hx, e1⟩ : ∃ x : Nat, x < 60 ∧ s 6 = .int .i64 x := hd 6 (by kernel_rfl)
      clear hd
      obtain ⟨y, hy, hq⟩ := quo59 x hx
      have hw : IntKind.i64.wrap (y : Int) = y := IntWalk.i64_in _ (by omega)
      gi_wp2
      have hr := hQ'.out
      simp only [e1] at hr ⊢
      exact hr _ _ q (by omega) hRV (grownBy_refl _ _) ⟨y, hy, rfl⟩
    · obtain ⟨x, hx, e1⟩ : ∃ x : Nat, x ≤ 1 ∧ s 7 = .int .i64 x := hd 7 (by kernel_rfl)
      clear hd
      have hw : IntKind.i64.wrap ((x : Int) * 6) = (x : Int) * 6 := IntWalk.i64_in _ (by omega)
      gi_wp2
      have hr := hQ'.out
      simp only [e1] at hr ⊢
      exact hr _ _ q (by omega) hRV (grownBy_refl _ _) ⟨(x : Int) * 6, by omega, by omega, rfl⟩
    · obtain ⟨x, hx0, hx1, e1⟩ : ∃ z : Int, 0 ≤ z ∧ z ≤ 5 ∧ s 4 = .int .i64 z := hd 4 (by kernel_rfl)
      obtain ⟨y, hy0, hy1, e2⟩ : ∃ z : Int, 0 ≤ z ∧ z ≤ 6 ∧ s 8 = .int .i64 z := hd 8 (by kernel_rfl)
      clear hd
      have hw : IntKind.i64.wrap (x + y) = x + y := IntWalk.i64_in _ (by omega)
      gi_wp2
      have hr := hQ'.out
      simp only [e1, e2] at hr ⊢
      exact hr _ _ q (by omega) hRV (grownBy_refl _ _) ⟨x + y, by omega, by omega, rfl⟩
    · obtain ⟨x, hx0, hx1, e1⟩ : ∃ z : Int, 0 ≤ z ∧ z ≤ 11 ∧ s 9 = .int .i64 z := hd 9 (by kernel_rfl)
      clear hd
      gi_wp2
      have hr := hQ'.out
      simp only [e1] at hr ⊢
      exact hr _ _ q (by omega) hRV (grownBy_refl _ _) ⟨x, hx0, hx1, rfl⟩
    · clear hd
      have zg := hgV.size
      gi_wp2
      have hr := hQ'.out
      exact hr _ _ q (by omega) (hRV.alloc _) (World.grownBy_alloc _ _ _) ⟨V.heap.size, rfl, zg, World.alloc_heap_new V _⟩
  case tail =>
    rintro s V q hqb hRV hgV hd
    replace hqb : q ≤ p + 13 := hqb
    obtain ⟨k, hk0, hk1, f10⟩ : ∃ z : Int, 0 ≤ z ∧ z ≤ 11 ∧ s 10 = .agg #[.int .i64 z, .int .i64 0] := hd 10 (by omega)
    obtain ⟨b, f11, hb11, kb⟩ : ∃ b, s 11 = .pointer (some ⟨b, 0, none⟩) ∧ w1.heap.size ≤ b ∧ V.heap[b]? = some (.cells #[.int .i64 0, .int .i64 0] 39 (0, 0)) := hd 11 (by omega)
    clear hd
    have zb := (Array.getElem?_eq_some_iff.1 kb).1
    obtain ⟨e0, e1, g0, g1⟩ := row_atD kb
    have hgw := hg1.trans hgV
    have hr1 := (hgV.block _ (Array.getElem?_eq_some_iff.1 k1).1 (fun e => by injection e with e; omega)).trans k1
    have gs := grownBy_setAtD V b 0 (.int .i64 k)
    have gs2 := grownBy_setAtD (V.setCell ⟨b, 0, none⟩ (.int .i64 k)) b 1 (.int .i64 0)
    have hD : Dd W0 R len cap a w b k 0 ((V.setCell ⟨b, 0, none⟩ (.int .i64 k)).setCell ⟨b, 1, none⟩ (.int .i64 0)) q := ⟨(hRV.kept gs (fun e => by injection e with e; omega) (fun k e => by injection e with e; omega)).kept gs2 (fun e => by injection e with e; omega) (fun k e => by injection e with e; omega), (hgw.andThen gs (fun k e => .inl (by injection e with e; omega))).andThen gs2 (fun k e => .inl (by injection e with e; omega)), set_cells (set_cells kb 0 _) 1 _, (gs2.block _ (Nat.lt_of_lt_of_le (Array.getElem?_eq_some_iff.1 hr1).1 gs.size) (fun e => by injection e with e; omega)).trans ((gs.block _ (Array.getElem?_eq_some_iff.1 hr1).1 (fun e => by injection e with e; omega)).trans hr1), by omega, hRw⟩
    clear gs gs2 hr1 hgw hgV hRV kb k1 hg1 hR1 hw1
    simp only [putsOf, Act.put, List.setIfInBounds_toArray, List.set_cons_succ, List.set_cons_zero]
    simp only [List.drop_succ_cons, List.drop_zero]
    rcases (show k = 0 ∨ k = 1 ∨ 2 ≤ k by omega) with rfl | rfl | hk2
    · obtain ⟨c0, c1, f0, f1⟩ := row_atD hD.box
      obtain ⟨r0, r1, t0, t1⟩ := row_atD hD.res
      gi_wp2_with fail
      all_goals
        refine ⟨trivial, ?_⟩
        gi_at_call 42
        refine (callsIn_wide.2 (pickF_in W0 R len cap _ a _ _ hb hD.rd (by omega))).mono ?_
        rintro e V2 ⟨x, rfl, hx0, hx1, hR2, hg2⟩
        replace hx1 := hx1 (by omega)
        have h2' := hD.move hR2 hg2
        clear hR2 hg2
        obtain ⟨c0, c1, f0, f1⟩ := row_atD h2'.box
        obtain ⟨r0, r1, t0, t1⟩ := row_atD h2'.res
        have h4 := h2'.set1 x
        have hy : 0 ≤ x ∧ x ≤ 1000 := ⟨hx0, hx1⟩
        clear h2'
        have hO := odd_any W0 R len cap _ a 40 _ hb h4.rd (by omega) (by omega) (by omega)
        gi_wp2_with fail
        refine ⟨trivial, ?_⟩
        gi_at_call 49
        refine (callsIn_wide.2 hO).mono ?_
        rintro e V3 ⟨bo, rfl, hR3, hg3⟩
        have h3 := h4.move hR3 hg3
        clear hR3 hg3 hO
        obtain ⟨c0, c1, f0, f1⟩ := row_atD h3.box
        obtain ⟨r0, r1, t0, t1⟩ := row_atD h3.res
        have hd3 := hide h3.done
        cases bo with
        | false =>
          gi_wp2
          (try simp only [Exit.inBlock, Exit.then])
          exact bodyPost_ret (results_cell_row rfl _ _ w.heap.size _ #[.int .i64 0, .int .i64 x] (0, 0) _ rfl hd3.out.1 Tryz.underlying39 rfl (by kernel_rfl)) rfl ⟨⟨0, x, by unfold Fits; omega, by unfold Fits; omega, rfl⟩, _, by omega, hd3.out.2⟩
        | true =>
          clear hd3
          have hA4 := World.grownBy_alloc V3 (.cells #[.int .i64 (-1), .int .i64 2, .int .i64 12, .int .i64 100] 3) (some R)
          have h3a := h3.move (h3.rd.alloc _) hA4
          have z3 := h3.rd.lt
          have l4 := World.size_alloc V3 (.cells #[.int .i64 (-1), .int .i64 2, .int .i64 12, .int .i64 100] 3)
          have hlit : ∀ i : Nat, i < 4 → ∃ z : Int, -1 ≤ z ∧ z ≤ 100 ∧ (V3.alloc (.cells #[.int .i64 (-1), .int .i64 2, .int .i64 12, .int .i64 100] 3)).cell? ⟨V3.heap.size, i, none⟩ = some (.int .i64 z) := fun i hi => by
            rw [World.cell?_alloc_at _ _ _ _ rfl]
            rcases (show i = 0 ∨ i = 1 ∨ i = 2 ∨ i = 3 by omega) with rfl | rfl | rfl | rfl
            · exact ⟨-1, by omega, by omega, rfl⟩
            · exact ⟨2, by omega, by omega, rfl⟩
            · exact ⟨12, by omega, by omega, rfl⟩
            · exact ⟨100, by omega, by omega, rfl⟩
          have hlith := hide hlit
          clear hlit
          gi_wp2_with fail
          refine ⟨trivial, ?_⟩
          gi_at_call 42
          refine (callsIn_wide.2 (pick_in W0 R len cap _ a _ _ hb h3a.rd (by omega))).mono ?_
          rintro e V4 ⟨y, rfl, hy0, _, hy1, hR4, hg4, _⟩
          have hy2 := hy1 (by omega)
          obtain ⟨j, rfl⟩ : ∃ j : Nat, y = j := ⟨y.toNat, by omega⟩
          have hji : (j : Int) < 4 := by omega
          obtain ⟨z, hz0, hz1, hc⟩ := hlith.out j (by omega)
          have hc4 := (grown_cell12 hg4 (by omega) (by omega) j).trans hc
          have h5 := h3a.move hR4 hg4
          have h6 := h5.set1 z
          clear hc hlith hR4 hg4 hA4 l4 hy1
          obtain ⟨c0, c1, f0, f1⟩ := row_atD h5.box
          obtain ⟨r0, r1, t0, t1⟩ := row_atD h5.res
          have hd6 := hide h6.done
          obtain ⟨c0', c1', f0', f1'⟩ := row_atD h6.box
          obtain ⟨r0', r1', t0', t1'⟩ := row_atD h6.res
          gi_wp2
          (try simp only [Exit.inBlock, Exit.then])
          exact bodyPost_ret (results_cell_row rfl _ _ w.heap.size _ #[.int .i64 0, .int .i64 z] (0, 0) _ rfl hd6.out.1 Tryz.underlying39 rfl (by kernel_rfl)) rfl ⟨⟨0, z, by unfold Fits; omega, by unfold Fits; omega, rfl⟩, _, by omega, hd6.out.2⟩
    · obtain ⟨c0, c1, f0, f1⟩ := row_atD hD.box
      obtain ⟨r0, r1, t0, t1⟩ := row_atD hD.res
      gi_wp2_with fail
      all_goals
        refine ⟨trivial, ?_⟩
        gi_at_call 42
        refine (callsIn_wide.2 (pickF_in W0 R len cap _ a _ _ hb hD.rd (by omega))).mono ?_
        rintro e V2 ⟨x, rfl, hx0, hx1, hR2, hg2⟩
        replace hx1 := hx1 (by omega)
        have h2' := hD.move hR2 hg2
        clear hR2 hg2
        obtain ⟨c0, c1, f0, f1⟩ := row_atD h2'.box
        obtain ⟨r0, r1, t0, t1⟩ := row_atD h2'.res
        have h4 := h2'.set1 x
        have hy : 0 ≤ x ∧ x ≤ 1000 := ⟨hx0, hx1⟩
        clear h2'
        have hO := odd_any W0 R len cap _ a 40 _ hb h4.rd (by omega) (by omega) (by omega)
        gi_wp2_with fail
        refine ⟨trivial, ?_⟩
        gi_at_call 49
        refine (callsIn_wide.2 hO).mono ?_
        rintro e V3 ⟨bo, rfl, hR3, hg3⟩
        have h3 := h4.move hR3 hg3
        clear hR3 hg3 hO
        obtain ⟨c0, c1, f0, f1⟩ := row_atD h3.box
        obtain ⟨r0, r1, t0, t1⟩ := row_atD h3.res
        have hd3 := hide h3.done
        cases bo with
        | false =>
          gi_wp2
          (try simp only [Exit.inBlock, Exit.then])
          exact bodyPost_ret (results_cell_row rfl _ _ w.heap.size _ #[.int .i64 1, .int .i64 x] (0, 0) _ rfl hd3.out.1 Tryz.underlying39 rfl (by kernel_rfl)) rfl ⟨⟨1, x, by unfold Fits; omega, by unfold Fits; omega, rfl⟩, _, by omega, hd3.out.2⟩
        | true =>
          clear hd3
          have hA4 := World.grownBy_alloc V3 (.cells #[.int .i64 (-1), .int .i64 2, .int .i64 12, .int .i64 100] 3) (some R)
          have h3a := h3.move (h3.rd.alloc _) hA4
          have z3 := h3.rd.lt
          have l4 := World.size_alloc V3 (.cells #[.int .i64 (-1), .int .i64 2, .int .i64 12, .int .i64 100] 3)
          have hlit : ∀ i : Nat, i < 4 → ∃ z : Int, -1 ≤ z ∧ z ≤ 100 ∧ (V3.alloc (.cells #[.int .i64 (-1), .int .i64 2, .int .i64 12, .int .i64 100] 3)).cell? ⟨V3.heap.size, i, none⟩ = some (.int .i64 z) := fun i hi => by
            rw [World.cell?_alloc_at _ _ _ _ rfl]
            rcases (show i = 0 ∨ i = 1 ∨ i = 2 ∨ i = 3 by omega) with rfl | rfl | rfl | rfl
            · exact ⟨-1, by omega, by omega, rfl⟩
            · exact ⟨2, by omega, by omega, rfl⟩
            · exact ⟨12, by omega, by omega, rfl⟩
            · exact ⟨100, by omega, by omega, rfl⟩
          have hlith := hide hlit
          clear hlit
          gi_wp2_with fail
          refine ⟨trivial, ?_⟩
          gi_at_call 42
          refine (callsIn_wide.2 (pick_in W0 R len cap _ a _ _ hb h3a.rd (by omega))).mono ?_
          rintro e V4 ⟨y, rfl, hy0, _, hy1, hR4, hg4, _⟩
          have hy2 := hy1 (by omega)
          obtain ⟨j, rfl⟩ : ∃ j : Nat, y = j := ⟨y.toNat, by omega⟩
          have hji : (j : Int) < 4 := by omega
          obtain ⟨z, hz0, hz1, hc⟩ := hlith.out j (by omega)
          have hc4 := (grown_cell12 hg4 (by omega) (by omega) j).trans hc
          have h5 := h3a.move hR4 hg4
          have h6 := h5.set1 z
          clear hc hlith hR4 hg4 hA4 l4 hy1
          obtain ⟨c0, c1, f0, f1⟩ := row_atD h5.box
          obtain ⟨r0, r1, t0, t1⟩ := row_atD h5.res
          have hd6 := hide h6.done
          obtain ⟨c0', c1', f0', f1'⟩ := row_atD h6.box
          obtain ⟨r0', r1', t0', t1'⟩ := row_atD h6.res
          gi_wp2
          (try simp only [Exit.inBlock, Exit.then])
          exact bodyPost_ret (results_cell_row rfl _ _ w.heap.size _ #[.int .i64 1, .int .i64 z] (0, 0) _ rfl hd6.out.1 Tryz.underlying39 rfl (by kernel_rfl)) rfl ⟨⟨1, z, by unfold Fits; omega, by unfold Fits; omega, rfl⟩, _, by omega, hd6.out.2⟩
    · have hk0' : (k == 0) = false := by simp; omega
      have hk1' : (k == 1) = false := by simp; omega
      obtain ⟨c0, c1, f0, f1⟩ := row_atD hD.box
      obtain ⟨r0, r1, t0, t1⟩ := row_atD hD.res
      have hO := odd_any W0 R len cap _ a 40 _ hb hD.rd (by omega) (by omega) (by omega)
      gi_wp2_with fail
      refine ⟨trivial, ?_⟩
      gi_at_call 49
      refine (callsIn_wide.2 hO).mono ?_
      rintro e V3 ⟨bo, rfl, hR3, hg3⟩
      have h3 := hD.move hR3 hg3
      clear hR3 hg3 hO
      obtain ⟨c0, c1, f0, f1⟩ := row_atD h3.box
      obtain ⟨r0, r1, t0, t1⟩ := row_atD h3.res
      have hd3 := hide h3.done
      cases bo with
      | false =>
        gi_wp2
        (try simp only [Exit.inBlock, Exit.then])
        exact bodyPost_ret (results_cell_row rfl _ _ w.heap.size _ #[.int .i64 k, .int .i64 0] (0, 0) _ rfl hd3.out.1 Tryz.underlying39 rfl (by kernel_rfl)) rfl ⟨⟨k, 0, by unfold Fits; omega, by unfold Fits; omega, rfl⟩, _, by omega, hd3.out.2⟩
      | true =>
        clear hd3
        have hA4 := World.grownBy_alloc V3 (.cells #[.int .i64 (-1), .int .i64 2, .int .i64 12, .int .i64 100] 3) (some R)
        have h3a := h3.move (h3.rd.alloc _) hA4
        have z3 := h3.rd.lt
        have l4 := World.size_alloc V3 (.cells #[.int .i64 (-1), .int .i64 2, .int .i64 12, .int .i64 100] 3)
        have hlit : ∀ i : Nat, i < 4 → ∃ z : Int, -1 ≤ z ∧ z ≤ 100 ∧ (V3.alloc (.cells #[.int .i64 (-1), .int .i64 2, .int .i64 12, .int .i64 100] 3)).cell? ⟨V3.heap.size, i, none⟩ = some (.int .i64 z) := fun i hi => by
          rw [World.cell?_alloc_at _ _ _ _ rfl]
          rcases (show i = 0 ∨ i = 1 ∨ i = 2 ∨ i = 3 by omega) with rfl | rfl | rfl | rfl
          · exact ⟨-1, by omega, by omega, rfl⟩
          · exact ⟨2, by omega, by omega, rfl⟩
          · exact ⟨12, by omega, by omega, rfl⟩
          · exact ⟨100, by omega, by omega, rfl⟩
        have hlith := hide hlit
        clear hlit
        gi_wp2_with fail
        refine ⟨trivial, ?_⟩
        gi_at_call 42
        refine (callsIn_wide.2 (pick_in W0 R len cap _ a _ _ hb h3a.rd (by omega))).mono ?_
        rintro e V4 ⟨y, rfl, hy0, _, hy1, hR4, hg4, _⟩
        have hy2 := hy1 (by omega)
        obtain ⟨j, rfl⟩ : ∃ j : Nat, y = j := ⟨y.toNat, by omega⟩
        have hji : (j : Int) < 4 := by omega
        obtain ⟨z, hz0, hz1, hc⟩ := hlith.out j (by omega)
        have hc4 := (grown_cell12 hg4 (by omega) (by omega) j).trans hc
        have h5 := h3a.move hR4 hg4
        have h6 := h5.set1 z
        clear hc hlith hR4 hg4 hA4 l4 hy1
        obtain ⟨c0, c1, f0, f1⟩ := row_atD h5.box
        obtain ⟨r0, r1, t0, t1⟩ := row_atD h5.res
        have hd6 := hide h6.done
        obtain ⟨c0', c1', f0', f1'⟩ := row_atD h6.box
        obtain ⟨r0', r1', t0', t1'⟩ := row_atD h6.res
        gi_wp2
        (try simp only [Exit.inBlock, Exit.then])
        exact bodyPost_ret (results_cell_row rfl _ _ w.heap.size _ #[.int .i64 k, .int .i64 z] (0, 0) _ rfl hd6.out.1 Tryz.underlying39 rfl (by kernel_rfl)) rfl ⟨⟨k, z, by unfold Fits; omega, by unfold Fits; omega, rfl⟩, _, by omega, hd6.out.2⟩
end Go.Proofs.YtiaaefapbcjgmaaGreatDoor
namespace Go.Proofs.YtiaaefapbcjgmaaGreatDoor
open Go.RowKit

/-- 'append(s, d)' of one deed. -/
theorem append_deed {ops : Array Oper} {rest : List Oper} {o : Oper} {a : Act} {Q : Exit → Act → World → Prop} {w : World} {x : Int × Int} (hgd : o.guard = none) (s y : Operand)
    (ho : o.op = .call { callee := .builtin .append, args := #[s, y], argTypes := #[24, 24] })
    (base : Nat) (v : Value) (L : List (Int × Int)) (hs : a.eval s = v) (hown : w.ownsRow base 39 2 v L.length (cellsD L)) (B : Nat) (hBw : w.heap.size = B) (hx : a.eval y = .slice (some ⟨B, 0, none⟩) 1 1)
    (hn : L.length ≤ 4000000) (hbase : base ≤ w.heap.size)
    (h : ∀ v' w', w'.ownsRow base 39 2 v' (L ++ [x]).length (cellsD (L ++ [x])) → (w.alloc (.cells #[.int .i64 x.1, .int .i64 x.2] 39)).grownBy w' v.ownBlock → (v'.ownBlock = v.ownBlock ∨ v'.ownBlock = some (w.heap.size + 1)) → wpList Tryz.prog ops Q rest (a.put o.dst v') w') :
    wpList Tryz.prog ops Q (o :: rest) a (w.alloc (.cells #[.int .i64 x.1, .int .i64 x.2] 39)) := by
  subst hBw
  obtain ⟨i0, hi, hz0, hz1, hz2⟩ := info_any Tryz.infoDeed
  refine wpList_plain hgd fun K hK => ?_
  have hnew := World.alloc_heap_new w (.cells #[.int .i64 x.1, .int .i64 x.2] 39)
  obtain ⟨v', w', hr, h2, h3, _, h5⟩ := run_append_own_at (P := Tryz.prog) (w.alloc (.cells #[.int .i64 x.1, .int .i64 x.2] 39)) base 24 o.type 39 i0 (.agg #[.int .i64 0, .int .i64 0]) 2 16 Tryz.underlying24 hi hz0 hz1 hz2 rfl (by decide) v L.length (cellsD L) (hown.alloc _) ⟨w.heap.size, 0, none⟩ 1 1 (cellsD [x]) rfl (fun j u hj => by
    have hadd : (⟨w.heap.size, 0, none⟩ : Addr).add j = ⟨w.heap.size, j, none⟩ := by unfold Addr.add; split <;> simp_all
    rw [hadd, cell_of_row _ _ j _ _ _ hnew]
    simpa [cellsD] using hj) (cellsD_one [x]) (by unfold maxLen; omega) (by omega) (by rw [World.size_alloc]; omega)
  unfold Oper.wp execOp
  simp only [ho, resolve, invoke, builtin, Sem.run_bind, Sem.run_pure, Result.andThen_ok, List.map_toArray, List.map_cons, List.map_nil, hs, hx, hr]
  refine hK _ _ (h v' w' ?_ h3 (by rwa [World.size_alloc] at h5))
  rw [cellsD_app, List.length_append]
  exact h2

set_option maxRecDepth 100000 in
set_option maxHeartbeats 2000000 in
theorem specReadJournal (l : List Nat) (hl : ∀ x ∈ l, x < 256) (hn : l.length ≤ 1500000) (w : World) : Calls Tryz.prog 10 #[.string (str l)] w fun e w' =>
    ∃ u, e = .returned (.tuple #[u, .int .i64 ((jrT l).2 : Nat)]) ∧ w'.ownsRow w.heap.size 39 2 u (jrT l).1.length (cellsD (jrT l).1) ∧ Below w.heap.size w w' := by
  have hsz := str_size l
  have hget := hide (fun i h => str_get l i h hl)
  have hcut := hide (fun a b => str_cut l a b)
  have hdrop := hide (fun k (h : k < l.length) => drop_get l k h)
  have hall := drop_all l
  have hnext := hide (fun f k h1 h2 => take_next l f k h1 h2)
  have hB0 : Below w.heap.size w (w.alloc (.cells #[] 39)) := (Below.refl _ _).alloc (Nat.le_refl _) _
  have hmade : (w.alloc (.cells #[] 39)).ownsRow w.heap.size 39 2 (.slice (some ⟨w.heap.size, 0, none⟩) 0 0) 0 (cellsD []) := World.ownsRow_made _ _ _ (Nat.le_refl _) (by decide) rfl
  have hst : Hid (jrT l = ([] ++ (jrL ((l.drop 0).take (0 - 0)) (l.drop 0)).1, 0 + (jrL ((l.drop 0).take (0 - 0)) (l.drop 0)).2)) := hide (by simp [jrT])
  obtain ⟨T, hT⟩ : ∃ T, jrT l = T := ⟨_, rfl⟩
  rw [hT] at hst ⊢
  obtain ⟨S, hS⟩ : ∃ S, str l = S := ⟨_, rfl⟩
  rw [hS] at hsz ⊢
  have hget' : Hid (∀ i (h : i < S.size), (S[i]).toNat = l.getD i 0) := by subst hS; exact hget
  have hcut' : Hid (∀ a b, S.extract a b = str ((l.drop a).take (b - a))) := by subst hS; exact hcut
  clear hT hS hget hcut
  go_enter Tryz.func10, Tryz.ntmps10
  go_wp2
  go_loopw [4, 5, 6] (fun o a b wr => ∃ (f k : Nat) (L : List (Int × Int)), f ≤ k ∧ k ≤ l.length ∧ L.length ≤ k ∧ a = .int .i64 f ∧ b = .int .i64 k ∧ wr.ownsRow w.heap.size 39 2 o L.length (cellsD L) ∧ Hid (T = (L ++ (jrL ((l.drop f).take (k - f)) (l.drop k)).1, f + (jrL ((l.drop f).take (k - f)) (l.drop k)).2)) ∧ Below w.heap.size w wr) (fun _ _ b _ => l.length - (intOf b).toNat)
  case atStart => exact ⟨0, 0, [], by omega, by omega, Nat.zero_le _, rfl, rfl, hmade, hst, hB0⟩
  case round =>
    clear hmade hst hB0
    obtain ⟨f, k, L, hf, hk, hL, rfl, rfl, hown, hrel, hB⟩ := hrel
    by_cases hlt : k < l.length
    · have hki : (k : Int) < (S.size : Int) := by omega
      have hkS : k < S.size := by omega
      have hg := hget'.out k hkS
      have hd := hdrop.out k hlt
      have hnx := hnext.out f k hf hlt
      have hr := hrel.out
      obtain ⟨c, hc⟩ : ∃ c, l.getD k 0 = c := ⟨_, rfl⟩
      rw [hc] at hg hd hnx
      rw [hd] at hr
      by_cases e : c = 10
      · subst e
        have hX := hcut'.out f k
        have hXl : ((l.drop f).take (k - f)).length = k - f := by rw [List.length_take, List.length_drop]; omega
        have hXb : ∀ x ∈ (l.drop f).take (k - f), x < 256 := fun x hx => hl x (List.mem_of_mem_drop (List.mem_of_mem_take hx))
        obtain ⟨X, hXX⟩ : ∃ X, (l.drop f).take (k - f) = X := ⟨_, rfl⟩
        rw [hXX] at hX hr hXl hXb
        have hRD := fun V => specReadDeed X hXb (by omega) V
        have hfk : (f : Int) ≤ (k : Int) := by omega
        have hkS2 : (k : Int) ≤ (S.size : Int) := by omega
        cases hrd : readD X with
        | none =>
          rw [jrL_none hrd] at hr
          rw [rd_none hrd] at hRD
          have hr' := hide (show T = (L, f) by rw [hr]; simp)
          obtain ⟨Y, hY⟩ : ∃ Y, str X = Y := ⟨_, rfl⟩
          rw [hY] at hX hRD
          unfold dV at hRD
          clear hr hrel hd hnx hXX hY hc hrd
          go_wp2_with (go_at_call 47; refine (hRD _).mono ?_; clear hRD; rintro e w3 ⟨rfl, hB3⟩)
          go_ret2
          rw [hr'.out]
          refine ⟨_, rfl, ?_, (hB.trans (hB3.mono hB.size)).alloc (Nat.le_trans hB.size hB3.size) _⟩
          exact (own_more hown hB3).alloc _
        | some x =>
          rw [jrL_deed hrd] at hr
          rw [rd_some hrd] at hRD
          have hr' := hide (show T = ((L ++ [x]) ++ (jrL ((l.drop (k + 1)).take (k + 1 - (k + 1))) (l.drop (k + 1))).1, (k + 1) + (jrL ((l.drop (k + 1)).take (k + 1 - (k + 1))) (l.drop (k + 1))).2) by
            rw [take_none, List.append_assoc, hr]
            congr 1
            simp only
            omega)
          obtain ⟨Y, hY⟩ : ∃ Y, str X = Y := ⟨_, rfl⟩
          rw [hY] at hX hRD
          unfold dV at hRD
          clear hr hrel hd hnx hXX hY hc hrd
          go_wp2_with (first
            | (go_at_call 47; refine (hRD _).mono ?_; clear hRD; go_loud (rintro e w3 ⟨rfl, hB3⟩; have hown3 := (own_more hown hB3).alloc (.cells #[.int .i64 x.1, .int .i64 x.2] 39); have hB4 := (hB.trans (hB3.mono hB.size)).alloc (Nat.le_trans hB.size hB3.size) (.cells #[.int .i64 x.1, .int .i64 x.2] 39)))
            | (at_builtin; refine append_deed (x := x) rfl _ _ rfl w.heap.size _ L rfl hown3 (w3.heap.size + 1) (by simp) rfl (by omega) hB4.size ?_; intro v' w5 hown5 hgr hbk))
          have hB5 : Below w.heap.size w w5 := (hB4.alloc hB4.size _).grown hgr (by rw [World.size_alloc]; have := hB4.size; omega) (fun q hq => (hown3.lt q hq).1)
          go_roundw
          case rel => exact ⟨k + 1, k + 1, L ++ [x], by omega, by omega, by simp; omega, by go_num, by go_num, hown5, hr', hB5⟩
          case measure => simp [intOf]; omega
      · have hb : ((c : Int) == 10) = false := by rw [beq_eq_false_iff_ne]; omega
        rw [jrL_other e, ← hnx] at hr
        have hr' := hide hr
        clear hr hrel hd hnx hc
        go_wp2
        go_roundw
        case rel => exact ⟨f, k + 1, L, by omega, by omega, by omega, by go_num, by go_num, hown, hr', hB⟩
        case measure => simp [intOf]; omega
    · obtain rfl : k = l.length := by omega
      have hki : ¬ ((l.length : Nat) : Int) < (S.size : Int) := by omega
      have hr := hrel.out
      rw [hall] at hr
      have hr' := hide (show T = (L, f) by rw [hr]; simp [jrL])
      clear hr hrel hall
      go_wp2
      go_ret2
      rw [hr'.out]
      exact ⟨_, rfl, hown, hB⟩
end Go.Proofs.YtiaaefapbcjgmaaGreatDoor
namespace Go.Proofs.YtiaaefapbcjgmaaGreatDoor
open Go Go.RowKit
attribute [local go_sem] Oper.semAt_some

set_option maxHeartbeats 2000000 in
theorem l20Deeds_in (W0 : World) (R len cap p : Nat) (a : Option Addr) (w : World) (hb : Bytes W0 a len) (h : Rd W0 R a len cap w p) (hp : p ≤ 700000) (rv : Option Addr) (rn rc : Nat) (hrn : rn ≤ 13) :
    Calls Tryz.prog 50 #[.pointer (some ⟨R, 0, none⟩), .slice rv rn rc] w fun e w' => ∃ v, e = .returned v ∧ ∃ L : List (Int × Int), w'.ownsRow w.heap.size 39 2 v L.length (cellsD L) ∧ L.length ≤ 5 ∧ (∀ x ∈ L, Fits x.1 ∧ Fits x.2) ∧ ∃ p', p' ≤ p + 200 ∧ Rd W0 R a len cap w' p' ∧ w.grownBy w' (some R) := by
  have hRw : R < w.heap.size := h.lt
  have hW0R := h.2.1
  go_enter Tryz.func50, Tryz.ntmps50
  go_wp2_with fail
  go_at_call 42
  refine (pick_in W0 R len cap _ a _ _ hb (h.alloc _) (by omega)).mono ?_
  rintro e w2 ⟨x, rfl, hx0, _, hx1, hR2, hgr2, _⟩
  replace hx1 := hx1 (by omega)
  have hg0 : w.grownBy w2 (some R) := (World.grownBy_alloc w _ _).trans hgr2
  have hs2 := hgr2.size
  obtain ⟨N, rfl⟩ : ∃ N : Nat, x = N := ⟨x.toNat, by omega⟩
  have hmade : (w.alloc (.cells #[] 39)).ownsRow w.heap.size 39 2 (.slice (some ⟨w.heap.size, 0, none⟩) 0 0) 0 (cellsD []) := World.ownsRow_made _ _ _ (Nat.le_refl _) (by decide) rfl
  go_wp2
  go_loopw [5, 6] (fun out n wr => ∃ (j q : Nat) (L : List (Int × Int)), j ≤ N ∧ n = .int .i64 ((N : Int) - (j : Nat)) ∧ L.length = j ∧ (∀ x ∈ L, Fits x.1 ∧ Fits x.2) ∧ wr.ownsRow w.heap.size 39 2 out L.length (cellsD L) ∧ w.grownBy wr (some R) ∧ q ≤ p + 1 + 30 * j ∧ Rd W0 R a len cap wr q) (fun _ n _ => (intOf n).toNat)
  case atStart => exact ⟨0, _, [], by omega, by go_num, rfl, by simp, hmade.kept hgr2 (.inr (by simp [Value.ownBlock]; omega)), hg0, by omega, hR2⟩
  case round =>
    obtain ⟨j, q, L, hj, rfl, hz, hf, hown, hgr, hq, hR⟩ := hrel
    by_cases hjn : j < N
    · have hc : (0 : Int) < (N : Int) - (j : Int) := by omega
      have hw1 : IntKind.i64.wrap ((N : Int) - (j : Int) - 1) = (N : Int) - (j : Int) - 1 := IntWalk.i64_in _ (by omega)
      have hs := hgr.size
      have hC := l20Deed_in W0 R len cap q a _ hb hR (by omega) rv rn rc hrn
      unfold dV at hC
      have hzh := hide hz
      have hfh := hide hf
      clear hz hf
      go_wp2_with (first
        | (go_at_call 94; refine hC.mono ?_; clear hC; rintro e w3 ⟨⟨dk, dn, hk, hn, rfl⟩, q3, hq3, hR3, hgr3⟩; have hown3 := hown.kept hgr3 (.inr (fun e => by have := hown.lt R e; omega)); have hs3 := hgr3.size)
        | (at_builtin; refine append_deed (x := (dk, dn)) rfl _ _ rfl w.heap.size _ L rfl hown3 w3.heap.size rfl rfl (by have := hzh.out; omega) (by omega) ?_; intro v' w4 hown4 hgr4 _))
      all_goals
        have hgr4' : (w3.alloc (.cells #[.int .i64 dk, .int .i64 dn] 39)).grownBy w4 u5.ownBlock := hgr4
        go_roundw
        case rel =>
          have hbl : ∀ k, u5.ownBlock = some k → w.heap.size ≤ k := fun k e => (hown.lt k e).1
          refine ⟨j + 1, q3, L ++ [(dk, dn)], by omega, by go_num, by rw [List.length_append, hzh.out]; rfl, fun x hx => ?_, hown4, ?_, by omega, ?_⟩
          · rcases List.mem_append.1 hx with hx | hx
            · exact hfh.out x hx
            · obtain rfl : x = (dk, dn) := by simpa using hx
              exact ⟨hk, hn⟩
          · exact ((hgr.trans hgr3).andThen (World.grownBy_alloc _ _ none) (fun _ e => by cases e)).andThen hgr4' (fun k e => .inl (hbl k e))
          · exact (hR3.alloc _).kept hgr4' (fun e => by have := hbl R e.symm; omega) (fun k e => by have := hbl k e; omega)
        case measure => simp [intOf]; omega
    · obtain rfl : j = N := by omega
      have hc : ¬ (0 : Int) < (j : Int) - (j : Int) := by omega
      go_wp2
      go_ret
      exact ⟨_, rfl, L, hown, by omega, (fun a b hab => hf (a, b) hab), q, by omega, hR, hgr⟩
end Go.Proofs.YtiaaefapbcjgmaaGreatDoor
namespace Go.Proofs.YtiaaefapbcjgmaaGreatDoor
open Go Go.RowKit
attribute [local go_sem] Oper.semAt_some

/-- A text of at most m bytes. -/
def TxtLe (m : Nat) (v : Value) : Prop := ∃ l : List Nat, v = .string (str l) ∧ (∀ x ∈ l, x < 256) ∧ l.length ≤ m

/-- What a byte becomes. -/
def spL (j : Nat) : List Nat := match j with
  | 1 => [48]
  | 2 => [32]
  | 3 => [10]
  | 4 => [45]
  | 5 => [98, 97, 99, 107]
  | _ => []

theorem spL_le : ∀ j, (∀ x ∈ spL j, x < 256) ∧ (spL j).length ≤ 4 := fun j => by
  unfold spL
  split <;> simp

theorem cut_le (l : List Nat) (hl : ∀ x ∈ l, x < 256) (a b : Nat) : TxtLe l.length (.string ((str l).extract a b)) := by
  rw [str_cut]
  exact ⟨_, rfl, fun x hx => hl x (List.mem_of_mem_drop (List.mem_of_mem_take hx)), by simp; omega⟩

theorem app_le {m n t : Nat} {v u : Value} (hv : TxtLe m v) (hu : TxtLe n u) (ht : m + n ≤ t) (_hs : t ≤ 100000) :
    ∃ A, v = .string A ∧ A.size ≤ m ∧ ∃ C, u = .string C ∧ (C.size ≤ n ∧ A.size + C.size ≤ t ∧ TxtLe t (.string (A ++ C))) := by
  obtain ⟨a, rfl, ha, hb⟩ := hv
  obtain ⟨c, rfl, hc, hd⟩ := hu
  refine ⟨_, rfl, by rw [str_size]; exact hb, _, rfl, by rw [str_size]; exact hd, by rw [str_size, str_size]; omega, a ++ c, by rw [str_app], fun x hx => ?_, by rw [List.length_append]; omega⟩
  rcases List.mem_append.1 hx with h | h
  · exact ha x h
  · exact hc x h

theorem spl_cells (V : World) : ∀ j, j < 6 → (V.alloc (.cells #[.string ⟨#[]⟩, .string ⟨#[48]⟩, .string ⟨#[32]⟩, .string ⟨#[10]⟩, .string ⟨#[45]⟩, .string ⟨#[98, 97, 99, 107]⟩] 9)).cell? ⟨V.heap.size, j, none⟩ = some (.string (str (spL j))) := fun j hj => by
  rw [World.cell?_alloc_at _ _ _ _ rfl]
  rcases (show j = 0 ∨ j = 1 ∨ j = 2 ∨ j = 3 ∨ j = 4 ∨ j = 5 by omega) with rfl | rfl | rfl | rfl | rfl | rfl <;> kernel_rfl

set_option maxRecDepth 100000 in
set_option maxHeartbeats 2000000 in
theorem l20Spoil_in (W0 : World) (R len cap p : Nat) (a : Option Addr) (w : World) (hb : Bytes W0 a len) (h : Rd W0 R a len cap w p) (hp : p ≤ 800000) (l : List Nat) (hl : ∀ x ∈ l, x < 256) (hn : l.length ≤ 900) :
    Calls Tryz.prog 43 #[.pointer (some ⟨R, 0, none⟩), .string (str l)] w fun e w' => (∃ v, e = .returned v ∧ TxtLe (2 * l.length + 10) v) ∧ ∃ p', p' ≤ p + 40 ∧ Rd W0 R a len cap w' p' ∧ w.grownBy w' (some R) := by
  have hRw := h.lt
  have hW0R := h.2.1
  have hsz := str_size l
  refine (callsIn_wide (n := 9)).1 ?_
  refine callsIn_of_wp Tryz.func43 rfl trivial ?_ rfl
  simp only [Tryz.ntmps43, List.size_toArray, List.length_cons, List.length_nil, Nat.reduceAdd, Nat.reduceSub, Array.replicate_succ, Array.replicate_zero, List.push_toArray, List.append_toArray, List.nil_append, List.cons_append]
  by_cases h0 : l.length = 0
  · obtain rfl := List.length_eq_zero_iff.1 h0
    have hfin : TxtLe (2 * ([] : List Nat).length + 10) (.string ⟨#[10]⟩) := ⟨[10], by rw [show str [10] = ⟨#[10]⟩ by kernel_rfl], by simp, by simp⟩
    have hz : (str []).size = 0 := by kernel_rfl
    obtain ⟨S, hS⟩ : ∃ S, str [] = S := ⟨_, rfl⟩
    rw [hS] at hz ⊢
    generalize 2 * ([] : List Nat).length + 10 = M at *
    clear hS hsz hl hn h0
    gi_wp2
    go_ret
    exact ⟨⟨_, rfl, hfin⟩, p, by omega, h, grownBy_refl _ _⟩
  have hcutA := hide (cut_le l hl)
  obtain ⟨S, hS⟩ : ∃ S, str l = S := ⟨_, rfl⟩
  rw [hS] at hsz hcutA ⊢
  obtain ⟨N, hN⟩ : ∃ N, l.length = N := ⟨_, rfl⟩
  rw [hN] at hsz hcutA hn h0 ⊢
  clear hS hN hl
  have hsz0 : ¬ (S.size : Int) = 0 := by omega
  have hszb : ((S.size : Int) == 0) = false := by rw [beq_eq_false_iff_ne]; exact hsz0
  gi_wp2_with fail
  refine ⟨trivial, ?_⟩
  gi_at_call 42
  refine (callsIn_wide.2 (pick_in W0 R len cap p a _ w hb h (by omega))).mono ?_
  rintro e w1 ⟨x, rfl, hx0, _, hx1, hR1, hg1, _⟩
  have hx2 := hx1 (by omega)
  obtain ⟨k, rfl⟩ : ∃ k : Nat, x = k := ⟨x.toNat, by omega⟩
  clear hx1 h
  gi_wp2_with fail
  refine wpIn_region_rd W0 R len cap (p + 1) a 1 14 [(some 13, 0), (some 14, 1), (some 15, 2), (some 16, 3), (some 17, 4), (some 18, 5), (some 19, 6), (some 20, 7), (some 21, 8), (some 22, 9), (some 23, 10), (some 24, 11), (some 25, 12), (some 26, 13)] (by omega) (by kernel_rfl) (by kernel_rfl) (by kernel_rfl) (by decide) (by decide) (by rfl) (by decide) hR1
    (fun i v V => match i with | 0 => v = .string S | 1 => v = .int .i64 k | 2 => TxtLe N v | 3 => ∃ g, v = .slice (some ⟨g, 0, none⟩) 6 6 ∧ g ≠ R ∧ g < V.heap.size ∧ ∀ j, j < 6 → V.cell? ⟨g, j, none⟩ = some (.string (str (spL j))) | 4 => v = .pointer (some ⟨R, 0, none⟩) | 5 => ∃ x : Nat, x < 6 ∧ v = .int .i64 x | 6 => ∃ g j, v = .pointer (some ⟨g, j, none⟩) ∧ g ≠ R ∧ g < V.heap.size ∧ ∃ z, TxtLe 4 z ∧ V.cell? ⟨g, j, none⟩ = some z | 7 => TxtLe 4 v | 8 => TxtLe (N + 4) v | 9 => v = .string S | 10 => v = .int .i64 k | 11 => v = .int .i64 ((k : Int) + 1) | 12 => TxtLe N v | 13 => TxtLe (2 * N + 10) v | _ => True)
    (fun i v V V' h hg => match i, h with | 0, h => h | 1, h => h | 2, h => h | 3, h => (by obtain ⟨g, h1, h2, h3, h4⟩ := h; exact ⟨g, h1, h2, Nat.lt_of_lt_of_le h3 hg.size, fun j hj => (grown_cell12 hg h3 h2 j).trans (h4 j hj)⟩) | 4, h => h | 5, h => h | 6, h => (by obtain ⟨g, j, h1, h2, h3, z, h4, h6⟩ := h; exact ⟨g, j, h1, h2, Nat.lt_of_lt_of_le h3 hg.size, z, h4, (grown_cell12 hg h3 h2 j).trans h6⟩) | 7, h => h | 8, h => h | 9, h => h | 10, h => h | 11, h => h | 12, h => h | 13, h => h | (_ + 14), _ => trivial)
    ?step ?tail
  case step =>
    rintro i oo s V q hi ho hqb hRV hgV hd Q' hQ
    rcases (show i = 0 ∨ i = 1 ∨ i = 2 ∨ i = 3 ∨ i = 4 ∨ i = 5 ∨ i = 6 ∨ i = 7 ∨ i = 8 ∨ i = 9 ∨ i = 10 ∨ i = 11 ∨ i = 12 ∨ i = 13 by omega) with rfl | rfl | rfl | rfl | rfl | rfl | rfl | rfl | rfl | rfl | rfl | rfl | rfl | rfl
    all_goals
      simp at ho
      subst ho
      simp only [putsOf, Act.put, List.setIfInBounds_toArray, List.set_cons_succ, List.set_cons_zero] at hQ ⊢
      have hQ' := hide hQ
      clear hQ
    · clear hd
      gi_wp2
      have hr := hQ'.out
      exact hr _ _ q (by omega) hRV (grownBy_refl _ _) rfl
    · clear hd
      gi_wp2
      have hr := hQ'.out
      exact hr _ _ q (by omega) hRV (grownBy_refl _ _) rfl
    · have e0 : s 0 = .string S := hd 0 (by kernel_rfl)
      have e1 : s 1 = .int .i64 k := hd 1 (by kernel_rfl)
      clear hd
      gi_wp2
      have hr := hQ'.out
      simp only [e0, e1] at hr ⊢
      exact hr _ _ q (by omega) hRV (grownBy_refl _ _) (hcutA.out _ _)
    · clear hd
      have zV := hRV.lt
      have zV2 := World.size_alloc V (.cells #[.string ⟨#[]⟩, .string ⟨#[48]⟩, .string ⟨#[32]⟩, .string ⟨#[10]⟩, .string ⟨#[45]⟩, .string ⟨#[98, 97, 99, 107]⟩] 9)
      have hcs := spl_cells V
      gi_wp2
      have hr := hQ'.out
      exact hr _ _ q (by omega) (hRV.alloc _) (World.grownBy_alloc _ _ _) ⟨V.heap.size, rfl, by omega, by rw [World.size_alloc]; omega, hcs⟩
    · clear hd
      gi_wp2
      have hr := hQ'.out
      exact hr _ _ q (by omega) hRV (grownBy_refl _ _) rfl
    · have e1 : s 4 = .pointer (some ⟨R, 0, none⟩) := hd 4 (by kernel_rfl)
      clear hd
      gi_wp2_with (refine ⟨trivial, ?_⟩; gi_at_call 42; go_loud (refine (callsIn_wide.2 (pick_in W0 R len cap q a _ V hb hRV (by omega))).mono ?_; rintro e V9 ⟨x, rfl, hx0, _, hx1, hR9, hg9, _⟩))
      have hx := hx1 (by omega)
      obtain ⟨y, rfl⟩ : ∃ y : Nat, x = y := ⟨x.toNat, by omega⟩
      have hr := hQ'.out
      simp only [e1] at hr ⊢
      exact hr _ _ (q + 1) (by omega) hR9 hg9 ⟨y, by omega, rfl⟩
    · obtain ⟨g, e1, h2, h3, h4⟩ : ∃ g, s 3 = .slice (some ⟨g, 0, none⟩) 6 6 ∧ g ≠ R ∧ g < V.heap.size ∧ ∀ j, j < 6 → V.cell? ⟨g, j, none⟩ = some (.string (str (spL j))) := hd 3 (by kernel_rfl)
      obtain ⟨y, hy, e2⟩ : ∃ x : Nat, x < 6 ∧ s 5 = .int .i64 x := hd 5 (by kernel_rfl)
      clear hd
      have hyi : (y : Int) < 6 := by omega
      have hc := h4 y hy
      have hkz : TxtLe 4 (.string (str (spL y))) := ⟨_, rfl, (spL_le y).1, (spL_le y).2⟩
      obtain ⟨z, hz⟩ : ∃ z, Value.string (str (spL y)) = z := ⟨_, rfl⟩
      rw [hz] at hc hkz
      clear h4 hz
      gi_wp2
      have hr := hQ'.out
      simp only [e1, e2] at hr ⊢
      exact hr _ _ q (by omega) hRV (grownBy_refl _ _) ⟨g, _, rfl, h2, h3, z, hkz, by simpa using hc⟩
    · obtain ⟨g, j, e1, h2, h3, z, h4, h6⟩ : ∃ g j, s 6 = .pointer (some ⟨g, j, none⟩) ∧ g ≠ R ∧ g < V.heap.size ∧ ∃ z, TxtLe 4 z ∧ V.cell? ⟨g, j, none⟩ = some z := hd 6 (by kernel_rfl)
      clear hd
      obtain ⟨lz, rfl, _⟩ := id h4
      gi_wp2
      have hr := hQ'.out
      simp only [e1] at hr ⊢
      exact hr _ _ q (by omega) hRV (grownBy_refl _ _) h4
    · have hA : TxtLe N (s 2) := hd 2 (by kernel_rfl)
      have hC : TxtLe 4 (s 7) := hd 7 (by kernel_rfl)
      clear hd
      obtain ⟨A, eA, zA, zC⟩ := app_le hA hC (show _ ≤ N + 4 by omega) (by omega)
      obtain ⟨C, eC, hAC⟩ := zC
      gi_wp2
      have hr := hQ'.out
      simp only [eA, eC] at hr ⊢
      exact hr _ _ q (by omega) hRV (grownBy_refl _ _) hAC.2.2
    · clear hd
      gi_wp2
      have hr := hQ'.out
      exact hr _ _ q (by omega) hRV (grownBy_refl _ _) rfl
    · clear hd
      gi_wp2
      have hr := hQ'.out
      exact hr _ _ q (by omega) hRV (grownBy_refl _ _) rfl
    · have e1 : s 10 = .int .i64 k := hd 10 (by kernel_rfl)
      clear hd
      have hw : IntKind.i64.wrap ((k : Int) + 1) = (k : Int) + 1 := IntWalk.i64_in _ (by omega)
      gi_wp2
      have hr := hQ'.out
      simp only [e1] at hr ⊢
      exact hr _ _ q (by omega) hRV (grownBy_refl _ _) rfl
    · have e0 : s 9 = .string S := hd 9 (by kernel_rfl)
      have e1 : s 11 = .int .i64 ((k : Int) + 1) := hd 11 (by kernel_rfl)
      clear hd
      gi_wp2
      have hr := hQ'.out
      simp only [e0, e1] at hr ⊢
      exact hr _ _ q (by omega) hRV (grownBy_refl _ _) (hcutA.out _ _)
    · have hA : TxtLe (N + 4) (s 8) := hd 8 (by kernel_rfl)
      have hC : TxtLe N (s 12) := hd 12 (by kernel_rfl)
      clear hd
      obtain ⟨A, eA, zA, zC⟩ := app_le hA hC (show _ ≤ 2 * N + 10 by omega) (by omega)
      obtain ⟨C, eC, hAC⟩ := zC
      gi_wp2
      have hr := hQ'.out
      simp only [eA, eC] at hr ⊢
      exact hr _ _ q (by omega) hRV (grownBy_refl _ _) hAC.2.2
  case tail =>
    rintro s V q hqb hRV hgV hd
    replace hqb : q ≤ p + 1 + 15 := by simpa using hqb
    have hT : TxtLe (2 * N + 10) (s 13) := hd 13 (by omega)
    clear hd
    have hgw := hg1.trans hgV
    simp only [putsOf, Act.put, List.setIfInBounds_toArray, List.set_cons_succ, List.set_cons_zero]
    simp only [List.drop_succ_cons, List.drop_zero]
    generalize s 13 = z at *
    gi_wp2
    go_ret
    exact ⟨⟨_, rfl, hT⟩, q, by omega, hRV, hgw⟩
end Go.Proofs.YtiaaefapbcjgmaaGreatDoor
namespace Go.Proofs.YtiaaefapbcjgmaaGreatDoor
open Go Go.RowKit
attribute [local go_sem] Oper.semAt_some

theorem rd_belowD {W0 w w' : World} {R len cap p : Nat} {a : Option Addr} (h : Rd W0 R a len cap w p) (hB : Below w.heap.size w w') : Rd W0 R a len cap w' p :=
  ⟨h.1.trans (hB.mono h.1.size), h.2.1, (hB.block R (Array.getElem?_eq_some_iff.1 h.2.2).1).trans h.2.2⟩
end Go.Proofs.YtiaaefapbcjgmaaGreatDoor
namespace Go.Proofs.YtiaaefapbcjgmaaGreatDoor
open Go Go.RowKit
attribute [local go_sem] Oper.semAt_some

theorem own_keptO {w w' : World} {base n size : Nat} {e : TypeId} {v : Value} {xs : List Value} {row : Option Nat} (h : w.ownsRow base e size v n xs) (hg : w.grownBy w' row) (hne : ∀ k, row = some k → v.ownBlock ≠ some k) : w'.ownsRow base e size v n xs := by
  refine h.kept hg ?_
  cases hv : v.ownBlock with
  | none => exact .inl rfl
  | some k =>
    refine .inr fun e => ?_
    exact hne k e.symm hv

theorem below_grownW {W V : World} (h : Below W.heap.size W V) : W.grownBy V none := ⟨h.os, h.tape, h.output, h.size, fun k hk _ => h.block k hk⟩

theorem Rd.keptO {W0 w w' : World} {R len cap p : Nat} {a : Option Addr} {row : Option Nat} (h : Rd W0 R a len cap w p) (hg : w.grownBy w' row) (hrow : ∀ k, row = some k → R < k) : Rd W0 R a len cap w' p :=
  h.kept hg (fun e => by have := hrow R e.symm; omega) (fun k e => by have := hrow k e; have := h.2.1; omega)

set_option maxRecDepth 100000 in
set_option maxHeartbeats 2000000 in
theorem l20Written_in (W0 : World) (R len cap p : Nat) (a : Option Addr) (w : World) (hb : Bytes W0 a len) (h : Rd W0 R a len cap w p) (hp : p ≤ 600000) :
    Calls Tryz.prog 41 #[.pointer (some ⟨R, 0, none⟩)] w fun e w' => ∃ v, e = .returned v ∧ ∃ L : List (Int × Int), w'.ownsRow w.heap.size 39 2 v L.length (cellsD L) ∧ L.length ≤ 5 ∧ (∀ x ∈ L, (Fits x.1 ∧ Fits x.2) ∧ deedT x.1 x.2 ≠ []) ∧ ∃ p', p' ≤ p + 300 ∧ Rd W0 R a len cap w' p' ∧ w.grownBy w' (some R) := by
  have hRw : R < w.heap.size := h.lt
  have hW0R := h.2.1
  have hmade : (w.alloc (.cells #[] 39)).ownsRow w.heap.size 39 2 (.slice (some ⟨w.heap.size, 0, none⟩) 0 0) 0 (cellsD []) := World.ownsRow_made _ _ _ (Nat.le_refl _) (by decide) rfl
  have h1 := h.alloc (.cells #[] 39)
  have hg1 : w.grownBy (w.alloc (.cells #[] 39)) (some R) := World.grownBy_alloc w _ _
  have z1 := World.size_alloc w (.cells #[] 39)
  obtain ⟨w1, hw1⟩ : ∃ w1, w.alloc (.cells #[] 39) = w1 := ⟨_, rfl⟩
  rw [hw1] at hmade h1 hg1 z1
  have z1' : w.heap.size + 1 ≤ w1.heap.size := by omega
  clear z1
  go_enter Tryz.func41, Tryz.ntmps41
  go_wp2_with fail
  go_at_call 87
  refine (l20Side0_in W0 R len cap _ a _ hb h1 (by omega)).mono ?_
  rintro e w2 ⟨v, xs, rfl, hown, hx1, hx2, p2, hp2, hR2, hg2⟩
  obtain ⟨ra, rc, rfl⟩ := own_shape hown
  go_wp2_with fail
  go_at_call 50
  refine (l20Deeds_in W0 R len cap _ a _ hb hR2 (by omega) ra xs.length rc (by omega)).mono ?_
  rintro e w3 ⟨u, rfl, LL, hownL, hLn, hLf, p3, hp3, hR3, hg3⟩
  have hs2 := hg2.size
  have hs3 := hg3.size
  have hg0 : w.grownBy w3 (some R) := (hg1.trans hg2).trans hg3
  have hmade3 := (hmade.kept hg2 (.inr (by simp [Value.ownBlock]; omega))).kept hg3 (.inr (by simp [Value.ownBlock]; omega))
  have hul : ∀ k, u.ownBlock = some k → w2.heap.size ≤ k ∧ k < w3.heap.size := fun k e => hownL.lt k e
  obtain ⟨ua, uc, rfl⟩ := own_shape hownL
  obtain ⟨N, hN⟩ : ∃ N, LL.length = N := ⟨_, rfl⟩
  rw [hN] at hownL hLn hul
  have hRw2 : R < w2.heap.size := hR2.lt
  clear hg1 hg2 hg3 hR2 hown hmade h1 hw1
  go_wp2
  go_loopw [3, 5] (fun out k wr => ∃ (j : Nat) (L : List (Int × Int)), j ≤ N ∧ k = .int .i64 (j : Nat) ∧ L.length ≤ j ∧ (∀ x ∈ L, (Fits x.1 ∧ Fits x.2) ∧ deedT x.1 x.2 ≠ []) ∧ wr.ownsRow w.heap.size 39 2 out L.length (cellsD L) ∧ (∀ k, out.ownBlock = some k → k = w.heap.size ∨ w3.heap.size ≤ k) ∧ wr.ownsRow w2.heap.size 39 2 (.slice ua N uc) N (cellsD LL) ∧ w.grownBy wr (some R) ∧ Rd W0 R a len cap wr p3 ∧ w3.heap.size ≤ wr.heap.size) (fun _ k _ => N - (intOf k).toNat)
  case atStart => exact ⟨0, [], by omega, rfl, by simp, by simp, hmade3, fun k e => by simp [Value.ownBlock] at e; omega, hownL, hg0, hR3, Nat.le_refl _⟩
  case round =>
    obtain ⟨j, L, hj, rfl, hLj, hLL, hown, hfar, hownU, hgr, hR, hsz⟩ := hrel
    by_cases hjn : j < N
    · have hc : (j : Int) < (N : Int) := by omega
      have hDI : DeedsI wr (.slice ua N uc) LL := DeedsI.of_owns (by rw [hN]; exact hownU)
      obtain ⟨a', c', heq, hcell⟩ := hDI
      obtain ⟨g, o, rfl, hg, hcs⟩ := hcell (by omega)
      simp only [Value.slice.injEq] at heq
      obtain ⟨heq1, -, heq2⟩ := heq
      subst heq1
      obtain ⟨c1, c2⟩ := hcs j (by omega)
      have hx : LL.getD j (0, 0) ∈ LL := by rw [List.getD, List.getElem?_eq_getElem (by omega)]; exact List.getElem_mem _
      have hfx := hLf _ hx
      obtain ⟨x, hxx⟩ : ∃ x, LL.getD j (0, 0) = x := ⟨_, rfl⟩
      rw [hxx] at c1 c2 hfx
      have hT := fun V => specDeedText x.1 x.2 hfx.1 hfx.2 V
      unfold dV at hT
      have hE : (str (deedT x.1 x.2)).toList.isEmpty = decide (deedT x.1 x.2 = []) := by
        rw [str_toList]
        cases deedT x.1 x.2 with
        | nil => rfl
        | cons c r => rfl
      obtain ⟨T, hTT⟩ : ∃ T, str (deedT x.1 x.2) = T := ⟨_, rfl⟩
      rw [hTT] at hT hE
      have hLjh := hide hLj
      have hLLh := hide hLL
      clear hcell hcs hx hxx hTT heq2 hN hmade3 hR3 hg0 hownL hLj hLL hLf
      by_cases he : deedT x.1 x.2 = []
      · rw [decide_eq_true he] at hE
        go_wp2_with (go_at_call 86; refine (hT _).mono ?_; rintro e w4 ⟨rfl, hB4⟩)
        have hs4 := hB4.size
        have hown4 := own_more hown hB4
        have hownU4 := own_more hownU hB4
        have hgr4 := hgr.andThen (below_grownW hB4) (fun k e => by cases e)
        have hR4 := rd_belowD hR hB4
        go_roundw
        case rel => exact ⟨j + 1, L, by omega, by go_num, by have := hLjh.out; omega, fun a ha => hLLh.out a ha, hown4, hfar, hownU4, hgr4, hR4, by omega⟩
        case measure => simp [intOf]; omega
      · rw [decide_eq_false he] at hE
        go_wp2_with (first
          | (go_at_call 86; refine (hT _).mono ?_; go_loud (rintro e w4 ⟨rfl, hB4⟩; have hs4 := hB4.size; have hown4 := own_more hown hB4; have hownU4 := own_more hownU hB4; have hgr4 := hgr.andThen (below_grownW hB4) (fun k e => by cases e); have hR4 := rd_belowD hR hB4; have d1 := (hB4.cell (p := ⟨g, o + j * 2, none⟩) hg).trans c1; have d2 := (hB4.cell (p := ⟨g, o + j * 2 + 1, none⟩) hg).trans c2))
          | (at_builtin; refine append_deed (x := x) rfl _ _ rfl w.heap.size _ L rfl hown4 w4.heap.size rfl rfl (by have := hLjh.out; omega) (by have := hgr4.size; omega) ?_; intro v' w5 hown5 hgr5 hv5))
        all_goals
          have hgr5' : (w4.alloc (.cells #[.int .i64 x.1, .int .i64 x.2] 39)).grownBy w5 u3.ownBlock := hgr5
          have hs5 := hgr5'.size
          rw [World.size_alloc] at hs5
          have hbl : ∀ k, u3.ownBlock = some k → w.heap.size ≤ k ∧ R < k := fun k e => by
            have := (hown4.lt k e).1
            exact ⟨this, by omega⟩
          go_roundw
          case rel =>
            refine ⟨j + 1, L ++ [x], by omega, by go_num, by rw [List.length_append]; have := hLjh.out; simp; omega, fun y hy => ?_, hown5, fun k e => ?_, ?_, ?_, ?_, by omega⟩
            · rcases List.mem_append.1 hy with hy | hy
              · exact hLLh.out y hy
              · obtain rfl : y = x := by simpa using hy
                exact ⟨hfx, he⟩
            · rcases hv5 with h | h
              · exact hfar k (h ▸ e)
              · rw [h] at e; injection e with e; right; omega
            · refine own_keptO (hownU4.alloc _) hgr5' (fun k e => ?_)
              have hk1 := hfar k e
              have hk2 := hul
              simp only [Value.ownBlock] at hk2 ⊢
              intro e2
              injection e2 with e2
              have := hk2 _ rfl
              omega
            · exact (hgr4.andThen (World.grownBy_alloc _ _ none) (fun _ e => by cases e)).andThen hgr5' (fun k e => .inl (hbl k e).1)
            · exact (hR4.alloc _).keptO hgr5' (fun k e => (hbl k e).2)
          case measure => simp [intOf]; omega
    · obtain rfl : j = N := by omega
      have hc : ¬ ((j : Nat) : Int) < (j : Int) := by omega
      have hLLh := hide hLL
      clear hLL hLf
      go_wp2
      go_ret
      exact ⟨_, rfl, L, hown, by omega, fun a b hab => hLLh.out (a, b) hab, p3, by omega, hR, hgr⟩
end Go.Proofs.YtiaaefapbcjgmaaGreatDoor
namespace Go.Proofs.YtiaaefapbcjgmaaGreatDoor
open Go Go.RowKit
attribute [local go_sem] Oper.semAt_some

theorem rd_belowJ {W0 w w' : World} {R len cap p : Nat} {a : Option Addr} (h : Rd W0 R a len cap w p) (hB : Below w.heap.size w w') : Rd W0 R a len cap w' p :=
  ⟨h.1.trans (hB.mono h.1.size), h.2.1, (hB.block R (Array.getElem?_eq_some_iff.1 h.2.2).1).trans h.2.2⟩

set_option maxRecDepth 100000 in
set_option maxHeartbeats 1000000 in
theorem drawReadJournal (w : World) (a : Option Addr) (len cap : Nat) (zs : List Int) (h : IsRow .u8 w a len cap zs) : Calls Tryz.prog 8 #[.slice a len cap] w fun e w' => (∃ v, e = .returned v ∧ TxtLe 200 v) ∧ Below w.heap.size w w' := by
  have ho := open_in w a len cap zs h
  go_enter Tryz.func8, Tryz.ntmps8
  go_wp2_with fail
  go_at_call 39
  refine ho.mono ?_
  rintro e w2 ⟨R, n, c, rfl, hb, hR⟩
  go_wp2_with fail
  go_at_call 41
  refine (l20Written_in w R n c _ a _ hb hR (by omega)).mono ?_
  rintro e w3 ⟨v, rfl, L, hown, hL5, hLf, p3, hp3, hR3, hg3⟩
  have hD := DeedsI.of_owns hown
  obtain ⟨va, vc, rfl⟩ := own_shape hown
  have hf : ∀ x ∈ L, Fits x.1 ∧ Fits x.2 := fun x hx => (hLf x hx).1
  have hlen : (jtT L).length ≤ 45 := by
    unfold jtT
    split
    · have := jtL_len L; omega
    · simp
  have hbyte : ∀ x ∈ jtT L, x < 256 := by
    unfold jtT
    split
    · exact jtL_byte L
    · simp
  have hT := specJournal _ L w3 hD hf (by omega)
  obtain ⟨l, hl⟩ : ∃ l, jtT L = l := ⟨_, rfl⟩
  rw [hl] at hT hlen hbyte
  have hv : TxtLe 200 (.string (str l)) := ⟨_, rfl, hbyte, by omega⟩
  have hSp := fun V q (h : Rd w R a n c V q) hq => l20Spoil_in w R n c q _ V hb h hq l hbyte (by omega)
  have hle : 2 * l.length + 10 ≤ 200 := by omega
  have hsz := str_size l
  have hcut : ∀ k : Nat, TxtLe 200 (.string ((str l).extract 0 k)) := fun k => by
    obtain ⟨l', h1, h2, h3⟩ := cut_le l hbyte 0 k
    exact ⟨l', h1, h2, by omega⟩
  obtain ⟨N, hN⟩ : ∃ N, l.length = N := ⟨_, rfl⟩
  generalize 2 * l.length + 10 = M at *
  rw [hN] at hsz hlen
  obtain ⟨S, hS⟩ : ∃ S, str l = S := ⟨_, rfl⟩
  rw [hS] at hT hv hSp hsz hcut
  have hszi : (S.size : Int) = (N : Int) := by omega
  have hw : IntKind.i64.wrap ((N : Int) + 1) = (N : Int) + 1 := IntWalk.i64_in _ (by omega)
  clear hS hown hR hg3 hD hf hLf hl hN hbyte
  go_wp2_with fail
  go_at_call 40
  refine hT.mono ?_
  rintro e w5 ⟨rfl, hB5⟩
  have hR5 := rd_belowJ hR3 hB5
  clear hR3 hT hB5
  go_wp2_with fail
  go_at_call 42
  refine (pick_in w R n c _ a _ _ hb hR5 (by omega)).mono ?_
  rintro e w6 ⟨x, rfl, hx0, _, hx3, hR6, _, _⟩
  have hB6 := hR6.1
  replace hx3 := hx3 (by omega)
  by_cases hx : x = 0
  · subst hx
    clear hcut
    go_wp2_with fail
    go_at_call 43
    refine (hSp _ _ hR6 (by omega)).mono ?_
    rintro e w7 ⟨⟨v, rfl, hvt⟩, p7, _, hR7, _⟩
    obtain ⟨lv, rfl, h1, h2⟩ := hvt
    go_wp2
    go_ret
    exact ⟨⟨_, rfl, lv, rfl, h1, by omega⟩, hR7.1⟩
  · have hxb : (x == 0) = false := by rw [beq_eq_false_iff_ne]; exact hx
    clear hSp
    by_cases hx1 : x = 1
    · subst hx1
      have hP := pick_in w R n c _ a ((N : Int) + 1) w6 hb hR6 (by omega)
      clear hR5 hR6
      go_wp2_with fail
      go_at_call 42
      refine hP.mono ?_
      rintro e w7 ⟨k, rfl, hk0, _, hk3, hR7, _, _⟩
      replace hk3 := hk3 (by omega)
      have hB7 := hR7.1
      obtain ⟨kn, rfl⟩ : ∃ kn : Nat, k = (kn : Int) := ⟨k.toNat, by omega⟩
      have hcutk := hcut kn
      have hkn : kn ≤ S.size := by omega
      clear hP hcut hk0 hR7
      go_wp2
      go_ret
      exact ⟨⟨_, rfl, by first | exact hcutk | simpa using hcutk⟩, hB7⟩
    · have hxb1 : (x == 1) = false := by rw [beq_eq_false_iff_ne]; exact hx1
      clear hcut hR6
      go_wp2
      go_ret
      exact ⟨⟨_, rfl, hv⟩, hB6⟩
end Go.Proofs.YtiaaefapbcjgmaaGreatDoor
namespace Go.Proofs.YtiaaefapbcjgmaaGreatDoor
open Go.RowKit Go.Shelf
attribute [local go_sem] Oper.semAt_some

set_option maxRecDepth 100000 in
set_option maxHeartbeats 2000000 in
theorem specDo_none (x p : Value) (d : Dk) (k n : Int) (w : World) (hx : Ints w x d.1) (hp : PastI w p d.2) (hb : deskB d = true) (hk : Fits k) (hn : Fits n) (h5 : k = 5 ∧ n = 0) (h0 : d.2.length = 0) : Calls Tryz.prog 66 #[.agg #[x, p], dV k n] w fun e w' =>
    ∃ y, e = .returned (.tuple #[y, .bool (doV d k n).2]) ∧ DeskI w' y (doV d k n).1 ∧ (CapN w.heap.size y ∧ (d.2.length < 8 → PastO w' w.heap.size y (doV d k n).1.2)) ∧ Below w.heap.size w w' := by
  obtain ⟨rfl, rfl⟩ := h5
  rw [doV_same hb (by omega) (.inl rfl)]
  obtain ⟨hd1, hd2, hd3⟩ := deskB_is.1 hb
  have hl := sideB_len hd2
  have hD := Do1.new w x p 5 0
  obtain ⟨W1, hW1⟩ : ∃ W1, ((w.alloc (.cells #[x, p] 31)).alloc (.cells #[.int .i64 5, .int .i64 0] 39)).alloc (.cells #[.slice none 0 0, .slice none 0 0] 31) = W1 := ⟨_, rfl⟩
  rw [hW1] at hD
  have hOK := specDeskOk (.agg #[x, p]) d W1 ⟨x, p, rfl, hx.below hD.below, hp.below hD.below⟩ ⟨by omega, by omega, fun j => by
    by_cases hj : j < d.2.length
    · have := sideB_len (hd1 (d.2.getD j []) (by rw [List.getD, List.getElem?_eq_getElem hj]; exact List.getElem_mem hj)); omega
    · rw [List.getD, List.getElem?_eq_none (by omega)]; simp⟩
  rw [hb] at hOK
  have hCp := fun V (hV : Do1 w x p 5 0 V) => specCopy x p d V (hx.below hV.below) (hp.below hV.below) hb
  have hMd := fun V (hV : Do1 w x p 5 0 V) => specMade x d.1 5 0 V (hx.below hV.below) hd2 hk hn
  have q5 := fun V => equal_deed (k := 5) (n := 0) (by constructor <;> omega) (by constructor <;> omega) (k' := 5) (n' := 0) (by constructor <;> omega) (by constructor <;> omega) V
  have e5 : decide ((5 : Int) = 5 ∧ (0 : Int) = 0) = true := by decide
  rw [e5] at q5
  obtain ⟨row, past⟩ := d
  simp only at hd1 hd2 hd3 hl hx hp hCp hMd hOK ⊢
  have hM : madeV row 5 0 = [] := rfl
  rw [hM] at hMd
  obtain rfl : past = [] := List.length_eq_zero_iff.1 h0
  clear hM e5 h0
  obtain ⟨ap, cp, rfl, _⟩ := id hp
  obtain ⟨ax, cx, rfl⟩ := hx.shape
  obtain ⟨a0, a1, _, _⟩ := row_at hD.desk
  unfold dV at hMd ⊢
  simp only [List.length_nil] at hOK hW1 hD hMd hCp a0 a1 ⊢
  go_enter Tryz.func66, Tryz.ntmps66
  go_wp2_with (first
    | (go_at_call 13; go_loud (refine hOK.mono ?_; clear hOK; rintro e W2 ⟨rfl, hB2⟩; have hD2 := hD.more hB2; obtain ⟨a0, a1, _, _⟩ := row_at hD2.desk; clear hD hB2))
    | (go_at_call 65; go_loud (refine (hCp _ hD2).mono ?_; clear hCp; rintro e W3 ⟨y, q, rfl, hy, hq, hB3⟩; have hE := do2_new (d := (row, [])) hD2 hy hq hB3; obtain ⟨ay, cy, rfl⟩ := own_form hy; obtain ⟨aq, cq, eq0⟩ := hq.form; simp only [List.length_nil] at eq0; subst eq0; obtain ⟨a0, a1, _, _⟩ := row_at hE.one.desk; obtain ⟨c0, c1, _, _⟩ := row_at hE.one.deed; clear hD2 hB3 hy hq; obtain ⟨W4, hW4⟩ : ∃ W4, W3.alloc (.cells #[.slice ay row.length cy, .slice aq 0 cq] 31) = W4 := ⟨_, rfl⟩; rw [hW4] at hE a0 a1 c0 c1; obtain ⟨e0, e1, f0, f1⟩ := row_at hE.out))
    | (go_at_call 106; go_loud (refine (hMd _ hE.one).mono ?_; clear hMd; rintro e W5 ⟨r, rfl, hr, hB5, hrf⟩; have hqb := do2_block hE; have hrlo : ∀ g, r.ownBlock = some g → w.heap.size ≤ g := (fun g e => Nat.le_trans hE.one.below.size (hrf g e)); have hF := hE.more hB5; obtain ⟨a0, a1, _, _⟩ := row_at hF.one.desk; obtain ⟨ar, cr, rfl⟩ := hr.shape; obtain ⟨e0, e1, f0, f1⟩ := row_at hF.out; obtain ⟨r0, r1, g0, g1⟩ := row_at hF.one.res; clear hE hB5))
    | (go_at_call 107; fail))
  have hE2 := hF
  obtain ⟨hown, hBl, hpo, hap⟩ := hE2.result
  have hres := hide (desk_set hE2.one.res (.slice ay row.length cy) (.slice aq 0 cq))
  have hcap : 0 ≤ cq := by obtain ⟨us, _, ho, _⟩ := hE2.past; exact own_cap ho
  have hcn : ∀ g o t, aq = some ⟨g, o, t⟩ → w.heap.size ≤ g := fun g o t e => by
    subst e
    obtain ⟨us, _, ho, _⟩ := hE2.past
    have := (ho.lt g rfl).1
    omega
  clear hE2
  exact bodyPost_ret (results_desk2 rfl _ _ (w.heap.size + 2) _ _ rfl hres.out) rfl ⟨_, rfl, hown, ⟨CapN.of hcap hcn, fun _ => ⟨_, _, rfl, hpo, hap⟩⟩, hBl⟩

set_option maxRecDepth 100000 in
set_option maxHeartbeats 2000000 in
theorem specDo_empty (x p : Value) (d : Dk) (k n : Int) (w : World) (hx : Ints w x d.1) (hp : PastI w p d.2) (hb : deskB d = true) (hk : Fits k) (hn : Fits n) (h5 : ¬ (k = 5 ∧ n = 0)) (hM : madeV d.1 k n = []) : Calls Tryz.prog 66 #[.agg #[x, p], dV k n] w fun e w' =>
    ∃ y, e = .returned (.tuple #[y, .bool (doV d k n).2]) ∧ DeskI w' y (doV d k n).1 ∧ (CapN w.heap.size y ∧ (d.2.length < 8 → PastO w' w.heap.size y (doV d k n).1.2)) ∧ Below w.heap.size w w' := by
  rw [doV_same hb (fun h => h5 ⟨h.1, h.2.1⟩) (.inl hM)]
  obtain ⟨hd1, hd2, hd3⟩ := deskB_is.1 hb
  have hl := sideB_len hd2
  have hD := Do1.new w x p k n
  obtain ⟨W1, hW1⟩ : ∃ W1, ((w.alloc (.cells #[x, p] 31)).alloc (.cells #[.int .i64 k, .int .i64 n] 39)).alloc (.cells #[.slice none 0 0, .slice none 0 0] 31) = W1 := ⟨_, rfl⟩
  rw [hW1] at hD
  have hOK := specDeskOk (.agg #[x, p]) d W1 ⟨x, p, rfl, hx.below hD.below, hp.below hD.below⟩ ⟨by omega, by omega, fun j => by
    by_cases hj : j < d.2.length
    · have := sideB_len (hd1 (d.2.getD j []) (by rw [List.getD, List.getElem?_eq_getElem hj]; exact List.getElem_mem hj)); omega
    · rw [List.getD, List.getElem?_eq_none (by omega)]; simp⟩
  rw [hb] at hOK
  have hCp := fun V (hV : Do1 w x p k n V) => specCopy x p d V (hx.below hV.below) (hp.below hV.below) hb
  have hMd := fun V (hV : Do1 w x p k n V) => specMade x d.1 k n V (hx.below hV.below) hd2 hk hn
  have q5 := fun V => equal_deed hk hn (k' := 5) (n' := 0) (by constructor <;> omega) (by constructor <;> omega) V
  rw [decide_eq_false h5] at q5
  obtain ⟨row, past⟩ := d
  simp only at hd1 hd2 hd3 hl hx hp hCp hMd hOK ⊢
  rw [hM] at hMd
  clear hM h5
  obtain ⟨ap, cp, rfl, _⟩ := id hp
  obtain ⟨ax, cx, rfl⟩ := hx.shape
  obtain ⟨a0, a1, _, _⟩ := row_at hD.desk
  unfold dV at hMd ⊢

  go_enter Tryz.func66, Tryz.ntmps66
  go_wp2_with (first
    | (go_at_call 13; go_loud (refine hOK.mono ?_; clear hOK; rintro e W2 ⟨rfl, hB2⟩; have hD2 := hD.more hB2; obtain ⟨a0, a1, _, _⟩ := row_at hD2.desk; clear hD hB2))
    | (go_at_call 65; go_loud (refine (hCp _ hD2).mono ?_; clear hCp; rintro e W3 ⟨y, q, rfl, hy, hq, hB3⟩; have hE := do2_new (d := (row, past)) hD2 hy hq hB3; obtain ⟨ay, cy, rfl⟩ := own_form hy; obtain ⟨aq, cq, rfl⟩ := hq.form; obtain ⟨a0, a1, _, _⟩ := row_at hE.one.desk; obtain ⟨c0, c1, _, _⟩ := row_at hE.one.deed; clear hD2 hB3 hy hq; obtain ⟨W4, hW4⟩ : ∃ W4, W3.alloc (.cells #[.slice ay row.length cy, .slice aq past.length cq] 31) = W4 := ⟨_, rfl⟩; rw [hW4] at hE a0 a1 c0 c1; obtain ⟨e0, e1, f0, f1⟩ := row_at hE.out))
    | (go_at_call 106; go_loud (refine (hMd _ hE.one).mono ?_; clear hMd; rintro e W5 ⟨r, rfl, hr, hB5, hrf⟩; have hqb := do2_block hE; have hrlo : ∀ g, r.ownBlock = some g → w.heap.size ≤ g := (fun g e => Nat.le_trans hE.one.below.size (hrf g e)); have hF := hE.more hB5; obtain ⟨a0, a1, _, _⟩ := row_at hF.one.desk; obtain ⟨ar, cr, rfl⟩ := hr.shape; obtain ⟨e0, e1, f0, f1⟩ := row_at hF.out; obtain ⟨r0, r1, g0, g1⟩ := row_at hF.one.res; clear hE hB5))
    | (go_at_call 107; fail))
  have hE2 := hF
  obtain ⟨hown, hBl, hpo, hap⟩ := hE2.result
  have hres := hide (desk_set hE2.one.res (.slice ay row.length cy) (.slice aq past.length cq))
  have hcap : past.length ≤ cq := by obtain ⟨us, _, ho, _⟩ := hE2.past; exact own_cap ho
  have hcn : ∀ g o t, aq = some ⟨g, o, t⟩ → w.heap.size ≤ g := fun g o t e => by
    subst e
    obtain ⟨us, _, ho, _⟩ := hE2.past
    have := (ho.lt g rfl).1
    omega
  clear hE2
  exact bodyPost_ret (results_desk2 rfl _ _ (w.heap.size + 2) _ _ rfl hres.out) rfl ⟨_, rfl, hown, ⟨CapN.of hcap hcn, fun _ => ⟨_, _, rfl, hpo, hap⟩⟩, hBl⟩

set_option maxRecDepth 100000 in
set_option maxHeartbeats 2000000 in
theorem specDo_same (x p : Value) (d : Dk) (k n : Int) (w : World) (hx : Ints w x d.1) (hp : PastI w p d.2) (hb : deskB d = true) (hk : Fits k) (hn : Fits n) (h5 : ¬ (k = 5 ∧ n = 0)) (hM : madeV d.1 k n = d.1) : Calls Tryz.prog 66 #[.agg #[x, p], dV k n] w fun e w' =>
    ∃ y, e = .returned (.tuple #[y, .bool (doV d k n).2]) ∧ DeskI w' y (doV d k n).1 ∧ (CapN w.heap.size y ∧ (d.2.length < 8 → PastO w' w.heap.size y (doV d k n).1.2)) ∧ Below w.heap.size w w' := by
  rw [doV_same hb (fun h => h5 ⟨h.1, h.2.1⟩) (.inr hM)]
  obtain ⟨hd1, hd2, hd3⟩ := deskB_is.1 hb
  have hl := sideB_len hd2
  have hD := Do1.new w x p k n
  obtain ⟨W1, hW1⟩ : ∃ W1, ((w.alloc (.cells #[x, p] 31)).alloc (.cells #[.int .i64 k, .int .i64 n] 39)).alloc (.cells #[.slice none 0 0, .slice none 0 0] 31) = W1 := ⟨_, rfl⟩
  rw [hW1] at hD
  have hOK := specDeskOk (.agg #[x, p]) d W1 ⟨x, p, rfl, hx.below hD.below, hp.below hD.below⟩ ⟨by omega, by omega, fun j => by
    by_cases hj : j < d.2.length
    · have := sideB_len (hd1 (d.2.getD j []) (by rw [List.getD, List.getElem?_eq_getElem hj]; exact List.getElem_mem hj)); omega
    · rw [List.getD, List.getElem?_eq_none (by omega)]; simp⟩
  rw [hb] at hOK
  have hCp := fun V (hV : Do1 w x p k n V) => specCopy x p d V (hx.below hV.below) (hp.below hV.below) hb
  have hMd := fun V (hV : Do1 w x p k n V) => specMade x d.1 k n V (hx.below hV.below) hd2 hk hn
  have q5 := fun V => equal_deed hk hn (k' := 5) (n' := 0) (by constructor <;> omega) (by constructor <;> omega) V
  rw [decide_eq_false h5] at q5
  obtain ⟨row, past⟩ := d
  simp only at hd1 hd2 hd3 hl hx hp hCp hMd hOK ⊢
  rw [hM] at hMd
  have hEq := fun (V : World) (r : Value) (hV : Do1 w x p k n V) (hr : Ints V r row) => specSame r x row row V hr (hx.below hV.below) (by omega)
  rw [decide_eq_true (rfl : row = row)] at hEq
  have hrow : ¬ (row = []) := fun e => by rw [e] at hl; simp at hl
  clear hM h5
  obtain ⟨ap, cp, rfl, _⟩ := id hp
  obtain ⟨ax, cx, rfl⟩ := hx.shape
  obtain ⟨a0, a1, _, _⟩ := row_at hD.desk
  unfold dV at hMd ⊢

  go_enter Tryz.func66, Tryz.ntmps66
  go_wp2_with (first
    | (go_at_call 13; go_loud (refine hOK.mono ?_; clear hOK; rintro e W2 ⟨rfl, hB2⟩; have hD2 := hD.more hB2; obtain ⟨a0, a1, _, _⟩ := row_at hD2.desk; clear hD hB2))
    | (go_at_call 65; go_loud (refine (hCp _ hD2).mono ?_; clear hCp; rintro e W3 ⟨y, q, rfl, hy, hq, hB3⟩; have hE := do2_new (d := (row, past)) hD2 hy hq hB3; obtain ⟨ay, cy, rfl⟩ := own_form hy; obtain ⟨aq, cq, rfl⟩ := hq.form; obtain ⟨a0, a1, _, _⟩ := row_at hE.one.desk; obtain ⟨c0, c1, _, _⟩ := row_at hE.one.deed; clear hD2 hB3 hy hq; obtain ⟨W4, hW4⟩ : ∃ W4, W3.alloc (.cells #[.slice ay row.length cy, .slice aq past.length cq] 31) = W4 := ⟨_, rfl⟩; rw [hW4] at hE a0 a1 c0 c1; obtain ⟨e0, e1, f0, f1⟩ := row_at hE.out))
    | (go_at_call 106; go_loud (refine (hMd _ hE.one).mono ?_; clear hMd; rintro e W5 ⟨r, rfl, hr, hB5, hrf⟩; have hqb := do2_block hE; have hrlo : ∀ g, r.ownBlock = some g → w.heap.size ≤ g := (fun g e => Nat.le_trans hE.one.below.size (hrf g e)); have hF := hE.more hB5; obtain ⟨a0, a1, _, _⟩ := row_at hF.one.desk; obtain ⟨ar, cr, rfl⟩ := hr.shape; obtain ⟨e0, e1, f0, f1⟩ := row_at hF.out; obtain ⟨r0, r1, g0, g1⟩ := row_at hF.one.res; clear hE hB5))
    | (go_at_call 107; go_loud (refine (hEq _ _ hF.one hr).mono ?_; clear hEq; rintro e W6 ⟨rfl, hB6⟩; have hr6 := hr.below hB6; have hG := hF.more hB6; obtain ⟨a0, a1, _, _⟩ := row_at hG.one.desk; obtain ⟨e0, e1, f0, f1⟩ := row_at hG.out; obtain ⟨r0, r1, g0, g1⟩ := row_at hG.one.res; clear hF hB6 hr)))
  have hE2 := hG
  obtain ⟨hown, hBl, hpo, hap⟩ := hE2.result
  have hres := hide (desk_set hE2.one.res (.slice ay row.length cy) (.slice aq past.length cq))
  have hcap : past.length ≤ cq := by obtain ⟨us, _, ho, _⟩ := hE2.past; exact own_cap ho
  have hcn : ∀ g o t, aq = some ⟨g, o, t⟩ → w.heap.size ≤ g := fun g o t e => by
    subst e
    obtain ⟨us, _, ho, _⟩ := hE2.past
    have := (ho.lt g rfl).1
    omega
  clear hE2
  exact bodyPost_ret (results_desk2 rfl _ _ (w.heap.size + 2) _ _ rfl hres.out) rfl ⟨_, rfl, hown, ⟨CapN.of hcap hcn, fun _ => ⟨_, _, rfl, hpo, hap⟩⟩, hBl⟩

set_option maxRecDepth 100000 in
set_option maxHeartbeats 2000000 in
theorem specDo_made (x p : Value) (d : Dk) (k n : Int) (w : World) (hx : Ints w x d.1) (hp : PastI w p d.2) (hb : deskB d = true) (hk : Fits k) (hn : Fits n) (h5 : ¬ (k = 5 ∧ n = 0)) (h0 : madeV d.1 k n ≠ []) (hM : madeV d.1 k n ≠ d.1) (h8 : d.2.length < 8) : Calls Tryz.prog 66 #[.agg #[x, p], dV k n] w fun e w' =>
    ∃ y, e = .returned (.tuple #[y, .bool (doV d k n).2]) ∧ DeskI w' y (doV d k n).1 ∧ (CapN w.heap.size y ∧ (d.2.length < 8 → PastO w' w.heap.size y (doV d k n).1.2)) ∧ Below w.heap.size w w' := by
  rw [doV_made hb (fun h => h5 ⟨h.1, h.2.1⟩) (fun h => h.elim h0 hM), show pastV d.2 d.1 = d.2 ++ [d.1] by unfold pastV; rw [if_pos h8]]
  obtain ⟨hd1, hd2, hd3⟩ := deskB_is.1 hb
  have hl := sideB_len hd2
  have hD := Do1.new w x p k n
  obtain ⟨W1, hW1⟩ : ∃ W1, ((w.alloc (.cells #[x, p] 31)).alloc (.cells #[.int .i64 k, .int .i64 n] 39)).alloc (.cells #[.slice none 0 0, .slice none 0 0] 31) = W1 := ⟨_, rfl⟩
  rw [hW1] at hD
  have hOK := specDeskOk (.agg #[x, p]) d W1 ⟨x, p, rfl, hx.below hD.below, hp.below hD.below⟩ ⟨by omega, by omega, fun j => by
    by_cases hj : j < d.2.length
    · have := sideB_len (hd1 (d.2.getD j []) (by rw [List.getD, List.getElem?_eq_getElem hj]; exact List.getElem_mem hj)); omega
    · rw [List.getD, List.getElem?_eq_none (by omega)]; simp⟩
  rw [hb] at hOK
  have hCp := fun V (hV : Do1 w x p k n V) => specCopy x p d V (hx.below hV.below) (hp.below hV.below) hb
  have hMd := fun V (hV : Do1 w x p k n V) => specMade x d.1 k n V (hx.below hV.below) hd2 hk hn
  have q5 := fun V => equal_deed hk hn (k' := 5) (n' := 0) (by constructor <;> omega) (by constructor <;> omega) V
  rw [decide_eq_false h5] at q5
  obtain ⟨row, past⟩ := d
  simp only at hd1 hd2 hd3 hl hx hp hCp hMd hOK ⊢
  have hml := sideB_len (made_side hd2 k n h0)
  have hEq := fun (V : World) (r : Value) (hV : Do1 w x p k n V) (hr : Ints V r (madeV row k n)) => specSame r x (madeV row k n) row V hr (hx.below hV.below) (by omega)
  rw [decide_eq_false hM] at hEq
  generalize madeV row k n = M at *
  have hrow : ¬ (M = []) := h0
  clear h0 hM h5 hd1
  obtain ⟨ap, cp, rfl, _⟩ := id hp
  obtain ⟨ax, cx, rfl⟩ := hx.shape
  obtain ⟨a0, a1, _, _⟩ := row_at hD.desk
  unfold dV at hMd ⊢

  go_enter Tryz.func66, Tryz.ntmps66
  go_wp2_with (first
    | (go_at_call 13; go_loud (refine hOK.mono ?_; clear hOK; rintro e W2 ⟨rfl, hB2⟩; have hD2 := hD.more hB2; obtain ⟨a0, a1, _, _⟩ := row_at hD2.desk; clear hD hB2))
    | (go_at_call 65; go_loud (refine (hCp _ hD2).mono ?_; clear hCp; rintro e W3 ⟨y, q, rfl, hy, hq, hB3⟩; have hE := do2_new (d := (row, past)) hD2 hy hq hB3; obtain ⟨ay, cy, rfl⟩ := own_form hy; obtain ⟨aq, cq, rfl⟩ := hq.form; obtain ⟨a0, a1, _, _⟩ := row_at hE.one.desk; obtain ⟨c0, c1, _, _⟩ := row_at hE.one.deed; clear hD2 hB3 hy hq; obtain ⟨W4, hW4⟩ : ∃ W4, W3.alloc (.cells #[.slice ay row.length cy, .slice aq past.length cq] 31) = W4 := ⟨_, rfl⟩; rw [hW4] at hE a0 a1 c0 c1; obtain ⟨e0, e1, f0, f1⟩ := row_at hE.out))
    | (go_at_call 106; go_loud (refine (hMd _ hE.one).mono ?_; clear hMd; rintro e W5 ⟨r, rfl, hr, hB5, hrf⟩; have hqb := do2_block hE; have hrlo : ∀ g, r.ownBlock = some g → w.heap.size ≤ g := (fun g e => Nat.le_trans hE.one.below.size (hrf g e)); have hF := hE.more hB5; obtain ⟨a0, a1, _, _⟩ := row_at hF.one.desk; obtain ⟨ar, cr, rfl⟩ := hr.shape; obtain ⟨e0, e1, f0, f1⟩ := row_at hF.out; obtain ⟨r0, r1, g0, g1⟩ := row_at hF.one.res; clear hE hB5))
    | (go_at_call 107; go_loud (refine (hEq _ _ hF.one hr).mono ?_; clear hEq; rintro e W6 ⟨rfl, hB6⟩; have hr6 := hr.below hB6; have hG := hF.more hB6; obtain ⟨a0, a1, _, _⟩ := row_at hG.one.desk; obtain ⟨e0, e1, f0, f1⟩ := row_at hG.out; obtain ⟨r0, r1, g0, g1⟩ := row_at hG.one.res; obtain ⟨us, hul, huo, hur⟩ := hG.past; simp only at hul; have hq6 := (Boxed.new W6 28 (.slice ay row.length cy)).cell; have hb7 := (Below.refl _ W6).alloc (Nat.le_refl _) (.cells #[.slice ay row.length cy] 28); have huo7 := own_below huo hb7; have hG7 := hG.more hb7; have hr7 := hr6.below hb7; have hsz7 := hG7.one.size; have hlt7 := hG7.lt; obtain ⟨W7, hW7⟩ : ∃ W7, W6.alloc (.cells #[.slice ay row.length cy] 28) = W7 := ⟨_, rfl⟩; rw [hW7] at hq6 huo7 hG7 hr7 hsz7 hb7; have hur7 := fun j (hj : j < past.length) => own_below (hur j hj) hb7; clear hF hB6 hr))
    | (at_builtin; go_loud (refine append_slice12 rfl _ _ rfl rfl (w.heap.size + 3) _ us.length us rfl huo7 W6.heap.size rfl hq6 (by omega) (by omega) ?_); intro v8 w8 how8 hg8; go_loud (have hF8 := hG7.append hul huo7 hur7 how8 hg8 hr7 hrf hqb; obtain ⟨a8, c8, rfl⟩ := own_form how8; obtain ⟨k0, k1, k2, k3⟩ := row_at hF8.out; obtain ⟨s0, s1, t0, t1⟩ := row_at hF8.res; have hcap8 := own_cap how8; have hcn8 := (fun g h => (how8.lt g h).1); rw [hul] at hcap8 hF8 ⊢; have hF9 := hide hF8; clear hF8 how8 hg8 hG7 huo7 hur7 hur huo hG)))
  have hF10 := (hF9.out.set1 (.slice a8 (past.length + 1) c8)).set0 (.slice ar M.length cr)
  obtain ⟨hown, hBl⟩ := hF10.result (z := .slice a8 (past.length + 1) c8) (fun _ h => h)
  have hpo := hF10.own2 (z := .slice a8 (past.length + 1) c8)
  have hres := desk_set hF10.res (.slice ar M.length cr) (.slice a8 (past.length + 1) c8)
  exact bodyPost_ret (results_desk2 rfl _ _ (w.heap.size + 2) _ _ rfl hres) rfl ⟨_, rfl, hown, ⟨CapN.of hcap8 (fun g o t e => by subst e; have := hcn8 g rfl; omega), fun _ => ⟨_, _, rfl, hpo, fun g e => ⟨hrlo g e, ints_ownSS hF10.ints (List.length_pos_iff.2 hrow) hF10.own (by simp) g e⟩⟩⟩, hBl⟩

set_option maxRecDepth 100000 in
set_option maxHeartbeats 2000000 in
theorem specDo_full (x p : Value) (d : Dk) (k n : Int) (w : World) (hx : Ints w x d.1) (hp : PastI w p d.2) (hb : deskB d = true) (hk : Fits k) (hn : Fits n) (h5 : ¬ (k = 5 ∧ n = 0)) (h0 : madeV d.1 k n ≠ []) (hM : madeV d.1 k n ≠ d.1) (h8 : d.2.length = 8) : Calls Tryz.prog 66 #[.agg #[x, p], dV k n] w fun e w' =>
    ∃ y, e = .returned (.tuple #[y, .bool (doV d k n).2]) ∧ DeskI w' y (doV d k n).1 ∧ (CapN w.heap.size y ∧ (d.2.length < 8 → PastO w' w.heap.size y (doV d k n).1.2)) ∧ Below w.heap.size w w' := by
  rw [doV_made hb (fun h => h5 ⟨h.1, h.2.1⟩) (fun h => h.elim h0 hM), show pastV d.2 d.1 = (d.2 ++ [d.1]).tail by unfold pastV; rw [if_neg (by omega)]]
  obtain ⟨hd1, hd2, hd3⟩ := deskB_is.1 hb
  have hl := sideB_len hd2
  have hD := Do1.new w x p k n
  obtain ⟨W1, hW1⟩ : ∃ W1, ((w.alloc (.cells #[x, p] 31)).alloc (.cells #[.int .i64 k, .int .i64 n] 39)).alloc (.cells #[.slice none 0 0, .slice none 0 0] 31) = W1 := ⟨_, rfl⟩
  rw [hW1] at hD
  have hOK := specDeskOk (.agg #[x, p]) d W1 ⟨x, p, rfl, hx.below hD.below, hp.below hD.below⟩ ⟨by omega, by omega, fun j => by
    by_cases hj : j < d.2.length
    · have := sideB_len (hd1 (d.2.getD j []) (by rw [List.getD, List.getElem?_eq_getElem hj]; exact List.getElem_mem hj)); omega
    · rw [List.getD, List.getElem?_eq_none (by omega)]; simp⟩
  rw [hb] at hOK
  have hCp := fun V (hV : Do1 w x p k n V) => specCopy x p d V (hx.below hV.below) (hp.below hV.below) hb
  have hMd := fun V (hV : Do1 w x p k n V) => specMade x d.1 k n V (hx.below hV.below) hd2 hk hn
  have q5 := fun V => equal_deed hk hn (k' := 5) (n' := 0) (by constructor <;> omega) (by constructor <;> omega) V
  rw [decide_eq_false h5] at q5
  obtain ⟨row, past⟩ := d
  simp only at hd1 hd2 hd3 hl hx hp hCp hMd hOK ⊢
  have hml := sideB_len (made_side hd2 k n h0)
  have hEq := fun (V : World) (r : Value) (hV : Do1 w x p k n V) (hr : Ints V r (madeV row k n)) => specSame r x (madeV row k n) row V hr (hx.below hV.below) (by omega)
  rw [decide_eq_false hM] at hEq
  generalize madeV row k n = M at *
  have hrow : ¬ (M = []) := h0
  clear h0 hM h5 hd1
  have h8' : past.length = 8 := h8
  have hgt : (past.length : Int) + 1 > 8 := by omega
  have hgn : 8 ≤ past.length := by omega
  clear h8 h8'
  obtain ⟨ap, cp, rfl, _⟩ := id hp
  obtain ⟨ax, cx, rfl⟩ := hx.shape
  obtain ⟨a0, a1, _, _⟩ := row_at hD.desk
  unfold dV at hMd ⊢

  go_enter Tryz.func66, Tryz.ntmps66
  go_wp2_with (first
    | (go_at_call 13; go_loud (refine hOK.mono ?_; clear hOK; rintro e W2 ⟨rfl, hB2⟩; have hD2 := hD.more hB2; obtain ⟨a0, a1, _, _⟩ := row_at hD2.desk; clear hD hB2))
    | (go_at_call 65; go_loud (refine (hCp _ hD2).mono ?_; clear hCp; rintro e W3 ⟨y, q, rfl, hy, hq, hB3⟩; have hE := do2_new (d := (row, past)) hD2 hy hq hB3; obtain ⟨ay, cy, rfl⟩ := own_form hy; obtain ⟨aq, cq, rfl⟩ := hq.form; obtain ⟨a0, a1, _, _⟩ := row_at hE.one.desk; obtain ⟨c0, c1, _, _⟩ := row_at hE.one.deed; clear hD2 hB3 hy hq; obtain ⟨W4, hW4⟩ : ∃ W4, W3.alloc (.cells #[.slice ay row.length cy, .slice aq past.length cq] 31) = W4 := ⟨_, rfl⟩; rw [hW4] at hE a0 a1 c0 c1; obtain ⟨e0, e1, f0, f1⟩ := row_at hE.out))
    | (go_at_call 106; go_loud (refine (hMd _ hE.one).mono ?_; clear hMd; rintro e W5 ⟨r, rfl, hr, hB5, hrf⟩; have hqb := do2_block hE; have hrlo : ∀ g, r.ownBlock = some g → w.heap.size ≤ g := (fun g e => Nat.le_trans hE.one.below.size (hrf g e)); have hF := hE.more hB5; obtain ⟨a0, a1, _, _⟩ := row_at hF.one.desk; obtain ⟨ar, cr, rfl⟩ := hr.shape; obtain ⟨e0, e1, f0, f1⟩ := row_at hF.out; obtain ⟨r0, r1, g0, g1⟩ := row_at hF.one.res; clear hE hB5))
    | (go_at_call 107; go_loud (refine (hEq _ _ hF.one hr).mono ?_; clear hEq; rintro e W6 ⟨rfl, hB6⟩; have hr6 := hr.below hB6; have hG := hF.more hB6; obtain ⟨a0, a1, _, _⟩ := row_at hG.one.desk; obtain ⟨e0, e1, f0, f1⟩ := row_at hG.out; obtain ⟨r0, r1, g0, g1⟩ := row_at hG.one.res; obtain ⟨us, hul, huo, hur⟩ := hG.past; simp only at hul; have hq6 := (Boxed.new W6 28 (.slice ay row.length cy)).cell; have hb7 := (Below.refl _ W6).alloc (Nat.le_refl _) (.cells #[.slice ay row.length cy] 28); have huo7 := own_below huo hb7; have hG7 := hG.more hb7; have hr7 := hr6.below hb7; have hsz7 := hG7.one.size; have hlt7 := hG7.lt; obtain ⟨W7, hW7⟩ : ∃ W7, W6.alloc (.cells #[.slice ay row.length cy] 28) = W7 := ⟨_, rfl⟩; rw [hW7] at hq6 huo7 hG7 hr7 hsz7 hb7; have hur7 := fun j (hj : j < past.length) => own_below (hur j hj) hb7; clear hF hB6 hr))
    | (at_builtin; go_loud (refine append_slice12 rfl _ _ rfl rfl (w.heap.size + 3) _ us.length us rfl huo7 W6.heap.size rfl hq6 (by omega) (by omega) ?_); intro v8 w8 how8 hg8; go_loud (have hF8 := hG7.append hul huo7 hur7 how8 hg8 hr7 hrf hqb; obtain ⟨G8, c8, rfl⟩ := own_some how8 (Nat.succ_pos _); obtain ⟨k0, k1, k2, k3⟩ := row_at hF8.out; obtain ⟨s0, s1, t0, t1⟩ := row_at hF8.res; have hcap8 := own_cap how8; have hcn8 := (fun g h => (how8.lt g h).1); rw [hul] at hcap8 hF8 ⊢; have hc81 : ¬ c8 = 1 := (fun e => (by rw [e] at hcap8; omega)); have hF9 := hide hF8; clear hF8 how8 hg8 hG7 huo7 hur7 hur huo hG)))
  have hF10 := ((hF9.out.set1 (.slice (some ⟨G8, 0, none⟩) (past.length + 1) c8)).set1 (.slice (some ⟨G8, 1, none⟩) past.length (c8 - 1))).set0 (.slice ar M.length cr)
  obtain ⟨hown, hBl⟩ := hF10.result (z := .slice (some ⟨G8, 1, none⟩) past.length (c8 - 1)) (fun _ h => past_tail h)
  have hres := desk_set hF10.res (.slice ar M.length cr) (.slice (some ⟨G8, 1, none⟩) past.length (c8 - 1))
  exact bodyPost_ret (results_desk2 rfl _ _ (w.heap.size + 2) _ _ rfl hres) rfl ⟨_, rfl, hown, ⟨CapN.of (by omega) (fun g o t e => by injection e with e; injection e with e _; subst e; exact Nat.le_trans (Nat.le_add_right _ 3) (hcn8 G8 rfl)), fun h => absurd (show past.length < 8 from h) (by omega)⟩, hBl⟩

theorem past_take {W : World} {G o L c : Nat} {rows : List (List Int)} (h : PastI W (.slice (some ⟨G, o, none⟩) (L + 1) c) rows) : PastI W (.slice (some ⟨G, o, none⟩) L c) (rows.take L) := by
  obtain ⟨a, c', e, hr⟩ := h
  injection e with e1 e2 e3
  subst e1
  have hl : (rows.take L).length = L := by rw [List.length_take]; omega
  refine ⟨some ⟨G, o, none⟩, c, by rw [hl], fun h0 => ?_⟩
  obtain ⟨G', o', e, hG, hc⟩ := hr (by omega)
  injection e with e
  injection e with e4 e5
  subst e4 e5
  refine ⟨G, o, rfl, hG, fun j hj => ?_⟩
  rw [hl] at hj
  obtain ⟨u, h1, h2⟩ := hc j (by omega)
  refine ⟨u, h1, ?_⟩
  rw [List.getD, List.getElem?_take, if_pos hj]
  exact h2

set_option maxRecDepth 100000 in
set_option maxHeartbeats 2000000 in
theorem specDo_back (x p : Value) (d : Dk) (k n : Int) (w : World) (hx : Ints w x d.1) (hp : PastI w p d.2) (hb : deskB d = true) (hk : Fits k) (hn : Fits n) (h5 : k = 5 ∧ n = 0) (L : Nat) (hL : d.2.length = L + 1) : Calls Tryz.prog 66 #[.agg #[x, p], dV k n] w fun e w' =>
    ∃ y, e = .returned (.tuple #[y, .bool (doV d k n).2]) ∧ DeskI w' y (doV d k n).1 ∧ (CapN w.heap.size y ∧ (d.2.length < 8 → PastO w' w.heap.size y (doV d k n).1.2)) ∧ Below w.heap.size w w' := by
  obtain ⟨rfl, rfl⟩ := h5
  rw [doV_back hb (by omega)]
  obtain ⟨hd1, hd2, hd3⟩ := deskB_is.1 hb
  have hl := sideB_len hd2
  have hD := Do1.new w x p 5 0
  obtain ⟨W1, hW1⟩ : ∃ W1, ((w.alloc (.cells #[x, p] 31)).alloc (.cells #[.int .i64 5, .int .i64 0] 39)).alloc (.cells #[.slice none 0 0, .slice none 0 0] 31) = W1 := ⟨_, rfl⟩
  rw [hW1] at hD
  have hOK := specDeskOk (.agg #[x, p]) d W1 ⟨x, p, rfl, hx.below hD.below, hp.below hD.below⟩ ⟨by omega, by omega, fun j => by
    by_cases hj : j < d.2.length
    · have := sideB_len (hd1 (d.2.getD j []) (by rw [List.getD, List.getElem?_eq_getElem hj]; exact List.getElem_mem hj)); omega
    · rw [List.getD, List.getElem?_eq_none (by omega)]; simp⟩
  rw [hb] at hOK
  have hCp := fun V (hV : Do1 w x p 5 0 V) => specCopy x p d V (hx.below hV.below) (hp.below hV.below) hb
  have hMd := fun V (hV : Do1 w x p 5 0 V) => specMade x d.1 5 0 V (hx.below hV.below) hd2 hk hn
  have q5 := fun V => equal_deed (k := 5) (n := 0) (by constructor <;> omega) (by constructor <;> omega) (k' := 5) (n' := 0) (by constructor <;> omega) (by constructor <;> omega) V
  have e5 : decide ((5 : Int) = 5 ∧ (0 : Int) = 0) = true := by decide
  rw [e5] at q5
  obtain ⟨row, past⟩ := d
  simp only at hd1 hd2 hd3 hl hx hp hCp hMd hOK ⊢
  have hpst : pstV past = past.getD L [] := by unfold pstV; rw [show past.length = L + 1 from hL]; rfl
  have hLt : past.length - 1 = L := by rw [show past.length = L + 1 from hL]; rfl
  rw [hpst, hLt]
  obtain ⟨R, hRR⟩ : ∃ R, past.getD L [] = R := ⟨_, rfl⟩
  rw [hRR]
  have hRh := hide hRR
  have hR1 : 0 < R.length := by
    rw [← hRR]
    have hLl : L < past.length := by rw [show past.length = L + 1 from hL]; omega
    exact (sideB_len (hd1 (past.getD L []) (by rw [List.getD, List.getElem?_eq_getElem hLl]; exact List.getElem_mem hLl))).1
  clear hRR
  have hL' : past.length = L + 1 := hL
  have hL0 : 0 < past.length := by omega
  have hLlt : L < past.length := by omega
  have hLb : L ≤ 8 := by omega
  have hhL := hide hL'
  clear e5 hpst hLt hd1 hd2 hMd
  obtain ⟨ap, cp, ep, _⟩ := id hp
  rw [hL'] at ep
  subst ep
  obtain ⟨ax, cx, rfl⟩ := hx.shape
  obtain ⟨a0, a1, _, _⟩ := row_at hD.desk
  unfold dV
  clear hL hL' hl hd3

  go_enter Tryz.func66, Tryz.ntmps66
  go_wp2_with (first
    | (go_at_call 13; go_loud (refine hOK.mono ?_; clear hOK; rintro e W2 ⟨rfl, hB2⟩; have hD2 := hD.more hB2; obtain ⟨a0, a1, _, _⟩ := row_at hD2.desk; clear hD hB2))
    | (go_at_call 65; go_loud (refine (hCp _ hD2).mono ?_; clear hCp; rintro e W3 ⟨y, q, rfl, hy, hq, hB3⟩; have hE := do2_new (d := (row, past)) hD2 hy hq hB3; obtain ⟨ay, cy, rfl⟩ := own_form hy; obtain ⟨gq, cq, eq0, hgq, hcq⟩ := hq.read2 hL0; obtain ⟨uL, hul, huL, huo⟩ := hcq L hLlt; have hallo : ∀ g, uL.ownBlock = some g → w.heap.size ≤ g := (fun g e => Nat.le_trans hD2.below.size (huo.lt g e).1); clear huo; rw [hRh.out] at huL; obtain ⟨al, cl, rfl⟩ := huL.shape; rw [hhL.out] at eq0; subst eq0; have hcnb := hD2.below.size; have hcp0 := own_cap (Classical.choose_spec hq).2.1; have hcn0 := Nat.le_trans hcnb ((Classical.choose_spec hq).2.1.lt gq rfl).1; have hcp1 : L ≤ cq := (by omega); obtain ⟨a0, a1, _, _⟩ := row_at hE.one.desk; obtain ⟨c0, c1, _, _⟩ := row_at hE.one.deed; clear hD2 hB3 hy hq; have hba := (Below.refl _ W3).alloc (Nat.le_refl _) (.cells #[.slice ay row.length cy, .slice (some ⟨gq, 0, none⟩) (L + 1) cq] 31); have hul4 := (hba.cell (p := ⟨gq, L, none⟩) hgq).trans hul; have huL4 := huL.below hba; obtain ⟨W4, hW4⟩ : ∃ W4, W3.alloc (.cells #[.slice ay row.length cy, .slice (some ⟨gq, 0, none⟩) (L + 1) cq] 31) = W4 := ⟨_, rfl⟩; rw [hW4] at hE a0 a1 c0 c1 hul4 huL4; obtain ⟨e0, e1, f0, f1⟩ := row_at hE.out; obtain ⟨r0, r1, g0, g1⟩ := row_at hE.one.res; have hF : Fin12 w W3.heap.size _ _ (.slice al R.length cl) R _ past W4 := ⟨hE.one.below, hE.lt, hE.out, hE.one.res, hE.past, huL4⟩; have hF10 := hide ((hF.set0 (.slice al R.length cl)).set1 (.slice (some ⟨gq, 0, none⟩) L cq)); have hgb : ¬ gq = W3.heap.size := (Nat.ne_of_lt hgq); have hlt0 := hE.lt; clear hF hE hcq huL hul huL4 hba hcp0 hgq))
    | (go_at_call 106; go_loud (refine (hMd _ hE.one).mono ?_; clear hMd; rintro e W5 ⟨r, rfl, hr, hB5, hrf⟩; have hqb := do2_block hE; have hrlo : ∀ g, r.ownBlock = some g → w.heap.size ≤ g := (fun g e => Nat.le_trans hE.one.below.size (hrf g e)); have hF := hE.more hB5; obtain ⟨a0, a1, _, _⟩ := row_at hF.one.desk; obtain ⟨ar, cr, rfl⟩ := hr.shape; obtain ⟨e0, e1, f0, f1⟩ := row_at hF.out; obtain ⟨r0, r1, g0, g1⟩ := row_at hF.one.res; clear hE hB5))
    | (go_at_call 106; fail))
  obtain ⟨hown, hBl⟩ := hF10.out.result (z := .slice (some ⟨gq, 0, none⟩) L cq) (fun _ h => past_take h)
  have hpo := ownSS_take (hF10.out.own2 (z := .slice (some ⟨gq, 0, none⟩) L cq))
  have hres := desk_set hF10.out.res (.slice al R.length cl) (.slice (some ⟨gq, 0, none⟩) L cq)
  exact bodyPost_ret (results_desk2 rfl _ _ (w.heap.size + 2) _ _ rfl hres) rfl ⟨_, rfl, hown, ⟨CapN.of (by omega) (fun g o t e => by injection e with e; injection e with e _; subst e; exact hcn0), fun _ => ⟨_, _, rfl, hpo, fun g e1 => ⟨hallo g e1, fun e2 => ints_ownSS hF10.out.ints hR1 hF10.out.own (by omega) g e1 e2⟩⟩⟩, hBl⟩
end Go.Proofs.YtiaaefapbcjgmaaGreatDoor
namespace Go.Proofs.YtiaaefapbcjgmaaGreatDoor
open Go.RowKit

theorem specDo (v : Value) (d : Dk) (k n : Int) (w : World) (hv : DeskI w v d) (hs : DkS d) (hk : Fits k) (hn : Fits n) : Calls Tryz.prog 66 #[v, dV k n] w fun e w' =>
    ∃ y, e = .returned (.tuple #[y, .bool (doV d k n).2]) ∧ DeskI w' y (doV d k n).1 ∧ (CapN w.heap.size y ∧ (d.2.length < 8 → PastO w' w.heap.size y (doV d k n).1.2)) ∧ Below w.heap.size w w' := by
  cases hb : deskB d with
  | false => exact specDo_no v d k n w hv hs hb
  | true =>
    obtain ⟨x, p, rfl, hx, hp⟩ := hv
    by_cases h5 : k = 5 ∧ n = 0
    · by_cases h0 : d.2.length = 0
      · exact specDo_none x p d k n w hx hp hb hk hn h5 h0
      · exact specDo_back x p d k n w hx hp hb hk hn h5 (d.2.length - 1) (by omega)
    · by_cases h0 : madeV d.1 k n = []
      · exact specDo_empty x p d k n w hx hp hb hk hn h5 h0
      · by_cases h1 : madeV d.1 k n = d.1
        · exact specDo_same x p d k n w hx hp hb hk hn h5 h1
        · have h8 := (deskB_is.1 hb).2.2
          by_cases h : d.2.length = 8
          · exact specDo_full x p d k n w hx hp hb hk hn h5 h0 h1 h
          · exact specDo_made x p d k n w hx hp hb hk hn h5 h0 h1 (by omega)
end Go.Proofs.YtiaaefapbcjgmaaGreatDoor
namespace Go.Proofs.YtiaaefapbcjgmaaGreatDoor
open Go Go.RowKit

/-- What is known of the operations' values: from the c-th on, ahead of the store and behind it. -/
def Made0 (c n1 n2 b0 : Nat) (Z : Value) (R : World → Value → Prop) (pre : Nat → Value → World → Prop) (i : Nat) (v : Value) (V : World) : Prop :=
  (i < c → pre i v V) ∧ (i = c ∨ i = c + 1 → ∃ a1 c1 a2 c2, v = .tuple #[.agg #[.slice a1 n1 c1, .slice a2 n2 c2], Z] ∧ R V (.agg #[.slice a1 n1 c1, .slice a2 n2 c2])) ∧
  (i = c + 2 → ∃ a1 c1 a2 c2, v = .agg #[.slice a1 n1 c1, .slice a2 n2 c2] ∧ R V (.agg #[.slice a1 n1 c1, .slice a2 n2 c2])) ∧ (i = c + 3 → v = Z) ∧
  (i = c + 4 → ∃ b, v = .pointer (some ⟨b, 0, none⟩) ∧ b0 ≤ b ∧ V.heap[b]? = some (.cells #[.slice none 0 0, .slice none 0 0] 31 (0, 0)))

def Made1 (c n1 n2 b0 : Nat) (Z : Value) (R : World → Value → Prop) (i : Nat) (v : Value) (V : World) : Prop :=
  (i = c + 1 → ∃ x, v = .tuple #[x, Z]) ∧ (i = c + 3 → v = Z) ∧
  (i = c + 4 → ∃ b, v = .pointer (some ⟨b, 0, none⟩) ∧ b0 ≤ b ∧ ∃ a1 c1 a2 c2, V.heap[b]? = some (.cells #[.slice a1 n1 c1, .slice a2 n2 c2] 31 (0, 0)) ∧ R V (.agg #[.slice a1 n1 c1, .slice a2 n2 c2]))

theorem wpIn_region_made {F : Fence} {n : Nat} {id : Nat} {ops : Array Oper} {Q : Exit → Act → World → Prop} {a : Act} {W : World} (c n1 n2 : Nat) (Z : Value) (R : World → Value → Prop)
    (hm : Tryz.prog.follows .mixedOrders = true) (hb : backB ops = true) (ht : tailB ops (c + 6) = true) (hsz : c + 6 < ops.size)
    (hdep : (depB ops (c + 1) c && depB ops (c + 2) (c + 1) && depB ops (c + 3) (c + 1) && depB ops (c + 5) (c + 2) && depB ops (c + 5) (c + 4)) = true)
    (hnd : ((List.range (c + 5)).all fun i => (i == c + 3) || needs ops (c + 5) ops.size i) = true)
    (fr : (Nat → Value) → Act) (pre : Nat → Value → World → Prop) (hpre : ∀ k v V V', pre k v V → Below V.heap.size V V' → pre k v V')
    (hRb : ∀ V V' y, R V y → Below V.heap.size V V' → R V' y)
    (hRs : ∀ V b a1 c1 a2 c2, R V (.agg #[.slice a1 n1 c1, .slice a2 n2 c2]) → W.heap.size ≤ b → V.heap[b]? = some (.cells #[.slice none 0 0, .slice none 0 0] 31 (0, 0)) → R ((V.setCell ⟨b, 0, none⟩ (.slice a1 n1 c1)).setCell ⟨b, 1, none⟩ (.slice a2 n2 c2)) (.agg #[.slice a1 n1 c1, .slice a2 n2 c2]))
    (h0 : ∃ s, a = fr s) (hput : ∀ i o s v, i < c + 6 → ops[i]? = some o → (fr s).put o.dst v = fr (fun j => if j = i then v else s j))
    (hstep : ∀ i o s V, i < c → ops[i]? = some o → Below W.heap.size W V → (∀ k, k < c → depB ops i k = true → pre k (s k) V) → ∀ Q' : Exit → Act → World → Prop,
      (∀ v V', Below V.heap.size V V' → pre i v V' → Q' .normal ((fr s).put o.dst v) V') → wpListIn F n Tryz.prog ops Q' [o] (fr s) V)
    (hcall : ∀ o s V, ops[c]? = some o → Below W.heap.size W V → (∀ k, k < c → depB ops c k = true → pre k (s k) V) → ∀ Q' : Exit → Act → World → Prop,
      (∀ a1 c1 a2 c2 V', Below V.heap.size V V' → R V' (.agg #[.slice a1 n1 c1, .slice a2 n2 c2]) → Q' .normal ((fr s).put o.dst (.tuple #[.agg #[.slice a1 n1 c1, .slice a2 n2 c2], Z])) V') → wpListIn F n Tryz.prog ops Q' [o] (fr s) V)
    (hmove : ∀ o s V y (Q' : Exit → Act → World → Prop), ops[c + 1]? = some o → s c = y → Q' .normal ((fr s).put o.dst y) V → wpListIn F n Tryz.prog ops Q' [o] (fr s) V)
    (hext0 : ∀ o s V x z (Q' : Exit → Act → World → Prop), ops[c + 2]? = some o → s (c + 1) = .tuple #[x, z] → Q' .normal ((fr s).put o.dst x) V → wpListIn F n Tryz.prog ops Q' [o] (fr s) V)
    (hext1 : ∀ o s V x z (Q' : Exit → Act → World → Prop), ops[c + 3]? = some o → s (c + 1) = .tuple #[x, z] → Q' .normal ((fr s).put o.dst z) V → wpListIn F n Tryz.prog ops Q' [o] (fr s) V)
    (halloc : ∀ o s V (Q' : Exit → Act → World → Prop), ops[c + 4]? = some o → Q' .normal ((fr s).put o.dst (.pointer (some ⟨V.heap.size, 0, none⟩))) (V.alloc (.cells #[.slice none 0 0, .slice none 0 0] 31)) → wpListIn F n Tryz.prog ops Q' [o] (fr s) V)
    (hstore : ∀ o s V b a1 c1 a2 c2 (Q' : Exit → Act → World → Prop), ops[c + 5]? = some o → s (c + 4) = .pointer (some ⟨b, 0, none⟩) → s (c + 2) = .agg #[.slice a1 n1 c1, .slice a2 n2 c2] → V.heap[b]? = some (.cells #[.slice none 0 0, .slice none 0 0] 31 (0, 0)) →
      Q' .normal ((fr s).put o.dst undef) ((V.setCell ⟨b, 0, none⟩ (.slice a1 n1 c1)).setCell ⟨b, 1, none⟩ (.slice a2 n2 c2)) → wpListIn F n Tryz.prog ops Q' [o] (fr s) V)
    (htail : ∀ s V b a1 c1 a2 c2, Below W.heap.size W V → s (c + 4) = .pointer (some ⟨b, 0, none⟩) → W.heap.size ≤ b → V.heap[b]? = some (.cells #[.slice a1 n1 c1, .slice a2 n2 c2] 31 (0, 0)) → R V (.agg #[.slice a1 n1 c1, .slice a2 n2 c2]) → s (c + 3) = Z → wpListIn F n Tryz.prog ops Q (ops.toList.drop (c + 6)) (fr s) V) : (Code.region id ops true).wpIn F n Tryz.prog Q a W := by
  simp only [Bool.and_eq_true] at hdep
  obtain ⟨⟨⟨⟨d1, d2⟩, d3⟩, d4⟩, d5⟩ := hdep
  refine wpIn_region_store (c + 5) (c + 6) hm hb ht (by omega) hsz fr (fun _ V => Below W.heap.size W V) (fun V V' => Below V.heap.size V V')
    (fun ph k v V => (ph = false → Made0 c n1 n2 W.heap.size Z R pre k v V) ∧ (ph = true → Made1 c n1 n2 W.heap.size Z R k v V)) h0 hput (Below.refl _ _).drew ?mono ?step ?mid ?tail
  case mono =>
    rintro ph k v V V' ⟨h1, h2⟩ hg
    refine ⟨fun e => ?_, fun e => ?_⟩
    · obtain ⟨f1, f2, f3, f4, f5⟩ := h1 e
      refine ⟨fun e => hpre _ _ _ _ (f1 e) hg, fun e => ?_, fun e => ?_, f4, fun e => ?_⟩
      · obtain ⟨a1, c1, a2, c2, g1, g2⟩ := f2 e
        exact ⟨a1, c1, a2, c2, g1, hRb _ _ _ g2 hg⟩
      · obtain ⟨a1, c1, a2, c2, g1, g2⟩ := f3 e
        exact ⟨a1, c1, a2, c2, g1, hRb _ _ _ g2 hg⟩
      · obtain ⟨b, g1, g2, g3⟩ := f5 e
        exact ⟨b, g1, g2, (hg.block _ (Array.getElem?_eq_some_iff.1 g3).1).trans g3⟩
    · obtain ⟨f1, f2, f3⟩ := h2 e
      refine ⟨f1, f2, fun e => ?_⟩
      obtain ⟨b, g1, g2, a1, c1, a2, c2, g3, g4⟩ := f3 e
      exact ⟨b, g1, g2, a1, c1, a2, c2, (hg.block _ (Array.getElem?_eq_some_iff.1 g3).1).trans g3, hRb _ _ _ g4 hg⟩
  case step =>
    intro ph i o s V hi hip hnp ho hV hd Q' hQ'
    by_cases e3 : i = c + 3
    · subst e3
      have hx : ∃ x, s (c + 1) = .tuple #[x, Z] := by
        cases ph with
        | false => obtain ⟨a1, c1, a2, c2, g1, _⟩ := ((hd _ d3).1 rfl).2.1 (.inr rfl); exact ⟨_, g1⟩
        | true => exact ((hd _ d3).2 rfl).1 rfl
      obtain ⟨x, hx⟩ := hx
      refine hext1 o s V x Z Q' ho hx (hQ' _ _ hV (Below.refl _ _) ⟨fun _ => ⟨fun e => by omega, fun e => by omega, fun e => by omega, fun _ => rfl, fun e => by omega⟩, fun _ => ⟨fun e => by omega, fun _ => rfl, fun e => by omega⟩⟩)
    · have hph : ph = false := by
        cases ph with
        | false => rfl
        | true =>
          have h1 := hnp rfl
          have h2 := List.all_eq_true.1 hnd i (List.mem_range.2 (by omega))
          rw [h1] at h2
          simp at h2
          exact absurd h2 e3
      subst hph
      have hd0 := fun k hk => (hd k hk).1 rfl
      have hq : ∀ v V', Below V.heap.size V V' → Made0 c n1 n2 W.heap.size Z R pre i v V' → Q' .normal ((fr s).put o.dst v) V' := fun v V' h1 h2 => hQ' v V' (hV.trans (h1.mono hV.size)) h1 ⟨fun _ => h2, fun e => by cases e⟩
      by_cases ec : i < c
      · exact hstep i o s V ec ho hV (fun k hk hdk => (hd0 k hdk).1 hk) Q' (fun v V' h1 h2 => hq v V' h1 ⟨fun _ => h2, fun e => by omega, fun e => by omega, fun e => by omega, fun e => by omega⟩)
      · by_cases e0 : i = c
        · subst e0
          exact hcall o s V ho hV (fun k hk hdk => (hd0 k hdk).1 hk) Q' (fun a1 c1 a2 c2 V' h1 h2 => hq _ V' h1 ⟨fun e => by omega, fun _ => ⟨a1, c1, a2, c2, rfl, h2⟩, fun e => by omega, fun e => by omega, fun e => by omega⟩)
        · by_cases e1 : i = c + 1
          · subst e1
            have h := (hd0 _ d1).2.1 (.inl rfl)
            exact hmove o s V _ Q' ho rfl (hq _ V (Below.refl _ _) ⟨fun e => by omega, fun _ => h, fun e => by omega, fun e => by omega, fun e => by omega⟩)
          · by_cases e2 : i = c + 2
            · subst e2
              obtain ⟨a1, c1, a2, c2, g1, g2⟩ := (hd0 _ d2).2.1 (.inr rfl)
              exact hext0 o s V _ _ Q' ho g1 (hq _ V (Below.refl _ _) ⟨fun e => by omega, fun e => by omega, fun _ => ⟨a1, c1, a2, c2, rfl, g2⟩, fun e => by omega, fun e => by omega⟩)
            · have e4 : i = c + 4 := by omega
              subst e4
              exact halloc o s V Q' ho (hq _ _ ((Below.refl _ V).alloc (Nat.le_refl _) _) ⟨fun e => by omega, fun e => by omega, fun e => by omega, fun e => by omega, fun _ => ⟨V.heap.size, rfl, hV.size, World.alloc_heap_new V _⟩⟩)
  case mid =>
    intro o s V ho hV hd Q' hQ'
    obtain ⟨a1, c1, a2, c2, g1, g2⟩ := ((hd _ d4).1 rfl).2.2.1 rfl
    obtain ⟨b, g3, g4, g5⟩ := ((hd _ d5).1 rfl).2.2.2.2 rfl
    refine hstore o s V b a1 c1 a2 c2 Q' ho g3 g1 g5 (hQ' undef _ ((hV.setCell (p := ⟨b, 0, none⟩) g4 _).setCell (p := ⟨b, 1, none⟩) g4 _) (fun k hk hΦ => ⟨fun e => (by cases e), fun _ => ?_⟩) ⟨fun e => (by cases e), fun _ => ⟨fun e => by omega, fun e => by omega, fun e => by omega⟩⟩)
    have h := hΦ.1 rfl
    refine ⟨fun e => ?_, h.2.2.2.1, fun e => ?_⟩
    · obtain ⟨_, _, _, _, e1, _⟩ := h.2.1 (.inr e)
      exact ⟨_, e1⟩
    · subst e
      exact ⟨b, g3, g4, a1, c1, a2, c2, desk_set g5 _ _, hRs V b a1 c1 a2 c2 g2 g4 g5⟩
  case tail =>
    intro s V hV hd
    obtain ⟨b, g1, g2, a1, c1, a2, c2, g3, g4⟩ := ((hd (c + 4) (by omega)).2 rfl).2.2 rfl
    exact htail s V b a1 c1 a2 c2 hV g1 g2 g3 g4 (((hd (c + 3) (by omega)).2 rfl).2.1 rfl)
end Go.Proofs.YtiaaefapbcjgmaaGreatDoor
namespace Go.Proofs.YtiaaefapbcjgmaaGreatDoor
open Go.RowKit Go.Shelf
attribute [local go_sem] Oper.semAt_some

theorem deskB_size {d : Dk} (h : deskB d = true) : DkS d := by
  obtain ⟨h1, h2, h3⟩ := deskB_is.1 h
  have := sideB_len h2
  refine ⟨by omega, by omega, fun j => ?_⟩
  by_cases hj : j < d.2.length
  · have := sideB_len (h1 (d.2.getD j []) (by rw [List.getD, List.getElem?_eq_getElem hj]; exact List.getElem_mem hj)); omega
  · rw [List.getD, List.getElem?_eq_none (by omega)]; simp

theorem runL_next {d : Dk} {L : List (Int × Int)} {k : Nat} (h : k < L.length) : runL d 0 (L.take (k + 1)) =
    (if (doV (runL d 0 (L.take k)).1 (L.getD k (0, 0)).1 (L.getD k (0, 0)).2).2 = true then ((doV (runL d 0 (L.take k)).1 (L.getD k (0, 0)).1 (L.getD k (0, 0)).2).1, (runL d 0 (L.take k)).2 + 1) else runL d 0 (L.take k)) := by
  rw [take_deed h, runL_app]
  cases hd : (doV (runL d 0 (L.take k)).1 (L.getD k (0, 0)).1 (L.getD k (0, 0)).2).2 with
  | true => rw [runL_yes hd, if_pos rfl]; rfl
  | false => rw [runL_not hd, if_neg (by simp)]; rfl
end Go.Proofs.YtiaaefapbcjgmaaGreatDoor
namespace Go.Proofs.YtiaaefapbcjgmaaGreatDoor
open Go

theorem deed_four {k n : Int} (h : deedT k n ≠ []) : 4 ≤ (deedT k n).length := by
  unfold deedT at h ⊢
  split
  · have := List.length_pos_iff.2 (decF_ne 20 n.toNat); simp
  · split
    · simp
    · split
      · simp
      · split
        · simp
        · split
          · simp
          · split
            · simp
            · rename_i h1 h2 h3 h4 h5 h6
              rw [if_neg h1, if_neg h2, if_neg h3, if_neg h4, if_neg h5, if_neg h6] at h
              exact absurd rfl h

theorem jtL_five : ∀ L : List (Int × Int), (∀ a ∈ L, deedT a.1 a.2 ≠ []) → 5 * L.length ≤ (jtL L).length
  | [], _ => by simp
  | a :: L, h => by
    have h1 := deed_four (h a (by simp))
    have h2 := jtL_five L (fun x hx => h x (by simp [hx]))
    unfold jtL
    simp
    omega

theorem deed_fits {k n : Int} (h : deedT k n ≠ []) : Fits k ∧ Fits n := by
  have := deedT_is h
  unfold isD at this
  unfold Fits
  omega

theorem jr_all (l : List Nat) : ∃ L n, jrT l = (L, n) ∧ jtT L = l.take n ∧ n ≤ l.length ∧ (∀ a ∈ L, deedT a.1 a.2 ≠ []) ∧ 5 * L.length ≤ l.length ∧ (∀ a ∈ L, Fits a.1 ∧ Fits a.2) ∧
    ∀ k, ∃ m c, jrT (l.take k) = (L.take m, c) ∧ m ≤ L.length ∧ c ≤ k := by
  obtain ⟨h1, h2, _, h4, h5⟩ := jt_of_jr l []
  have hall : jtT (jrT l).1 = jtL (jrT l).1 := by unfold jtT; exact if_pos h5
  have ht : jtL (jrT l).1 = l.take (jrT l).2 := by
    simp only [List.nil_append, List.length_nil, Nat.sub_zero] at h1
    unfold jrT
    rw [h1]
    split
    · rename_i e; rw [e]; rfl
    · rfl
  have hn : (jrT l).2 ≤ l.length := by simp only [List.length_nil, Nat.zero_add] at h4; exact h4
  have h5l := jtL_five _ h5
  refine ⟨(jrT l).1, (jrT l).2, rfl, hall.trans ht, hn, h5, ?_, fun a ha => deed_fits (h5 a ha), fun k => ?_⟩
  · have : (jtL (jrT l).1).length ≤ l.length := by rw [ht, List.length_take]; omega
    unfold jrT at this ⊢
    omega
  · obtain ⟨e1, e2⟩ := jr_take l [] k
    obtain ⟨_, _, _, g4, _⟩ := jt_of_jr (l.take k) []
    refine ⟨(jrT (l.take k)).1.length, (jrT (l.take k)).2, ?_, e2, ?_⟩
    · unfold jrT
      rw [← e1]
    · have : (l.take k).length ≤ k := by rw [List.length_take]; omega
      unfold jrT
      simp only [List.length_nil, Nat.zero_add] at g4
      omega

/-- A line that is a deed's text does what the deed does. -/
theorem line_next {d : Dk} {L : List (Int × Int)} {k : Nat} (h : k < L.length) (hb : deskB d = true) (hne : ∀ a ∈ L, deedT a.1 a.2 ≠ []) :
    deskB (runL d 0 (L.take k)).1 = true ∧ deskB (runL d 0 (L.take (k + 1))).1 = true ∧ deedT (L.getD k (0, 0)).1 (L.getD k (0, 0)).2 ≠ [] ∧
    ∃ tx, lineV (runL d 0 (L.take k)).1 (deedT (L.getD k (0, 0)).1 (L.getD k (0, 0)).2) = ((runL d 0 (L.take (k + 1))).1, tx) ∧ (tx = [111, 107] ∨ tx = [110, 111, 116]) := by
  have hdb := runL_desk (L.take k) d 0 hb
  have hx : deedT (L.getD k (0, 0)).1 (L.getD k (0, 0)).2 ≠ [] := hne _ (by rw [List.getD, List.getElem?_eq_getElem (by omega)]; exact List.getElem_mem _)
  refine ⟨hdb, runL_desk _ d 0 hb, hx, ?_⟩
  rw [runL_next h, lineV_deed hdb (read_of_text hx)]
  cases hd : (doV (runL d 0 (L.take k)).1 (L.getD k (0, 0)).1 (L.getD k (0, 0)).2).2 with
  | true => exact ⟨[111, 107], by simp, .inl rfl⟩
  | false => refine ⟨[110, 111, 116], by rw [do_not hdb hd]; simp, .inr rfl⟩
end Go.Proofs.YtiaaefapbcjgmaaGreatDoor
namespace Go.Proofs.YtiaaefapbcjgmaaGreatDoor
open Go.RowKit Go.BigFrame

def digS : ByteArray := ⟨#[48, 49, 50, 51, 52, 53, 54, 55, 56, 57, 97, 98, 99, 100, 101, 102, 103, 104, 105, 106, 107, 108, 109, 110, 111, 112, 113, 114, 115, 116, 117, 118, 119, 120, 121, 122]⟩

def twoS : ByteArray := ⟨((List.range 100).flatMap fun i => [UInt8.ofNat (48 + i / 10), UInt8.ofNat (48 + i % 10)]).toArray⟩

theorem dig_ten : ((List.range 10).all fun i => decide (digS.extract i (i + 1) = str (decF 20 i))) = true := by decide +kernel

theorem dig_two : ((List.range 100).all fun i => decide (i < 10 ∨ twoS.extract (i * 2) (i * 2 + 2) = str (decF 20 i))) = true := by decide +kernel

set_option maxRecDepth 100000 in
set_option maxHeartbeats 1000000 in
theorem small_ten (i : Nat) (hi : i < 10) (w : World) : Calls Tryz.prog 178 #[.int .i64 i] w fun e w' => e = .returned (.string (str (decF 20 i))) ∧ w = w' := by
  have h := List.all_eq_true.1 dig_ten i (List.mem_range.2 hi)
  simp only [decide_eq_true_eq] at h
  unfold digS at h
  have h1 : (i : Int) < 10 := by omega
  rw [← h]
  clear h
  go_enter Tryz.func178, Tryz.ntmps178
  go_wp2
  go_ret
  exact ⟨rfl, rfl⟩

set_option maxRecDepth 100000 in
set_option maxHeartbeats 1000000 in
theorem small_two (i : Nat) (h10 : 10 ≤ i) (hi : i < 100) (w : World) : Calls Tryz.prog 178 #[.int .i64 i] w fun e w' => e = .returned (.string (str (decF 20 i))) ∧ w = w' := by
  have h := List.all_eq_true.1 dig_two i (List.mem_range.2 hi)
  simp only [decide_eq_true_eq] at h
  have h := h.resolve_left (by omega)
  have h1 : ¬ (i : Int) < 10 := by omega
  rw [← h]
  clear h
  go_enter Tryz.func178, Tryz.ntmps178
  go_wp2
  go_ret
  exact ⟨by rfl, rfl⟩

theorem small_in (i : Nat) (hi : i < 100) (w : World) : Calls Tryz.prog 178 #[.int .i64 i] w fun e w' => e = .returned (.string (str (decF 20 i))) ∧ w = w' := by
  by_cases h : i < 10
  · exact small_ten i h w
  · exact small_two i (by omega) hi w

set_option maxRecDepth 100000 in
set_option maxHeartbeats 1000000 in
theorem formatInt_in (i : Nat) (hi : i < 100) (w : World) : Calls Tryz.prog 143 #[.int .i64 i, .int .i64 10] w fun e w' => e = .returned (.string (str (decF 20 i))) ∧ w = w' := by
  have hS := small_in i hi w
  have h1 : (0 : Int) ≤ (i : Int) := by omega
  have h2 : (i : Int) < 100 := by omega
  generalize str (decF 20 i) = s at *
  go_enter Tryz.func143, Tryz.ntmps143
  go_wp2_with (go_at_call 178; refine hS.mono ?_; clear hS; rintro e w' ⟨rfl, rfl⟩)
  go_ret
  exact ⟨rfl, rfl⟩

theorem itoa_in (i : Nat) (hi : i < 100) (w : World) : Calls Tryz.prog 58 #[.int .i64 i] w fun e w' => e = .returned (.string (str (decF 20 i))) ∧ w = w' := by
  have hF := formatInt_in i hi w
  generalize str (decF 20 i) = s at *
  have hI : Calls Tryz.prog 101 #[.int .i64 i] w fun e w' => e = .returned (.string s) ∧ w = w' := by
    go_enter Tryz.func101, Tryz.ntmps101
    go_wp2_with (go_at_call 143; refine hF.mono ?_; clear hF; rintro e w' ⟨rfl, rfl⟩)
    go_ret
    exact ⟨rfl, rfl⟩
  go_enter Tryz.func58, Tryz.ntmps58
  go_wp2_with (go_at_call 101; refine hI.mono ?_; clear hI; rintro e w' ⟨rfl, rfl⟩)
  go_ret
  exact ⟨rfl, rfl⟩

/-- The greatest number that is named. -/
def mostT (k : Int) : Int := if k = 0 then 99 else if k = 1 then 9 else 0

theorem mostT_in (k : Int) (w : World) : Calls Tryz.prog 56 #[.int .i64 k] w fun e w' => e = .returned (.int .i64 (mostT k)) ∧ w = w' := by
  by_cases h0 : k = 0
  · subst h0
    go_enter Tryz.func56, Tryz.ntmps56
    go_wp2
    go_ret
    exact ⟨rfl, rfl⟩
  by_cases h1 : k = 1
  · subst h1
    go_enter Tryz.func56, Tryz.ntmps56
    go_wp2
    go_ret
    exact ⟨rfl, rfl⟩
  · have hm : mostT k = 0 := by unfold mostT; rw [if_neg h0, if_neg h1]
    rw [hm]
    have b0 : (k == 0) = false := by rw [beq_eq_false_iff_ne]; exact h0
    have b1 : (k == 1) = false := by rw [beq_eq_false_iff_ne]; exact h1
    clear h0 h1 hm
    go_enter Tryz.func56, Tryz.ntmps56
    go_wp2
    go_ret
    exact ⟨rfl, rfl⟩

def wordsA : Array Value := #[.string ⟨#[102, 108, 105, 112]⟩, .string ⟨#[112, 117, 116]⟩, .string ⟨#[117, 110, 100, 101, 114]⟩, .string ⟨#[116, 117, 114, 110]⟩, .string ⟨#[114, 111, 117, 110, 100]⟩, .string ⟨#[98, 97, 99, 107]⟩]

theorem words_in (w : World) : Calls Tryz.prog 57 #[] w fun e w' => e = .returned (.slice (some ⟨w.heap.size, 0, none⟩) 6 6) ∧ w' = w.alloc (.cells wordsA 9) := by
  unfold wordsA
  go_enter Tryz.func57, Tryz.ntmps57
  go_wp2
  go_ret
  exact ⟨rfl, rfl⟩

theorem word_at (W : World) (k : Nat) (v : Value) (h : wordsA[k]? = some v) : (W.alloc (.cells wordsA 9)).cell? ⟨W.heap.size, k, none⟩ = some v := by
  have hb := World.alloc_heap_new W (.cells wordsA 9)
  unfold World.cell?
  rw [hb]
  exact h

theorem words_at (w : World) : Calls Tryz.prog 57 #[] w fun e w' => e = .returned (.slice (some ⟨w.heap.size, 0, none⟩) 6 6) ∧ (∀ k v, wordsA[k]? = some v → w'.cell? ⟨w.heap.size, k, none⟩ = some v) ∧ Below w.heap.size w w' :=
  (words_in w).mono fun _ _ ⟨he, hw⟩ => ⟨he, by rw [hw]; exact fun k v h => word_at w k v h, by rw [hw]; exact (Below.refl _ w).alloc (Nat.le_refl _) _⟩

/-- What is known when the text is asked for: the deed lies boxed. -/
structure Dt (w : World) (k n : Int) (W : World) : Prop where
  eq : w.alloc (.cells #[.int .i64 k, .int .i64 n] 39) = W
  below : Below w.heap.size w W
  c0 : ∀ m : After W, m.now.cell? ⟨w.heap.size, 0, none⟩ = some (.int .i64 k)
  c1 : ∀ m : After W, m.now.cell? ⟨w.heap.size, 1, none⟩ = some (.int .i64 n)

theorem Dt.new (w : World) (k n : Int) : ∃ W, Dt w k n W := by
  have hb := World.alloc_heap_new w (.cells #[.int .i64 k, .int .i64 n] 39)
  refine ⟨_, rfl, (Below.refl _ w).alloc (Nat.le_refl _) _, fun m => ?_, fun m => ?_⟩
  · refine (m.ok.cell (p := ⟨w.heap.size, 0, none⟩) (by simp)).trans ?_
    unfold World.cell?; rw [hb]; rfl
  · refine (m.ok.cell (p := ⟨w.heap.size, 1, none⟩) (by simp)).trans ?_
    unfold World.cell?; rw [hb]; rfl

theorem below_of {P : Program} {f : Nat} {args : Array Value} {v : Value} {W : World} (h : Calls P f args W fun e w' => e = .returned v ∧ W = w') : Calls P f args W fun e w' => e = .returned v ∧ Below W.heap.size W w' := h.mono fun _ _ ⟨he, hw⟩ => ⟨he, hw ▸ Below.refl _ _⟩

set_option maxRecDepth 100000 in
set_option maxHeartbeats 1000000 in
/-- No deed that has a text: its kind is none. -/
theorem deedText_kind (k n : Int) (w : World) (h : k < 0 ∨ 5 < k) : Calls Tryz.prog 15 #[dV k n] w fun e w' => e = .returned (.string ⟨#[]⟩) ∧ Below w.heap.size w w' := by
  obtain ⟨W1, hW1, hB0, d0, d1⟩ := Dt.new w k n
  have hW : ∀ m : After W1, Calls Tryz.prog 55 #[.int .i64 k, .int .i64 5] m.now fun e w' => e = .returned (.bool false) ∧ Below m.now.heap.size m.now w' := fun m => below_of (within_f k 5 m.now h)
  unfold dV
  clear h
  go_enter Tryz.func15, Tryz.ntmps15
  go_wp2
  refine wp_region_below W1 (by kernel_rfl) (by kernel_rfl) (Below.refl _ _) ?_
  repeat (go_big_quiet_step ((go_at_call 55; with_reducible exact after_of (hW _))))
  refine wpQuiet_nil ?_
  rintro _ ⟨nq, rfl⟩
  go_wp2
  go_ret
  exact ⟨rfl, hB0.trans (nq.ok.mono hB0.size)⟩

set_option maxRecDepth 100000 in
set_option maxHeartbeats 1000000 in
/-- No deed that has a text: its number is none. -/
theorem deedText_num (k n : Int) (w : World) (h1 : 0 ≤ k) (h2 : k ≤ 5) (h : n < 0 ∨ mostT k < n) : Calls Tryz.prog 15 #[dV k n] w fun e w' => e = .returned (.string ⟨#[]⟩) ∧ Below w.heap.size w w' := by
  obtain ⟨W1, hW1, hB0, d0, d1⟩ := Dt.new w k n
  have hW : ∀ m : After W1, Calls Tryz.prog 55 #[.int .i64 k, .int .i64 5] m.now fun e w' => e = .returned (.bool true) ∧ Below m.now.heap.size m.now w' := fun m => below_of (within_t k 5 m.now h1 h2)
  have hM : ∀ m : After W1, Calls Tryz.prog 56 #[.int .i64 k] m.now fun e w' => e = .returned (.int .i64 (mostT k)) ∧ Below m.now.heap.size m.now w' := fun m => below_of (mostT_in k m.now)
  have hN : ∀ m : After W1, Calls Tryz.prog 55 #[.int .i64 n, .int .i64 (mostT k)] m.now fun e w' => e = .returned (.bool false) ∧ Below m.now.heap.size m.now w' := fun m => below_of (within_f n (mostT k) m.now h)
  unfold dV
  generalize mostT k = M at *
  clear h h1 h2
  go_enter Tryz.func15, Tryz.ntmps15
  go_wp2
  refine wp_region_below W1 (by kernel_rfl) (by kernel_rfl) (Below.refl _ _) ?_
  repeat (go_big_quiet_step (first | (go_at_call 55; with_reducible exact after_of (hW _)) | (go_at_call 55; with_reducible exact after_of (hN _)) | (go_at_call 56; with_reducible exact after_of (hM _))))
  refine wpQuiet_nil ?_
  rintro _ ⟨nq, rfl⟩
  go_wp2
  go_ret
  exact ⟨rfl, hB0.trans (nq.ok.mono hB0.size)⟩

set_option maxRecDepth 100000 in
set_option maxHeartbeats 1000000 in
/-- A deed without a number: its word. -/
theorem deedText_word (K : Nat) (hK : 2 ≤ K) (hK5 : K ≤ 5) (s : ByteArray) (hs : wordsA[K]? = some (.string s)) (w : World) : Calls Tryz.prog 15 #[dV K 0] w fun e w' => e = .returned (.string s) ∧ Below w.heap.size w w' := by
  obtain ⟨W1, hW1, hB0, d0, d1⟩ := Dt.new w K 0
  have hmk : mostT K = 0 := by unfold mostT; rw [if_neg (by omega), if_neg (by omega)]
  have hW : ∀ m : After W1, Calls Tryz.prog 55 #[.int .i64 K, .int .i64 5] m.now fun e w' => e = .returned (.bool true) ∧ Below m.now.heap.size m.now w' := fun m => below_of (within_t K 5 m.now (by omega) (by omega))
  have hM0 : ∀ V, Calls Tryz.prog 56 #[.int .i64 K] V fun e w' => e = .returned (.int .i64 0) ∧ V = w' := fun V => by have := mostT_in K V; rwa [hmk] at this
  have hM : ∀ m : After W1, Calls Tryz.prog 56 #[.int .i64 K] m.now fun e w' => e = .returned (.int .i64 0) ∧ Below m.now.heap.size m.now w' := fun m => below_of (hM0 m.now)
  have hN : ∀ m : After W1, Calls Tryz.prog 55 #[.int .i64 0, .int .i64 0] m.now fun e w' => e = .returned (.bool true) ∧ Below m.now.heap.size m.now w' := fun m => below_of (within_t 0 0 m.now (by omega) (by omega))
  have hKi : (K : Int) < 6 := by omega
  unfold dV
  have hsh := hide hs
  clear hmk hs
  go_enter Tryz.func15, Tryz.ntmps15
  go_wp2
  refine wp_region_below W1 (by kernel_rfl) (by kernel_rfl) (Below.refl _ _) ?_
  repeat (go_big_quiet_step (first | (go_at_call 55; with_reducible exact after_of (hW _)) | (go_at_call 55; with_reducible exact after_of (hN _)) | (go_at_call 56; with_reducible exact after_of (hM _))))
  refine wpQuiet_nil ?_
  rintro _ ⟨nq, rfl⟩
  have e0 := d0 nq
  have hl0 : w.heap.size < nq.now.heap.size := World.block_lt_of_cell? _ _ e0
  have hBq := nq.ok
  generalize nq.now = W2 at *
  have e0' : ∀ V, Below W2.heap.size W2 V → V.cell? ⟨w.heap.size, 0, none⟩ = some (.int .i64 K) := fun V hV => (hV.cell (p := ⟨w.heap.size, 0, none⟩) hl0).trans e0
  go_wp2
  go_region_with (go_at_call 57; go_loud (refine (words_at _).mono ?_; rintro e w3 ⟨rfl, hwk, hB3⟩; have hwk' : w3.cell? ⟨W2.heap.size, K, none⟩ = some (.string s) := hwk K _ hsh.out; have hwk2 : w3.cell? ⟨W2.drew.heap.size, K, none⟩ = some (.string s) := hwk K _ hsh.out; have hB23 : Below W2.heap.size W2 w3 := (Below.trans ((Below.refl _ W2).drew) hB3); have e0w := e0' w3 hB23; clear hwk))
  all_goals
    go_wp2_with (go_at_call 56; refine (hM0 _).mono ?_; rintro e w4 ⟨rfl, rfl⟩)
    go_ret
    exact ⟨rfl, hB0.trans ((hBq.trans (hB23.mono hBq.size)).mono hB0.size)⟩

theorem dec_small : ((List.range 100).all fun i => decide ((str (decF 20 i)).size ≤ 100)) = true := by decide +kernel

set_option maxRecDepth 100000 in
set_option maxHeartbeats 1000000 in
/-- A deed with a number: its word, a space and the number. -/
theorem deedText_named (K N M : Nat) (hK : K ≤ 1) (hmk : mostT K = M) (hNM : N ≤ M) (hM1 : 1 ≤ M) (hM99 : M ≤ 99) (s : ByteArray) (hsz : s.size ≤ 100) (hs : wordsA[K]? = some (.string s)) (w : World) : Calls Tryz.prog 15 #[dV K N] w fun e w' => e = .returned (.string (s ++ ⟨#[32]⟩ ++ str (decF 20 N))) ∧ Below w.heap.size w w' := by
  obtain ⟨W1, hW1, hB0, d0, d1⟩ := Dt.new w K N
  have hW : ∀ m : After W1, Calls Tryz.prog 55 #[.int .i64 K, .int .i64 5] m.now fun e w' => e = .returned (.bool true) ∧ Below m.now.heap.size m.now w' := fun m => below_of (within_t K 5 m.now (by omega) (by omega))
  have hM0 : ∀ V, Calls Tryz.prog 56 #[.int .i64 K] V fun e w' => e = .returned (.int .i64 M) ∧ V = w' := fun V => by have := mostT_in K V; rwa [hmk] at this
  have hM : ∀ m : After W1, Calls Tryz.prog 56 #[.int .i64 K] m.now fun e w' => e = .returned (.int .i64 M) ∧ Below m.now.heap.size m.now w' := fun m => below_of (hM0 m.now)
  have hN : ∀ m : After W1, Calls Tryz.prog 55 #[.int .i64 N, .int .i64 M] m.now fun e w' => e = .returned (.bool true) ∧ Below m.now.heap.size m.now w' := fun m => below_of (within_t N M m.now (by omega) (by omega))
  have hKi : (K : Int) < 6 := by omega
  have hIt := fun V => itoa_in N (by omega) V
  have hMne : ¬ M = 0 := by omega
  have hds : (str (decF 20 N)).size ≤ 100 := by
    have h := List.all_eq_true.1 dec_small N (List.mem_range.2 (by omega))
    simpa using h
  generalize str (decF 20 N) = D at *
  unfold dV
  have hsh := hide hs
  clear hmk hs
  go_enter Tryz.func15, Tryz.ntmps15
  go_wp2
  refine wp_region_below W1 (by kernel_rfl) (by kernel_rfl) (Below.refl _ _) ?_
  repeat (go_big_quiet_step (first | (go_at_call 55; with_reducible exact after_of (hW _)) | (go_at_call 55; with_reducible exact after_of (hN _)) | (go_at_call 56; with_reducible exact after_of (hM _))))
  refine wpQuiet_nil ?_
  rintro _ ⟨nq, rfl⟩
  have e0 := d0 nq
  have f0 := d1 nq
  have hl0 : w.heap.size < nq.now.heap.size := World.block_lt_of_cell? _ _ e0
  have hBq := nq.ok
  generalize nq.now = W2 at *
  have e0' : ∀ V, Below W2.heap.size W2 V → V.cell? ⟨w.heap.size, 0, none⟩ = some (.int .i64 K) := fun V hV => (hV.cell (p := ⟨w.heap.size, 0, none⟩) hl0).trans e0
  have f0' : ∀ V, Below W2.heap.size W2 V → V.cell? ⟨w.heap.size, 1, none⟩ = some (.int .i64 N) := fun V hV => (hV.cell (p := ⟨w.heap.size, 1, none⟩) hl0).trans f0
  go_wp2
  go_region_with (go_at_call 57; go_loud (refine (words_at _).mono ?_; rintro e w3 ⟨rfl, hwk, hB3⟩; have hwk' : w3.cell? ⟨W2.heap.size, K, none⟩ = some (.string s) := hwk K _ hsh.out; have hwk2 : w3.cell? ⟨W2.drew.heap.size, K, none⟩ = some (.string s) := hwk K _ hsh.out; have hB23 : Below W2.heap.size W2 w3 := (Below.trans ((Below.refl _ W2).drew) hB3); have e0w := e0' w3 hB23; have f0w := f0' w3 hB23; clear hwk))
  all_goals
    go_wp2_with (first | (go_at_call 56; refine (hM0 _).mono ?_; rintro e w4 ⟨rfl, rfl⟩) | (go_at_call 58; refine (hIt _).mono ?_; rintro e w4 ⟨rfl, rfl⟩))
    go_ret
    exact ⟨rfl, hB0.trans ((hBq.trans (hB23.mono hBq.size)).mono hB0.size)⟩

theorem implDeedText (k n : Int) (_hk : Fits k) (_hn : Fits n) (w : World) : Calls Tryz.prog 15 #[dV k n] w fun e w' => e = .returned (.string (str (deedT k n))) ∧ Below w.heap.size w w' := by
  by_cases hk : k < 0 ∨ 5 < k
  · have hd : deedT k n = [] := by
      unfold deedT
      rw [if_neg (by omega), if_neg (by omega), if_neg (by omega), if_neg (by omega), if_neg (by omega), if_neg (by omega)]
    rw [hd]
    exact deedText_kind k n w hk
  obtain ⟨K, rfl⟩ : ∃ K : Nat, k = K := ⟨k.toNat, by omega⟩
  by_cases hn : n < 0 ∨ mostT K < n
  · have hd : deedT K n = [] := by
      unfold mostT at hn
      unfold deedT
      by_cases h0 : (K : Int) = 0
      · rw [if_pos h0] at hn
        rw [if_neg (by omega), if_neg (by omega), if_neg (by omega), if_neg (by omega), if_neg (by omega), if_neg (by omega)]
      · rw [if_neg h0] at hn
        by_cases h1 : (K : Int) = 1
        · rw [if_pos h1] at hn
          rw [if_neg (by omega), if_neg (by omega), if_neg (by omega), if_neg (by omega), if_neg (by omega), if_neg (by omega)]
        · rw [if_neg h1] at hn
          rw [if_neg (by omega), if_neg (by omega), if_neg (by omega), if_neg (by omega), if_neg (by omega), if_neg (by omega)]
    rw [hd]
    exact deedText_num K n w (by omega) (by omega) hn
  obtain ⟨N, rfl⟩ : ∃ N : Nat, n = N := ⟨n.toNat, by omega⟩
  have hN0 : 2 ≤ K → N = 0 := fun h2 => by
    have : mostT (K : Int) = 0 := by unfold mostT; rw [if_neg (by omega), if_neg (by omega)]
    omega
  rcases (show K = 0 ∨ K = 1 ∨ K = 2 ∨ K = 3 ∨ K = 4 ∨ K = 5 by omega) with rfl | rfl | rfl | rfl | rfl | rfl
  · have hN : (N : Int) ≤ 99 := by have : mostT ((0 : Nat) : Int) = 99 := rfl
                                   omega
    have hd : str (deedT ((0 : Nat) : Int) N) = (⟨#[102, 108, 105, 112]⟩ : ByteArray) ++ ⟨#[32]⟩ ++ str (decF 20 N) := by
      unfold deedT
      rw [if_pos ⟨rfl, by omega, hN⟩, Int.toNat_natCast, ← str_app]
      rfl
    rw [hd]
    exact deedText_named 0 N 99 (by omega) rfl (by omega) (by omega) (by omega) _ (by decide) rfl w
  · have hN : (N : Int) ≤ 9 := by have : mostT ((1 : Nat) : Int) = 9 := rfl
                                  omega
    have hd : str (deedT ((1 : Nat) : Int) N) = (⟨#[112, 117, 116]⟩ : ByteArray) ++ ⟨#[32]⟩ ++ str (decF 20 N) := by
      unfold deedT
      rw [if_neg (by omega), if_pos ⟨rfl, by omega, hN⟩, Int.toNat_natCast, ← str_app]
      rfl
    rw [hd]
    exact deedText_named 1 N 9 (by omega) rfl (by omega) (by omega) (by omega) _ (by decide) rfl w
  · obtain rfl := hN0 (by omega)
    exact deedText_word 2 (by omega) (by omega) _ rfl w
  · obtain rfl := hN0 (by omega)
    exact deedText_word 3 (by omega) (by omega) _ rfl w
  · obtain rfl := hN0 (by omega)
    exact deedText_word 4 (by omega) (by omega) _ rfl w
  · obtain rfl := hN0 (by omega)
    exact deedText_word 5 (by omega) (by omega) _ rfl w
end Go.Proofs.YtiaaefapbcjgmaaGreatDoor
namespace Go.Proofs.YtiaaefapbcjgmaaGreatDoor

theorem dec_digits : ∀ (f u : Nat), u < 10 ^ (f + 1) → Lib.decDigits u = (decF f u).map UInt8.ofNat
  | 0, u, h => by
    rw [Lib.decDigits_one (by simpa using h)]
    have : u % 10 = u := Nat.mod_eq_of_lt (by simpa using h)
    simp [decF, this]
  | f + 1, u, h => by
    unfold decF
    by_cases h1 : u < 10
    · rw [if_pos h1, Lib.decDigits_one h1]; rfl
    · rw [if_neg h1, Lib.decDigits, dif_neg h1, dec_digits f (u / 10) (by rw [Nat.pow_succ] at h; omega)]
      simp

theorem itoa_dec (u : Nat) (h : u ≤ 999999999) : Lib.itoa (u : Int) = (decF 20 u).map UInt8.ofNat := by
  rw [Lib.itoa_nonneg]
  exact dec_digits 20 u (Nat.lt_of_le_of_lt h (by decide))

theorem dec_byte : ∀ (f u : Nat), ∀ x ∈ decF f u, 48 ≤ x ∧ x ≤ 57
  | 0, u, x, hx => by simp [decF] at hx; omega
  | f + 1, u, x, hx => by
    unfold decF at hx
    split at hx
    · simp at hx; omega
    · rcases List.mem_append.1 hx with hx | hx
      · exact dec_byte f _ x hx
      · simp at hx; omega

theorem digL_app : ∀ (xs : List Nat) (c n : Nat), digL (xs ++ [c]) n = (digL xs n).bind fun k => if 48 ≤ c ∧ c ≤ 57 then some (10 * k + (c - 48)) else none
  | [], c, n => by
    simp only [List.nil_append, digL, Option.bind_some]
  | x :: xs, c, n => by
    rw [List.cons_append, digL, digL]
    split
    · exact digL_app xs c _
    · rfl

theorem dec_dig : ∀ (f u : Nat), u < 10 ^ (f + 1) → digL (decF f u) 0 = some u
  | 0, u, h => by
    have : u % 10 = u := Nat.mod_eq_of_lt (by simpa using h)
    have h2 : u < 10 := by simpa using h
    simp only [decF, this, digL]
    rw [if_pos (by omega)]
    simp
  | f + 1, u, h => by
    unfold decF
    by_cases h1 : u < 10
    · rw [if_pos h1]
      simp only [digL]
      rw [if_pos (by omega)]
      simp
    · rw [if_neg h1, digL_app, dec_dig f (u / 10) (by rw [Nat.pow_succ] at h; omega), Option.bind_some, if_pos (by omega)]
      congr 1
      omega

theorem dec_len : ∀ (f u k : Nat), 1 ≤ k → u < 10 ^ k → 1 ≤ (decF f u).length ∧ (k ≤ f + 1 → (decF f u).length ≤ k)
  | 0, u, k, hk, h => by simp [decF]; omega
  | f + 1, u, k, hk, h => by
    unfold decF
    by_cases h1 : u < 10
    · rw [if_pos h1]; simp; omega
    · rw [if_neg h1]
      have hk2 : 2 ≤ k := by
        rcases Nat.lt_or_ge k 2 with h3 | h3
        · obtain rfl : k = 1 := by omega
          simp at h; omega
        · exact h3
      obtain ⟨j, rfl⟩ : ∃ j, k = j + 1 := ⟨k - 1, by omega⟩
      have := dec_len f (u / 10) j (by omega) (by rw [Nat.pow_succ] at h; omega)
      rw [List.length_append, List.length_singleton]
      exact ⟨by omega, fun h4 => by have := this.2 (by omega); omega⟩

theorem dec_head : ∀ (f u : Nat), 1 ≤ u → u < 10 ^ (f + 1) → (decF f u).getD 0 0 ≠ 48
  | 0, u, h1, h => by
    have : u % 10 = u := Nat.mod_eq_of_lt (by simpa using h)
    simp [decF, this]; omega
  | f + 1, u, h1, h => by
    unfold decF
    by_cases h2 : u < 10
    · rw [if_pos h2]; simp; omega
    · rw [if_neg h2]
      have h3 := dec_head f (u / 10) (by omega) (by rw [Nat.pow_succ] at h; omega)
      have h4 := (dec_len f (u / 10) (f + 1) (by omega) (by rw [Nat.pow_succ] at h; omega)).1
      rw [List.getD, List.getElem?_append_left (by omega)]
      exact h3

theorem dig_dec (m : Nat) (h : m ≤ 999999999) : digT (decF 20 m) = some m := by
  have h20 : m < 10 ^ 21 := Nat.lt_of_le_of_lt h (by decide)
  have hl := dec_len 20 m 9 (by omega) (by omega)
  have h3 : ¬ (1 < (decF 20 m).length ∧ (decF 20 m).getD 0 0 = 48) := fun ⟨h1, h2⟩ => by
    rcases Nat.eq_zero_or_pos m with e | e
    · subst e; simp [decF] at h1
    · exact dec_head 20 m e h20 h2
  unfold digT
  rw [if_pos (show _ ∧ _ ∧ _ from ⟨hl.1, hl.2 (by omega), h3⟩), dec_dig 20 m h20]

/-- Digits without a leading nought are the numeral of what they spell. -/
theorem dig_num : ∀ (n : Nat) (q : List Nat), q.length = n → q ≠ [] → q.getD 0 0 ≠ 48 → ∀ k, digL q 0 = some k → 1 ≤ k ∧ k < 10 ^ q.length ∧ ∀ f, q.length ≤ f + 1 → decF f k = q
  | 0, q, hn, hne, _, _, _ => absurd (List.length_eq_zero_iff.1 hn) hne
  | n + 1, q, hn, hne, h48, k, hk => by
    obtain ⟨r, c, rfl⟩ : ∃ r c, q = r ++ [c] := ⟨q.dropLast, q.getLast hne, (List.dropLast_concat_getLast hne).symm⟩
    rw [digL_app] at hk
    have hr : r.length = n := by simpa using hn
    cases hd : digL r 0 with
    | none => rw [hd] at hk; cases hk
    | some k' =>
      rw [hd, Option.bind_some] at hk
      split at hk
      · rename_i hc
        injection hk with hk
        subst hk
        by_cases h0 : r = []
        · subst h0
          simp only [digL] at hd
          injection hd with hd
          subst hd
          simp at h48
          refine ⟨by omega, by simp; omega, fun f _ => ?_⟩
          have hlt : 10 * 0 + (c - 48) < 10 := by omega
          cases f with
          | zero => simp [decF]; omega
          | succ f => unfold decF; rw [if_pos hlt]; simp; omega
        · have hrl : 0 < r.length := List.length_pos_iff.2 h0
          have h48' : r.getD 0 0 ≠ 48 := by
            rw [List.getD, List.getElem?_append_left hrl] at h48
            exact h48
          obtain ⟨h1, h2, h3⟩ := dig_num n r hr h0 h48' k' hd
          refine ⟨by omega, ?_, fun f hf => ?_⟩
          · rw [List.length_append, List.length_singleton, Nat.pow_succ]; omega
          · rw [List.length_append, List.length_singleton] at hf
            cases f with
            | zero => omega
            | succ f =>
              unfold decF
              rw [if_neg (by omega), show (10 * k' + (c - 48)) / 10 = k' by omega, show (10 * k' + (c - 48)) % 10 = c - 48 by omega, h3 f (by omega), show 48 + (c - 48) = c by omega]
      · cases hk

theorem dig_is {p : List Nat} {m : Nat} (h : digT p = some m) : m ≤ 999999999 ∧ decF 20 m = p := by
  unfold digT at h
  split at h
  · rename_i hc
    obtain ⟨h1, h2, h3⟩ := hc
    by_cases h48 : p.getD 0 0 = 48
    · have hl : p.length = 1 := by
        rcases Nat.lt_or_ge 1 p.length with h4 | h4
        · exact absurd ⟨h4, h48⟩ h3
        · omega
      match p, hl with
      | [c], _ =>
        simp at h48
        subst h48
        simp only [digL] at h
        injection h with h
        subst h
        exact ⟨by omega, rfl⟩
    · obtain ⟨h4, h5, h6⟩ := dig_num p.length p rfl (fun e => by rw [e] at h1; simp at h1) h48 m h
      have h7 : (10 : Nat) ^ p.length ≤ 10 ^ 9 := Nat.pow_le_pow_right (by omega) h2
      exact ⟨by omega, h6 20 (by omega)⟩
  · cases h

theorem digL_ge : ∀ (p : List Nat) (n m : Nat), digL p n = some m → n ≤ m
  | [], n, m, h => by simp only [digL] at h; injection h with h; omega
  | c :: r, n, m, h => by
    rw [digL] at h
    split at h
    · have := digL_ge r _ m h; omega
    · cases h

theorem parse_dig : ∀ (p : List Nat) (n m : Nat), (∀ x ∈ p, x < 256) → m ≤ 999999999 → digL p n = some m → Lib.parseUint10 n (p.map UInt8.ofNat) = .ok m
  | [], n, m, _, _, h => by simp only [digL] at h; injection h with h; subst h; rfl
  | c :: r, n, m, hb, hm, h => by
    rw [digL] at h
    split at h
    · rename_i hc
      have hge := digL_ge r _ m h
      have hcb : (UInt8.ofNat c).toNat = c := by simp; have := hb c (by simp); omega
      rw [List.map_cons, Lib.parseUint10, hcb, if_pos hc, if_neg (by omega), if_neg (by omega), show n * 10 + (c - 48) = 10 * n + (c - 48) by omega]
      exact parse_dig r _ m (fun x hx => hb x (by simp [hx])) hm h
    · cases h

theorem atoi_dig {p : List Nat} {m : Nat} (hb : ∀ x ∈ p, x < 256) (h : digT p = some m) : Lib.atoiAll (p.map UInt8.ofNat) = .ok (m : Int) := by
  obtain ⟨hm, hd⟩ := dig_is h
  have h2 := h
  unfold digT at h2
  split at h2
  · rename_i hc
    match p, hc with
    | c :: r, _ =>
      have hcd : 48 ≤ c ∧ c ≤ 57 := by
        rw [digL] at h2
        split at h2
        · assumption
        · cases h2
      have hcb : (UInt8.ofNat c).toNat = c := by simp; omega
      have hp := parse_dig (c :: r) 0 m hb hm h2
      rw [List.map_cons] at hp ⊢
      rw [Lib.atoiAll_plain _ _ (by omega) (by omega)]
      unfold Lib.parseMag
      rw [if_neg (by simp), hp]
      unfold Lib.signless
      simp
      omega
  · cases h2

/-- What is no numeral of one to nine digits is not written so, whatever number is read out of it. -/
theorem itoa_not {p : List Nat} (hb : ∀ x ∈ p, x < 256) (h : digT p = none) (n : Nat) (hn : n ≤ 999999999) : (Lib.itoa (n : Int)) ≠ p.map UInt8.ofNat := fun e => by
  rw [itoa_dec n hn] at e
  have h1 := str_inj (fun x hx => by have := dec_byte 20 n x hx; omega) hb e
  rw [← h1, dig_dec n hn] at h
  cases h
end Go.Proofs.YtiaaefapbcjgmaaGreatDoor
namespace Go.Proofs.YtiaaefapbcjgmaaGreatDoor

theorem index_cons32 (c : UInt8) (h : c ≠ 32) (s : List UInt8) : Lib.index (c :: s) [32] = if Lib.index s [32] == -1 then -1 else Lib.index s [32] + 1 := by
  rw [Lib.index, if_neg]
  simp [List.isPrefixOf]
  exact fun e => h e.symm

theorem splitK_cons (c : UInt8) (h : c ≠ 32) : ∀ (k : Nat) (s x : List UInt8) (t : List (List UInt8)), Lib.splitK [32] 0 k s = x :: t → Lib.splitK [32] 0 k (c :: s) = (c :: x) :: t
  | 0, s, x, t, e => by
    rw [Lib.splitK] at e ⊢
    injection e with e1 e2
    rw [e1, e2]
  | k + 1, s, x, t, e => by
    have hge := Lib.index_ge s [32]
    rw [Lib.splitK] at e ⊢
    rw [index_cons32 c h]
    by_cases h1 : Lib.index s [32] = -1
    · rw [h1] at e ⊢
      simp at e ⊢
      exact e
    · obtain ⟨i, hi⟩ : ∃ i : Nat, Lib.index s [32] = i := ⟨(Lib.index s [32]).toNat, by omega⟩
      have hb : ¬ ((i : Int) == -1) = true := by simp
      have hb2 : ¬ ((i : Int) + 1 == -1) = true := by simp; omega
      rw [hi, if_neg hb] at e
      rw [hi, if_neg hb, if_neg hb2]
      have e3 : ((i : Int) + 1).toNat = i + 1 := by omega
      have e4 : ((i : Int)).toNat = i := by omega
      rw [e4] at e
      rw [e3]
      simp only [List.length_singleton, Nat.add_zero, List.take_succ_cons, List.drop_succ_cons] at e ⊢
      injection e with e1 e2
      rw [e1, e2]

theorem cutL_front (sep : Nat) : ∀ (r line : List Nat), ∃ h t, cutL sep [] r = h :: t ∧ cutL sep line r = (line ++ h) :: t
  | [], line => ⟨[], [], rfl, by simp [cutL]⟩
  | c :: r, line => by
    by_cases e : c = sep
    · subst e
      exact ⟨[], cutL c [] r, cutL_hit c [] r, by rw [cutL_hit, List.append_nil]⟩
    · obtain ⟨h, t, h1, h2⟩ := cutL_front sep r [c]
      obtain ⟨h', t', h3, h4⟩ := cutL_front sep r (line ++ [c])
      rw [h1] at h3
      injection h3 with h5 h6
      subst h5 h6
      exact ⟨[c] ++ h, t, by rw [cutL_other e, List.nil_append]; exact h2, by rw [cutL_other e, h4, List.append_assoc]⟩

theorem split_cut : ∀ (l : List Nat), (∀ x ∈ l, x < 256) → Lib.splitK [32] 0 ((l.map UInt8.ofNat).count 32) (l.map UInt8.ofNat) = (cutT 32 l).map (·.map UInt8.ofNat)
  | [], _ => by simp [Lib.splitK, cutT, cutL]
  | c :: r, hb => by
    have ih := split_cut r (fun x hx => hb x (by simp [hx]))
    have hc := hb c (by simp)
    by_cases e : c = 32
    · subst e
      unfold cutT at ih ⊢
      rw [cutL_hit, List.map_cons, List.map_cons, show UInt8.ofNat 32 = 32 from rfl, List.count_cons_self, Lib.splitK, show Lib.index ((32 : UInt8) :: r.map UInt8.ofNat) [32] = 0 by rw [Lib.index]; simp [List.isPrefixOf]]
      simp
      exact ih
    · have hne : UInt8.ofNat c ≠ 32 := fun e2 => by
        have := congrArg UInt8.toNat e2
        simp at this
        omega
      obtain ⟨h, t, h1, h2⟩ := cutL_front 32 r [c]
      unfold cutT at ih ⊢
      rw [h1, List.map_cons] at ih
      rw [cutL_other e, List.nil_append, h2, List.map_cons, List.count_cons_of_ne hne, List.map_cons, splitK_cons _ hne _ _ _ _ ih]
      rfl

theorem str_data (l : List Nat) : (str l).data.toList = l.map UInt8.ofNat := rfl

theorem data_str {b : ByteArray} {l : List Nat} (h : b.data.toList = l.map UInt8.ofNat) : b = str l := by
  unfold str
  rw [← h]

theorem data_all : ∀ (A : List ByteArray) (L : List (List Nat)), A.map (·.data.toList) = L.map (·.map UInt8.ofNat) → A = L.map str
  | [], [], _ => rfl
  | [], _ :: _, h => by simp at h
  | _ :: _, [], h => by simp at h
  | x :: A, y :: L, h => by
    rw [List.map_cons, List.map_cons] at h
    injection h with h1 h2
    rw [List.map_cons, data_str h1, data_all A L h2]

/-- The pieces of strings.Split at one space. -/
theorem splitB_cut (l : List Nat) (hb : ∀ x ∈ l, x < 256) : Lib.splitB ⟨#[32]⟩ 0 (Lib.countB (str l) ⟨#[32]⟩) (str l) = (cutT 32 l).map str := by
  have h := Lib.splitB_data ⟨#[32]⟩ 0 (Lib.countB (str l) ⟨#[32]⟩) (str l)
  have hk : Lib.countB (str l) ⟨#[32]⟩ = (l.map UInt8.ofNat).count 32 := Lib.count_one 32 (l.map UInt8.ofNat)
  rw [show (⟨#[32]⟩ : ByteArray).data.toList = [32] from rfl, str_data, hk, split_cut l hb] at h
  rw [hk]
  exact data_all _ _ h
end Go.Proofs.YtiaaefapbcjgmaaGreatDoor
namespace Go.Proofs.YtiaaefapbcjgmaaGreatDoor
open Go.RowKit

/-- What the library's texts ask of a world: the length of the longest slice, the table of tens, the two errors. -/
structure Env (w : World) : Prop where
  ml : ∃ m, w.cell? ⟨Tryz.splitA_ren.g 1, 0, none⟩ = some (.int .i64 m)
  pow : Lib.TabIs Tryz.prog w "internal/strconv.uint64pow10" .u64 Lib.pow10Tab
  es : ∃ ev, w.cell? ⟨Tryz.atoiA_ren.g 15, 0, none⟩ = some ev ∧ (ev = .nilIface ∨ ∃ te pe, ev = .iface te pe)
  er : ∃ ev, w.cell? ⟨Tryz.atoiA_ren.g 16, 0, none⟩ = some ev ∧ (ev = .nilIface ∨ ∃ te pe, ev = .iface te pe)

theorem Env.below {w w' : World} (h : Env w) (hB : Below w.heap.size w w') : Env w' := by
  have hc : ∀ {a : Addr} {v : Value}, w.cell? a = some v → w'.cell? a = some v := fun {a v} e => (hB.cell (World.block_lt_of_cell? w a e)).trans e
  obtain ⟨⟨m, hm⟩, hp, ⟨es, h1, h2⟩, ⟨er, h3, h4⟩⟩ := h
  exact ⟨⟨m, hc hm⟩, (Lib.tabBelow_of_tabIs hp) w' hB, ⟨es, hc h1, h2⟩, ⟨er, hc h3, h4⟩⟩

theorem spaces_in (l : List Nat) (hl : ∀ x ∈ l, x < 256) (hn : l.length ≤ 2000000) (w : World) (hE : Env w) : Calls Tryz.prog 123 #[.string (str l), .string ⟨#[32]⟩] w fun e w' =>
    e = .returned (.slice (some ⟨w.heap.size, 0, none⟩) (cutT 32 l).length (cutT 32 l).length) ∧ (∀ i, i < (cutT 32 l).length → w'.cell? ⟨w.heap.size, i, none⟩ = some (.string (str ((cutT 32 l).getD i [])))) ∧ Below w.heap.size w w' := by
  obtain ⟨m, hm⟩ := hE.ml
  have hc := splitB_cut l hl
  have hlen := Lib.splitB_all ⟨#[32]⟩ (by decide) 0 _ (str l) rfl
  refine (Any.strings_Split { Tryz.splitA with } Tryz.splitA.i9 (str l) ⟨#[32]⟩ m w (by have := str_size l; omega) hm (by decide)).mono ?_
  rintro e w' ⟨rfl, rfl⟩
  rw [hc, List.length_map] at hlen
  rw [hc, ← hlen]
  refine ⟨rfl, fun i hi => ?_, (Below.refl _ _).alloc (Nat.le_refl _) _⟩
  have hb := World.alloc_heap_new w (.cells (((cutT 32 l).map str).map Value.string).toArray (Tryz.splitA_ren.t 9))
  unfold World.cell?
  rw [hb]
  simp [hi]

/-- A word of a line as a number: what strconv.Atoi and strconv.Itoa say of it. -/
theorem atoi_in (p : List Nat) (hp : ∀ x ∈ p, x < 256) (hn : p.length ≤ 2000000) (w : World) (hE : Env w) : Calls Tryz.prog 124 #[.string (str p)] w fun e w' =>
    (∃ (n : Int) (ev : Value), e = .returned (.tuple #[.int .i64 n, ev]) ∧ ((ev = .nilIface ∧ Lib.atoiAll (str p).data.toList = .ok n) ∨ (digT p = none ∧ ∃ t B, ev = .iface t (.pointer (some ⟨B, 0, none⟩))))) ∧ Below w.heap.size w w' := by
  have hsz := str_size p
  rcases h : Lib.atoiAll (str p).data.toList with v | _ | _
  · refine (Any.strconv_Atoi_ok { Tryz.atoiA with } (str p) (by omega) v h w).mono ?_
    rintro e w' ⟨rfl, hw⟩
    refine ⟨⟨v, _, rfl, .inl ⟨rfl, rfl⟩⟩, ?_⟩
    rcases hw with rfl | ⟨t, rfl⟩
    · exact Below.refl _ _
    · exact Lib.bytesWorld_below _ _ _
  · obtain ⟨ev, h1, h2⟩ := hE.es
    refine (Any.strconv_Atoi_syntax { Tryz.atoiA with } (str p) (by omega) h ev w h1 h2).mono ?_
    rintro e w' ⟨N, rfl, _, _, hB⟩
    refine ⟨⟨0, _, rfl, .inr ⟨?_, _, N, rfl⟩⟩, hB⟩
    cases hd : digT p with
    | none => rfl
    | some m => rw [str_data, atoi_dig hp hd] at h; cases h
  · obtain ⟨ev, h1, h2⟩ := hE.er
    refine (Any.strconv_Atoi_range { Tryz.atoiA with } (str p) (by omega) h ev w h1 h2).mono ?_
    rintro e w' ⟨N, rfl, _, _, hB⟩
    refine ⟨⟨_, _, rfl, .inr ⟨?_, _, N, rfl⟩⟩, hB⟩
    cases hd : digT p with
    | none => rfl
    | some m => rw [str_data, atoi_dig hp hd] at h; cases h

theorem itoaAll_in (n : Int) (h0 : 0 ≤ n) (h1 : n ≤ 999999999) (w : World) (hE : Env w) : Calls Tryz.prog 58 #[.int .i64 n] w fun e w' => e = .returned (.string (str (decF 20 n.toNat))) ∧ Below w.heap.size w w' := by
  refine (Any.strconv_Itoa { Tryz.itoaA with } n (by omega) (by omega) w hE.pow).mono ?_
  obtain ⟨u, rfl⟩ : ∃ u : Nat, n = u := ⟨n.toNat, by omega⟩
  rintro e w' ⟨rfl, k, os, rfl⟩
  rw [itoa_dec u (by omega)]
  exact ⟨rfl, Lib.below_grow _ _ (Nat.le_refl _) _ _⟩
end Go.Proofs.YtiaaefapbcjgmaaGreatDoor
namespace Go.Proofs.YtiaaefapbcjgmaaGreatDoor
open Go.RowKit

theorem own_fromD {w : World} {base base' n : Nat} {e : TypeId} {v : Value} {xs : List Value} (h : w.ownsRow base e 1 v n xs) (hb : base' ≤ base) : w.ownsRow base' e 1 v n xs := by
  obtain ⟨h1, h2⟩ := h
  refine ⟨h1, ?_⟩
  rcases h2 with h2 | ⟨g, cap, cur, rfl, h3, h4⟩
  · exact .inl h2
  · exact .inr ⟨g, cap, cur, rfl, Nat.le_trans hb h3, h4⟩

theorem cutL_len (l : List Nat) : (cutT 32 l).length ≤ l.length + 1 := by
  have h : ∀ (r line : List Nat), (cutL 32 line r).length ≤ r.length + 1 := fun r => by
    induction r with
    | nil => intro line; simp [cutL]
    | cons c r ih =>
      intro line
      by_cases e : c = 32
      · subst e; rw [cutL_hit]; have := ih []; simp; omega
      · rw [cutL_other e]; have := ih (line ++ [c]); simp; omega
  exact h l []

/-- What Atoi and Itoa say of a word. -/
def Said (p : List Nat) (n : Int) (ev : Value) : Prop :=
  (ev = .nilIface ∧ 0 ≤ n ∧ n ≤ 999999999 ∧ digT p = some n.toNat ∧ decF 20 n.toNat = p) ∨ (ev = .nilIface ∧ 0 ≤ n ∧ n ≤ 999999999 ∧ digT p = none ∧ ¬ str (decF 20 n.toNat) = str p) ∨
  (ev = .nilIface ∧ digT p = none ∧ (n < 0 ∨ 999999999 < n)) ∨ (digT p = none ∧ ∃ t B, ev = .iface t (.pointer (some ⟨B, 0, none⟩)))

theorem said_of {p : List Nat} (hp : ∀ x ∈ p, x < 256) {n : Int} {ev : Value} (h : (ev = .nilIface ∧ Lib.atoiAll (str p).data.toList = .ok n) ∨ (digT p = none ∧ ∃ t B, ev = .iface t (.pointer (some ⟨B, 0, none⟩)))) : Said p n ev := by
  rcases h with ⟨rfl, h⟩ | h
  · cases hd : digT p with
    | some m =>
      rw [str_data, atoi_dig hp hd] at h
      injection h with h
      subst h
      obtain ⟨h1, h2⟩ := dig_is hd
      exact .inl ⟨rfl, by omega, by omega, hd ▸ rfl, h2⟩
    | none =>
      by_cases hr : n < 0 ∨ 999999999 < n
      · exact .inr (.inr (.inl ⟨rfl, hd, hr⟩))
      · refine .inr (.inl ⟨rfl, by omega, by omega, hd, fun e => ?_⟩)
        obtain ⟨u, rfl⟩ : ∃ u : Nat, n = u := ⟨n.toNat, by omega⟩
        have h1 := itoa_not hp hd u (by omega)
        rw [itoa_dec u (by omega)] at h1
        have h2 := congrArg (fun b : ByteArray => b.data.toList) e
        exact h1 h2
  · exact .inr (.inr (.inr h))

/-- What readLine answers: the first word and the numbers, or nothing. -/
def rlV (l : List Nat) : List Nat × List Int := match numsL (cutT 32 l).tail with
  | none => ([], [])
  | some ns => ((cutT 32 l).getD 0 [], ns)

theorem numsL_cons (p : List Nat) (r : List (List Nat)) : numsL (p :: r) = match digT p with | none => none | some n => (numsL r).map ((n : Int) :: ·) := by
  rw [numsL]
  cases digT p with
  | none => rfl
  | some n => cases numsL r <;> rfl

set_option maxRecDepth 100000 in
set_option maxHeartbeats 2000000 in
theorem readLine_in (l : List Nat) (hl : ∀ x ∈ l, x < 256) (hn : l.length ≤ 1100000) (w : World) (hE : Env w) : Calls Tryz.prog 91 #[.string (str l)] w fun e w' =>
    ∃ v, e = .returned (.tuple #[.string (str (rlV l).1), v]) ∧ w'.ownsRow w.heap.size 3 1 v (rlV l).2.length ((rlV l).2.map (Value.int .i64)) ∧ Below w.heap.size w w' := by
  have hS := hide (spaces_in l hl (by omega) w hE)
  have hpos := cutL_pos 32 l []
  have hlen : (cutT 32 l).length ≤ l.length + 1 := cutL_len l
  have hmem : ∀ i, (∀ c ∈ (cutT 32 l).getD i [], c < 256) ∧ ((cutT 32 l).getD i []).length ≤ 2000000 := fun i => by
    by_cases hi : i < (cutT 32 l).length
    · have := cutL_mem 32 l [] ((cutT 32 l).getD i []) (word_mem _ i hi)
      exact ⟨fun c hc => hl c ((this.1 c hc).resolve_left (by simp)), Nat.le_trans this.2 (by simp; omega)⟩
    · rw [List.getD, List.getElem?_eq_none (by omega)]; simp
  have hrl : rlV l = match numsL (cutT 32 l).tail with | none => ([], []) | some ns => ((cutT 32 l).getD 0 [], ns) := rfl
  generalize rlV l = res at *
  change 0 < (cutT 32 l).length at hpos
  obtain ⟨ws, hws⟩ : ∃ ws, cutT 32 l = ws := ⟨_, rfl⟩
  rw [hws] at hS hpos hlen hmem hrl
  obtain ⟨n, hwn⟩ : ∃ n, ws.length = n := ⟨_, rfl⟩
  have hS := hS.out
  rw [hwn] at hS hpos hlen
  generalize str l = S at *
  clear hws hl
  have hf0 : numsL ws.tail = none → res = ([], []) := fun e => by rw [hrl, e]
  have hf1 : ∀ ns, numsL ws.tail = some ns → res = (ws.getD 0 [], ns) := fun ns e => by rw [hrl, e]
  replace hf0 := hide hf0
  replace hf1 := hide hf1
  have hst : Hid (numsL ws.tail = (numsL (ws.drop 1)).map ([] ++ ·)) := hide (by rw [List.drop_one]; cases numsL ws.tail <;> rfl)
  clear hrl
  by_cases h1 : n = 1
  · subst h1
    go_enter Tryz.func91, Tryz.ntmps91
    go_wp2_with (go_at_call 123; refine hS.mono ?_; clear hS; rintro e w1 ⟨rfl, hc, hB1⟩)
    have hc0 := hc 0 (by omega)
    obtain ⟨P0, hP0⟩ : ∃ P0, str (ws.getD 0 []) = P0 := ⟨_, rfl⟩
    rw [hP0] at hc0
    clear hc
    go_loopw [5, 15] (fun o a wr => o = .slice none 0 0 ∧ a = .int .i64 0 ∧ wr = w1) (fun _ _ _ => 0)
    case atStart => exact ⟨rfl, rfl, rfl⟩
    case round =>
      obtain ⟨rfl, rfl, rfl⟩ := hrel
      go_wp2
      have hr := hf1.out [] (by rw [hst.out, List.drop_eq_nil_of_le (by omega)]; rfl)
      go_ret2
      rw [hr, hP0]
      exact ⟨_, rfl, World.ownsRow_nil _ _ _ _, hB1⟩
  have hn1 : (1 : Int) ≤ (n : Int) := by omega
  have hn2 : ¬ n = 1 := h1
  go_enter Tryz.func91, Tryz.ntmps91
  go_wp2_with (go_at_call 123; refine hS.mono ?_; clear hS; rintro e w1 ⟨rfl, hc, hB1⟩)
  have hsz0 : w.heap.size < w1.heap.size := World.block_lt_of_cell? _ _ (hc 0 (by omega))
  have hcW : ∀ W, Below w1.heap.size w1 W → ∀ i, i < n → W.cell? ⟨w.heap.size, i, none⟩ = some (.string (str (ws.getD i []))) := fun W hW i hi => (hW.cell (p := ⟨w.heap.size, i, none⟩) hsz0).trans (hc i hi)
  have hE1 := hE.below hB1
  replace hcW := hide hcW
  clear hc
  go_loopw [5, 15] (fun o a wr => ∃ (i : Nat) (xs : List Int), i < n ∧ xs.length = i ∧ a = .int .i64 i ∧ wr.ownsRow w1.heap.size 3 1 o xs.length (xs.map (Value.int .i64)) ∧ Hid (numsL ws.tail = (numsL (ws.drop (i + 1))).map (xs ++ ·)) ∧ Below w1.heap.size w1 wr) (fun _ a _ => n - (intOf a).toNat)
  case atStart => exact ⟨0, [], by omega, rfl, rfl, World.ownsRow_nil _ _ _ _, hst, Below.refl _ _⟩
  case round =>
    clear hst
    obtain ⟨i, xs, hi, hxi, rfl, hown, hst, hB⟩ := hrel
    have hEr := hE1.below hB
    by_cases hlt : i + 1 < n
    · have hcell := hcW.out _ hB (i + 1) hlt
      have hcell' : wr.cell? ⟨w.heap.size, 1 + i, none⟩ = some (.string (str (ws.getD (i + 1) []))) := by rw [Nat.add_comm 1 i]; exact hcell
      obtain ⟨hp, hpl⟩ := hmem (i + 1)
      have hdr : ws.drop (i + 1) = ws.getD (i + 1) [] :: ws.drop (i + 2) := by
        rw [List.drop_eq_getElem_cons (by omega), List.getD, List.getElem?_eq_getElem (by omega)]; rfl
      have hst' := hst.out
      rw [hdr, numsL_cons] at hst'
      obtain ⟨p, hpe⟩ : ∃ p, ws.getD (i + 1) [] = p := ⟨_, rfl⟩
      rw [hpe] at hcell hcell' hp hpl hst'
      have hAt := fun V hV => atoi_in p hp hpl V hV
      have hSaid := fun n ev h => said_of (n := n) (ev := ev) hp h
      obtain ⟨T, hT⟩ : ∃ T, str p = T := ⟨_, rfl⟩
      have hlti : (i : Int) < (n : Int) - 1 := by omega
      have hlti2 : (i : Int) < ((n - 1 : Nat) : Int) := by omega
      clear hdr hst hpe
      rw [hT] at hcell hcell' hAt hSaid
      go_wp2_with (go_at_call 124; refine (hAt _ hEr).mono ?_; clear hAt)
      rintro e w2 ⟨⟨m, ev, rfl, hcase⟩, hB2⟩
      have hE2 := hEr.below hB2
      have hB12 : Below w1.heap.size w1 w2 := hB.trans (hB2.mono hB.size)
      have hbad : ∀ W, Below w2.heap.size w2 W → digT p = none → ∃ v, (Ending.returned (.tuple #[.string ⟨#[]⟩, .slice none 0 0])) = .returned (.tuple #[.string (str res.1), v]) ∧ W.ownsRow w.heap.size 3 1 v res.2.length (res.2.map (Value.int .i64)) ∧ Below w.heap.size w W := fun W hW hd => by
        have hr := hf0.out (by rw [hst', hd]; rfl)
        rw [hr]
        exact ⟨_, rfl, World.ownsRow_nil _ _ _ _, hB1.trans ((hB12.trans (hW.mono hB12.size)).mono hB1.size)⟩
      rcases hSaid _ _ hcase with ⟨rfl, m0, m1, hd, hdec⟩ | ⟨rfl, m0, m1, hd, hne⟩ | ⟨rfl, hd, hm⟩ | ⟨hd, t, B, rfl⟩
      · have hIt := fun V hV => itoaAll_in m m0 m1 V hV
        rw [hdec, hT] at hIt
        have hWi := fun V => within_t m 999999999 V m0 m1
        have hown2 := own_more hown (hB2)
        have hnx := hide (show numsL ws.tail = (numsL (ws.drop (i + 1 + 1))).map ((xs ++ [m]) ++ ·) by
          rw [hst', hd]
          simp only
          have e : ((m.toNat : Nat) : Int) = m := by omega
          rw [e]
          cases numsL (ws.drop (i + 2)) <;> simp)
        clear hbad hcase hSaid hst'
        go_wp2_with (first
          | (go_at_call 55; refine (hWi _).mono ?_; clear hWi; rintro e w3 ⟨rfl, rfl⟩)
          | (go_at_call 58; refine (hIt _ hE2).mono ?_; clear hIt; rintro e w4 ⟨rfl, hB4⟩; have hown4 := own_more hown2 hB4; have hs4 := hB4.size; have hs12 := hB12.size)
          | (at_builtin; refine append_one rfl _ _ rfl w1.heap.size _ _ _ rfl hown4 rfl (by omega) (by omega) ?_; intro v' w5 hown5 hgr))
        have hB5 : Below w1.heap.size w1 w5 := ((hB12.trans (hB4.mono hB12.size)).alloc (by omega) _).grown hgr (by rw [World.size_alloc]; omega) (fun q hq => (hown4.lt q hq).1)
        go_roundw
        case rel => exact ⟨i + 1, xs ++ [m], hlt, by simp [hxi], by go_num, by simpa using hown5, hnx, hB5⟩
        case measure => simp [intOf]; omega
      · have hIt := fun V hV => itoaAll_in m m0 m1 V hV
        obtain ⟨D, hD⟩ : ∃ D, str (decF 20 m.toNat) = D := ⟨_, rfl⟩
        rw [hD] at hIt hne
        rw [hT] at hne
        have hne2 := (Lib.bytes_beq_false_iff D T).2 hne
        have hWi := fun V => within_t m 999999999 V m0 m1
        clear hcase hSaid
        go_wp2_with (first
          | (go_at_call 55; refine (hWi _).mono ?_; clear hWi; rintro e w3 ⟨rfl, rfl⟩)
          | (go_at_call 58; refine (hIt _ hE2).mono ?_; clear hIt; rintro e w4 ⟨rfl, hB4⟩))
        go_ret2
        exact hbad _ hB4 hd
      · have hWi := fun V => within_f m 999999999 V hm
        clear hcase hSaid
        go_wp2_with (go_at_call 55; refine (hWi _).mono ?_; clear hWi; rintro e w3 ⟨rfl, rfl⟩)
        go_ret2
        exact hbad _ (Below.refl _ _) hd
      · clear hcase hSaid
        go_wp2
        go_ret2
        exact hbad _ (Below.refl _ _) hd
    · obtain rfl : i = n - 1 := by omega
      have hc0 := hcW.out _ hB 0 (by omega)
      have hst' := hst.out
      rw [List.drop_eq_nil_of_le (by omega)] at hst'
      have hr := hide (hf1.out xs (by rw [hst']; simp [numsL]))
      obtain ⟨P0, hP0⟩ : ∃ P0, str (ws.getD 0 []) = P0 := ⟨_, rfl⟩
      rw [hP0] at hc0
      have hlti : ¬ (((n - 1 : Nat) : Int)) < (n : Int) - 1 := by omega
      have hown' := own_fromD hown (Nat.le_of_lt hsz0)
      have hB' := hB1.trans (hB.mono hB1.size)
      clear hst hst'
      go_wp2
      go_ret2
      rw [hr.out, hP0]
      exact ⟨_, rfl, hown', hB'⟩
end Go.Proofs.YtiaaefapbcjgmaaGreatDoor
namespace Go.Proofs.YtiaaefapbcjgmaaGreatDoor

/-- The twelve words. -/
def qW (i : Nat) : List Nat := match i with
  | 0 => [114, 111, 119]
  | 1 => [111, 110, 101, 115]
  | 2 => [108, 97, 115, 116]
  | 3 => [101, 110, 100]
  | 4 => [98, 97, 108, 97, 110, 99, 101, 100]
  | 5 => [115, 104, 97, 114, 101, 100]
  | 6 => [119, 97, 121, 115]
  | 7 => [99, 101, 108, 108]
  | 8 => [107, 101, 112, 116]
  | 9 => [108, 101, 102, 116]
  | 10 => [111, 102, 116, 101, 110]
  | 11 => [99, 97, 114, 114, 105, 101, 115]
  | _ => []

/-- How many numbers each wants. -/
def qC (i : Nat) : Nat := if i < 5 then 0 else if i < 7 then 1 else if i < 9 then 2 else if i < 12 then 3 else 0

/-- What answers each. -/
def qA (row ns : List Int) (i : Nat) : List Nat := match i with
  | 0 => rowTx row
  | 1 => toldI (onesV row)
  | 2 => toldI (endV row)
  | 3 => toldI (endI row)
  | 4 => if 4 * onesV row = (row.length : Int) * ((row.length : Int) + 1) then [121, 101, 115] else [110, 111]
  | 5 => toldI (sharedV (ns.getD 0 0))
  | 6 => toldI (waysV (ns.getD 0 0))
  | 7 => toldI (cellV (ns.getD 0 0) (ns.getD 1 0))
  | 8 => toldI (keepV (ns.getD 0 0) (ns.getD 1 0))
  | 9 => toldI (leftV (ns.getD 0 0) (ns.getD 1 0) (ns.getD 2 0))
  | 10 => toldI (cellTV (ns.getD 0 0) (ns.getD 1 0) (ns.getD 2 0))
  | 11 => toldI (carriesV (ns.getD 0 0) (ns.getD 1 0) (ns.getD 2 0))
  | _ => []

def qI (W : List Nat) : Nat :=
  if W = qW 0 then 0 else if W = qW 1 then 1 else if W = qW 2 then 2 else if W = qW 3 then 3 else if W = qW 4 then 4 else if W = qW 5 then 5
  else if W = qW 6 then 6 else if W = qW 7 then 7 else if W = qW 8 then 8 else if W = qW 9 then 9 else if W = qW 10 then 10 else if W = qW 11 then 11 else 12

theorem qI_all : ((List.range 12).all fun i => decide (qI (qW i) = i) && decide ((qW i).length ≤ 8) && (qW i).all fun c => decide (c < 256)) = true := by decide

theorem qI_at {i : Nat} (h : i < 12) : qI (qW i) = i := by
  have := List.all_eq_true.1 qI_all i (List.mem_range.2 h)
  simp only [Bool.and_eq_true, decide_eq_true_eq] at this
  exact this.1.1

theorem qW_byte {i : Nat} (h : i < 12) : ∀ c ∈ qW i, c < 256 := by
  have := List.all_eq_true.1 qI_all i (List.mem_range.2 h)
  simp only [Bool.and_eq_true, decide_eq_true_eq, List.all_eq_true] at this
  exact this.2

theorem qI_is {W : List Nat} (h : qI W < 12) : W = qW (qI W) := by
  unfold qI at h ⊢
  by_cases h0 : W = qW 0
  · simp only [if_pos h0]; exact h0
  simp only [if_neg h0] at h ⊢
  by_cases h1 : W = qW 1
  · simp only [if_pos h1]; exact h1
  simp only [if_neg h1] at h ⊢
  by_cases h2 : W = qW 2
  · simp only [if_pos h2]; exact h2
  simp only [if_neg h2] at h ⊢
  by_cases h3 : W = qW 3
  · simp only [if_pos h3]; exact h3
  simp only [if_neg h3] at h ⊢
  by_cases h4 : W = qW 4
  · simp only [if_pos h4]; exact h4
  simp only [if_neg h4] at h ⊢
  by_cases h5 : W = qW 5
  · simp only [if_pos h5]; exact h5
  simp only [if_neg h5] at h ⊢
  by_cases h6 : W = qW 6
  · simp only [if_pos h6]; exact h6
  simp only [if_neg h6] at h ⊢
  by_cases h7 : W = qW 7
  · simp only [if_pos h7]; exact h7
  simp only [if_neg h7] at h ⊢
  by_cases h8 : W = qW 8
  · simp only [if_pos h8]; exact h8
  simp only [if_neg h8] at h ⊢
  by_cases h9 : W = qW 9
  · simp only [if_pos h9]; exact h9
  simp only [if_neg h9] at h ⊢
  by_cases h10 : W = qW 10
  · simp only [if_pos h10]; exact h10
  simp only [if_neg h10] at h ⊢
  by_cases h11 : W = qW 11
  · simp only [if_pos h11]; exact h11
  simp only [if_neg h11] at h ⊢
  omega

/-- What the program answers. -/
def ansV (row : List Int) (l : List Nat) : List Nat :=
  if qI (rlV l).1 < 12 ∧ (rlV l).2.length = qC (qI (rlV l).1) then qA row (rlV l).2 (qI (rlV l).1) else whatT

theorem cutL_one : ∀ (r line : List Nat), (cutL 32 line r).tail = [] → cutL 32 line r = [line ++ r]
  | [], line, _ => by simp [cutL]
  | c :: r, line, h => by
    by_cases e : c = 32
    · subst e
      rw [cutL_hit] at h
      have := cutL_pos 32 r []
      simp at h
      rw [h] at this
      simp at this
    · rw [cutL_other e] at h ⊢
      rw [cutL_one r _ h]
      simp

theorem nums_len : ∀ {p : List (List Nat)} {ns : List Int}, numsL p = some ns → ns.length = p.length
  | [], ns, h => by cases h; rfl
  | w :: r, ns, h => by
    rw [numsL] at h
    split at h
    · cases h
    · split at h
      · cases h
      · rename_i h2
        cases h
        simp [nums_len h2]

theorem toldI_dec {n : Int} (h : 0 ≤ n) : toldI n = decI n := by unfold toldI; rw [if_neg (by omega)]

theorem ones_nn {row : List Int} (h : sideB row = true) : 0 ≤ onesV row := by unfold onesV; rw [if_pos h]; omega

theorem end_nn {row : List Int} (h : sideB row = true) : 0 ≤ endV row := by unfold endV; rw [if_pos h]; omega

theorem endI_told (row : List Int) : toldI (endI row) = if endB row = true then decI (endI row) else [110, 111, 110, 101] := by
  unfold endI endB
  cases endN row with
  | none => rfl
  | some r => simp only [Option.isSome_some, if_true]; exact toldI_dec (by omega)

theorem rl_word {i : Nat} (h : i < 5) : rlV (qW i) = (qW i, []) := by
  rcases (show i = 0 ∨ i = 1 ∨ i = 2 ∨ i = 3 ∨ i = 4 by omega) with rfl | rfl | rfl | rfl | rfl <;> rfl

theorem ans_word {row : List Int} {i : Nat} (h : i < 5) : ansV row (qW i) = qA row [] i := by
  unfold ansV
  rw [rl_word h]
  simp only
  rw [qI_at (by omega), if_pos ⟨by omega, by unfold qC; rw [if_pos h]; rfl⟩]

theorem ans_qa {row : List Int} (hs : sideB row = true) (l : List Nat) : ansV row l = qaV row l := by
  unfold qaV
  by_cases h0 : l = [114, 111, 119]
  · subst h0; rw [if_pos rfl]; exact ans_word (i := 0) (by omega)
  by_cases h1 : l = [111, 110, 101, 115]
  · subst h1; rw [if_neg h0, if_pos rfl, ← toldI_dec (ones_nn hs)]; exact ans_word (i := 1) (by omega)
  by_cases h2 : l = [108, 97, 115, 116]
  · subst h2; rw [if_neg h0, if_neg h1, if_pos rfl, ← toldI_dec (end_nn hs)]; exact ans_word (i := 2) (by omega)
  by_cases h3 : l = [101, 110, 100]
  · subst h3; rw [if_neg h0, if_neg h1, if_neg h2, if_pos rfl, ← endI_told]; exact ans_word (i := 3) (by omega)
  by_cases h4 : l = [98, 97, 108, 97, 110, 99, 101, 100]
  · subst h4; rw [if_neg h0, if_neg h1, if_neg h2, if_neg h3, if_pos rfl]; exact ans_word (i := 4) (by omega)
  rw [if_neg h0, if_neg h1, if_neg h2, if_neg h3, if_neg h4]
  have hne : ∀ i, i < 5 → l ≠ qW i := fun i hi => by
    rcases (show i = 0 ∨ i = 1 ∨ i = 2 ∨ i = 3 ∨ i = 4 by omega) with rfl | rfl | rfl | rfl | rfl <;> assumption
  clear h0 h1 h2 h3 h4
  unfold ansV wordsV rlV
  cases hn : numsL (cutT 32 l).tail with
  | none =>
    simp only
    rw [if_neg]
    rintro ⟨h, _⟩
    exact absurd h (by decide)
  | some ns =>
    simp only
    have hlen := nums_len hn
    have hone : ns.length = 0 → (cutT 32 l).getD 0 [] = l := fun h => by
      have ht : (cutT 32 l).tail = [] := List.eq_nil_of_length_eq_zero (by omega)
      have := cutL_one l [] ht
      unfold cutT
      rw [this]
      rfl
    obtain ⟨W, hW⟩ : ∃ W, (cutT 32 l).getD 0 [] = W := ⟨_, rfl⟩
    rw [hW] at hone ⊢
    by_cases hq : qI W < 12
    · have hWi := qI_is hq
      obtain ⟨i, hi⟩ : ∃ i, qI W = i := ⟨_, rfl⟩
      rw [hi] at hq hWi ⊢
      subst hWi
      by_cases h5 : i < 5
      · have hl : ns.length ≠ 0 := fun e => hne i h5 (hone e).symm
        rw [if_neg (fun h => hl (by have := h.2; unfold qC at this; rw [if_pos h5] at this; exact this))]
        unfold askV
        rcases (show i = 0 ∨ i = 1 ∨ i = 2 ∨ i = 3 ∨ i = 4 by omega) with rfl | rfl | rfl | rfl | rfl <;> simp [qW]
      · unfold askV
        rcases (show i = 5 ∨ i = 6 ∨ i = 7 ∨ i = 8 ∨ i = 9 ∨ i = 10 ∨ i = 11 by omega) with rfl | rfl | rfl | rfl | rfl | rfl | rfl <;> simp [qW, qC, qA]
    · rw [if_neg (fun h => hq h.1)]
      have hnw : ∀ i, i < 12 → W ≠ qW i := fun i hi e => hq (by rw [e, qI_at hi]; exact hi)
      unfold askV
      rw [if_neg (fun h => hnw 7 (by omega) h.1), if_neg (fun h => hnw 5 (by omega) h.1), if_neg (fun h => hnw 6 (by omega) h.1), if_neg (fun h => hnw 8 (by omega) h.1), if_neg (fun h => hnw 9 (by omega) h.1), if_neg (fun h => hnw 10 (by omega) h.1), if_neg (fun h => hnw 11 (by omega) h.1)]

theorem sharedV_big (n : Int) : sharedV n ≤ 1000000000000000000 := by
  unfold sharedV
  split
  · omega
  · rename_i h
    have := shared_le (n := n.toNat) (by omega) (by omega)
    omega

theorem waysV_big (n : Int) : waysV n ≤ 1000000000000000000 := by
  unfold waysV
  split
  · omega
  · rename_i h
    have := (cat_one n.toNat (by omega)).2.2.1
    omega

theorem cellV_big (n k : Int) : cellV n k ≤ 1000000000000000000 := by
  unfold cellV
  split
  · omega
  · rename_i h
    have := bin_max (n := n.toNat) k.toNat (by omega)
    omega

theorem keepV_big (n p : Int) : keepV n p ≤ 1000000000000000000 := by
  by_cases h : badK n p
  · rw [keepV_bad h]; omega
  · obtain ⟨N, P, rfl, rfl, h1, h3⟩ := badK_nat h
    rw [keepV_nat h1 h3]
    have := prm_two h3
    have := keep_le (p := P) (by omega) N
    omega

theorem leftV_big (n k p : Int) : leftV n k p ≤ 1000000000000000000 := by
  unfold leftV
  split
  · omega
  · rename_i h
    unfold badL at h
    obtain ⟨P, rfl, hP⟩ := prmI_t (p := p) (by cases e : prmI p; exact absurd (.inr (.inr (.inr (.inr e)))) h; rfl)
    have h2 := prm_two hP
    have : bin n.toNat k.toNat % P < P := Nat.mod_lt _ (by omega)
    simp only [Int.toNat_natCast]
    omega

theorem cellTV_big (n k p : Int) : cellTV n k p ≤ 1000000000000000000 := by
  unfold cellTV
  split
  · omega
  · rename_i h
    obtain ⟨P, rfl, hP⟩ := prmI_t (p := p) (by cases e : prmI p; exact absurd (.inr (.inr (.inr (.inr e)))) h; rfl)
    have h2 := prm_two hP
    have := cars_lt (p := P) (by omega) (n := n.toNat) (k := k.toNat) (by omega)
    simp only [Int.toNat_natCast]
    omega

theorem carriesV_big (x y b : Int) : carriesV x y b ≤ 1000000000000000000 := by
  unfold carriesV
  split
  · omega
  · rename_i h
    unfold bad2 at h
    have h1 := carL_le (b := b.toNat) 0 (pairs b.toNat x.toNat y.toNat) (by omega) (pairs_lt (by omega) _ _)
    have h2 := pairs_len (b := b.toNat) (by omega) x.toNat y.toNat
    omega

theorem onesV_big {row : List Int} (hs : sideB row = true) : onesV row ≤ 100 := by
  have hl := sideB_len hs
  have := few_ones (side_bit hs) (n := row.length) hl.2
  unfold onesV
  rw [if_pos hs]
  have h2 : row.length * (row.length + 1) ≤ 12 * 13 := Nat.mul_le_mul hl.2 (by omega)
  omega

theorem endV_big {row : List Int} (hs : sideB row = true) : endV row ≤ 1 := by
  have := st_le (side_bit hs) (row.length - 1) 0
  unfold endV
  rw [if_pos hs]
  omega

theorem endI_big (row : List Int) : endI row ≤ 2001 := by
  unfold endI
  cases h : endN row with
  | none => simp only; omega
  | some r =>
    simp only
    unfold endN at h
    split at h
    · have := (firstI_some.1 h).1; omega
    · cases h
end Go.Proofs.YtiaaefapbcjgmaaGreatDoor
namespace Go.Proofs.YtiaaefapbcjgmaaGreatDoor
open Go.RowKit Go.Maps

theorem keyS : Keyed Tryz.prog 9 := string_keyed Tryz.underlying9

theorem zeroQ (w : World) : (zeroValue 121).run Tryz.prog w = .ok (.agg #[.int .i64 0, .nilFunc]) w := by kernel_rfl

/-- The twelve functions. -/
def qF (i : Nat) : Nat := match i with
  | 0 => 125
  | 1 => 126
  | 2 => 127
  | 3 => 128
  | 4 => 129
  | 5 => 130
  | 6 => 131
  | 7 => 132
  | 8 => 133
  | 9 => 134
  | 10 => 135
  | 11 => 136
  | _ => 0

/-- What lies in the map for the word i. -/
def qV (i : Nat) : Value := .agg #[.int .i64 (qC i : Nat), .func (.func (qF i)) #[] #[]]

open Classical in
/-- How an entry reads. -/
noncomputable def qR (v : Value) : Option (DataW Unit × List MemPlace) :=
  if h : ∃ p : Int × Nat, v = .agg #[.int .i64 p.1, .func (.func p.2) #[] #[]] then some (.agg [.lit (.int .i64 h.choose.1), .lit (.int .i64 (h.choose.2 : Nat))], [])
  else if h : ∃ n : Int, v = .agg #[.int .i64 n, .nilFunc] then some (.agg [.lit (.int .i64 h.choose)], []) else none

theorem qR_mk (n : Int) (f : Nat) : qR (.agg #[.int .i64 n, .func (.func f) #[] #[]]) = some (.agg [.lit (.int .i64 n), .lit (.int .i64 (f : Nat))], []) := by
  have h : ∃ p : Int × Nat, Value.agg #[.int .i64 n, .func (.func f) #[] #[]] = .agg #[.int .i64 p.1, .func (.func p.2) #[] #[]] := ⟨(n, f), rfl⟩
  unfold qR
  rw [dif_pos h]
  have := h.choose_spec
  generalize h.choose = p at this ⊢
  simp only [Value.agg.injEq, Array.mk.injEq, List.cons.injEq, Value.int.injEq, Value.func.injEq, Fn.func.injEq, true_and, and_true] at this
  rw [← this.1, ← this.2]

theorem qR_nil (n : Int) : qR (.agg #[.int .i64 n, .nilFunc]) = some (.agg [.lit (.int .i64 n)], []) := by
  have h0 : ¬ ∃ p : Int × Nat, Value.agg #[.int .i64 n, .nilFunc] = .agg #[.int .i64 p.1, .func (.func p.2) #[] #[]] := fun ⟨p, e⟩ => by simp at e
  have h : ∃ m : Int, Value.agg #[.int .i64 n, .nilFunc] = .agg #[.int .i64 m, .nilFunc] := ⟨n, rfl⟩
  unfold qR
  rw [dif_neg h0, dif_pos h]
  have := h.choose_spec
  generalize h.choose = p at this ⊢
  simp only [Value.agg.injEq, Array.mk.injEq, List.cons.injEq, Value.int.injEq, true_and, and_true] at this
  rw [← this]

theorem qR_inv {v : Value} {n f : Int} {ps : List MemPlace} (h : qR v = some (.agg [.lit (.int .i64 n), .lit (.int .i64 f)], ps)) : v = .agg #[.int .i64 n, .func (.func f.toNat) #[] #[]] := by
  by_cases h1 : ∃ p : Int × Nat, v = .agg #[.int .i64 p.1, .func (.func p.2) #[] #[]]
  · obtain ⟨p, rfl⟩ := h1
    rw [qR_mk] at h
    simp only [Option.some.injEq, Prod.mk.injEq, DataW.agg.injEq, List.cons.injEq, DataW.lit.injEq, Lit.int.injEq, true_and, and_true] at h
    obtain ⟨⟨rfl, rfl⟩, _⟩ := h
    rfl
  · by_cases h2 : ∃ n : Int, v = .agg #[.int .i64 n, .nilFunc]
    · obtain ⟨m, rfl⟩ := h2
      rw [qR_nil] at h
      simp at h
    · unfold qR at h
      rw [dif_neg h1, dif_neg h2] at h
      cases h

theorem qR_zero {v : Value} {n : Int} {ps : List MemPlace} (h : qR v = some (.agg [.lit (.int .i64 n)], ps)) : v = .agg #[.int .i64 n, .nilFunc] := by
  by_cases h1 : ∃ p : Int × Nat, v = .agg #[.int .i64 p.1, .func (.func p.2) #[] #[]]
  · obtain ⟨p, rfl⟩ := h1
    rw [qR_mk] at h
    simp at h
  · by_cases h2 : ∃ n : Int, v = .agg #[.int .i64 n, .nilFunc]
    · obtain ⟨m, rfl⟩ := h2
      rw [qR_nil] at h
      simp only [Option.some.injEq, Prod.mk.injEq, DataW.agg.injEq, List.cons.injEq, DataW.lit.injEq, Lit.int.injEq, true_and, and_true] at h
      obtain ⟨rfl, _⟩ := h
      rfl
    · unfold qR at h
      rw [dif_neg h1, dif_neg h2] at h
      cases h

/-- The map in block b reads as D. -/
abbrev OwnQM (w : World) (b n : Nat) (D : DataW Unit) : Prop := w.ownsMap Tryz.prog 9 qR b n D

def qK (l : List Nat) : Lit := .string (l.map UInt8.ofNat)

def qE (i : Nat) : DataW Unit := .agg [.lit (.int .i64 (qC i : Nat)), .lit (.int .i64 (qF i : Nat))]

/-- The map of the first n words. -/
def qD : Nat → DataW Unit
  | 0 => .map []
  | n + 1 => (qD n).put (qK (qW n)) (qE n)

theorem qPut {w : World} {b i : Nat} (h : OwnQM w b i (qD i)) (hn : i < 12) (s : ByteArray) (hs : s.data.toList = (qW i).map UInt8.ofNat) (c : Int) (hc : c = (qC i : Nat)) (f : Nat) (hf : f = qF i) :
    ∃ w', (Instr.mapUpdate 123 (.map (some b)) (.string s) (.agg #[.int .i64 c, .func (.func f) #[] #[]])).run Tryz.prog w = .ok () w' ∧ OwnQM w' b (i + 1) (qD (i + 1)) ∧ w.grownBy w' (some b) := by
  subst hc
  subst hf
  have hsz : s.size ≤ maxLen := by
    have h1 : s.size = (qW i).length := by
      show s.data.size = _
      rw [← Array.length_toList, hs, List.length_map]
    have h2 : (qW i).length ≤ 8 := by
      have := List.all_eq_true.1 qI_all i (List.mem_range.2 hn)
      simp only [Bool.and_eq_true, decide_eq_true_eq] at this
      exact this.1.2
    unfold maxLen; omega
  have hk : keyOf Tryz.prog 9 (.string s) = some (qK (qW i)) := by
    unfold qK
    rw [← hs]
    exact Go.WideMaps.keyOf_string_mk Tryz.underlying9 hsz
  exact World.ownsMap.update h keyS Tryz.underlying123 (by unfold maxLen; omega) hk (qR_mk _ _)

set_option maxRecDepth 100000 in
set_option maxHeartbeats 2000000 in
theorem questions_in (w : World) : Calls Tryz.prog 97 #[] w fun e w' => e = .returned (.map (some w.heap.size)) ∧ OwnQM w' w.heap.size 12 (qD 12) ∧ Below w.heap.size w w' := by
  have hmm := @run_makeMap Tryz.prog
  have h0 : OwnQM (w.alloc (.map #[] 0)) w.heap.size 0 (qD 0) := World.ownsMap_made w Tryz.prog 9 qR
  have hB0 : Below w.heap.size w (w.alloc (.map #[] 0)) := (Below.refl _ w).alloc (Nat.le_refl _) _
  obtain ⟨w1, r1, h1, g1⟩ := qPut h0 (by omega) ⟨#[114, 111, 119]⟩ (by kernel_rfl) 0 rfl 125 rfl
  obtain ⟨w2, r2, h2, g2⟩ := qPut h1 (by omega) ⟨#[111, 110, 101, 115]⟩ (by kernel_rfl) 0 rfl 126 rfl
  obtain ⟨w3, r3, h3, g3⟩ := qPut h2 (by omega) ⟨#[108, 97, 115, 116]⟩ (by kernel_rfl) 0 rfl 127 rfl
  obtain ⟨w4, r4, h4, g4⟩ := qPut h3 (by omega) ⟨#[101, 110, 100]⟩ (by kernel_rfl) 0 rfl 128 rfl
  obtain ⟨w5, r5, h5, g5⟩ := qPut h4 (by omega) ⟨#[98, 97, 108, 97, 110, 99, 101, 100]⟩ (by kernel_rfl) 0 rfl 129 rfl
  obtain ⟨w6, r6, h6, g6⟩ := qPut h5 (by omega) ⟨#[115, 104, 97, 114, 101, 100]⟩ (by kernel_rfl) 1 rfl 130 rfl
  obtain ⟨w7, r7, h7, g7⟩ := qPut h6 (by omega) ⟨#[119, 97, 121, 115]⟩ (by kernel_rfl) 1 rfl 131 rfl
  obtain ⟨w8, r8, h8, g8⟩ := qPut h7 (by omega) ⟨#[99, 101, 108, 108]⟩ (by kernel_rfl) 2 rfl 132 rfl
  obtain ⟨w9, r9, h9, g9⟩ := qPut h8 (by omega) ⟨#[107, 101, 112, 116]⟩ (by kernel_rfl) 2 rfl 133 rfl
  obtain ⟨w10, r10, h10, g10⟩ := qPut h9 (by omega) ⟨#[108, 101, 102, 116]⟩ (by kernel_rfl) 3 rfl 134 rfl
  obtain ⟨w11, r11, h11, g11⟩ := qPut h10 (by omega) ⟨#[111, 102, 116, 101, 110]⟩ (by kernel_rfl) 3 rfl 135 rfl
  obtain ⟨w12, r12, h12, g12⟩ := qPut h11 (by omega) ⟨#[99, 97, 114, 114, 105, 101, 115]⟩ (by kernel_rfl) 3 rfl 136 rfl
  have hl : ∀ j, some w.heap.size = some j → w.heap.size ≤ j := fun j hj => by cases hj; exact Nat.le_refl _
  have hB1 := hB0.grown g1 hB0.size hl
  have hB2 := hB1.grown g2 hB1.size hl
  have hB3 := hB2.grown g3 hB2.size hl
  have hB4 := hB3.grown g4 hB3.size hl
  have hB5 := hB4.grown g5 hB4.size hl
  have hB6 := hB5.grown g6 hB5.size hl
  have hB7 := hB6.grown g7 hB6.size hl
  have hB8 := hB7.grown g8 hB7.size hl
  have hB9 := hB8.grown g9 hB8.size hl
  have hB10 := hB9.grown g10 hB9.size hl
  have hB11 := hB10.grown g11 hB10.size hl
  have hB12 := hB11.grown g12 hB11.size hl
  clear hB0 hB1 hB2 hB3 hB4 hB5 hB6 hB7 hB8 hB9 hB10 hB11 g1 g2 g3 g4 g5 g6 g7 g8 g9 g10 g11 g12 h0 h1 h2 h3 h4 h5 h6 h7 h8 h9 h10 h11 hl
  go_enter Tryz.func97, Tryz.ntmps97
  go_wp2
  go_ret
  exact ⟨rfl, h12, hB12⟩

theorem qK_is (l : List Nat) : WideAt.IsKeyLit (qK l) := by unfold qK; simp [WideAt.IsKeyLit]

theorem qK_ne {i j : Nat} (hi : i < 12) (hj : j < 12) (h : i ≠ j) : qK (qW i) ≠ qK (qW j) := fun e => by
  have h1 : ((List.range 12).all fun i => (List.range 12).all fun j => decide (i = j) || !decide ((qW i).map UInt8.ofNat = (qW j).map UInt8.ofNat)) = true := by decide +kernel
  have h2 := List.all_eq_true.1 (List.all_eq_true.1 h1 i (List.mem_range.2 hi)) j (List.mem_range.2 hj)
  simp only [Bool.or_eq_true, decide_eq_true_eq, Bool.not_eq_true', decide_eq_false_iff_not] at h2
  unfold qK at e
  injection e with e
  exact h2.elim h (fun h3 => h3 e)

theorem qD_map : ∀ n, IsMap (qD n)
  | 0 => isMap_empty
  | n + 1 => by
    obtain ⟨es, he⟩ := qD_map n
    unfold qD
    rw [he]
    exact ⟨_, rfl⟩

theorem qD_at (z : DataW Unit) : ∀ n i, n ≤ 12 → i < n → (qD n).atKey (qK (qW i)) z = qE i ∧ has (qD n) (qK (qW i)) = true
  | 0, i, _, h => by omega
  | n + 1, i, hn, h => by
    unfold qD
    by_cases e : i = n
    · subst e
      exact ⟨atKey_put_same (qD_map _) (qK_is _) _ _, has_put_same (qD_map _) (qK_is _) _⟩
    · rw [atKey_put_other (qK_ne (by omega) (by omega) e), has_put_other (qK_ne (by omega) (by omega) e)]
      exact qD_at z n i (by omega) (by omega)

theorem qD_no (z : DataW Unit) (k : Lit) : ∀ n, n ≤ 12 → (∀ i, i < 12 → k ≠ qK (qW i)) → (qD n).atKey k z = z ∧ has (qD n) k = false
  | 0, _, _ => ⟨rfl, rfl⟩
  | n + 1, hn, h => by
    unfold qD
    rw [atKey_put_other (h n (by omega)), has_put_other (h n (by omega))]
    exact qD_no z k n (by omega) h

/-- A word looked up. -/
theorem qLook {w : World} {b : Nat} (h : OwnQM w b 12 (qD 12)) (p : List Nat) (hp : ∀ x ∈ p, x < 256) (hl : p.length ≤ 2000000) :
    ∃ v, (Instr.lookup 123 (.map (some b)) (.string (str p)) true).run Tryz.prog w = .ok (.tuple #[v, .bool (decide (qI p < 12))]) w ∧ (qI p < 12 → v = qV (qI p)) ∧ (¬ qI p < 12 → v = .agg #[.int .i64 0, .nilFunc]) := by
  have hd : (str p).data.toList = p.map UInt8.ofNat := str_data p
  have hk : keyOf Tryz.prog 9 (.string (str p)) = some (qK p) := by
    unfold qK
    rw [← hd]
    exact Go.WideMaps.keyOf_string_mk Tryz.underlying9 (by rw [str_size]; unfold maxLen; omega)
  obtain ⟨v, ps, h1, h2⟩ := World.ownsMap.look_ok h keyS Tryz.underlying123 (zeroQ w) (zd := .agg [.lit (.int .i64 0)]) (zp := []) (qR_nil 0) hk
  by_cases hq : qI p < 12
  · have hW := qI_is hq
    have h3 := qD_at (.agg [.lit (.int .i64 0)]) 12 (qI p) (Nat.le_refl _) hq
    rw [← hW] at h3
    rw [h3.2] at h1
    rw [h3.1] at h2
    refine ⟨v, by rw [decide_eq_true hq]; exact h1, fun _ => ?_, fun h => absurd hq h⟩
    have := qR_inv h2
    simpa [qV] using this
  · have h3 := qD_no (.agg [.lit (.int .i64 0)]) (qK p) 12 (Nat.le_refl _) (fun i hi e => hq (by
      unfold qK at e
      injection e with e
      have : p = qW i := by
        exact str_inj hp (qW_byte hi) e
      rw [this, qI_at hi]; exact hi))
    rw [h3.2] at h1
    rw [h3.1] at h2
    exact ⟨v, by rw [decide_eq_false hq]; exact h1, fun h => absurd h hq, fun _ => qR_zero h2⟩
end Go.Proofs.YtiaaefapbcjgmaaGreatDoor
namespace Go.Proofs.YtiaaefapbcjgmaaGreatDoor
open Go.RowKit

theorem itoaBig_in (n : Int) (h0 : 0 ≤ n) (h1 : n ≤ 1000000000000000000) (w : World) (hE : Env w) : Calls Tryz.prog 58 #[.int .i64 n] w fun e w' => e = .returned (.string (str (decI n))) ∧ Below w.heap.size w w' := by
  refine (Any.strconv_Itoa { Tryz.itoaA with } n (by omega) (by omega) w hE.pow).mono ?_
  obtain ⟨u, rfl⟩ : ∃ u : Nat, n = u := ⟨n.toNat, by omega⟩
  rintro e w' ⟨rfl, k, os, rfl⟩
  have e : Lib.itoa (u : Int) = (decF 20 u).map UInt8.ofNat := by
    rw [Lib.itoa_nonneg]
    exact dec_digits 20 u (Nat.lt_of_le_of_lt (show u ≤ 1000000000000000000 by omega) (by decide))
  rw [e]
  exact ⟨rfl, Lib.below_grow _ _ (Nat.le_refl _) _ _⟩

theorem implTold (n : Int) (h1 : n ≤ 1000000000000000000) (w : World) (hE : Env w) : Calls Tryz.prog 158 #[.int .i64 n] w fun e w' => e = .returned (.string (str (toldI n))) ∧ Below w.heap.size w w' := by
  by_cases h0 : n < 0
  · have e : toldI n = [110, 111, 110, 101] := by unfold toldI; rw [if_pos h0]
    rw [e]
    go_enter Tryz.func158, Tryz.ntmps158
    go_wp2
    go_ret
    exact ⟨rfl, Below.refl _ _⟩
  · rw [toldI_dec (by omega)]
    have hI := itoaBig_in n (by omega) h1 w hE
    obtain ⟨X, hX⟩ : ∃ X, str (decI n) = X := ⟨_, rfl⟩
    rw [hX] at hI ⊢
    go_enter Tryz.func158, Tryz.ntmps158
    go_wp2_with (go_at_call 58; refine hI.mono ?_; rintro e w1 ⟨rfl, hB⟩)
    go_ret
    exact ⟨rfl, hB⟩
end Go.Proofs.YtiaaefapbcjgmaaGreatDoor
namespace Go.Proofs.YtiaaefapbcjgmaaGreatDoor
open Go.RowKit Go.Shelf

theorem bldSize : (Tryz.prog.info? 87).map (·.size) = some 2 := by kernel_rfl

theorem bldLies : liesAt Tryz.prog Tryz.prog.depth 87 (2 / Tryz.prog.cellsOf 87) 0 87 1 = true := by kernel_rfl

theorem byteInfo : (Tryz.prog.info? 5).map (fun i => (i.zero, i.size, i.bytes)) = some (some (.int .u8 0), 1, 1) := by kernel_rfl

set_option maxHeartbeats 1000000 in
set_option maxRecDepth 100000 in
theorem check_used (b : Nat) (w : World) (h0 : w.cell? ⟨b, 0, none⟩ = some (.pointer (some ⟨b, 0, none⟩))) :
    Calls Tryz.prog 102 #[.pointer (some ⟨b, 0, none⟩)] w fun e w' => e = .returned (.tuple #[]) ∧ w' = w := by
  obtain ⟨j, hj, _⟩ := Option.map_eq_some_iff.1 bldSize
  go_enter Tryz.func102, Tryz.ntmps102
  go_wp2
  rw [Lib.run_neq_ptr_same w _ Tryz.underlying85 hj]
  go_wp2
  go_end0
  exact ⟨rfl, rfl⟩

set_option maxHeartbeats 1000000 in
set_option maxRecDepth 100000 in
theorem check_fresh (b : Nat) (w : World) (h0 : w.cell? ⟨b, 0, none⟩ = some (.pointer none)) (hsh : w.shape? b = some (87, 2)) (hfz : w.frozen? ⟨b, 0, none⟩ = false) :
    Calls Tryz.prog 102 #[.pointer (some ⟨b, 0, none⟩)] w fun e w' => e = .returned (.tuple #[]) ∧ w' = w.setCell ⟨b, 0, none⟩ (.pointer (some ⟨b, 0, none⟩)) := by
  obtain ⟨j, hj, hjs⟩ := Option.map_eq_some_iff.1 bldSize
  go_enter Tryz.func102, Tryz.ntmps102
  go_wp2
  rw [Lib.run_to_unsafe w ⟨b, 0, none⟩ Tryz.underlying85 Tryz.underlying140 hj (by rw [hjs]; decide) hsh (Nat.zero_lt_succ 1)]
  simp only [Result.andThen]
  rw [Oper.upon_value]
  go_wp2
  rw [run_callFunc_extern Tryz.func144 (by kernel_rfl) (by kernel_rfl) (by kernel_rfl) (e := Extern.AbiNoEscape.same) (by kernel_rfl)]
  rw [Lib.run_noEscape]
  simp only [Result.andThen]
  rw [Oper.upon_value]
  go_wp2
  rw [Lib.run_from_unsafe w ⟨b, 0, none⟩ Tryz.underlying140 Tryz.underlying85 hj hsh bldLies]
  simp only [Result.andThen]
  rw [Oper.upon_value]
  go_wp2
  go_end0
  exact ⟨rfl, rfl⟩

theorem check_in (B b : Nat) (bs : List Value) (w : World) (h : Lib.IsBuilderF 87 5 B b bs w) :
    Calls Tryz.prog 102 #[.pointer (some ⟨b, 0, none⟩)] w fun e w' => e = .returned (.tuple #[]) ∧ Lib.BuilderAtF 87 5 B b (.pointer (some ⟨b, 0, none⟩)) bs w' ∧ Below B w w' ∧ Lib.OthersKept 5 (some b) w w' := by
  rcases h with h | h
  · refine (check_fresh b w h.cell0 h.shape h.frozen0).mono ?_
    rintro e w' ⟨rfl, rfl⟩
    exact ⟨rfl, h.used _, (Below.refl B w).setCell (p := ⟨b, 0, none⟩) h.1 _, (Lib.OthersKept.refl _ _ w).setCell ⟨b, 0, none⟩ rfl _⟩
  · refine (check_used b w h.cell0).mono ?_
    rintro e w' ⟨rfl, rfl⟩
    exact ⟨rfl, h, Below.refl B _, Lib.OthersKept.refl _ _ _⟩

set_option maxHeartbeats 2000000 in
set_option maxRecDepth 100000 in
theorem writeByte_in (B b : Nat) (bs : List Value) (c : Int) (w : World) (h : Lib.IsBuilderF 87 5 B b bs w) (hlen : bs.length + 1 ≤ 140737488355328) (hBw : B ≤ w.heap.size) :
    Calls Tryz.prog 60 #[.pointer (some ⟨b, 0, none⟩), .int .u8 c] w fun e w' => e = .returned .nilIface ∧ Lib.BuilderAtF 87 5 B b (.pointer (some ⟨b, 0, none⟩)) (bs ++ [.int .u8 c]) w' ∧ Below B w w' ∧ Lib.OthersKept 5 (some b) w w' := by
  obtain ⟨i0, hi, hz0, hz1, hz2⟩ := info_parts byteInfo
  have hC := check_in B b bs w h
  go_enter Tryz.func60, Tryz.ntmps60
  go_wp2_with (go_at_call 102; refine hC.mono ?_)
  rintro e w1 ⟨rfl, h1, hb1, hk1⟩
  obtain ⟨hB, v, hbk, hown, hne⟩ := h1
  have c0 : w1.cell? ⟨b, 0, none⟩ = some (.pointer (some ⟨b, 0, none⟩)) := by rw [Lib.cell_of_heap hbk]; rfl
  have c1 : w1.cell? ⟨b, 1, none⟩ = some v := by rw [Lib.cell_of_heap hbk]; rfl
  go_wp2_with (at_builtin; refine wpList_append_ownF _ rfl _ _ 22 rfl B 5 i0 (.int .u8 0) 1 1 Tryz.underlying22 hi hz0 hz1 hz2 rfl (by decide) _ _ _ rfl (hown.alloc _) ⟨w1.heap.size, 0, none⟩ 1 1 [.int .u8 c] rfl rfl ?c1 ?c2 ?c3 ?c4 ?c5 ?_)
  case c1 =>
    intro j u hj
    match j, hj with
    | 0, hj => simp at hj; subst hj; simp [Addr.add]
  case c2 => intro u hu; simp at hu; subst hu; rfl
  case c3 => unfold maxLen; omega
  case c4 => omega
  case c5 => have := hb1.size; simp; omega
  intro v' w2 hown' hgrow _
  have hlt : b < w1.heap.size := (Array.getElem?_eq_some_iff.1 hbk).1
  have hb2 : w2.heap[b]? = some (.cells #[.pointer (some ⟨b, 0, none⟩), v] 87 (0, 0)) := by
    rw [hgrow.block b (by simp; omega) (fun e => hne e.symm), Lib.alloc_old w1 _ b hlt]
    exact hbk
  have d0 : w2.cell? ⟨b, 0, none⟩ = some (.pointer (some ⟨b, 0, none⟩)) := by rw [Lib.cell_of_heap hb2]; rfl
  have d1 : w2.cell? ⟨b, 1, none⟩ = some v := by rw [Lib.cell_of_heap hb2]; rfl
  have f1 : w2.frozen? ⟨b, 1, none⟩ = false := Lib.frozen_of_heap hb2 1
  obtain ⟨g, cap, rfl⟩ : ∃ g cap, v' = .slice (some ⟨g, 0, none⟩) (bs.length + 1) cap := by
    rcases hown'.2 with ⟨_, h0⟩ | ⟨g, cap, cur, fz, hv, _⟩
    · omega
    · exact ⟨g, cap, hv⟩
  go_wp2
  go_ret
  refine ⟨rfl, ?_, ?_, ((hk1.alloc _).grown hgrow (Lib.ownsRowF_kind (hown.alloc _))).setCell ⟨b, 1, none⟩ rfl _⟩
  · exact Lib.BuilderAtF.put (T := 87) (e := 5) hB hb2 (bs' := bs ++ [.int .u8 c]) (by simpa using hown') (by decide)
  · exact ((hb1.alloc (by have := hb1.size; omega) _).grown hgrow (by have := hb1.size; simp; omega) (fun k hk => (hown.lt k hk).1)).setCell (p := ⟨b, 1, none⟩) hB _
end Go.Proofs.YtiaaefapbcjgmaaGreatDoor
namespace Go.Proofs.YtiaaefapbcjgmaaGreatDoor
open Go.RowKit Go.Shelf

theorem bldExtraJ : Builder.Extra Tryz.prog Tryz.stringA_ren := {
  sizeBuilder := by kernel_rfl
  liesBuilder := by kernel_rfl
  t5 := Tryz.underlying5
  a5 := Tryz.isAgg5
  z5 := Tryz.sizeOf5
  v5 := Tryz.zeroValue5
  infoByte := by kernel_rfl
  cellsByte := by kernel_rfl
  sizeByte := by kernel_rfl
  neB5 := by decide }

set_option maxHeartbeats 2000000 in
set_option maxRecDepth 100000 in
theorem writeString_in (B b : Nat) (bs : List Value) (s : ByteArray) (w : World) (h : Lib.IsBuilderF 87 5 B b bs w) (hlen : bs.length + s.size ≤ 140737488355328) (hBw : B ≤ w.heap.size) :
    Calls Tryz.prog 59 #[.pointer (some ⟨b, 0, none⟩), .string s] w fun e w' => e = .returned (.tuple #[.int .i64 s.size, .nilIface]) ∧ Lib.BuilderAtF 87 5 B b (.pointer (some ⟨b, 0, none⟩)) (bs ++ Lib.strCells s) w' ∧ Below B w w' := by
  obtain ⟨i0, hi, hz0, hz1, hz2⟩ := info_parts byteInfo
  have hC := check_in B b bs w h
  go_enter Tryz.func59, Tryz.ntmps59
  go_wp2_with (go_at_call 102; refine hC.mono ?_)
  rintro e w1 ⟨rfl, h1, hb1, hk1⟩
  obtain ⟨hB, v, hbk, hown, hne⟩ := h1
  have c0 : w1.cell? ⟨b, 0, none⟩ = some (.pointer (some ⟨b, 0, none⟩)) := by rw [Lib.cell_of_heap hbk]; rfl
  have c1 : w1.cell? ⟨b, 1, none⟩ = some v := by rw [Lib.cell_of_heap hbk]; rfl
  go_wp2_with (at_builtin; refine Lib.wpList_append_own_stringF _ rfl _ _ 22 9 rfl B 5 i0 Tryz.underlying22 Tryz.underlying9 hi hz0 hz1 hz2 _ _ _ rfl hown s rfl ?c3 ?c4 ?c5 ?_)
  case c3 => unfold maxLen; omega
  case c4 => omega
  case c5 => have := hb1.size; omega
  intro v' w2 hown' hgrow _
  have hlt : b < w1.heap.size := (Array.getElem?_eq_some_iff.1 hbk).1
  have hb2 : w2.heap[b]? = some (.cells #[.pointer (some ⟨b, 0, none⟩), v] 87 (0, 0)) := by
    rw [hgrow.block b hlt (fun e => hne e.symm)]
    exact hbk
  have d0 : w2.cell? ⟨b, 0, none⟩ = some (.pointer (some ⟨b, 0, none⟩)) := by rw [Lib.cell_of_heap hb2]; rfl
  have d1 : w2.cell? ⟨b, 1, none⟩ = some v := by rw [Lib.cell_of_heap hb2]; rfl
  have f1 : w2.frozen? ⟨b, 1, none⟩ = false := Lib.frozen_of_heap hb2 1
  obtain ⟨ao, n', cap, rfl⟩ : ∃ ao n' cap, v' = .slice ao n' cap := by
    rcases hown'.2 with ⟨hv, _⟩ | ⟨g, cap, cur, fz, hv, _⟩
    · exact ⟨_, _, _, hv⟩
    · exact ⟨_, _, _, hv⟩
  go_wp2
  go_ret2
  refine ⟨rfl, ?_, ?_⟩
  · exact Lib.BuilderAtF.put (T := 87) (e := 5) hB hb2 (bs' := bs ++ Lib.strCells s) (by simpa [Lib.strCells_length] using hown') (by decide)
  · exact (hb1.grown hgrow (by have := hb1.size; omega) (fun k hk => (hown.lt k hk).1)).setCell (p := ⟨b, 1, none⟩) hB _

/-- The builder in block b holds these bytes. -/
def BldJ (w : World) (b : Nat) (l : List Nat) : Prop := Lib.IsBuilderF 87 5 b b (Lib.byteCells (l.map UInt8.ofNat)) w

theorem BldJ.below {w w' : World} {b : Nat} {l : List Nat} (h : BldJ w b l) (hg : Below w.heap.size w w') : BldJ w' b l := by
  have go : ∀ p, Lib.BuilderAtF 87 5 b b p (Lib.byteCells (l.map UInt8.ofNat)) w → Lib.BuilderAtF 87 5 b b p (Lib.byteCells (l.map UInt8.ofNat)) w' := by
    rintro p ⟨h1, v, hb, hown, hne⟩
    refine ⟨h1, v, (hg.block b (Array.getElem?_eq_some_iff.1 hb).1).trans hb, hown.kept (row := none) ⟨hg.os, hg.tape, hg.output, hg.size, fun k hk _ => hg.block k hk⟩ (by cases v.ownBlock <;> simp), hne⟩
  exact h.imp (go _) (go _)

theorem BldJ.text {w : World} {b : Nat} {l : List Nat} (h : BldJ w b l) (hb : b ≤ w.heap.size) :
    Calls Tryz.prog 61 #[.pointer (some ⟨b, 0, none⟩)] w fun e w' => e = .returned (.string (str l)) ∧ Below b w w' :=
  (Any.Builder_String_any_k Tryz.stringA bldExtraJ b b _ w h hb).mono fun _ _ ⟨h1, _, h3, _⟩ => ⟨h1, h3⟩

theorem BldJ.byte {w : World} {b : Nat} {l : List Nat} (h : BldJ w b l) {c : Nat} (hc : c < 256) (hl : l.length ≤ 100000000) (hb : b ≤ w.heap.size) :
    Calls Tryz.prog 60 #[.pointer (some ⟨b, 0, none⟩), .int .u8 c] w fun e w' => e = .returned .nilIface ∧ BldJ w' b (l ++ [c]) ∧ Below b w w' := by
  refine (writeByte_in b b _ c w h (by rw [Lib.byteCells_length, List.length_map]; omega) hb).mono ?_
  rintro e w' ⟨h1, h2, h3, _⟩
  refine ⟨h1, .inr ?_, h3⟩
  rw [List.map_append, Lib.byteCells_append]
  have e : Lib.byteCells ([c].map UInt8.ofNat) = [.int .u8 (c : Int)] := by
    simp only [List.map_cons, List.map_nil, Lib.byteCells, UInt8.toNat_ofNat_of_lt' hc]
  rw [e]
  exact h2

theorem BldJ.str {w : World} {b : Nat} {l : List Nat} (h : BldJ w b l) (t : List Nat) (ht : t.length ≤ 100000000) (hl : l.length ≤ 100000000) (hb : b ≤ w.heap.size) :
    Calls Tryz.prog 59 #[.pointer (some ⟨b, 0, none⟩), .string (str t)] w fun e w' => e = .returned (.tuple #[.int .i64 t.length, .nilIface]) ∧ BldJ w' b (l ++ t) ∧ Below b w w' := by
  have hsz := str_size t
  refine (writeString_in b b _ (Go.Proofs.YtiaaefapbcjgmaaGreatDoor.str t) w h (by rw [Lib.byteCells_length, List.length_map]; omega) hb).mono ?_
  rintro e w' ⟨h1, h2, h3⟩
  rw [hsz] at h1
  refine ⟨h1, .inr ?_, h3⟩
  rw [List.map_append, Lib.byteCells_append]
  exact h2
end Go.Proofs.YtiaaefapbcjgmaaGreatDoor
namespace Go.Proofs.YtiaaefapbcjgmaaGreatDoor
open Go.RowKit

theorem bin_60 {n : Nat} (h : n ≤ 60) (k : Nat) : bin n k ≤ 1152921504606846976 := Nat.le_trans (bin_le n k) (Nat.le_trans (Nat.pow_le_pow_right (by omega) h) (by decide))

theorem gcdU_le (f : Nat → Nat) (m : Nat) (h : ∀ i, i < m → 0 < f i) (hl : ∀ i, i < m → f i ≤ 1152921504606846976) : gcdU f m ≤ 1152921504606846976 := by
  cases m with
  | zero => exact Nat.zero_le _
  | succ m =>
    show Nat.gcd (gcdU f m) (f m) ≤ _
    exact Nat.le_trans (Nat.le_of_dvd (h m (by omega)) (Nat.gcd_dvd_right _ _)) (hl m (by omega))
end Go.Proofs.YtiaaefapbcjgmaaGreatDoor
namespace Go.Proofs.YtiaaefapbcjgmaaGreatDoor
open Go.RowKit Go.Shelf
attribute [local go_sem] Oper.semAt_some

set_option maxHeartbeats 1000000 in
theorem two_in (a b : Nat) (ha : a ≤ 4000000000000000000) (hb : b ≤ 4000000000000000000) (w : World) : Calls Tryz.prog 221 #[.int .i64 a, .int .i64 b] w fun e w' => e = .returned (.int .i64 (Nat.gcd a b : Nat)) ∧ Below w.heap.size w w' := by
  obtain ⟨G, hG⟩ : ∃ G, Nat.gcd a b = G := ⟨_, rfl⟩
  rw [hG]
  have hG' := hide hG
  clear hG
  go_enter Tryz.func221, Tryz.ntmps221
  go_wp2
  go_loopw [0, 1] (fun s t wr => ∃ x y : Nat, s = .int .i64 x ∧ t = .int .i64 y ∧ x ≤ 4000000000000000000 ∧ y ≤ 4000000000000000000 ∧ Hid (Nat.gcd x y = G) ∧ Below w.heap.size w wr) (fun _ t _ => (intOf t).toNat)
  case atStart => exact ⟨a, b, rfl, rfl, ha, hb, hG', Below.refl _ _⟩
  case round =>
    clear hG' ha hb
    obtain ⟨x, y, rfl, rfl, hx, hy, hg, hB⟩ := hrel
    by_cases h0 : 0 < y
    · have hq := tmod_n x y
      have hr := Nat.mod_lt x h0
      have hg' : Hid (Nat.gcd y (x % y) = G) := hide (by rw [← hg.out, Nat.gcd_comm x y, Nat.gcd_rec y x, Nat.gcd_comm])
      generalize x % y = r at *
      have hw1 : IntKind.i64.wrap (r : Int) = r := IntWalk.i64_in _ (by omega)
      have hy0 : ((y : Int) == 0) = false := by simp; omega
      clear hg
      go_wp2
      go_quiet (fail)
      go_wp2
      go_roundw
      case rel => exact ⟨y, r, rfl, rfl, hy, by omega, hg', ⟨hB.os, hB.tape, hB.output, hB.size, hB.block⟩⟩
      case measure => simp [intOf]; omega
    · obtain rfl : y = 0 := by omega
      have hg2 := hg.out
      rw [Nat.gcd_zero_right] at hg2
      subst hg2
      clear hg
      go_wp2
      go_ret
      exact ⟨rfl, hB⟩

/-- What is known while an iterator hands out the numbers f 0, f 1, .. -/
def NumHd (n : Nat) (_n0 : Nat) (pre : List Nat) (x : Nat) (_W : World) : Prop := pre = List.range x ∧ x < n

def NumS (n : Nat) (_n0 : Nat) (xs : List Nat) (_W : World) : Prop := xs = List.range n

set_option maxRecDepth 100000 in
set_option maxHeartbeats 1000000 in
theorem vals_stops (n B g off L cap : Nat) (f : Nat → Int) (hL : L ≤ 1000000) (hn : 1 ≤ n) (w : World) (hB : B < w.heap.size) (hg : g < w.heap.size)
    (hc : w.cell? ⟨B, 0, none⟩ = some (.slice (some ⟨g, off, none⟩) L cap)) (hv : ∀ i, i < L → w.cell? ⟨g, off + i, none⟩ = some (.int .i64 (f i))) :
    SeqMem Fence.wide n Tryz.prog 241 #[.pointer (some ⟨B, 0, none⟩)] 0 (fun _ (j : Nat) => #[.int .i64 (f j)])
      (NumHd L) (fun _ k => k = g) (NumS L) (fun _ _ _ => True) w := by
  intro l J Jx W hW hJ hJx hY h0
  have hc' := (hW.cell (p := ⟨B, 0, none⟩) hB).trans hc
  have hv' : ∀ i, i < L → W.cell? ⟨g, off + i, none⟩ = some (.int .i64 (f i)) := fun i hi => (hW.cell (p := ⟨g, off + i, none⟩) hg).trans (hv i hi)
  have hgW : g < W.heap.size := Nat.lt_of_lt_of_le hg hW.size
  clear hc hv
  refine callsIn_of_wp Tryz.func241 rfl trivial ?_ rfl
  simp only [Tryz.ntmps241, List.size_toArray, List.length_cons, List.length_nil, Nat.reduceAdd, Nat.reduceSub, Array.replicate_succ, Array.replicate_zero, List.push_toArray, List.append_toArray, List.nil_append, List.cons_append]
  gi_wp2
  clear hc'
  gi_loopw [7] (fun i wr => ∃ j : Nat, j ≤ L ∧ i = .int .i64 (j : Int) ∧ J (List.range j) wr ∧ g < wr.heap.size ∧ ∀ i, i < L → wr.cell? ⟨g, off + i, none⟩ = some (.int .i64 (f i))) (fun i _ => L - (intOf i).toNat)
  case atStart => exact ⟨0, by omega, rfl, h0, hgW, hv'⟩
  case round =>
    clear hv' h0
    obtain ⟨j, hj, rfl, hJs, hgr, hvr⟩ := hrel
    by_cases hlt : j < L
    · have hi1 : (j : Int) < (L : Int) := by omega
      have hcj := hvr j hlt
      obtain ⟨z, hz⟩ : ∃ z, f j = z := ⟨_, rfl⟩
      obtain ⟨fn, tmps, assign, body, hy, hR⟩ := hY _ j wr hJs ⟨rfl, hlt⟩
      rw [hz] at hcj hy
      clear hY
      gi_wp2
      refine hR.mono ?_
      rintro e W3 (⟨rfl, hJ3, hk3⟩ | ⟨rfl, hJx3, hk3⟩)
      · have hc3 : ∀ i, i < L → W3.cell? ⟨g, off + i, none⟩ = some (.int .i64 (f i)) := fun i hi => (World.cell?_of_block (a := ⟨g, off + i, none⟩) (hk3.same g hgr rfl)).trans (hvr i hi)
        clear hvr hcj
        gi_wp2
        go_roundw
        case rel => exact ⟨j + 1, by omega, by go_num, by rw [List.range_succ]; exact hJ3, Nat.lt_of_lt_of_le hgr hk3.size, hc3⟩
        case measure => simp [intOf]; omega
      · gi_wp2
        refine bodyPost_ret (results_none rfl _ _ _) rfl ?_
        exact ⟨⟨_, rfl⟩, .inr ⟨_, trivial, hJx3⟩⟩
    · obtain rfl : j = L := by omega
      have hi1 : ¬ (j : Int) < (j : Int) := by omega
      clear hvr
      gi_wp2
      go_end0
      exact ⟨⟨_, rfl⟩, .inl ⟨_, rfl, hJs⟩⟩

theorem second_in (u v : Value) (w : World) : Calls Tryz.prog 223 #[u, v] w fun e w' => e = .returned v ∧ w = w' := by
  go_enter Tryz.func223, Tryz.ntmps223
  go_wp2
  go_ret
  exact ⟨rfl, rfl⟩

set_option maxRecDepth 100000 in
set_option maxHeartbeats 1000000 in
theorem foldRows_in (r B : Nat) (hr : r ≤ 60) (w : World) (hB0 : B < w.heap.size) (hc0 : w.cell? ⟨B, 0, none⟩ = some (.int .i64 r)) :
    Calls Tryz.prog 222 #[.func (.func 182) #[] #[.pointer (some ⟨B, 0, none⟩)], .slice none 0 0, .func (.func 223) #[] #[]] w fun e w' =>
      ∃ g, e = .returned (.slice (some ⟨g, 0, none⟩) (r + 1) (r + 1)) ∧ RowAt w' g (r + 1) (fun i => (bin r i : Int)) ∧ w.heap.size ≤ g ∧ Below w.heap.size w w' := by
  refine (callsIn_wide (n := 9)).1 ?_
  refine callsIn_of_wp_marks Tryz.func222 rfl trivial ?_ rfl
  simp only [Tryz.ntmps222, List.size_toArray, List.length_cons, List.length_nil, Nat.reduceAdd, Nat.reduceSub, Array.replicate_succ, Array.replicate_zero, List.push_toArray, List.append_toArray, List.nil_append, List.cons_append]
  gi_wp2
  obtain ⟨W0, hW0⟩ : ∃ W0, ((w.alloc (Obj.cells #[Value.slice none 0 0] 28)).alloc (Obj.cells #[Value.func (.func 223) #[] #[]] 217)) = W0 := ⟨_, rfl⟩
  have hsz1 : W0.heap.size ≤ w.heap.size + 2 := by rw [← hW0]; simp
  have hsz2 : w.heap.size + 2 ≤ W0.heap.size := by rw [← hW0]; simp
  have hbs : Boxed W0 w.heap.size 28 (.slice none 0 0) := by rw [← hW0]; exact (Boxed.new w _ _).alloc _
  have hbj : Boxed W0 (w.heap.size + 1) 217 (.func (.func 223) #[] #[]) := by rw [← hW0]; have := Boxed.new (w.alloc (Obj.cells #[Value.slice none 0 0] 28)) 217 (.func (.func 223) #[] #[]); rwa [World.size_alloc] at this
  have hbel : Below w.heap.size w W0 := by rw [← hW0]; exact ((Below.refl _ w).alloc (Nat.le_refl _) _).alloc (by simp) _
  rw [hW0]
  clear hW0
  refine wpIn_rangeFunc_mem rfl (by omega) (gf := 182) (lb := #[.pointer (some ⟨B, 0, none⟩)]) rfl trivial (enters_of Tryz.func182 (by kernel_rfl) rfl)
    (rows_stops (9 - 1) B r hr (by omega) W0 (by omega) ((hbel.cell (p := ⟨B, 0, none⟩) hB0).trans hc0)) (fun _ _ => rfl) (by omega)
    (fun pre x W o h => ⟨h.1, h.2.1, h.2.2.of_block (World.putObj_heap_other (by omega))⟩) (fun xs W o h => ⟨h.1, h.2.of_block (World.putObj_heap_other (by omega))⟩)
    (fun pre W o h => by obtain ⟨j, h1, h2, h3⟩ := h; exact ⟨j, h1, h2, h3.of_block (World.putObj_heap_other (by omega))⟩)
    (fun pre W => Boxed W w.heap.size 28 (lastV (W0.heap.size + 2) pre.length (r + 1)) ∧ Boxed W (w.heap.size + 1) 217 (.func (.func 223) #[] #[]) ∧ Below w.heap.size w W) (fun _ _ _ => False)
    (fun s A B row hs hg hr => ⟨hs.1.kept hg (fun e => by have := hr _ e.symm; omega), hs.2.1.kept hg (fun e => by have := hr _ e.symm; omega), hs.2.2.grown hg hs.2.2.size (fun k e => by have := hr _ e; omega)⟩)
    (fun _ _ _ _ _ hs _ _ => hs) ⟨hbs, hbj, hbel⟩
    (fun x => { tmps := #[.func (.func 182) #[] #[.pointer (some ⟨B, 0, none⟩)], .slice none 0 0, .func (.func 223) #[] #[], undef, .pointer (some ⟨w.heap.size, 0, none⟩), .pointer (some ⟨w.heap.size + 1, 0, none⟩), .slice none 0 0, .slice (some ⟨W0.heap.size + 2, 0, none⟩) (x + 1) (r + 1), .func (.func 182) #[] #[.pointer (some ⟨B, 0, none⟩)], .slice (some ⟨W0.heap.size + 2, 0, none⟩) (x + 1) (r + 1), undef, undef, undef, undef, undef], defers := [] }) ?assign ?body ?done ?stop
  case assign =>
    intro l x W K hK
    gi_wp2
    exact hK
  case body =>
    rintro l pre x W hlt ⟨hb, hbjj, hB⟩ ⟨hpre, hx, hrow⟩
    have hc := hb.cell
    have hf := hb.frozen
    have hcj := hbjj.cell
    gi_wp2_with (refine ⟨trivial, ?_⟩; gi_at_call 223; refine (callsIn_wide.2 (second_in _ _ _)).mono ?_; rintro e w1 ⟨rfl, rfl⟩)
    refine ⟨KeepsSet.setCell _ _ _ (by omega), ?_, hbjj.other (by omega) _, hB.setCell (p := ⟨w.heap.size, 0, none⟩) (Nat.le_refl _) _⟩
    have := hb.set (.slice (some ⟨W0.heap.size + 2, 0, none⟩) (x + 1) (r + 1))
    rw [show lastV (W0.heap.size + 2) (pre ++ [x]).length (r + 1) = .slice (some ⟨W0.heap.size + 2, 0, none⟩) (x + 1) (r + 1) by subst hpre; simp [lastV]]
    exact this
  case done =>
    rintro ys W ⟨rfl, hrow⟩ ⟨hb, hbjj, hB⟩ hK
    rw [show lastV (W0.heap.size + 2) (List.range (r + 1)).length (r + 1) = .slice (some ⟨W0.heap.size + 2, 0, none⟩) (r + 1) (r + 1) by simp [lastV]] at hb
    have hc := hb.cell
    gi_wp2
    refine ⟨by simp, .inl ⟨_, _, rfl, run_takeDeferred hK, ?_⟩⟩
    refine ⟨_, results_tmp rfl _ _ _, W0.heap.size + 2, rfl, hrow.of_block (World.putObj_heap_other (by omega)), by omega, ?_⟩
    exact hB.grown (grownBy_putObj' W _ _) hB.size (fun k e => by cases e; omega)
  case stop =>
    rintro c pre W _ h _
    exact h.elim

set_option maxHeartbeats 1000000 in
theorem lastRow_in (r : Nat) (hr : r ≤ 60) (w : World) : Calls Tryz.prog 197 #[.int .i64 r] w fun e w' =>
    ∃ g, e = .returned (.slice (some ⟨g, 0, none⟩) (r + 1) (r + 1)) ∧ RowAt w' g (r + 1) (fun i => (bin r i : Int)) ∧ Below w.heap.size w w' := by
  have hF : Calls Tryz.prog 222 #[.func (.func 182) #[] #[.pointer (some ⟨w.heap.size, 0, none⟩)], .slice none 0 0, .func (.func 223) #[] #[]] (w.alloc (.cells #[.int .i64 r] 3)) fun e w' =>
      ∃ g, e = .returned (.slice (some ⟨g, 0, none⟩) (r + 1) (r + 1)) ∧ RowAt w' g (r + 1) (fun i => (bin r i : Int)) ∧ Below w.heap.size w w' :=
    (foldRows_in r w.heap.size hr _ (by simp) (Boxed.new w 3 (.int .i64 r)).cell).mono fun e w' ⟨g, h1, h2, _, h4⟩ =>
      ⟨g, h1, h2, ((Below.refl _ w).alloc (Nat.le_refl _) _).trans (h4.mono (by simp))⟩
  go_enter Tryz.func197, Tryz.ntmps197
  go_wp2_with (first | (go_at_call 145; refine (rowsTo_in _ _).mono ?_; rintro e w' ⟨rfl, rfl⟩) | (go_at_call 222; refine hF.mono ?_; rintro e w2 ⟨g, rfl, hrow, hB⟩))
  go_ret
  exact ⟨g, rfl, hrow, hB⟩

theorem values_in (a : Option Addr) (l c : Nat) (w : World) : Calls Tryz.prog 220 #[.slice a l c] w fun e w' => e = .returned (.func (.func 241) #[] #[.pointer (some ⟨w.heap.size, 0, none⟩)]) ∧ w.alloc (.cells #[.slice a l c] 28) = w' := by
  have hmf : ∀ (fn : Fn) (first cap : Array Value) (w : World), (Instr.makeFunc fn first cap).run Tryz.prog w = .ok (.func fn first cap) w := fun _ _ _ _ => rfl
  go_enter Tryz.func220, Tryz.ntmps220
  go_wp2
  go_ret
  exact ⟨rfl, rfl⟩
end Go.Proofs.YtiaaefapbcjgmaaGreatDoor
namespace Go.Proofs.YtiaaefapbcjgmaaGreatDoor
open Go.RowKit Go.Shelf

set_option maxHeartbeats 1000000 in
theorem implWaysOf (up : Int) (w : World) : Calls Tryz.prog 164 #[.int .i64 up] w fun e w' => e = .returned (.int .i64 (waysV up)) ∧ Below w.heap.size w w' := by
  by_cases hbad : up < 0 ∨ 30 < up
  · rw [waysV_bad hbad]
    go_enter Tryz.func164, Tryz.ntmps164
    go_wp2_with (go_at_call 55; refine (within_f _ _ _ (by omega)).mono ?_; rintro e w' ⟨rfl, rfl⟩)
    go_ret
    exact ⟨rfl, Below.refl _ _⟩
  · obtain ⟨u, rfl⟩ : ∃ u : Nat, up = u := ⟨up.toNat, by omega⟩
    have hu : u ≤ 30 := by omega
    have hv := hide (waysV_nat hu)
    have hC : ∀ w, Calls Tryz.prog 63 #[.int .i64 (2 * (u : Int)), .int .i64 u] w fun e w' => e = .returned (.int .i64 (bin (2 * u) u : Nat)) ∧ Below w.heap.size w w' := fun w => by
      have h := implCell ((2 * u : Nat) : Int) u w
      rwa [cellV_nat (by omega), show ((2 * u : Nat) : Int) = 2 * (u : Int) by omega] at h
    have hb := bin_le (2 * u) u
    have hb2 : (2 : Nat) ^ (2 * u) ≤ 1152921504606846976 := Nat.le_trans (Nat.pow_le_pow_right (by omega) (show 2 * u ≤ 60 by omega)) (by decide)
    have hq := tdiv_n (bin (2 * u) u) (u + 1)
    have hc : bin (2 * u) u / (u + 1) = catN u := rfl
    have hd := Nat.div_le_self (bin (2 * u) u) (u + 1)
    rw [hc] at hq hd
    have hq' : Int.tdiv ((bin (2 * u) u : Nat) : Int) ((u : Int) + 1) = (catN u : Int) := hq
    generalize bin (2 * u) u = B at *
    generalize catN u = C at *
    have hw1 : IntKind.i64.wrap (C : Int) = C := IntWalk.i64_in _ (by omega)
    have hz : ((u : Int) + 1 == 0) = false := by simp; omega
    clear hbad hc hq
    go_enter Tryz.func164, Tryz.ntmps164
    go_wp2_with (first | (go_at_call 55; refine (within_t _ _ _ (by omega) (by omega)).mono ?_; rintro e w' ⟨rfl, rfl⟩) | (go_at_call 63; (with_reducible refine (hC _).mono ?_); rintro e w1 ⟨rfl, hB⟩))
    go_ret
    exact ⟨ret_int hv.out.symm, hB⟩
end Go.Proofs.YtiaaefapbcjgmaaGreatDoor
namespace Go.Proofs.YtiaaefapbcjgmaaGreatDoor
open Go.RowKit Go.Shelf
attribute [local go_sem] Oper.semAt_some

/-- A variable of one cell is read. -/
theorem loadVar_box {t : TypeId} {B : Nat} {v : Value} {w : World} (ht : (match Tryz.prog.underlying t with | some (.struct _) | some (.array _ _) => false | some _ => true | none => false) = true) (hb : Boxed w B t v) :
    (loadVar t ⟨B, 0, none⟩).run Tryz.prog w = .ok v w := by
  have hc := hb.cell
  have ha : (isAgg t).run Tryz.prog w = .ok false w := by
    unfold isAgg
    cases hu : Tryz.prog.underlying t with
    | none => rw [hu] at ht; cases ht
    | some d =>
      rw [Sem.run_bind, run_underlying hu w]
      rw [hu] at ht
      cases d <;> simp_all [Result.andThen]
  simp [loadVar, Sem.run_bind, ha, Result.andThen, hc]

theorem results_two {fn : Func} {p q : Tmp} {t u : TypeId} (h : fn.results = #[.cell p t, .cell q u]) (tmps : Array Value) (w : World) {B C : Nat} {v z : Value} (hp : tmps.getD p undef = .pointer (some ⟨B, 0, none⟩)) (hq : tmps.getD q undef = .pointer (some ⟨C, 0, none⟩))
    (hB : (loadVar t ⟨B, 0, none⟩).run Tryz.prog w = .ok v w) (hC : (loadVar u ⟨C, 0, none⟩).run Tryz.prog w = .ok z w) : (results fn tmps).run Tryz.prog w = .ok (.tuple #[v, z]) w := by
  have hp' : tmps[p]?.getD undef = .pointer (some ⟨B, 0, none⟩) := by simpa using hp
  have hq' : tmps[q]?.getD undef = .pointer (some ⟨C, 0, none⟩) := by simpa using hq
  simp [results, h, hp', hq', asAddr, hB, hC, Sem.run_bind, Result.andThen]

theorem box_at {W : World} {k : Nat} (t : TypeId) (v : Value) (h : W.heap.size = k) : Boxed (W.alloc (.cells #[v] t)) k t v := h ▸ Boxed.new W t v

theorem box_two {W : World} {B C : Nat} {t u : TypeId} {v z : Value} (hB : Boxed W B t v) (hC : Boxed W C u z) (h : B ≠ C) (v' z' : Value) :
    Boxed ((W.setCell ⟨B, 0, none⟩ v').setCell ⟨C, 0, none⟩ z') B t v' ∧ Boxed ((W.setCell ⟨B, 0, none⟩ v').setCell ⟨C, 0, none⟩ z') C u z' :=
  ⟨(hB.set v').kept (grown_cell _ _ _ _) (by simp; exact h), (hC.kept (grown_cell W B 0 v') (by simp; exact fun e => h e.symm)).set z'⟩

theorem box_int (B : Nat) (v : Value) {w : World} (hb : Boxed w B 3 v) : (loadVar 3 ⟨B, 0, none⟩).run Tryz.prog w = .ok v w := loadVar_box (by kernel_rfl) hb

theorem box_bool (B : Nat) (v : Value) {w : World} (hb : Boxed w B 4 v) : (loadVar 4 ⟨B, 0, none⟩).run Tryz.prog w = .ok v w := loadVar_box (by kernel_rfl) hb

/-- A ring that is not one. -/
theorem implEnd_no (v : Value) (xs : List Int) (w : World) (hv : Ints w v xs) (hl : xs.length ≤ 10000000) (hs : ringB xs = false) : Calls Tryz.prog 161 #[v] w fun e w' => e = .returned (.tuple #[.int .i64 (-1), .bool false]) ∧ Below w.heap.size w w' := by
  have hB0 : Below w.heap.size w ((w.alloc (.cells #[.int .i64 0] 3)).alloc (.cells #[.bool false] 4)) := ((Below.refl _ w).alloc (Nat.le_refl _) _).alloc (by simp) _
  have h2 : Boxed ((w.alloc (.cells #[.int .i64 0] 3)).alloc (.cells #[.bool false] 4)) w.heap.size 3 (.int .i64 0) := (Boxed.new w _ _).alloc _
  have h3 : Boxed ((w.alloc (.cells #[.int .i64 0] 3)).alloc (.cells #[.bool false] 4)) (w.heap.size + 1) 4 (.bool false) := box_at _ _ (by simp)
  have hS := implRing v xs _ (hv.below hB0) (by omega)
  rw [hs] at hS
  clear hv
  go_enter Tryz.func161, Tryz.ntmps161
  go_wp2_with (go_at_call 174; refine hS.mono ?_; clear hS; go_loud (rintro e w1 ⟨rfl, hB1⟩; have hx2 : Boxed w1 w.heap.size 3 (.int .i64 0) := (hB1.block _ h2.lt).trans h2; have hx3 : Boxed w1 (w.heap.size + 1) 4 (.bool false) := (hB1.block _ h3.lt).trans h3; have c2 := hx2.cell; have c3 := hx3.cell; have f2 := hx2.frozen; have f3 := hx3.frozen))
  obtain ⟨k2, k3⟩ := box_two hx2 hx3 (by omega) (.int .i64 (-1)) (.bool false)
  refine bodyPost_ret (results_two rfl _ _ rfl rfl (box_int _ _ k2) (box_bool _ _ k3)) rfl ⟨rfl, ?_⟩
  exact ((hB0.trans (hB1.mono hB0.size)).setCell (p := ⟨w.heap.size, 0, none⟩) (Nat.le_refl _) _).setCell (p := ⟨w.heap.size + 1, 0, none⟩) (by show w.heap.size ≤ w.heap.size + 1; omega) _

theorem cz_small {f : Nat → Nat} (hf : ∀ k, f k ≤ 100) (n : Nat) (i : Nat) (_ : i < 8) : cz f n i ≤ 1000000 := by
  unfold cz
  split
  · have := hf i; omega
  · omega

theorem cz_zero (f : Nat → Nat) (n x : Nat) (hn : n ≤ 8) : (∀ i, i < 8 → cz (dR f x) n i = 0) ↔ zeroB f n x = true := by
  rw [zeroB_iff]
  refine ⟨fun h j hj => ?_, fun h i _ => ?_⟩
  · have := h j (by omega)
    rwa [cz_in hj] at this
  · unfold cz
    split
    · exact h i (by assumption)
    · rfl

set_option maxRecDepth 100000 in
set_option maxHeartbeats 1000000 in
theorem implEnd_in (v : Value) (xs : List Int) (w : World) (hv : Ints w v xs) (hs : ringB xs = true) : Calls Tryz.prog 161 #[v] w fun e w' => e = .returned (.tuple #[.int .i64 (endI xs), .bool (endB xs)]) ∧ Below w.heap.size w w' := by
  have hlen := ringB_len hs
  have hB0 : Below w.heap.size w ((w.alloc (.cells #[.int .i64 0] 3)).alloc (.cells #[.bool false] 4)) := ((Below.refl _ w).alloc (Nat.le_refl _) _).alloc (by simp) _
  have h2 : Boxed ((w.alloc (.cells #[.int .i64 0] 3)).alloc (.cells #[.bool false] 4)) w.heap.size 3 (.int .i64 0) := (Boxed.new w _ _).alloc _
  have h3 : Boxed ((w.alloc (.cells #[.int .i64 0] 3)).alloc (.cells #[.bool false] 4)) (w.heap.size + 1) 4 (.bool false) := box_at _ _ (by simp)
  have hS := implRing v xs _ (hv.below hB0) (by omega)
  rw [hs] at hS
  have hO := fun w1 (hB : Below w.heap.size w w1) => circleOf_in v xs w1 (hv.below hB) hs
  have hf := ringF_le hs
  have hp := ringF_per (xs := xs)
  have hsome : ∀ r, r ≤ 2000 → zeroB (ringF xs) xs.length r = true → (∀ j, j < r → zeroB (ringF xs) xs.length j = false) → endI xs = r ∧ endB xs = true := fun r h1 h2 h3 => by
    have : endN xs = some r := by unfold endN; rw [if_pos hs, firstI_some]; exact ⟨by omega, h2, h3⟩
    unfold endI endB; rw [this]; exact ⟨rfl, rfl⟩
  have hnone : (∀ j, j < 2001 → zeroB (ringF xs) xs.length j = false) → endI xs = -1 ∧ endB xs = false := fun h => by
    have : endN xs = none := by unfold endN; rw [if_pos hs, firstI_none]; exact h
    unfold endI endB; rw [this]; exact ⟨rfl, rfl⟩
  have hsome' := hide hsome
  have hnone' := hide hnone
  clear hv hs hsome hnone
  generalize endI xs = I at *
  generalize endB xs = E at *
  generalize ringF xs = f at *
  generalize xs.length = n at *
  refine (callsIn_wide (n := 9)).1 ?_
  refine callsIn_of_wp_marks Tryz.func161 rfl trivial ?_ rfl
  simp only [Tryz.ntmps161, List.size_toArray, List.length_cons, List.length_nil, Nat.reduceAdd, Nat.reduceSub, Array.replicate_succ, Array.replicate_zero, List.push_toArray, List.append_toArray, List.nil_append, List.cons_append]
  have hD := fun w => roundsTo_in (cz f n) n 2000 w
  gi_wp2_with (first
    | (refine ⟨trivial, ?_⟩; gi_at_call 174; refine (callsIn_wide.2 hS).mono ?_; clear hS; go_loud (rintro e w1 ⟨rfl, hB1⟩; have hB1' := hB0.trans (hB1.mono hB0.size)))
    | (refine ⟨trivial, ?_⟩; gi_at_call 175; refine (callsIn_wide.2 (hO _ hB1')).mono ?_; clear hO; rintro e w4 ⟨rfl, hB4⟩)
    | (refine ⟨trivial, ?_⟩; gi_at_call 194; refine (callsIn_wide.2 (hD _)).mono ?_; clear hD; rintro e w' ⟨rfl, rfl⟩))
  obtain ⟨W0, hW0⟩ : ∃ W0, (w4.alloc (Obj.cells (crA (cz f n) n) 158)).alloc (Obj.cells #[Value.int IntKind.i64 2000] 3) = W0 := ⟨_, rfl⟩
  have hC0 : CrAt W0 w4.heap.size (cz f n) n := by rw [← hW0]; exact (CrAt.new w4 _ _).alloc _
  have hL0 : Boxed W0 (w4.heap.size + 1) 3 (.int .i64 (2000 : Nat)) := by
    rw [← hW0]
    have := Boxed.new (w4.alloc (Obj.cells (crA (cz f n) n) 158)) 3 (.int .i64 2000)
    rwa [World.size_alloc] at this
  have k2 : Boxed W0 w.heap.size 3 (.int .i64 0) := by
    rw [← hW0]
    have h12 : Boxed w1 w.heap.size 3 (.int .i64 0) := (hB1.block _ h2.lt).trans h2
    have h42 : Boxed w4 w.heap.size 3 (.int .i64 0) := (hB4.block _ h12.lt).trans h12
    exact (h42.alloc _).alloc _
  have k3 : Boxed W0 (w.heap.size + 1) 4 (.bool false) := by
    rw [← hW0]
    have h12 : Boxed w1 (w.heap.size + 1) 4 (.bool false) := (hB1.block _ h3.lt).trans h3
    have h42 : Boxed w4 (w.heap.size + 1) 4 (.bool false) := (hB4.block _ h12.lt).trans h12
    exact (h42.alloc _).alloc _
  have hBx : Below w.heap.size w w4 := hB1'.trans (hB4.mono hB1'.size)
  have hB0' : Below w.heap.size w W0 := by rw [← hW0]; exact (hBx.alloc hBx.size _).alloc (by simp; have := hBx.size; omega) _
  have hsz0 : w4.heap.size + 1 < W0.heap.size := by rw [← hW0]; simp
  have hlt3 : w.heap.size + 1 < W0.heap.size := k3.lt
  rw [hW0]
  clear hW0 hB4 hBx hB1 hB1' hB0 h2 h3
  generalize w4.heap.size = C at *
  refine wpIn_rangeFunc_box rfl (by omega) (gf := 218) (lb := #[.pointer (some ⟨C, 0, none⟩), .pointer (some ⟨C + 1, 0, none⟩)]) rfl trivial (enters_of Tryz.func218 (by kernel_rfl) rfl)
    (rounds_stops (9 - 1) C (C + 1) 2000 n f (by omega) hlen.1 hlen.2 hf hp (by omega) W0 hC0 hL0) (fun _ _ => rfl) (by omega)
    (fun ys W o h => h) (fun pre W o h => h)
    (fun pre W => Boxed W w.heap.size 3 (.int .i64 0) ∧ Boxed W (w.heap.size + 1) 4 (.bool false) ∧ Hid (∀ j ∈ pre, zeroB f n j = false) ∧ Below w.heap.size w W)
    (fun c pre W => ∃ r : Nat, c = .ret ∧ Boxed W w.heap.size 3 (.int .i64 r) ∧ Boxed W (w.heap.size + 1) 4 (.bool true) ∧ Hid (r ≤ 2000 ∧ zeroB f n r = true ∧ ∀ j, j < r → zeroB f n j = false) ∧ Below w.heap.size w W)
    (fun s A B' row hs hg hr => ⟨hs.1.kept hg (fun e => by have := hr _ e.symm; omega), hs.2.1.kept hg (fun e => by have := hr _ e.symm; omega), hs.2.2.1, hs.2.2.2.grown hg hs.2.2.2.size (fun k e => by have := hr _ e; omega)⟩)
    (fun c s A B' row hs hg hr => by
      obtain ⟨r, h1, h2, h3, h4, h5⟩ := hs
      exact ⟨r, h1, h2.kept hg (fun e => by have := hr _ e.symm; omega), h3.kept hg (fun e => by have := hr _ e.symm; omega), h4, h5.grown hg h5.size (fun k e => by have := hr _ e; omega)⟩) ⟨k2, k3, hide (by simp), hB0'⟩
    (fun pre x b W => ∃ k, b = { tmps := #[v, undef, .pointer (some ⟨w.heap.size, 0, none⟩), .pointer (some ⟨w.heap.size + 1, 0, none⟩), .int .i64 x, .pointer (some ⟨k, 0, none⟩), v, .bool true, .bool false, v, crV (cz f n) n,
      .func (.func 218) #[] #[.pointer (some ⟨C, 0, none⟩), .pointer (some ⟨C + 1, 0, none⟩)], .int .i64 x, crV (cz (dR f x) n) n, undef, undef, undef], defers := [] } ∧ (CrAt W k (cz (dR f x) n) n ∧ (Boxed W w.heap.size 3 (.int .i64 0) ∧ Boxed W (w.heap.size + 1) 4 (.bool false)) ∧ Below w.heap.size w W ∧ Hid (∀ j ∈ pre, zeroB f n j = false) ∧ Hid (pre = List.range x ∧ x ≤ 2000) ∧ W0.heap.size + 2 ≤ k))
    (fun pre x b W o ⟨k, hb, hO⟩ => ⟨k, hb, hO.1.of_block (World.putObj_heap_other (by have := hO.2.2.2.2.2; omega)), ⟨hO.2.1.1.kept (grownBy_putObj' W _ _) (by simp; omega), hO.2.1.2.kept (grownBy_putObj' W _ _) (by simp; omega)⟩, hO.2.2.1.grown (grownBy_putObj' W _ _) hO.2.2.1.size (fun k e => by cases e; omega), hO.2.2.2⟩) ?assign ?body ?done ?stop
  case assign =>
    rintro l pre x W Q' hlt ⟨hx2, hx3, hpz, hB⟩ ⟨hpre, hx⟩ hQ
    have hQ' := hide hQ
    clear hQ
    gi_wp2_with (refine store_crI rfl _ _ rfl W.heap.size _ _ rfl rfl (World.alloc_heap_new W _) rfl ?_; intro w6 hC6 hg6)
    have hgW := World.grownBy_alloc W (Obj.cells (crA (fun _ => 0) 0) 158) none
    have hg6' : (W.alloc (Obj.cells (crA (fun _ => 0) 0) 158)).grownBy w6 (some W.heap.size) := hg6
    exact hQ'.out _ _ ⟨Nat.le_trans hgW.size hg6'.size, fun q hq _ => (hg6'.block q (Nat.lt_of_lt_of_le hq hgW.size) (by simp; omega)).trans (hgW.block q hq (by simp))⟩
      ⟨W.heap.size, rfl, hC6, ⟨(hx2.kept hgW (by simp)).kept hg6' (by simp; omega), (hx3.kept hgW (by simp)).kept hg6' (by simp; omega)⟩, (hB.alloc hB.size _).grown hg6' (by simp; have := hB.size; omega) (fun _ e => by cases e; exact hB.size), hpz, hide ⟨hpre, hx⟩, by omega⟩
  case body =>
    rintro l pre x b W hlt ⟨k, rfl, hC, ⟨hx2, hx3⟩, hB, hpz, hpx, hk⟩
    have hE := fun V => ended_in (cz (dR f x) n) n (cz_small (hundred hf x) n) V
    have hzz := cz_zero f n x hlen.2
    have hzz' := hide hzz
    clear hzz
    cases hz : zeroB f n x with
    | true =>
      have hr := hide (show x ≤ 2000 ∧ zeroB f n x = true ∧ ∀ j, j < x → zeroB f n j = false from ⟨hpx.out.2, hz, fun j hj => hpz.out j (by rw [hpx.out.1]; simpa using hj)⟩)
      rw [hz] at hzz'
      clear hz
      gi_wp2_with (first
        | (refine load_crI rfl _ rfl k rfl hC ?_)
        | (refine ⟨trivial, ?_⟩; gi_at_call 195; refine (callsIn_wide.2 (hE _)).mono ?_; clear hE; go_loud (rintro e w6 ⟨⟨b, rfl, hb⟩, hB6⟩; obtain rfl : b = true := hb.2 (hzz'.out.2 (by simp)); clear hb; have k2 : Boxed w6 w.heap.size 3 (.int .i64 0) := (hB6.block _ hx2.lt).trans hx2; have k3 : Boxed w6 (w.heap.size + 1) 4 (.bool false) := (hB6.block _ hx3.lt).trans hx3; have c2 := k2.cell; have c3 := k3.cell; have f2 := k2.frozen; have f3 := k3.frozen)))
      obtain ⟨y2, y3⟩ := box_two k2 k3 (by omega) (.int .i64 x) (.bool true)
      exact ⟨⟨by simpa [World.setCell] using hB6.size, fun q hq _ => (Below.heap_setCell _ _ _ q (by simp; omega)).trans ((Below.heap_setCell _ _ _ q (by simp; omega)).trans (hB6.block q hq))⟩, x, rfl, y2, y3, hr,
        ((hB.trans (hB6.mono hB.size)).setCell (p := ⟨w.heap.size, 0, none⟩) (Nat.le_refl _) _).setCell (p := ⟨w.heap.size + 1, 0, none⟩) (by show w.heap.size ≤ w.heap.size + 1; omega) _⟩
    | false =>
      have hp' := hide (show ∀ j ∈ pre ++ [x], zeroB f n j = false from fun j hj => by
        rcases List.mem_append.1 hj with h | h
        · exact hpz.out j h
        · obtain rfl : j = x := by simpa using h
          exact hz)
      rw [hz] at hzz'
      simp only [Bool.false_eq_true] at hzz'
      clear hz
      gi_wp2_with (first
        | (refine load_crI rfl _ rfl k rfl hC ?_)
        | (refine ⟨trivial, ?_⟩; gi_at_call 195; refine (callsIn_wide.2 (hE _)).mono ?_; clear hE; go_loud (rintro e w6 ⟨⟨b, rfl, hb⟩, hB6⟩; obtain rfl : b = false := (by cases b; rfl; exact (hzz'.out.1 (hb.1 rfl)).elim); clear hb)))
      exact ⟨⟨hB6.size, fun q hq _ => hB6.block q hq⟩, (hB6.block _ hx2.lt).trans hx2, (hB6.block _ hx3.lt).trans hx3, hp', hB.trans (hB6.mono hB.size)⟩
  case done =>
    rintro ys W hys ⟨hx2, hx3, hpz, hB⟩ hK
    obtain rfl : ys = List.range 2001 := hys
    obtain ⟨rfl, rfl⟩ := hnone'.out fun j hj => hpz.out j (by simpa using hj)
    have hK0 := (Array.getElem?_eq_some_iff.1 hK).1
    have c2 := hx2.cell
    have c3 := hx3.cell
    have f2 := hx2.frozen
    have f3 := hx3.frozen
    gi_wp2
    obtain ⟨y2, y3⟩ := box_two hx2 hx3 (by omega) (.int .i64 (-1)) (.bool false)
    have hB2 := (hB.setCell (p := ⟨w.heap.size, 0, none⟩) (Nat.le_refl _) (.int .i64 (-1))).setCell (p := ⟨w.heap.size + 1, 0, none⟩) (by show w.heap.size ≤ w.heap.size + 1; omega) (.bool false)
    have hK2 : ((W.setCell ⟨w.heap.size, 0, none⟩ (.int .i64 (-1))).setCell ⟨w.heap.size + 1, 0, none⟩ (.bool false)).heap[W0.heap.size]? = some (.deferred (some [])) := (Below.heap_setCell _ _ _ _ (by simp; omega)).trans ((Below.heap_setCell _ _ _ _ (by simp; omega)).trans hK)
    refine ⟨by simp, .inl ⟨_, _, rfl, run_takeDeferred hK2, ?_⟩⟩
    refine ⟨_, results_two rfl _ _ rfl rfl (box_int _ _ (y2.kept (grownBy_putObj' _ _ _) (by simp; omega))) (box_bool _ _ (y3.kept (grownBy_putObj' _ _ _) (by simp; omega))), rfl, ?_⟩
    exact hB2.grown (grownBy_putObj' _ _ _) hB2.size (fun k e => by cases e; omega)
  case stop =>
    rintro cd pre W _ ⟨r, rfl, hx2, hx3, hr, hB⟩ hK
    obtain ⟨rfl, rfl⟩ := hsome'.out r hr.out.1 hr.out.2.1 hr.out.2.2
    gi_wp2
    refine ⟨by simp, .inl ⟨_, _, rfl, run_takeDeferred hK, ?_⟩⟩
    refine ⟨_, results_two rfl _ _ rfl rfl (box_int _ _ (hx2.kept (grownBy_putObj' _ _ _) (by simp; omega))) (box_bool _ _ (hx3.kept (grownBy_putObj' _ _ _) (by simp; omega))), rfl, ?_⟩
    exact hB.grown (grownBy_putObj' _ _ _) hB.size (fun k e => by cases e; omega)

theorem implEnd10 (v : Value) (xs : List Int) (w : World) (hv : Ints w v xs) (_hlies : Lies v) (hl : xs.length ≤ 10000000) : Calls Tryz.prog 161 #[v] w fun e w' => e = .returned (.tuple #[.int .i64 (endI xs), .bool (endB xs)]) ∧ Below w.heap.size w w' := by
  cases hs : ringB xs with
  | true => exact implEnd_in v xs w hv hs
  | false =>
    have h := implEnd_no v xs w hv hl hs
    have : endN xs = none := by unfold endN; rw [hs]; rfl
    unfold endI endB
    rw [this]
    exact h
end Go.Proofs.YtiaaefapbcjgmaaGreatDoor
namespace Go.Proofs.YtiaaefapbcjgmaaGreatDoor
open Go.RowKit Go.Maps

theorem keyI : Keyed Tryz.prog 3 := int_keyed Tryz.underlying3

theorem zeroI (w : World) : (zeroValue 3).run Tryz.prog w = .ok (.int .i64 0) w := by kernel_rfl

abbrev litI (z : Int) : Lit := .int .i64 z

abbrev datI (z : Int) : DataW Unit := .lit (.int .i64 z)

/-- A map of ints in block b that reads as D. -/
abbrev OwnM (w : World) (b n : Nat) (D : DataW Unit) : Prop := w.ownsMap Tryz.prog 3 (plainElem Tryz.prog 3) b n D

/-- The exponents of 1. -/
def exp0 : DataW Unit := ((((((DataW.map []).put (litI 2) (datI 0)).put (litI 3) (datI 0)).put (litI 5) (datI 0)).put (litI 7) (datI 0)).put (litI 11) (datI 0)).put (litI 13) (datI 0)

theorem exp0_eq : exp0 = .map [(litI 2, datI 0), (litI 3, datI 0), (litI 5, datI 0), (litI 7, datI 0), (litI 11, datI 0), (litI 13, datI 0)] := by rfl

/-- A number laid at a key: the run of it, as an equation. -/
theorem OwnM.update {w : World} {b n : Nat} {D : DataW Unit} (h : OwnM w b n D) (hn : n < 4000000000000000000) (p z : Int) (hp : (litI p).wf = true) (hz : (litI z).wf = true) :
    ∃ w', (Instr.mapUpdate 218 (.map (some b)) (.int .i64 p) (.int .i64 z)).run Tryz.prog w = .ok () w' ∧ OwnM w' b (n + 1) (D.put (litI p) (datI z)) ∧ w.grownBy w' (some b) :=
  World.ownsMap.update h keyI Tryz.underlying218 (by unfold maxLen; omega) (keyOf_int_mk Tryz.underlying3 hp) (plainElem_int Tryz.underlying3 hz)

set_option maxHeartbeats 1000000 in
theorem noExp (w : World) : Calls Tryz.prog 224 #[] w fun e w' => e = .returned (.map (some w.heap.size)) ∧ OwnM w' w.heap.size 6 exp0 ∧ Below w.heap.size w w' := by
  have hmm := @run_makeMap Tryz.prog
  have h0 : OwnM (w.alloc (.map #[] 0)) w.heap.size 0 (.map []) := World.ownsMap_made w Tryz.prog 3 (plainElem (H := Unit) Tryz.prog 3)
  have hB0 : Below w.heap.size w (w.alloc (.map #[] 0)) := (Below.refl _ w).alloc (Nat.le_refl _) _
  obtain ⟨w1, r1, h1, g1⟩ := h0.update (by omega) 2 0 (by decide) (by decide)
  obtain ⟨w2, r2, h2, g2⟩ := h1.update (by omega) 3 0 (by decide) (by decide)
  obtain ⟨w3, r3, h3, g3⟩ := h2.update (by omega) 5 0 (by decide) (by decide)
  obtain ⟨w4, r4, h4, g4⟩ := h3.update (by omega) 7 0 (by decide) (by decide)
  obtain ⟨w5, r5, h5, g5⟩ := h4.update (by omega) 11 0 (by decide) (by decide)
  obtain ⟨w6, r6, h6, g6⟩ := h5.update (by omega) 13 0 (by decide) (by decide)
  have hl : ∀ j, some w.heap.size = some j → w.heap.size ≤ j := fun j hj => by cases hj; exact Nat.le_refl _
  have hB1 := hB0.grown g1 hB0.size hl
  have hB2 := hB1.grown g2 hB1.size hl
  have hB3 := hB2.grown g3 hB2.size hl
  have hB4 := hB3.grown g4 hB3.size hl
  have hB5 := hB4.grown g5 hB4.size hl
  have hB6 := hB5.grown g6 hB5.size hl
  clear hB0 hB1 hB2 hB3 hB4 hB5 g1 g2 g3 g4 g5 g6 h0 h1 h2 h3 h4 h5 hl
  go_enter Tryz.func224, Tryz.ntmps224
  go_wp2
  go_ret
  exact ⟨rfl, h6, hB6⟩

theorem exp0_has (p : Int) : Maps.has exp0 (litI p) = prmI p := by
  rw [exp0_eq, Maps.has_eq]
  unfold prmI
  rw [Bool.eq_iff_iff]
  simp [Lit.sameKey]
  omega

theorem OwnM.look_ok {w : World} {b n : Nat} {D : DataW Unit} (h : OwnM w b n D) (p : Int) (hp : (litI p).wf = true) :
    ∃ c, (Instr.lookup 218 (.map (some b)) (.int .i64 p) true).run Tryz.prog w = .ok (.tuple #[.int .i64 c, .bool (Maps.has D (litI p))]) w := by
  obtain ⟨v, ps, h1, h2⟩ := World.ownsMap.look_ok h keyI Tryz.underlying218 (zeroI w) (plainElem_int Tryz.underlying3 (by decide)) (keyOf_int_mk Tryz.underlying3 hp)
  obtain ⟨c, rfl, _, _⟩ := plainElem_int_inv Tryz.underlying3 h2
  exact ⟨c, h1⟩

theorem fits_wf {p : Int} (h : Fits p) : (litI p).wf = true := WalkArith.wf_i64 h

theorem implPrime (p : Int) (hp : Fits p) (w : World) : Calls Tryz.prog 198 #[.int .i64 p] w fun e w' => e = .returned (.bool (prmI p)) ∧ Below w.heap.size w w' := by
  have hwf := fits_wf hp
  have hh := exp0_has p
  cases hv : prmI p
  all_goals
    rw [hv] at hh
    clear hv
    go_enter Tryz.func198, Tryz.ntmps198
    go_wp2_with fail
    go_at_call 224
    refine (noExp _).mono ?_
    rintro e w1 ⟨rfl, hown, hB⟩
    obtain ⟨c, hl⟩ := hown.look_ok p hwf
    rw [hh] at hl
    clear hh hown
    go_wp2
    go_ret
    exact ⟨rfl, hB⟩

theorem implPrime_is {p : Int} {b : Bool} (hp : Fits p) (h : prmI p = b) (w : World) : Calls Tryz.prog 198 #[.int .i64 p] w fun e w' => e = .returned (.bool b) ∧ Below w.heap.size w w' := h ▸ implPrime p hp w
end Go.Proofs.YtiaaefapbcjgmaaGreatDoor
namespace Go.Proofs.YtiaaefapbcjgmaaGreatDoor
open Go.RowKit

theorem implLeftIn (row p : Int) (hf : Fits p) (w : World) : Calls Tryz.prog 165 #[.int .i64 row, .int .i64 p] w fun e w' => e = .returned (.int .i64 (keepV row p)) ∧ Below w.heap.size w w' := by
  cases hpr : prmI p with
  | false =>
    have hP := fun w => implPrime_is hf hpr w
    rw [keepV_bad (show badK row p from .inr (.inr hpr))]
    clear hpr hf
    go_enter Tryz.func165, Tryz.ntmps165
    go_wp2_with (go_at_call 198; (with_reducible refine (hP _).mono ?_); rintro e w1 ⟨rfl, hB1⟩)
    go_ret
    exact ⟨rfl, hB1⟩
  | true =>
    have hP := fun w => implPrime_is hf hpr w
    obtain ⟨P, rfl, hp⟩ := prmI_t hpr
    have hC := fun w => implCount row P w
    have hcv : countV row P = keepV row P := by
      by_cases hbad : badK row P
      · rw [keepV_bad hbad]
        unfold badK at hbad
        refine countV_bad ?_
        unfold bad1
        rcases hbad with h | h | h
        · exact .inl h
        · exact .inr (.inl h)
        · rw [hpr] at h; cases h
      · obtain ⟨n, P', rfl, h2, hn, hp'⟩ := badK_nat hbad
        exact keepV_count hn hp
    rw [hcv] at hC
    clear hcv hpr hf
    go_enter Tryz.func165, Tryz.ntmps165
    go_wp2_with (first | (go_at_call 198; (with_reducible refine (hP _).mono ?_); rintro e w1 ⟨rfl, hB1⟩) | (go_at_call 199; (with_reducible refine (hC _).mono ?_); rintro e w2 ⟨rfl, hB2⟩))
    go_ret
    exact ⟨rfl, hB1.trans (hB2.mono hB1.size)⟩

/-- What the small triangle's block holds: the prime, the once's word, its lock, the cells. -/
def smV (p : Nat) (d s : Int) (T : Nat → Nat) : Nat → Option Value := fun i =>
  if i = 0 then some (.int .i64 p) else if i = 1 then some (.int .u32 d) else if i = 2 then some (.int .i32 s) else if 4 ≤ i ∧ i < 260 then some (.int .i64 (T (i - 4))) else none

abbrev SmAt (w : World) (R p : Nat) (d s : Int) (T : Nat → Nat) : Prop := BlkAt w R 195 260 (smV p d s T)

theorem SmAt.done {w : World} {R p : Nat} {d s : Int} {T : Nat → Nat} (h : SmAt w R p d s T) (d' : Int) : SmAt (w.setCell ⟨R, 1, none⟩ (.int .u32 d')) R p d' s T :=
  (BlkAt.set h (.int .u32 d') (by omega)).weaken (fun i v hi => by
    unfold smV at hi
    unfold updV smV
    by_cases e : i = 1
    · subst e; simpa using hi
    · rw [if_neg e]; rw [if_neg e] at hi ⊢; exact hi)

theorem SmAt.state {w : World} {R p : Nat} {d s : Int} {T : Nat → Nat} (h : SmAt w R p d s T) (s' : Int) : SmAt (w.setCell ⟨R, 2, none⟩ (.int .i32 s')) R p d s' T :=
  (BlkAt.set h (.int .i32 s') (by omega)).weaken (fun i v hi => by
    unfold smV at hi
    unfold updV smV
    by_cases e : i = 2
    · subst e; simpa using hi
    · rw [if_neg e]; rw [if_neg e] at hi ⊢; exact hi)

theorem SmAt.cell0 {w : World} {R p : Nat} {d s : Int} {T : Nat → Nat} (h : SmAt w R p d s T) : w.cell? ⟨R, 0, none⟩ = some (.int .i64 p) := BlkAt.cell h rfl

theorem SmAt.cell1 {w : World} {R p : Nat} {d s : Int} {T : Nat → Nat} (h : SmAt w R p d s T) : w.cell? ⟨R, 1, none⟩ = some (.int .u32 d) := BlkAt.cell h rfl

theorem SmAt.cell2 {w : World} {R p : Nat} {d s : Int} {T : Nat → Nat} (h : SmAt w R p d s T) : w.cell? ⟨R, 2, none⟩ = some (.int .i32 s) := BlkAt.cell h rfl

theorem smV_at (p : Nat) (d s : Int) (T : Nat → Nat) {i : Nat} (hi : i < 256) : smV p d s T (4 + i) = some (.int .i64 (T i)) := by
  unfold smV
  rw [if_neg (by omega), if_neg (by omega), if_neg (by omega), if_pos (by omega), show 4 + i - 4 = i by omega]

theorem raceOff (w : World) : (callFunc 257 #[]).run Tryz.prog w = .ok (.value (.tuple #[])) w := run_call_mark0 Tryz.func257 (by kernel_rfl) (by kernel_rfl) (by kernel_rfl) .disable (by kernel_rfl) w

theorem raceOn (w : World) : (callFunc 259 #[]).run Tryz.prog w = .ok (.value (.tuple #[])) w := run_call_mark0 Tryz.func259 (by kernel_rfl) (by kernel_rfl) (by kernel_rfl) .enable (by kernel_rfl) w

theorem raceAcquire (a : Addr) (w : World) : (callFunc 260 #[.pointer (some a)]).run Tryz.prog w = .ok (.value (.tuple #[])) w := run_call_marked Tryz.func260 (by kernel_rfl) (by kernel_rfl) (by kernel_rfl) .acquire (by kernel_rfl) a w

theorem raceMerge (a : Addr) (w : World) : (callFunc 262 #[.pointer (some a)]).run Tryz.prog w = .ok (.value (.tuple #[])) w := run_call_marked Tryz.func262 (by kernel_rfl) (by kernel_rfl) (by kernel_rfl) .releaseMerge (by kernel_rfl) a w

/-- '(*sync/atomic.Bool).Store(true)', entered as a deferred call: the cell holds 1. -/
theorem store_deferred (a : Addr) (x : Value) (u : FrameMode) (w : World) (hc : w.cell? a = some x) (hz : w.frozen? a = false) :
    CallsD Tryz.prog 252 #[.pointer (some a), .bool true] u w fun e u' w' => u' = u ∧ (e = .returned (.tuple #[]) ∧ w' = w.drew.setCell a (.int .u32 1)) := by
  have hc' : w.drew.cell? a = some x := by go_simp
  have hz' : w.drew.frozen? a = false := by go_simp
  have hst := run_call_store (P := Tryz.prog) Tryz.func255 (by kernel_rfl) (by kernel_rfl) (by kernel_rfl) (by kernel_rfl) (k := .u32) (y := 1) hc' hz'
  go_enter_d Tryz.func252, Tryz.ntmps252
  go_wp2
  go_region_calls
  all_goals (go_end0; exact ⟨rfl, rfl⟩)

set_option maxRecDepth 100000 in
/-- '(*sync.Mutex).Unlock', entered as a deferred call, the lock held and nobody waiting. -/
theorem unlock_deferred (a : Addr) (u : FrameMode) (w : World) (hc : w.cell? a = some (.int .i32 1)) (hz : w.frozen? a = false) :
    CallsD Tryz.prog 251 #[.pointer (some a)] u w fun e u' w' => u' = u ∧ (e = .returned (.tuple #[]) ∧ w' = w.setCell a (.int .i32 0)) := by
  have hd := raceOff
  have he := raceOn
  have hr := raceMerge
  have hadd := run_call_add (P := Tryz.prog) Tryz.func263 (by kernel_rfl) (by kernel_rfl) (by kernel_rfl) .i32 (by kernel_rfl) (y := -1) (s := 0) hc hz (by simp [go_sem]; rfl)
  have hcv := run_convert_to_unsafe (P := Tryz.prog) (src := 248) (dst := 140) Tryz.underlying248 Tryz.underlying140 (by kernel_rfl) hc
  go_enter_d Tryz.func251, Tryz.ntmps251
  go_wp2
  go_end0
  go_wp2
  go_end0
  exact ⟨rfl, rfl⟩

set_option maxRecDepth 100000 in
/-- '(*sync.Mutex).Lock', the lock free. -/
theorem lock_free (a : Addr) (w : World) (hc : w.cell? a = some (.int .i32 0)) (hz : w.frozen? a = false) :
    Calls Tryz.prog 250 #[.pointer (some a)] w fun e w' => e = .returned (.tuple #[]) ∧ w' = w.setCell a (.int .i32 1) := by
  have hd := raceOff
  have he := raceOn
  have ha := raceAcquire
  have hcas := run_call_cas_hit (P := Tryz.prog) Tryz.func258 (by kernel_rfl) (by kernel_rfl) (by kernel_rfl) .i32 (by kernel_rfl) (y := 1) hc hz
  have hc' : (w.setCell a (.int .i32 1)).cell? a = some (.int .i32 1) := World.cell?_setCell_same w a _ hc
  have hcv := run_convert_to_unsafe (P := Tryz.prog) (src := 248) (dst := 140) Tryz.underlying248 Tryz.underlying140 (by kernel_rfl) hc'
  go_enter Tryz.func250, Tryz.ntmps250
  go_wp2
  first | go_end0 | (simp only [Exit.inBlock, Exit.then]; refine bodyPost_ret (results_none rfl _ _ _) rfl ?_) | refine bodyPost_ret (results_none rfl _ _ _) rfl ?_
  go_wp2
  go_end0
  exact ⟨rfl, rfl⟩
end Go.Proofs.YtiaaefapbcjgmaaGreatDoor
namespace Go.Proofs.YtiaaefapbcjgmaaGreatDoor
open Go.RowKit Go.Shelf
attribute [local go_sem] Oper.semAt_some

theorem grown_seq {w W W' : World} {r1 r2 row : Option Nat} (h1 : w.grownBy W r1) (h2 : W.grownBy W' r2) (k1 : ∀ k, r1 = some k → k < w.heap.size → row = some k) (k2 : ∀ k, r2 = some k → k < w.heap.size → row = some k) : w.grownBy W' row :=
  ⟨h2.os.trans h1.os, h2.tape.trans h1.tape, h2.output.trans h1.output, Nat.le_trans h1.size h2.size, fun b hb hr =>
    (h2.block b (Nat.lt_of_lt_of_le hb h1.size) (fun e => hr (k2 b e.symm hb).symm)).trans (h1.block b hb (fun e => hr (k1 b e.symm hb).symm))⟩

/-- The cells when j rows have been made. -/
def tabU (p j i : Nat) : Nat := if i / 16 < j then bin (i / 16) (i % 16) % p else 0

theorem tabU_zero (p i : Nat) : tabU p 0 i = 0 := by unfold tabU; rw [if_neg (by omega)]

theorem tabU_at {p j a b : Nat} (ha : a < j) (hb : b < 16) : tabU p j (16 * a + b) = bin a b % p := by
  unfold tabU; rw [show (16 * a + b) / 16 = a by omega, show (16 * a + b) % 16 = b by omega, if_pos ha]

/-- Row x has been copied and kept. -/
theorem tab_next {p x : Nat} {d s : Int} {i : Nat} {v : Value} {V : Nat → Option Value} (hV : ∀ i, (i < 4 ∨ 4 + x * 16 + 16 ≤ i ∨ i < 4 + x * 16) → V i = smV p d s (tabU p x) i) (h : smV p d s (tabU p (x + 1)) i = some v) :
    (if 4 + x * 16 ≤ i ∧ i < 4 + x * 16 + 16 then some (Value.int .i64 ((bin x (i - (4 + x * 16)) % p : Nat) : Int)) else V i) = some v := by
  by_cases e : 4 + x * 16 ≤ i ∧ i < 4 + x * 16 + 16
  · rw [if_pos e]
    unfold smV at h
    by_cases e2 : i < 260
    · rw [if_neg (by omega), if_neg (by omega), if_neg (by omega), if_pos (by omega)] at h
      unfold tabU at h
      rw [show (i - 4) / 16 = x by omega, if_pos (by omega), show (i - 4) % 16 = i - (4 + x * 16) by omega] at h
      exact h
    · rw [if_neg (by omega), if_neg (by omega), if_neg (by omega), if_neg (by omega)] at h; cases h
  · rw [if_neg e, hV i (by omega), ← h]
    unfold smV tabU
    by_cases e2 : 4 ≤ i
    · have : ((i - 4) / 16 < x) = ((i - 4) / 16 < x + 1) := by apply propext; omega
      simp only [this]
    · rw [if_neg (show ¬ (4 ≤ i ∧ i < 260) by omega), if_neg (show ¬ (4 ≤ i ∧ i < 260) by omega)]

/-- 'copy(d, s)' into a part of a block. -/
theorem copy_blk (w : World) (ty : TypeId) (g off dL dC b sL sC N : Nat) (t : TypeId) (V : Nat → Option Value) (f : Nat → Nat)
    (hle : sL ≤ dL) (hfit : off + sL ≤ N) (hr : BlkAt w g t N V)
    (hs : ∀ i, i < sL → w.cell? ⟨b, i, none⟩ = some (.int .i64 (f i))) :
    ∃ w', (Builtin.copy_ #[28, 28] ty #[.slice (some ⟨g, off, none⟩) dL dC, .slice (some ⟨b, 0, none⟩) sL sC]).run Tryz.prog w = .ok (.int .i64 sL) w' ∧
      BlkAt w' g t N (fun i => if off ≤ i ∧ i < off + sL then some (.int .i64 (f (i - off))) else V i) ∧ w.grownBy w' (some g) := by
  obtain ⟨cur, h1, h2, h3⟩ := hr
  have hmin : Nat.min sL dL = sL := Nat.min_eq_left hle
  have hrun := run_copy_row Tryz.prog w 28 28 ty 3 g off dL dC ⟨b, 0, none⟩ sL sC cur t ((List.range sL).map fun i => Value.int .i64 (f i)) Tryz.underlying28 (by kernel_rfl) h1 (by rw [hmin]; simp)
    (fun j v hj => by
      rw [List.getElem?_map] at hj
      by_cases e : j < sL
      · rw [List.getElem?_range e] at hj
        have hadd : (⟨b, 0, none⟩ : Addr).add j = ⟨b, j, none⟩ := by unfold Addr.add; split <;> simp_all
        rw [hadd, hs j e]; simpa using hj
      · rw [List.getElem?_eq_none (by simp; omega)] at hj; cases hj) (by simp; omega) (fun v hv => by simp at hv; obtain ⟨i, _, rfl⟩ := hv; rfl)
  refine ⟨_, by simpa [goInt] using hrun, ⟨_, setRow_heap w g cur _ t _ h1, by simp; omega, fun i v hi => ?_⟩, ⟨rfl, rfl, rfl, by simp, fun k _ hr => setRow_other w g k _ (fun e => hr (by rw [e]))⟩⟩
  · have ht : (List.take off cur.toList).length = off := by simp; omega
    dsimp only at hi
    rw [List.getElem?_toArray]
    by_cases e1 : i < off
    · rw [if_neg (by omega)] at hi
      rw [List.getElem?_append_left (by omega), List.getElem?_take, if_pos e1, Array.getElem?_toList]; exact h3 i v hi
    · rw [List.getElem?_append_right (by omega), ht]
      by_cases e2 : i < off + sL
      · rw [if_pos ⟨by omega, e2⟩] at hi
        rw [List.getElem?_append_left (by simp; omega), List.getElem?_map, List.getElem?_range (by omega)]
        exact hi
      · rw [if_neg (by omega)] at hi
        rw [List.getElem?_append_right (by simp; omega), List.getElem?_drop, Array.getElem?_toList]
        simp only [List.length_map, List.length_range]
        rw [show off + sL + (i - off - sL) = i by omega]; exact h3 i v hi
end Go.Proofs.YtiaaefapbcjgmaaGreatDoor
