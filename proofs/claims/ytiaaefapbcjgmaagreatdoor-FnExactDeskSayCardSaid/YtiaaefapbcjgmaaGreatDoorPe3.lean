/-
  Parts of the proofs, laid together: Ans12, Build12, Build6, Exact12e, Impl12d, Impl12t, L12Y, L12Z, LawKit14, Math12n, Num12, Q12Y, Q12Z, Quest12, R12Z, Read12, Read12a, RegMade, S12Y, Spec12r, Split12.
-/
import Derived.WalkKit
import Derived.Laws.Concat
import Derived.Laws.Strings2
import Derived.OrdersIn
import Derived.TacticsIn
import Derived.Test.YtiaaefapbcjgmaaGreatDoorProg
import Derived.OwnWalkIn
import Derived.Deep.RegionLaw
import Derived.RangeFuncBox
import Derived.Laws.DeepStrings4
import Derived.Laws.Cover1
import Derived.Maps.AppendAt
import Derived.WalkSpells
import Derived.RangeFuncNested
import Derived.RangeFuncBound
import Derived.RangeFuncCalls
import Derived.RangeFuncLeaves
import Derived.BigRegion
import Derived.Shelf.Abstract
import Derived.Shelf.RegionOpen
import Derived.TacticsInMore
import Derived.LoopNIn
import Derived.LoopIn
import Derived.Deep.QuietTactic
import Derived.BigQuiet
import Derived.Below
import Derived.Laws.BytesString
import Derived.Deep.RegionWith
import Derived.DeepKeys5
import Derived.Maps.Keyed
import Derived.Deep.DeepCutAuto
import Derived.Laws.AppendOwnNone
import Derived.Laws.CopyOwn
import Derived.StillTailTactics
import Derived.Maps.OwnSet
import Derived.Laws.Bits64
import Derived.Laws.Bits64b
import Derived.Lib.AppendZeros
import Derived.Lib.AppendZerosOnto
import Derived.ControlIn
import Derived.Lib.AtoiAll
import Derived.Lib.AtoiAllCases
import Derived.Lib.ItoaNum
import Derived.Lib.ItoaMem
import Derived.Lib.SplitLaws
import Derived.Lib.AppendIntMem
import Derived.WideLaws
import Derived.Lib.SlicesS
import Derived.BigCall
import Derived.Maps.Own
import Derived.Maps.OwnOps
import Derived.StringKeys
import Derived.Shelf.Strings.BuilderK
import Derived.Lib.FrozenHead
import Derived.Tactics
import Derived.Tactics2
import Derived.Defers
import Derived.Laws.Pointers
import Derived.Laws.LoneSync
import Derived.RegionTactic
import Derived.RegionCalls
import Derived.ChangeAlike
import Derived.Test.YtiaaefapbcjgmaaGreatDoorLay12
import Derived.Test.YtiaaefapbcjgmaaGreatDoorLay6
import Derived.Test.YtiaaefapbcjgmaaGreatDoorPe0
import Derived.Test.YtiaaefapbcjgmaaGreatDoorPe1
import Derived.Test.YtiaaefapbcjgmaaGreatDoorPe2
namespace Go.Proofs.YtiaaefapbcjgmaaGreatDoor
open Go.RowKit

theorem own_set {W : World} {base n g c : Nat} {e : TypeId} {xs : List Value} (h : W.ownsRow base e 1 (.slice (some ⟨g, 0, none⟩) n c) n xs) {k : Nat} (hk : k < n) (z : Value) : (W.setCell ⟨g, k, none⟩ z).ownsRow base e 1 (.slice (some ⟨g, 0, none⟩) n c) n (xs.set k z) := by
  obtain ⟨hl, h2⟩ := h
  refine ⟨by rw [List.length_set]; exact hl, ?_⟩
  rcases h2 with ⟨e, h0⟩ | ⟨g', cap, cur, e, hb, hg, hc, hm, hs, ht⟩
  · omega
  · injection e with e1 e2 e3
    injection e1 with e1
    injection e1 with e1
    subst e1 e3
    obtain ⟨hlt, hk2⟩ := Array.getElem?_eq_some_iff.1 hg
    refine .inr ⟨g, c, cur.setIfInBounds k z, rfl, hb, ?_, hc, hm, by simpa using hs, ?_⟩
    · show (W.heap.modify g _)[g]? = _
      rw [Array.getElem?_eq_getElem (by rw [Array.size_modify]; exact hlt), Array.getElem_modify_self, hk2]; rfl
    · rw [Array.toList_setIfInBounds, List.take_set, ht]

theorem own_at {W : World} {base n g c : Nat} {e : TypeId} {xs : List Value} (h : W.ownsRow base e 1 (.slice (some ⟨g, 0, none⟩) n c) n xs) (k : Nat) (hk : k < n) : (∃ u, W.cell? ⟨g, k, none⟩ = some u) ∧ W.frozen? ⟨g, k, none⟩ = false := by
  rcases h.2 with ⟨e, h0⟩ | ⟨g', cap, cur, e, hb, hg, hc, hm, hs, ht⟩
  · omega
  · injection e with e1 e2 e3
    injection e1 with e1
    injection e1 with e1
    subst e1 e3
    have hkc : k < cur.size := by omega
    refine ⟨⟨cur[k]'hkc, ?_⟩, by unfold World.frozen?; rw [hg]; rfl⟩
    unfold World.cell?
    rw [hg]
    exact Array.getElem?_eq_getElem hkc

theorem own_blk12 {W : World} {base n : Nat} {e : TypeId} {v : Value} {xs : List Value} (h : W.ownsRow base e 1 v n xs) : v.ownBlock = .none ∨ ∃ b, v.ownBlock = some b ∧ base ≤ b ∧ b < W.heap.size := by
  rcases h.2 with ⟨rfl, _⟩ | ⟨b, cap, cur, rfl, hb, hg, _⟩
  · exact .inl rfl
  · exact .inr ⟨b, rfl, hb, (Array.getElem?_eq_some_iff.1 hg).1⟩

/-- Rows of one's own, no two in one block. -/
def OwnQ (W : World) (base : Nat) (v : Value) (rows : List (List Int)) : Prop :=
  ∃ us : List Value, us.length = rows.length ∧ W.ownsRow base 28 1 v us.length us ∧ (∀ j, j < rows.length → W.ownsRow base 3 1 (us.getD j undef) (rows.getD j []).length ((rows.getD j []).map (Value.int .i64))) ∧
    ∀ i j, i < j → j < rows.length → (us.getD i undef).ownBlock = .none ∨ (us.getD i undef).ownBlock ≠ (us.getD j undef).ownBlock

theorem OwnQ.ownSS {W : World} {base : Nat} {v : Value} {rows : List (List Int)} (h : OwnQ W base v rows) : OwnSS W base v rows := by
  obtain ⟨us, h1, h2, h3, _⟩ := h
  exact ⟨us, h1, h2, h3⟩

theorem OwnQ.old {W W' : World} {base b : Nat} {v : Value} {rows : List (List Int)} (h : OwnQ W base v rows) (hb : b < base) (hg : W.grownBy W' (some b)) : OwnQ W' base v rows := by
  obtain ⟨us, l, o, r, ne⟩ := h
  exact ⟨us, l, own_kept o hg (own_old o hb), fun j hj => own_kept (r j hj) hg (own_old (r j hj) hb), ne⟩

theorem OwnQ.down {W : World} {base base' : Nat} {v : Value} {rows : List (List Int)} (h : OwnQ W base v rows) (hb : base' ≤ base) : OwnQ W base' v rows := by
  obtain ⟨us, l, o, r, ne⟩ := h
  exact ⟨us, l, own_from o hb, fun j hj => own_from (r j hj) hb, ne⟩

theorem OwnQ.below {W W' : World} {base : Nat} {v : Value} {rows : List (List Int)} (h : OwnQ W base v rows) (hB : Below W.heap.size W W') : OwnQ W' base v rows := by
  obtain ⟨us, l, o, r, ne⟩ := h
  exact ⟨us, l, own_below o hB, fun j hj => own_below (r j hj) hB, ne⟩

/-- The rows that have been copied. -/
structure Tss (w : World) (n : Nat) (rows : List (List Int)) (k : Nat) (W : World) : Prop where
  below : Below w.heap.size w W
  own : ∃ us : List Value, us.length = n ∧ W.ownsRow w.heap.size 28 1 (.slice (some ⟨w.heap.size, 0, none⟩) n n) n us ∧ (∀ j, j < k → W.ownsRow w.heap.size 3 1 (us.getD j undef) (rows.getD j []).length ((rows.getD j []).map (Value.int .i64))) ∧ ∀ i j, i < j → j < k → (us.getD i undef).ownBlock = .none ∨ (us.getD i undef).ownBlock ≠ (us.getD j undef).ownBlock

theorem Tss.next {w : World} {n : Nat} {rows : List (List Int)} {k : Nat} {W V : World} {u : Value} (h : Tss w n rows k W) (hk : k < n) (hV : Below W.heap.size W V) (hu : V.ownsRow W.heap.size 3 1 u (rows.getD k []).length ((rows.getD k []).map (Value.int .i64))) :
    ((∃ z, V.cell? ⟨w.heap.size, k, none⟩ = some z) ∧ V.frozen? ⟨w.heap.size, k, none⟩ = false) ∧ Tss w n rows (k + 1) (V.setCell ⟨w.heap.size, k, .none⟩ u) := by
  obtain ⟨hB, us, hl, ho, hr, hne⟩ := h
  have hoV := own_below ho hV
  have hs := grownBy_setAt V w.heap.size k u
  have huV := own_from hu hB.size
  refine ⟨own_at hoV k hk, ⟨(hB.trans (hV.mono hB.size)).setCell (p := ⟨w.heap.size, k, .none⟩) (Nat.le_refl _) _, us.set k u, by rw [List.length_set]; exact hl, own_set hoV hk u, fun j hj => ?_, fun i j hij hj => ?_⟩⟩
  rotate_left
  · have hi' : (us.set k u).getD i undef = us.getD i undef := by rw [List.getD, List.getElem?_set, if_neg (by omega)]; rfl
    rw [hi']
    by_cases e : j = k
    · subst e
      have hk' : (us.set j u).getD j undef = u := by rw [List.getD, List.getElem?_set, if_pos rfl, if_pos (by omega)]; rfl
      rw [hk']
      rcases own_blk12 (hr i (by omega)) with e1 | ⟨b1, e1, _, hb1⟩
      · exact .inl e1
      · refine .inr (fun e4 => ?_)
        rw [e1] at e4
        rcases own_blk12 hu with e5 | ⟨b5, e5, hb5, _⟩
        · rw [e5] at e4; cases e4
        · rw [e5] at e4; injection e4 with e4; omega
    · have hj' : (us.set k u).getD j undef = us.getD j undef := by rw [List.getD, List.getElem?_set, if_neg (fun h => e h.symm)]; rfl
      rw [hj']
      exact hne i j hij (by omega)
  by_cases e : j = k
  · subst e
    rw [List.getD, List.getElem?_set, if_pos rfl, if_pos (by omega)]
    exact huV.kept hs (by rcases own_apart huV hoV with h | h
                          · exact .inl h
                          · exact .inr (fun e => h (by rw [e]; rfl)))
  · rw [List.getD, List.getElem?_set, if_neg (fun h => e h.symm)]
    have hj2 := own_below (hr j (by omega)) hV
    exact hj2.kept hs (by rcases own_apart hj2 hoV with h | h
                          · exact .inl h
                          · exact .inr (fun e => h (by rw [e]; rfl)))

set_option maxRecDepth 100000 in
set_option maxHeartbeats 1000000 in
theorem toSS_in (W0 : World) (v : Value) (rows : List (List Int)) (w : World) (hv : ArgP W0 v rows) (hB : Below W0.heap.size W0 w) (hn : rows.length ≤ 1048576) (hln : ∀ j, j < rows.length → (rows.getD j []).length ≤ 1048576) : Calls Tryz.prog 78 #[v] w fun e w' =>
    ∃ r, e = .returned r ∧ OwnQ w' w.heap.size r rows ∧ Below w.heap.size w w' := by
  obtain ⟨a, c, rfl, hr⟩ := hv
  obtain ⟨i0, hi, hz0, hz1, hz2⟩ := info_rows Tryz.infoRow
  obtain ⟨n, hN⟩ : ∃ n, rows.length = n := ⟨_, rfl⟩
  rw [hN] at hr hn hln ⊢
  go_enter Tryz.func78, Tryz.ntmps78
  go_wp2_with (at_make; go_loud (refine wpList_make_full _ rfl _ _ 29 rfl w.heap.size 28 i0 (.slice none 0 0) 1 Tryz.underlying29 hi hz0 hz1 .i64 .i64 n n n rfl rfl rfl rfl (by rw [hz2]; omega) (by unfold maxLen; omega) (Nat.le_refl _) ?_); intro w1 hown hg1)
  have hT : Tss w n rows 0 w1 := ⟨(Below.refl _ w).grown hg1 (Nat.le_refl _) (fun _ e => by cases e), _, by have := hown.1; simpa using this, hown, fun j hj => absurd hj (Nat.not_lt_zero j), fun _ j _ hj => absurd hj (Nat.not_lt_zero j)⟩
  clear hown hg1
  go_loopw [4] (fun i wr => ∃ k : Nat, k ≤ n ∧ i = .int .i64 k ∧ Tss w n rows k wr) (fun i _ => n - (intOf i).toNat)
  case atStart => exact ⟨0, by omega, rfl, hT⟩
  case round =>
    clear hT
    obtain ⟨k, hk, rfl, hT⟩ := hrel
    by_cases hlt : k < n
    · obtain ⟨G, o, rfl, hG, hc⟩ := hr (by omega)
      obtain ⟨u, huc, hu⟩ := hc k hlt
      have hBw := hB.trans (hT.below.mono hB.size)
      have hcc := (hBw.cell (p := ⟨G, o + k, none⟩) hG).trans huc
      have hI := toIntS_in W0 u (rows.getD k []) wr hu hBw (by have := hln k hlt; omega)
      obtain ⟨ua, uc, rfl⟩ := hu.form
      have hki : (k : Int) < (n : Int) := by omega
      have hT' := hide hT
      have hN' := hide hN
      clear hc hu hr huc hln hT hN
      go_wp2_with (go_at_call 77; go_loud (refine hI.mono ?_; clear hI; rintro e w3 ⟨r, rfl, hr3, hB3⟩; obtain ⟨⟨⟨z, hz⟩, hf⟩, hT3⟩ := hT'.out.next hlt hB3 hr3; obtain ⟨ra, rc, rfl⟩ := own_form hr3; clear hr3 hB3))
      go_roundw
      case rel => exact ⟨k + 1, by omega, by go_num, hT3⟩
      case measure => simp [intOf]; omega
    · obtain rfl : k = n := by omega
      have hki : ¬ ((k : Nat) : Int) < (k : Int) := by omega
      obtain ⟨hBf, us, hl, ho, hr2, hne2⟩ := hT
      have hN' := hide hN
      clear hr hln hN
      go_wp2
      go_ret
      exact ⟨_, rfl, ⟨us, by rw [hl, hN'.out], by rw [hl]; exact ho, fun j hj => hr2 j (by rw [hN'.out] at hj; exact hj), fun i j hij hj => hne2 i j hij (by rw [hN'.out] at hj; exact hj)⟩, hBf⟩

theorem toDesk_step {w W1 W2 : World} {x p z1 z2 r : Value} {n : Nat} {xs : List Value} (hB : Below w.heap.size w W1) (hs : w.heap.size + 3 ≤ W1.heap.size) (k0 : W1.heap[w.heap.size]? = some (.cells #[x, p] 54 (0, 0))) (k1 : W1.heap[w.heap.size + 1]? = some (.cells #[.slice none 0 0, .slice none 0 0] 31 (0, 0)))
    (k2 : W1.heap[w.heap.size + 2]? = some (.cells #[z1, z2] 31 (0, 0))) (hr : W2.ownsRow W1.heap.size 3 1 r n xs) (hB2 : Below W1.heap.size W1 W2) :
    Below w.heap.size w (W2.setCell ⟨w.heap.size + 2, 0, none⟩ r) ∧ (W2.setCell ⟨w.heap.size + 2, 0, none⟩ r).heap[w.heap.size]? = some (.cells #[x, p] 54 (0, 0)) ∧ (W2.setCell ⟨w.heap.size + 2, 0, none⟩ r).heap[w.heap.size + 1]? = some (.cells #[.slice none 0 0, .slice none 0 0] 31 (0, 0)) ∧
    (W2.setCell ⟨w.heap.size + 2, 0, none⟩ r).heap[w.heap.size + 2]? = some (.cells #[r, z2] 31 (0, 0)) ∧ (W2.setCell ⟨w.heap.size + 2, 0, none⟩ r).ownsRow (w.heap.size + 3) 3 1 r n xs ∧ w.heap.size + 3 ≤ (W2.setCell ⟨w.heap.size + 2, 0, none⟩ r).heap.size := by
  have hg := grownBy_setAt W2 (w.heap.size + 2) 0 r
  have hz := hB2.size
  have hz3 := hg.size
  refine ⟨(hB.trans (hB2.mono hB.size)).setCell (p := ⟨w.heap.size + 2, 0, none⟩) (by show w.heap.size ≤ w.heap.size + 2; omega) r, ?_, ?_, set_cells ((hB2.block _ (by omega)).trans k2) 0 r, ?_, by omega⟩
  · exact (hg.block _ (by omega) (fun e => by injection e with e; omega)).trans ((hB2.block _ (by omega)).trans k0)
  · exact (hg.block _ (by omega) (fun e => by injection e with e; omega)).trans ((hB2.block _ (by omega)).trans k1)
  · exact own_from (own_kept hr hg (own_old hr (by omega))) hs

theorem toDesk_fin {w W3 W4 : World} {r q : Value} {n : Nat} {xs : List Value} {rows : List (List Int)} (hB : Below w.heap.size w W3) (hs : w.heap.size + 3 ≤ W3.heap.size) (k1 : W3.heap[w.heap.size + 1]? = some (.cells #[.slice none 0 0, .slice none 0 0] 31 (0, 0)))
    (hr : W3.ownsRow (w.heap.size + 3) 3 1 r n xs) (hq : OwnQ W4 W3.heap.size q rows) (hB4 : Below W3.heap.size W3 W4) :
    (((W4.setCell ⟨w.heap.size + 2, 1, none⟩ q).setCell ⟨w.heap.size + 1, 0, none⟩ r).setCell ⟨w.heap.size + 1, 1, none⟩ q).heap[w.heap.size + 1]? = some (.cells #[r, q] 31 (0, 0)) ∧
    (((W4.setCell ⟨w.heap.size + 2, 1, none⟩ q).setCell ⟨w.heap.size + 1, 0, none⟩ r).setCell ⟨w.heap.size + 1, 1, none⟩ q).ownsRow w.heap.size 3 1 r n xs ∧
    OwnQ (((W4.setCell ⟨w.heap.size + 2, 1, none⟩ q).setCell ⟨w.heap.size + 1, 0, none⟩ r).setCell ⟨w.heap.size + 1, 1, none⟩ q) w.heap.size q rows ∧ Below w.heap.size w (((W4.setCell ⟨w.heap.size + 2, 1, none⟩ q).setCell ⟨w.heap.size + 1, 0, none⟩ r).setCell ⟨w.heap.size + 1, 1, none⟩ q) ∧
    W3.heap.size ≤ (((W4.setCell ⟨w.heap.size + 2, 1, none⟩ q).setCell ⟨w.heap.size + 1, 0, none⟩ r).setCell ⟨w.heap.size + 1, 1, none⟩ q).heap.size ∧ (∀ g, r.ownBlock = some g → g < W3.heap.size) ∧ OwnQ (((W4.setCell ⟨w.heap.size + 2, 1, none⟩ q).setCell ⟨w.heap.size + 1, 0, none⟩ r).setCell ⟨w.heap.size + 1, 1, none⟩ q) W3.heap.size q rows := by
  have g1 := grownBy_setAt W4 (w.heap.size + 2) 1 q
  have g2 := grownBy_setAt (W4.setCell ⟨w.heap.size + 2, 1, none⟩ q) (w.heap.size + 1) 0 r
  have g3 := grownBy_setAt ((W4.setCell ⟨w.heap.size + 2, 1, none⟩ q).setCell ⟨w.heap.size + 1, 0, none⟩ r) (w.heap.size + 1) 1 q
  have hz := hB4.size
  have k14 := (g1.block (w.heap.size + 1) (by omega) (fun e => by injection e with e; omega)).trans ((hB4.block _ (by omega)).trans k1)
  have hr4 := own_below hr hB4
  have hr5 := own_kept hr4 g1 (own_old hr4 (by omega))
  have hr6 := own_kept hr5 g2 (own_old hr5 (by omega))
  have hr7 := own_kept hr6 g3 (own_old hr6 (by omega))
  refine ⟨desk_set k14 r q, own_from hr7 (by omega), (((hq.old (by omega) g1).old (by omega) g2).old (by omega) g3).down (by omega), ?_, Nat.le_trans hz (Nat.le_trans g1.size (Nat.le_trans g2.size g3.size)), fun g e => (hr.lt g e).2, ((hq.old (by omega) g1).old (by omega) g2).old (by omega) g3⟩
  have h0 := (hB.trans (hB4.mono hB.size)).setCell (p := ⟨w.heap.size + 2, 1, none⟩) (by show w.heap.size ≤ w.heap.size + 2; omega) q
  exact (h0.setCell (p := ⟨w.heap.size + 1, 0, none⟩) (by show w.heap.size ≤ w.heap.size + 1; omega) r).setCell (p := ⟨w.heap.size + 1, 1, none⟩) (by show w.heap.size ≤ w.heap.size + 1; omega) q

set_option maxRecDepth 100000 in
set_option maxHeartbeats 1000000 in
theorem toDesk_mid (W0 : World) (v : Value) (d : Dk) (w : World) (hv : ArgD W0 v d) (hB0 : Below W0.heap.size W0 w) (hn1 : d.1.length ≤ 1048576) (hn : d.2.length ≤ 1048576) (hln : ∀ j, j < d.2.length → (d.2.getD j []).length ≤ 1048576) : Calls Tryz.prog 30 #[v] w fun e w' =>
    ∃ x p, e = .returned (.agg #[x, p]) ∧ w'.ownsRow w.heap.size 3 1 x d.1.length (d.1.map (Value.int .i64)) ∧ OwnQ w' w.heap.size p d.2 ∧ (∃ mid, w.heap.size ≤ mid ∧ mid ≤ w'.heap.size ∧ (∀ g, x.ownBlock = some g → g < mid) ∧ OwnQ w' mid p d.2) ∧ Below w.heap.size w w' := by
  obtain ⟨x, p, rfl, hx, hp⟩ := hv
  have hB : Below w.heap.size w (((w.alloc (.cells #[x, p] 54)).alloc (.cells #[.slice none 0 0, .slice none 0 0] 31)).alloc (.cells #[.slice none 0 0, .slice none 0 0] 31)) := (((Below.refl _ w).alloc (Nat.le_refl _) _).alloc (by rw [World.size_alloc]; omega) _).alloc (by rw [World.size_alloc, World.size_alloc]; omega) _
  have k0 : (((w.alloc (.cells #[x, p] 54)).alloc (.cells #[.slice none 0 0, .slice none 0 0] 31)).alloc (.cells #[.slice none 0 0, .slice none 0 0] 31)).heap[w.heap.size]? = some (.cells #[x, p] 54 (0, 0)) := (Below.heap_alloc _ _ _ (by rw [World.size_alloc, World.size_alloc]; omega)).trans ((Below.heap_alloc _ _ _ (by rw [World.size_alloc]; omega)).trans (World.alloc_heap_new w _))
  have k1 : (((w.alloc (.cells #[x, p] 54)).alloc (.cells #[.slice none 0 0, .slice none 0 0] 31)).alloc (.cells #[.slice none 0 0, .slice none 0 0] 31)).heap[w.heap.size + 1]? = some (.cells #[.slice none 0 0, .slice none 0 0] 31 (0, 0)) := by
    have h := World.alloc_heap_new (w.alloc (.cells #[x, p] 54)) (.cells #[.slice none 0 0, .slice none 0 0] 31)
    rw [World.size_alloc] at h
    exact (Below.heap_alloc _ _ _ (by rw [World.size_alloc, World.size_alloc]; omega)).trans h
  have k2 : (((w.alloc (.cells #[x, p] 54)).alloc (.cells #[.slice none 0 0, .slice none 0 0] 31)).alloc (.cells #[.slice none 0 0, .slice none 0 0] 31)).heap[w.heap.size + 2]? = some (.cells #[.slice none 0 0, .slice none 0 0] 31 (0, 0)) := by
    have h := World.alloc_heap_new ((w.alloc (.cells #[x, p] 54)).alloc (.cells #[.slice none 0 0, .slice none 0 0] 31)) (.cells #[.slice none 0 0, .slice none 0 0] 31)
    rw [World.size_alloc, World.size_alloc] at h
    exact h
  obtain ⟨W1, hW1⟩ : ∃ W1, ((w.alloc (.cells #[x, p] 54)).alloc (.cells #[.slice none 0 0, .slice none 0 0] 31)).alloc (.cells #[.slice none 0 0, .slice none 0 0] 31) = W1 := ⟨_, rfl⟩
  rw [hW1] at hB k0 k1 k2
  have l2 := (Array.getElem?_eq_some_iff.1 k2).1
  have hBW := hB0.trans (hB.mono hB0.size)
  have hI := toIntS_in W0 x d.1 W1 hx hBW (by omega)
  have hS := fun V (hV : Below w.heap.size w V) => toSS_in W0 p d.2 V hp (hB0.trans (hV.mono hB0.size)) hn hln
  have hsW : w.heap.size + 3 ≤ W1.heap.size := by rw [← hW1]; simp
  obtain ⟨xa, xc, rfl⟩ := hx.form
  obtain ⟨pa, pc, rfl, _⟩ := hp
  obtain ⟨c0, c1, _, _⟩ := row_at k0
  clear hx
  obtain ⟨b0, b1, f0, f1⟩ := row_at k2
  go_enter Tryz.func30, Tryz.ntmps30
  have l0 : w.heap.size < W1.heap.size := by omega
  have l1 : w.heap.size + 1 < W1.heap.size := by omega
  go_wp2_with (first
    | (go_at_call 77; go_loud (refine hI.mono ?_; clear hI; rintro e W2 ⟨r, rfl, hr, hB2⟩; obtain ⟨ra, rc, rfl⟩ := own_form hr; have hst := toDesk_step hB hsW k0 k1 k2 hr hB2; obtain ⟨b0, b1, f0, f1⟩ := row_at ((hB2.block _ l2).trans k2); obtain ⟨W3, hW3⟩ : ∃ W3, W2.setCell ⟨w.heap.size + 2, 0, none⟩ (.slice ra d.1.length rc) = W3 := ⟨_, rfl⟩; rw [hW3] at hst; obtain ⟨hB3, h0, h1, h2, hr3, hz3⟩ := hst; obtain ⟨c0, c1, _, _⟩ := row_at h0))
    | (go_at_call 78; go_loud (refine (hS _ hB3).mono ?_; clear hS; rintro e W4 ⟨q, rfl, hq, hB4⟩; obtain ⟨qa, qc, rfl⟩ := hq.ownSS.form; have hfin := toDesk_fin hB3 hz3 h1 hr3 hq hB4; obtain ⟨b0, b1, f0, f1⟩ := row_at ((hB4.block _ (Array.getElem?_eq_some_iff.1 h2).1).trans h2); obtain ⟨s0, s1, t0, t1⟩ := row_at ((hB4.block _ (Array.getElem?_eq_some_iff.1 h1).1).trans h1); have hfin' := hide hfin; clear hfin hq hB4)))
  exact bodyPost_ret (results_desk rfl _ _ (w.heap.size + 1) _ _ rfl hfin'.out.1) rfl ⟨_, _, rfl, hfin'.out.2.1, hfin'.out.2.2.1, ⟨W3.heap.size, by have := hB3.size; omega, hfin'.out.2.2.2.2.1, hfin'.out.2.2.2.2.2.1, hfin'.out.2.2.2.2.2.2⟩, hfin'.out.2.2.2.1⟩
end Go.Proofs.YtiaaefapbcjgmaaGreatDoor
namespace Go.Proofs.YtiaaefapbcjgmaaGreatDoor
open Go.RowKit Go.BigFrame

set_option maxRecDepth 100000 in
set_option maxHeartbeats 1000000 in
theorem eqSSP_in (v u : Value) (rows : List (List Int)) (w : World) (hn : rows.length ≤ 2000000) (hlen : ∀ j, j < rows.length → (rows.getD j []).length ≤ 2000000) (hv : PastI w v rows) (hu : PastI w u rows) :
    Calls Tryz.prog 80 #[v, u] w fun e w' => e = .returned (.bool true) ∧ Below w.heap.size w w' := by
  obtain ⟨a, c, rfl, hv⟩ := hv
  obtain ⟨a', c', rfl, hu⟩ := hu
  obtain ⟨n, hn'⟩ : ∃ n, rows.length = n := ⟨_, rfl⟩
  rw [hn'] at hn hlen hv hu ⊢
  clear hn'
  go_enter Tryz.func80, Tryz.ntmps80
  go_wp2
  go_loopw [5] (fun i wr => ∃ k : Nat, k ≤ n ∧ i = .int .i64 k ∧ Below w.heap.size w wr) (fun i _ => n - (intOf i).toNat)
  case atStart => exact ⟨0, Nat.zero_le _, rfl, Below.refl _ _⟩
  case round =>
    obtain ⟨k, hk, rfl, hB⟩ := hrel
    by_cases hlt : k < n
    · obtain ⟨G, o, rfl, hG, hr⟩ := hv (by omega)
      obtain ⟨G', o', rfl, hG', hr'⟩ := hu (by omega)
      obtain ⟨x, hx1, hx2⟩ := hr k hlt
      obtain ⟨y, hy1, hy2⟩ := hr' k hlt
      have hlk := hlen k hlt
      have h3 : ∀ m : After w, Calls Tryz.prog 79 #[x, y] m.now fun e w' => e = .returned (.bool true) ∧ Below m.now.heap.size m.now w' := fun m => eqIntS_in x y _ m.now (by omega) (hx2.below m.ok) (hy2.below m.ok)
      obtain ⟨ax, cx, rfl⟩ := hx2.shape
      obtain ⟨ay, cy, rfl⟩ := hy2.shape
      have h1 : ∀ m : After w, m.now.cell? ⟨G, o + k, none⟩ = some (.slice ax (rows.getD k []).length cx) := fun m => (m.ok.cell (p := ⟨G, o + k, none⟩) hG).trans hx1
      have h2 : ∀ m : After w, m.now.cell? ⟨G', o' + k, none⟩ = some (.slice ay (rows.getD k []).length cy) := fun m => (m.ok.cell (p := ⟨G', o' + k, none⟩) hG').trans hy1
      have hki : (k : Int) < (n : Int) := by omega
      generalize (rows.getD k []).length = l at *
      clear hr hr' hx1 hx2 hy1 hy2 hlen hv hu
      go_wp2
      refine wp_region_below w (by kernel_rfl) (by kernel_rfl) hB ?_
      repeat (go_big_quiet_step ((go_at_call 79; with_reducible exact after_of (h3 _))))
      refine wpQuiet_nil ?_
      rintro _ ⟨nq, rfl⟩
      clear h1 h2 h3
      go_wp2
      go_roundw
      case rel => exact ⟨k + 1, by omega, by go_num, nq.ok⟩
      case measure => simp [intOf]; omega
    · obtain rfl : k = n := by omega
      clear hv hu hlen
      go_wp2
      go_ret
      exact ⟨rfl, hB⟩

set_option maxRecDepth 100000 in
set_option maxHeartbeats 1000000 in
theorem eqDesk_in (v u : Value) (d : Dk) (w : World) (hs : d.1.length ≤ 2000000 ∧ d.2.length ≤ 2000000 ∧ ∀ j, j < d.2.length → (d.2.getD j []).length ≤ 2000000) (hv : DeskI w v d) (hu : DeskI w u d) : Calls Tryz.prog 31 #[v, u] w fun e w' => e = .returned (.bool true) ∧ Below w.heap.size w w' := by
  obtain ⟨x, p, rfl, hx, hp⟩ := hv
  obtain ⟨y, q, rfl, hy, hq⟩ := hu
  have hB : Below w.heap.size w ((w.alloc (.cells #[x, p] 31)).alloc (.cells #[y, q] 31)) := ((Below.refl _ w).alloc (Nat.le_refl _) _).alloc (by rw [World.size_alloc]; omega) _
  have k1 := World.alloc_heap_new (w.alloc (.cells #[x, p] 31)) (.cells #[y, q] 31)
  rw [World.size_alloc] at k1
  have k0 : ((w.alloc (.cells #[x, p] 31)).alloc (.cells #[y, q] 31)).heap[w.heap.size]? = some (.cells #[x, p] 31 (0, 0)) := (Below.heap_alloc _ _ _ (by rw [World.size_alloc]; omega)).trans (World.alloc_heap_new w _)
  obtain ⟨W0, hW0⟩ : ∃ W0, (w.alloc (.cells #[x, p] 31)).alloc (.cells #[y, q] 31) = W0 := ⟨_, rfl⟩
  rw [hW0] at hB k0 k1
  have l0 := (Array.getElem?_eq_some_iff.1 k0).1
  have l1 := (Array.getElem?_eq_some_iff.1 k1).1
  have hI := eqIntS_in x y d.1 W0 (by omega) (hx.below hB) (hy.below hB)
  have hR := fun V (hV : Below W0.heap.size W0 V) => eqSSP_in p q d.2 V hs.2.1 hs.2.2 ((hp.below hB).below hV) ((hq.below hB).below hV)
  obtain ⟨xa, xc, rfl⟩ := hx.shape
  obtain ⟨ya, yc, rfl⟩ := hy.shape
  obtain ⟨pa, pc, rfl, _⟩ := hp
  obtain ⟨qa, qc, rfl, _⟩ := hq
  obtain ⟨c0, c1, _, _⟩ := row_at k0
  obtain ⟨e0, e1, _, _⟩ := row_at k1
  clear hx hy hs
  go_enter Tryz.func31, Tryz.ntmps31
  go_wp2_with (first
    | (go_at_call 79; go_loud (refine hI.mono ?_; clear hI; rintro e w2 ⟨rfl, hB2⟩; obtain ⟨c0, c1, _, _⟩ := row_at ((hB2.block _ l0).trans k0); obtain ⟨e0, e1, _, _⟩ := row_at ((hB2.block _ l1).trans k1)))
    | (go_at_call 80; go_loud (refine (hR _ hB2).mono ?_; clear hR; rintro e w3 ⟨rfl, hB3⟩)))
  go_ret
  exact ⟨rfl, hB.trans ((hB2.trans (hB3.mono hB2.size)).mono hB.size)⟩
end Go.Proofs.YtiaaefapbcjgmaaGreatDoor
namespace Go.Proofs.YtiaaefapbcjgmaaGreatDoor
open Go.RowKit
attribute [local go_sem] Oper.semAt_some

theorem acc_each (L : Nat → Nat) : ∀ n j, j < n → L j ≤ accN L n
  | n + 1, j, h => by
    show L j ≤ accN L n + L n
    by_cases e : j = n
    · subst e; omega
    · have := acc_each L n j (by omega); omega

theorem desk_agg {W : World} {x p : Value} {d : Dk} {base : Nat} (hx : W.ownsRow base 3 1 x d.1.length (d.1.map (Value.int .i64))) (hp : OwnQ W base p d.2) : DeskI W (.agg #[x, p]) d := ⟨x, p, rfl, Ints.of_owns hx, hp.ownSS.past⟩
end Go.Proofs.YtiaaefapbcjgmaaGreatDoor
namespace Go.Proofs.YtiaaefapbcjgmaaGreatDoor
open Go.RowKit

theorem own_shape {w : World} {base n size : Nat} {e : TypeId} {v : Value} {xs : List Value} (h : w.ownsRow base e size v n xs) : ∃ a c, v = .slice a n c := by
  rcases h.2 with ⟨rfl, hn⟩ | ⟨g, cap, cur, rfl, _⟩
  · exact ⟨_, 0, by rw [hn]⟩
  · exact ⟨_, _, rfl⟩

theorem DeedsI.none (w : World) (a : Option Addr) (c : Nat) : DeedsI w (.slice a 0 c) [] := ⟨a, c, rfl, fun h => absurd h (Nat.lt_irrefl 0)⟩

theorem DeedsI.grown {w w' : World} {v : Value} {L : List (Int × Int)} {g : Nat} (h : DeedsI w v L) (hg : w.grownBy w' (some g)) (hne : v.ownBlock ≠ some g) : DeedsI w' v L := by
  obtain ⟨a, c, rfl, h⟩ := h
  refine ⟨a, c, rfl, fun h0 => ?_⟩
  obtain ⟨b, o, rfl, hb, hc⟩ := h h0
  have hbg : b ≠ g := fun e => hne (by rw [e]; rfl)
  exact ⟨b, o, rfl, Nat.lt_of_lt_of_le hb hg.size, fun k hk => ⟨hg.cell (hc k hk).1 (by simp; exact hbg), hg.cell (hc k hk).2 (by simp; exact hbg)⟩⟩
end Go.Proofs.YtiaaefapbcjgmaaGreatDoor
namespace Go.Proofs.YtiaaefapbcjgmaaGreatDoor
open Go.RowKit

theorem OwnG.of_own {W : World} {base : Nat} {v : Value} {rows : List (List Int)} (h : OwnRows W base v rows) (h1 : ∀ j, j < rows.length → 0 < (rows.getD j []).length) :
    OwnG W base W.heap.size v rows.length (fun j => (rows.getD j []).length) (fun j i => (rows.getD j []).getD i 0) := by
  obtain ⟨us, hl, hv, hr, hne⟩ := h
  by_cases h0 : 0 < rows.length
  · right
    rcases hv.2 with ⟨_, hn⟩ | ⟨G, cap, cur, rfl, hb, hg, hrest⟩
    · omega
    · have hex : ∀ j, ∃ b cb, j < rows.length → us.getD j undef = .slice (some ⟨b, 0, .none⟩) (rows.getD j []).length cb ∧ base ≤ b ∧ RowAt W b (rows.getD j []).length (fun i => (rows.getD j []).getD i 0) := fun j => by
        by_cases hj : j < rows.length
        · obtain ⟨b, cb, e1, e2, e3⟩ := RowAt.of_owns (hr j hj) (h1 j hj)
          exact ⟨b, cb, fun _ => ⟨e1, e2, e3⟩⟩
        · exact ⟨0, 0, fun h => absurd h hj⟩
      have hch : ∃ b cb : Nat → Nat, ∀ j, j < rows.length → us.getD j undef = .slice (some ⟨b j, 0, .none⟩) (rows.getD j []).length (cb j) ∧ base ≤ b j ∧ RowAt W (b j) (rows.getD j []).length (fun i => (rows.getD j []).getD i 0) :=
        ⟨fun j => Classical.choose (hex j), fun j => Classical.choose (Classical.choose_spec (hex j)), fun j hj => Classical.choose_spec (Classical.choose_spec (hex j)) hj⟩
      obtain ⟨b, cb, hbc⟩ := hch
      have hGs : G < W.heap.size := (Array.getElem?_eq_some_iff.1 hg).1
      refine ⟨G, cap, b, cb, by rw [hl], ⟨⟨hb, hGs, hGs⟩, fun j hj => ?_, fun j hj => ⟨(hbc j hj).2.1, (hbc j hj).2.2.lt, fun e => ?_⟩, fun j hj => (hbc j hj).2.2, fun i j hij hj e => ?_⟩⟩
      · rw [hv.cellAt j (by omega), ← (hbc j hj).1, List.getD, List.getElem?_eq_getElem (by omega)]; rfl
      · rcases own_apart (hr j hj) hv with h3 | h3
        · rw [(hbc j hj).1] at h3; simp [Value.ownBlock] at h3
        · rw [(hbc j hj).1] at h3; simp [Value.ownBlock, e] at h3
      · have h3 := hne i j hij hj
        rw [(hbc i (by omega)).1, (hbc j hj).1] at h3
        simp [Value.ownBlock, e] at h3
  · left
    refine ⟨by omega, ?_⟩
    rcases hv.2 with ⟨rfl, hn⟩ | ⟨g, cap, cur, rfl, _⟩
    · exact ⟨_, _, rfl⟩
    · exact ⟨_, _, by rw [show us.length = 0 by omega]⟩

/-- A desk of one's own between two marks, with a mark between its row and those of before. -/
def OwnD (W : World) (base mid lim : Nat) (v : Value) (n : Nat) (f : Nat → Int) (m : Nat) (L : Nat → Nat) (F : Nat → Nat → Int) : Prop :=
  ∃ x p, v = .agg #[x, p] ∧ base ≤ mid ∧ mid ≤ lim ∧ lim ≤ W.heap.size ∧ OwnI W base mid x n f ∧ OwnG W mid lim p m L F

theorem OwnD.of {W : World} {base : Nat} {v : Value} {d : Dk} (h : OwnDk W base v d) (h1 : ∀ j, j < d.2.length → 0 < (d.2.getD j []).length) :
    ∃ mid, OwnD W base mid W.heap.size v d.1.length (fun i => d.1.getD i 0) d.2.length (fun j => (d.2.getD j []).length) (fun j i => (d.2.getD j []).getD i 0) := by
  obtain ⟨mid, x, p, rfl, h2, h3, h4, h5⟩ := h
  exact ⟨mid, x, p, rfl, h2, h3, Nat.le_refl _, h4, OwnG.of_own h5 h1⟩

theorem OwnD.below {W W' : World} {base mid lim n m : Nat} {v : Value} {f : Nat → Int} {L : Nat → Nat} {F : Nat → Nat → Int} (h : OwnD W base mid lim v n f m L F) (hB : Below W.heap.size W W') : OwnD W' base mid lim v n f m L F := by
  obtain ⟨x, p, rfl, h2, h3, h4, h5, h6⟩ := h
  exact ⟨x, p, rfl, h2, h3, Nat.le_trans h4 hB.size, h5.below hB, h6.below hB⟩

theorem OwnD.between {W W' : World} {base mid lim n m base' lim' : Nat} {v : Value} {f : Nat → Int} {L : Nat → Nat} {F : Nat → Nat → Int} (h : OwnD W base mid lim v n f m L F) (hB : Between base' lim' W W') (hr : lim ≤ base' ∨ lim' ≤ base) : OwnD W' base mid lim v n f m L F := by
  obtain ⟨x, p, rfl, h2, h3, h4, h5, h6⟩ := h
  exact ⟨x, p, rfl, h2, h3, Nat.le_trans h4 hB.size, h5.between hB (by omega), h6.between hB (by omega)⟩

theorem OwnD.deskI {W : World} {base mid lim : Nat} {v : Value} {d : Dk} (h : OwnD W base mid lim v d.1.length (fun i => d.1.getD i 0) d.2.length (fun j => (d.2.getD j []).length) (fun j i => (d.2.getD j []).getD i 0)) : DeskI W v d := by
  obtain ⟨x, p, rfl, _, _, _, h5, h6⟩ := h
  exact ⟨x, p, rfl, h5.ints, (OwnG.rowsI h6).past⟩

theorem OwnD.form {W : World} {base mid lim n m : Nat} {v : Value} {f : Nat → Int} {L : Nat → Nat} {F : Nat → Nat → Int} (h : OwnD W base mid lim v n f m L F) : ∃ a b c e, v = .agg #[.slice a n b, .slice c m e] := by
  obtain ⟨x, p, rfl, _, _, _, h5, h6⟩ := h
  rcases h5 with ⟨rfl, a, b, rfl⟩ | ⟨g, cap, rfl, _⟩
  · rcases h6 with ⟨rfl, c, e, rfl⟩ | ⟨G, cap, b', cb, rfl, _⟩
    · exact ⟨a, b, c, e, rfl⟩
    · exact ⟨a, b, _, _, rfl⟩
  · rcases h6 with ⟨rfl, c, e, rfl⟩ | ⟨G, cap', b', cb, rfl, _⟩
    · exact ⟨_, _, c, e, rfl⟩
    · exact ⟨_, _, _, _, rfl⟩

theorem mark_ownN {W : World} {base lim n : Nat} {v : Value} {f : Nat → Int} (h : OwnI W base lim v n f) (hn : n ≤ 10000000) (m : Nat) (hm : m ≤ 10000000) :
    Calls Tryz.prog 81 #[v, .int .i64 m] W fun e w' => e = .returned (.int .i64 ((m + n : Nat) : Int)) ∧ OwnI w' base lim v n (fun i => ((m + i : Nat) : Int)) ∧ ∃ row, W.grownBy w' row ∧ ∀ k, row = some k → base ≤ k ∧ k < lim := by
  have hxs : ((List.range n).map f).length = n := by simp
  have h' : OwnI W base lim v ((List.range n).map f).length (fun i => ((List.range n).map f).getD i 0) := by
    rw [hxs]
    rcases h with h | ⟨g, c, rfl, h1, h2, h3⟩
    · exact .inl h
    · exact .inr ⟨g, c, rfl, h1, h2, h3.congr (fun i hi => by rw [List.getD, List.getElem?_map, List.getElem?_range hi]; rfl)⟩
  have h2 := mark_own h' (by omega) m hm
  rw [hxs] at h2
  exact h2

set_option maxRecDepth 100000 in
set_option maxHeartbeats 1000000 in
theorem markDesk_in {W : World} {base mid lim n m : Nat} {v : Value} {f : Nat → Int} {L : Nat → Nat} {F : Nat → Nat → Int} (h : OwnD W base mid lim v n f m L F) (hn : n ≤ 100) (hL : ∀ j, j < m → L j ≤ 100) (hm : m ≤ 100) (k : Nat) (hk : k ≤ 500) :
    Calls Tryz.prog 32 #[v, .int .i64 k] W fun e w' => e = .returned (.int .i64 ((k + n + accN L m : Nat) : Int)) ∧ OwnD w' base mid lim v n (fun i => ((k + i : Nat) : Int)) m L (fun j i => ((k + n + accN L j + i : Nat) : Int)) ∧ Between base lim W w' := by
  obtain ⟨xa, xc, pa, pc, hv⟩ := h.form
  obtain ⟨x, p, rfl, h2, h3, h4, h5, h6⟩ := h
  injection hv with hv
  simp at hv
  obtain ⟨rfl, rfl⟩ := hv
  have hB := (Below.refl _ W).alloc (Nat.le_refl _) (.cells #[.slice xa n xc, .slice pa m pc] 31)
  have k0 := World.alloc_heap_new W (.cells #[.slice xa n xc, .slice pa m pc] 31)
  have hs1 := World.size_alloc W (.cells #[.slice xa n xc, .slice pa m pc] 31)
  obtain ⟨W1, hW1⟩ : ∃ W1, W.alloc (.cells #[.slice xa n xc, .slice pa m pc] 31) = W1 := ⟨_, rfl⟩
  rw [hW1] at hB k0 hs1
  have hM := mark_ownN (h5.below hB) (by omega) k (by omega)
  have hG1 := h6.below hB
  obtain ⟨c0, c1, _, _⟩ := row_at k0
  have hs := Nat.le_of_eq hs1
  have hs' := Nat.le_of_eq hs1.symm
  clear h5 h6 hs1
  have hkn : ((k + n : Nat) : Int) = (k : Int) + (n : Int) := by omega
  go_enter Tryz.func32, Tryz.ntmps32
  go_wp2_with (first
    | (go_at_call 81; go_loud (refine hM.mono ?_; clear hM; rintro e W2 ⟨rfl, hI2, row, hg2, hr2⟩; have k2 := (hg2.block _ (Array.getElem?_eq_some_iff.1 k0).1 (fun e => (by have := hr2 _ e.symm; omega))).trans k0; obtain ⟨c0, c1, _, _⟩ := row_at k2; have hG2 := hG1.grown hg2 (fun j e => (by have := hr2 j e; omega)); have hS := markSS_in hG2 hL hm (k + n) (by omega)))
    | (go_at_call 82; go_loud (refine hS.mono ?_; clear hS; rintro e W3 ⟨rfl, hG3, hbt⟩)))
  go_ret
  have h23 : Between base lim W W3 := by
    refine ⟨(hbt.os.trans hg2.os).trans hB.os, (hbt.tape.trans hg2.tape).trans hB.tape, (hbt.output.trans hg2.output).trans hB.output, Nat.le_trans hB.size (Nat.le_trans hg2.size hbt.size), fun q hq ho => ?_⟩
    have q1 := hB.block q hq
    have hq1 : q < W1.heap.size := Nat.lt_of_lt_of_le hq hB.size
    have q2 := hg2.block q hq1 (fun e => by have := hr2 q e.symm; omega)
    have q3 := hbt.block q (Nat.lt_of_lt_of_le hq1 hg2.size) (by omega)
    exact q3.trans (q2.trans q1)
  exact ⟨rfl, ⟨_, _, rfl, h2, h3, Nat.le_trans h4 h23.size, hI2.between hbt (.inl (Nat.le_refl _)), hG3⟩, h23⟩

set_option maxRecDepth 100000 in
set_option maxHeartbeats 1000000 in
theorem heldDesk_in {W : World} {base mid lim n m : Nat} {v : Value} {L : Nat → Nat} (k : Nat) (h : OwnD W base mid lim v n (fun i => ((k + i : Nat) : Int)) m L (fun j i => ((k + n + accN L j + i : Nat) : Int))) (hn : n ≤ 100) (hL : ∀ j, j < m → L j ≤ 100) (hm : m ≤ 100) (hk : k ≤ 500) :
    Calls Tryz.prog 33 #[v, .int .i64 k] W fun e w' => e = .returned (.int .i64 ((k + n + accN L m : Nat) : Int)) ∧ Below W.heap.size W w' := by
  obtain ⟨xa, xc, pa, pc, hv⟩ := h.form
  obtain ⟨x, p, rfl, h2, h3, h4, h5, h6⟩ := h
  injection hv with hv
  simp at hv
  obtain ⟨rfl, rfl⟩ := hv
  have hB := (Below.refl _ W).alloc (Nat.le_refl _) (.cells #[.slice xa n xc, .slice pa m pc] 31)
  have k0 := World.alloc_heap_new W (.cells #[.slice xa n xc, .slice pa m pc] 31)
  obtain ⟨W1, hW1⟩ : ∃ W1, W.alloc (.cells #[.slice xa n xc, .slice pa m pc] 31) = W1 := ⟨_, rfl⟩
  rw [hW1] at hB k0
  have hM := held_own k (h5.below hB) (by omega) (by omega)
  have hS := heldSS_in (k + n) (h6.below hB) hL hm (by omega)
  obtain ⟨c0, c1, _, _⟩ := row_at k0
  have hneg1 : ¬ ((k + n : Nat) : Int) < 0 := by omega
  have hneg2 : ¬ ((k + n + accN L m : Nat) : Int) < 0 := by omega
  clear h5 h6
  generalize accN L m = A at *
  have hkn : ((k + n : Nat) : Int) = (k : Int) + (n : Int) := by omega
  go_enter Tryz.func33, Tryz.ntmps33
  go_wp2_with (first
    | (go_at_call 83; go_loud (refine hM.mono ?_; clear hM; rintro e W2 ⟨rfl, rfl⟩))
    | (go_at_call 84; go_loud (refine hS.mono ?_; clear hS; rintro e W3 ⟨rfl, rfl⟩)))
  go_ret
  exact ⟨rfl, hB⟩

/-- The rows from k on lie as they were, the others have been marked. -/
structure Mkq (W0 : World) (base lim : Nat) (v : Value) (rows : List (List Int)) (us : List Value) (k : Nat) (W : World) : Prop where
  bet : Between base lim W0 W
  own : W.ownsRow base 28 1 v us.length us
  row : ∀ j, k ≤ j → j < rows.length → W.ownsRow base 3 1 (us.getD j undef) (rows.getD j []).length ((rows.getD j []).map (Value.int .i64))

/-- Rows of one's own between two marks. -/
def OwnQL (W : World) (base lim : Nat) (v : Value) (rows : List (List Int)) : Prop :=
  ∃ us : List Value, us.length = rows.length ∧ W.ownsRow base 28 1 v us.length us ∧ (∀ j, j < rows.length → W.ownsRow base 3 1 (us.getD j undef) (rows.getD j []).length ((rows.getD j []).map (Value.int .i64))) ∧
    (∀ i j, i < j → j < rows.length → (us.getD i undef).ownBlock = .none ∨ (us.getD i undef).ownBlock ≠ (us.getD j undef).ownBlock) ∧ ∀ j, j < rows.length → ∀ g, (us.getD j undef).ownBlock = some g → g < lim

theorem OwnQL.of {W : World} {base : Nat} {v : Value} {rows : List (List Int)} (h : OwnQ W base v rows) : OwnQL W base W.heap.size v rows := by
  obtain ⟨us, l, o, r, ne⟩ := h
  exact ⟨us, l, o, r, ne, fun j hj g e => ((r j hj).lt g e).2⟩

theorem OwnQL.ownQ {W : World} {base lim : Nat} {v : Value} {rows : List (List Int)} (h : OwnQL W base lim v rows) : OwnQ W base v rows := by
  obtain ⟨us, l, o, r, ne, _⟩ := h
  exact ⟨us, l, o, r, ne⟩

theorem OwnQL.old {W W' : World} {base lim b : Nat} {v : Value} {rows : List (List Int)} (h : OwnQL W base lim v rows) (hb : b < base) (hg : W.grownBy W' (some b)) : OwnQL W' base lim v rows := by
  obtain ⟨us, l, o, r, ne, hl⟩ := h
  exact ⟨us, l, own_kept o hg (own_old o hb), fun j hj => own_kept (r j hj) hg (own_old (r j hj) hb), ne, hl⟩

theorem OwnQL.rowed {W W' : World} {base lim : Nat} {row : Option Nat} {v : Value} {rows : List (List Int)} (h : OwnQL W base lim v rows) (hg : W.grownBy W' row) (hb : ∀ b, row = some b → b < base) : OwnQL W' base lim v rows := by
  cases row with
  | some b => exact h.old (hb b rfl) hg
  | none =>
    obtain ⟨us, l, o, r, ne, hl⟩ := h
    have hg' : W.grownBy W' (some W.heap.size) := ⟨hg.os, hg.tape, hg.output, hg.size, fun k hk _ => hg.block k hk (by simp)⟩
    exact ⟨us, l, own_kept o hg' (fun e => absurd (o.lt _ e).2 (Nat.lt_irrefl _)), fun j hj => own_kept (r j hj) hg' (fun e => absurd ((r j hj).lt _ e).2 (Nat.lt_irrefl _)), ne, hl⟩

theorem OwnQL.below {W W' : World} {base lim : Nat} {v : Value} {rows : List (List Int)} (h : OwnQL W base lim v rows) (hB : Below W.heap.size W W') : OwnQL W' base lim v rows := by
  obtain ⟨us, l, o, r, ne, hl⟩ := h
  exact ⟨us, l, own_below o hB, fun j hj => own_below (r j hj) hB, ne, hl⟩

set_option maxRecDepth 100000 in
set_option maxHeartbeats 1000000 in
theorem markQ_in {W : World} {base lim : Nat} {v : Value} {rows : List (List Int)} (h : OwnQL W base lim v rows) (hn : rows.length ≤ 1048576) (m : Nat) (hs : m + accN (fun j => (rows.getD j []).length) rows.length ≤ 5000000) :
    Calls Tryz.prog 82 #[v, .int .i64 m] W fun e w' => e = .returned (.int .i64 ((m + accN (fun j => (rows.getD j []).length) rows.length : Nat) : Int)) ∧ Between base lim W w' := by
  obtain ⟨us, hl, ho, hr, hne, hbs⟩ := h
  obtain ⟨a, c, rfl⟩ := own_form ho
  have hacc : ∀ k, accN (fun j => (rows.getD j []).length) (k + 1) = accN (fun j => (rows.getD j []).length) k + (rows.getD k []).length := fun k => rfl
  have hle : ∀ k, k ≤ rows.length → accN (fun j => (rows.getD j []).length) k ≤ accN (fun j => (rows.getD j []).length) rows.length := fun k hk => by
    obtain ⟨d, hd⟩ : ∃ d, rows.length = k + d := ⟨rows.length - k, by omega⟩
    rw [hd]
    clear hd hk
    induction d with
    | zero => exact Nat.le_refl _
    | succ d ih => exact Nat.le_trans ih (Nat.le_add_right _ _)
  have hM0 : Mkq W base lim (.slice a us.length c) rows us 0 W := ⟨Between.refl _ _ _, ho, fun j _ hj => hr j hj⟩
  clear ho hr
  generalize hA : accN (fun j => (rows.getD j []).length) = A at *
  have hA0 : A 0 = 0 := by rw [← hA]; rfl
  have hAh := hide hA
  clear hA
  obtain ⟨n, hN⟩ : ∃ n, rows.length = n := ⟨_, rfl⟩
  rw [hl] at hM0 ⊢
  rw [hN] at hn hs hle hM0 ⊢
  have hNh := hide hN
  go_enter Tryz.func82, Tryz.ntmps82
  go_wp2
  go_loopw [1, 5] (fun q i wr => ∃ k : Nat, k ≤ n ∧ i = .int .i64 k ∧ q = .int .i64 ((m + A k : Nat) : Int) ∧ Mkq W base lim (.slice a n c) rows us k wr) (fun _ i _ => n - (intOf i).toNat)
  case atStart => exact ⟨0, Nat.zero_le _, rfl, by rw [hA0]; rfl, hM0⟩
  case round =>
    clear hM0
    obtain ⟨k, hk, rfl, rfl, hM⟩ := hrel
    by_cases hlt : k < n
    · have hrow := hM.row k (Nat.le_refl _) (by omega)
      have hz := hM.bet.size
      have hMh := hide hM
      have hki : (k : Int) < (n : Int) := by omega
      have hk1 := hle (k + 1) (by omega)
      have hsk := hacc k
      have hskh := hide hsk
      obtain ⟨G, hG⟩ : ∃ G, a = some ⟨G, 0, none⟩ := by
        rcases hM.own.2 with ⟨e, h0⟩ | ⟨g, cap, cur, e, _⟩
        · omega
        · injection e with e1; exact ⟨g, e1⟩
      subst hG
      have hat : wr.cell? ⟨G, k, none⟩ = some (us.getD k undef) := by
        have hown' : wr.ownsRow base 28 1 (.slice (some ⟨G, 0, none⟩) n c) n us := by
          have h := hM.own
          rwa [show us.length = n by omega] at h
        have h1 := hown'.cellAt k (by omega)
        rw [List.getD, List.getElem?_eq_getElem (by omega)]
        rw [List.getElem?_eq_getElem (by omega)] at h1
        exact h1
      by_cases h0 : (rows.getD k []).length = 0
      · have hsh : ∃ ua uc, us.getD k undef = .slice ua 0 uc := by
          obtain ⟨ua, uc, e⟩ := own_form hrow
          exact ⟨ua, uc, by rw [e, h0]⟩
        obtain ⟨ua, uc, hu⟩ := hsh
        rw [hu] at hat
        have hMk := mark_none ua uc (m + A k) wr
        have hnew : Mkq W base lim (.slice (some ⟨G, 0, none⟩) n c) rows us (k + 1) wr := ⟨hM.bet, hM.own, fun j hj hj2 => hM.row j (by omega) hj2⟩
        have hAe : A (k + 1) = A k := by rw [hsk, h0]; rfl
        have hnewh := hide hnew
        have hAk : A k ≤ 5000000 := by omega
        have hAeh := hide hAe
        clear hnew hAe hu hrow hMh hM hacc hle hk1 hsk hne hN
        generalize A k = Ak at *
        obtain ⟨T, hT⟩ : ∃ T, m + Ak = T := ⟨_, rfl⟩
        rw [hT] at hMk ⊢
        go_wp2_with (go_at_call 81; go_loud ((with_reducible refine hMk.mono ?_); clear hMk; rintro e w2 ⟨rfl, rfl⟩))
        go_roundw
        case rel => exact ⟨k + 1, by omega, by go_num, by rw [hAeh.out, hT], hnewh.out⟩
        case measure => simp [intOf]; omega
      · obtain ⟨g, cap, hu, hgb, hra⟩ := RowAt.of_owns hrow (by omega)
        rw [hu] at hat
        have hMk := mark_in g cap (rows.getD k []) _ _ wr (by omega) (Nat.le_refl _) hra (m + A k) (by omega)
        have hgl := hra.lt
        have hnew : ∀ w2, wr.grownBy w2 (some g) → g < lim → Mkq W base lim (.slice (some ⟨G, 0, none⟩) n c) rows us (k + 1) w2 := fun w2 hg2 hgW => by
          have hM := hMh.out
          refine ⟨⟨hg2.os.trans hM.bet.os, hg2.tape.trans hM.bet.tape, hg2.output.trans hM.bet.output, Nat.le_trans hM.bet.size hg2.size, fun q hq hout => (hg2.block q (Nat.lt_of_lt_of_le hq hM.bet.size) (fun e => by injection e with e; omega)).trans (hM.bet.block q hq hout)⟩, hM.own.kept hg2 ?_, fun j hj hj2 => (hM.row j (by omega) hj2).kept hg2 ?_⟩
          · rcases own_apart (hM.row k (Nat.le_refl _) (by omega)) hM.own with h3 | h3
            · rw [hu] at h3; simp [Value.ownBlock] at h3
            · rw [hu] at h3
              exact .inr (fun e => h3 (by rw [e]; rfl))
          · rcases hne k j (by omega) hj2 with h3 | h3
            · rw [hu] at h3; simp [Value.ownBlock] at h3
            · rw [hu] at h3
              exact .inr (fun e => h3 (by rw [e]; rfl))
        have hgW := hbs k (by omega) g (by rw [hu]; rfl)
        have hAk : A k ≤ 5000000 := by omega
        have hLk : (rows.getD k []).length ≤ 5000000 := by omega
        have hnewh := hide hnew
        clear hnew hu hrow hMh hM hacc hle hk1 hsk hne hN hra h0 hbs
        generalize (rows.getD k []).length = L at *
        generalize A k = Ak at *
        obtain ⟨T, hT⟩ : ∃ T, m + Ak = T := ⟨_, rfl⟩
        rw [hT] at hMk ⊢
        go_wp2_with (go_at_call 81; go_loud ((with_reducible refine hMk.mono ?_); clear hMk; rintro e w2 ⟨rfl, _, hg2⟩; have hM2 := hnewh.out w2 hg2 hgW))
        go_roundw
        case rel => exact ⟨k + 1, by omega, by go_num, by rw [hskh.out, ← Nat.add_assoc, hT, Int.natCast_add], hM2⟩
        case measure => simp [intOf]; omega
    · obtain rfl : k = n := by omega
      have hki : ¬ ((k : Nat) : Int) < (k : Int) := by omega
      have hMh := hide hM
      clear hM hacc hle hne
      go_wp2
      go_ret
      exact ⟨rfl, hMh.out.bet⟩

/-- A copy of a desk that came in: its row below the rows of before, all between two marks. -/
def OwnA (W : World) (base lim : Nat) (v : Value) (d : Dk) : Prop :=
  ∃ mid x p, v = .agg #[x, p] ∧ base ≤ mid ∧ mid ≤ lim ∧ lim ≤ W.heap.size ∧ W.ownsRow base 3 1 x d.1.length (d.1.map (Value.int .i64)) ∧ (∀ g, x.ownBlock = some g → g < mid) ∧ OwnQL W mid lim p d.2

theorem OwnA.deskI {W : World} {base lim : Nat} {v : Value} {d : Dk} (h : OwnA W base lim v d) : DeskI W v d := by
  obtain ⟨mid, x, p, rfl, hm, _, _, h1, _, h2⟩ := h
  exact desk_agg h1 (h2.ownQ.down hm)

theorem OwnA.below {W W' : World} {base lim : Nat} {v : Value} {d : Dk} (h : OwnA W base lim v d) (hB : Below W.heap.size W W') : OwnA W' base lim v d := by
  obtain ⟨mid, x, p, rfl, h0, h1, h2, h3, h4, h5⟩ := h
  exact ⟨mid, x, p, rfl, h0, h1, Nat.le_trans h2 hB.size, own_below h3 hB, h4, h5.below hB⟩

theorem OwnA.cap {W : World} {base lim : Nat} {v : Value} {d : Dk} (h : OwnA W base lim v d) : CapP v := by
  obtain ⟨mid, x, p, rfl, _, _, _, _, _, us, _, ho, _⟩ := h
  obtain ⟨a, c, rfl⟩ := own_form ho
  refine CapP.of ?_
  rcases ho.2 with ⟨e, h0⟩ | ⟨b, cap, cur, e, _, _, hc, _⟩
  · injection e with _ e2 e3; omega
  · injection e with _ e2 e3; omega

theorem OwnA.form {W : World} {base lim : Nat} {v : Value} {d : Dk} (h : OwnA W base lim v d) : ∃ a b c e, v = .agg #[.slice a d.1.length b, .slice c d.2.length e] := by
  obtain ⟨mid, x, p, rfl, _, _, _, h1, _, h2⟩ := h
  obtain ⟨a, b, rfl⟩ := own_form h1
  obtain ⟨c, e, rfl⟩ := h2.ownQ.ownSS.form
  exact ⟨_, _, _, _, rfl⟩

set_option maxRecDepth 100000 in
set_option maxHeartbeats 1000000 in
theorem markA_in {W : World} {base lim : Nat} {v : Value} {d : Dk} (h : OwnA W base lim v d) (hn : d.1.length ≤ 1048576) (hm : d.2.length ≤ 1048576) (hs : accN (fun j => (d.2.getD j []).length) d.2.length ≤ 1048576) (k : Nat) (hk : k ≤ 1000000) :
    Calls Tryz.prog 32 #[v, .int .i64 k] W fun e w' => e = .returned (.int .i64 ((k + d.1.length + accN (fun j => (d.2.getD j []).length) d.2.length : Nat) : Int)) ∧ Between base lim W w' := by
  obtain ⟨xa, xc, pa, pc, hv⟩ := h.form
  obtain ⟨mid, x, p, rfl, h0, h1, h2, h3, h4, h5⟩ := h
  injection hv with hv
  simp at hv
  obtain ⟨rfl, rfl⟩ := hv
  have hB := (Below.refl _ W).alloc (Nat.le_refl _) (.cells #[.slice xa d.1.length xc, .slice pa d.2.length pc] 31)
  have k0 := World.alloc_heap_new W (.cells #[.slice xa d.1.length xc, .slice pa d.2.length pc] 31)
  have hs1 := World.size_alloc W (.cells #[.slice xa d.1.length xc, .slice pa d.2.length pc] 31)
  obtain ⟨W1, hW1⟩ : ∃ W1, W.alloc (.cells #[.slice xa d.1.length xc, .slice pa d.2.length pc] 31) = W1 := ⟨_, rfl⟩
  rw [hW1] at hB k0 hs1
  have hI : OwnI W1 base mid (.slice xa d.1.length xc) d.1.length (fun i => d.1.getD i 0) := by
    have hr := own_below h3 hB
    by_cases hp : 0 < d.1.length
    · obtain ⟨g, cap, e, hb, hra⟩ := RowAt.of_owns hr hp
      exact .inr ⟨g, cap, e, hb, h4 g (by rw [e]; rfl), hra⟩
    · exact .inl ⟨by omega, xa, xc, by rw [show d.1.length = 0 by omega]⟩
  have hM := mark_own hI (by omega) k (by omega)
  have hG1 := h5.below hB
  obtain ⟨c0, c1, _, _⟩ := row_at k0
  have hs2 := Nat.le_of_eq hs1
  have hs' := Nat.le_of_eq hs1.symm
  clear h3 h5 hs1 hI
  have hkn : ((k + d.1.length : Nat) : Int) = (k : Int) + (d.1.length : Int) := by omega
  go_enter Tryz.func32, Tryz.ntmps32
  go_wp2_with (first
    | (go_at_call 81; go_loud (refine hM.mono ?_; clear hM; rintro e W2 ⟨rfl, _, row, hg2, hr2⟩; have k2 := (hg2.block _ (Array.getElem?_eq_some_iff.1 k0).1 (fun e => (by have := hr2 _ e.symm; omega))).trans k0; obtain ⟨c0, c1, _, _⟩ := row_at k2; have hG2 := hG1.rowed hg2 (fun j e => (hr2 j e).2); have hS := markQ_in hG2 (by omega) (k + d.1.length) (by omega)))
    | (go_at_call 82; go_loud (refine hS.mono ?_; clear hS; rintro e W3 ⟨rfl, hbt⟩)))
  go_ret
  refine ⟨rfl, (hbt.os.trans hg2.os).trans hB.os, (hbt.tape.trans hg2.tape).trans hB.tape, (hbt.output.trans hg2.output).trans hB.output, Nat.le_trans hB.size (Nat.le_trans hg2.size hbt.size), fun q hq ho => ?_⟩
  have q1 := hB.block q hq
  have hq1 : q < W1.heap.size := Nat.lt_of_lt_of_le hq hB.size
  have q2 := hg2.block q hq1 (fun e => by have := hr2 q e.symm; omega)
  have q3 := hbt.block q (Nat.lt_of_lt_of_le hq1 hg2.size) (by omega)
  exact q3.trans (q2.trans q1)

/-- A block of ints. -/
def IntB (W : World) (k : Nat) : Prop := ∃ cur, W.heap[k]? = some (.cells cur 3 (0, 0))

/-- What changes between two marks alone, and only blocks of ints. -/
structure BetI (base lim : Nat) (W W' : World) : Prop where
  os : W'.os = W.os
  tape : W'.tape = W.tape
  output : W'.output = W.output
  size : W.heap.size ≤ W'.heap.size
  block : ∀ k, k < W.heap.size → (k < base ∨ lim ≤ k ∨ ¬ IntB W k) → W'.heap[k]? = W.heap[k]?

theorem BetI.refl (base lim : Nat) (W : World) : BetI base lim W W := ⟨rfl, rfl, rfl, Nat.le_refl _, fun _ _ _ => rfl⟩

theorem BetI.row {base lim : Nat} {W W' W2 : World} {g : Nat} (h : BetI base lim W W') (hg : W'.grownBy W2 (some g)) (hb : base ≤ g ∧ g < lim) (hi : IntB W g) : BetI base lim W W2 :=
  ⟨hg.os.trans h.os, hg.tape.trans h.tape, hg.output.trans h.output, Nat.le_trans h.size hg.size, fun k hk ho => (hg.block k (Nat.lt_of_lt_of_le hk h.size) (fun e => by
    injection e with e
    subst e
    rcases ho with ho | ho | ho
    · omega
    · omega
    · exact ho hi)).trans (h.block k hk ho)⟩
end Go.Proofs.YtiaaefapbcjgmaaGreatDoor
namespace Go.Proofs.YtiaaefapbcjgmaaGreatDoor
open Go.RowKit Go.Shelf
attribute [local go_sem] Oper.semAt_some

set_option maxRecDepth 100000 in
set_option maxHeartbeats 2000000 in
theorem specDo_none (x p : Value) (d : Dk) (k n : Int) (w : World) (hx : Ints w x d.1) (hp : PastI w p d.2) (hb : deskB d = true) (hk : Fits k) (hn : Fits n) (h5 : k = 5 ∧ n = 0) (h0 : d.2.length = 0) : Calls Tryz.prog 66 #[.agg #[x, p], dV k n] w fun e w' =>
    ∃ y, e = .returned (.tuple #[y, .bool (doV d k n).2]) ∧ DeskI w' y (doV d k n).1 ∧ (CapN w.heap.size y ∧ (d.2.length < 8 → PastO w' w.heap.size y (doV d k n).1.2)) ∧ Below w.heap.size w w' := by
  obtain ⟨rfl, rfl⟩ := h5
  rw [doV_same hb (by omega) (.inl rfl)]
  obtain ⟨hd1, hd2, hd3⟩ := deskB_is.1 hb
  have hl := sideB_len hd2
  have hD := Do1.new w x p 5 0
  obtain ⟨W1, hW1⟩ : ∃ W1, ((w.alloc (.cells #[x, p] 31)).alloc (.cells #[.int .i64 5, .int .i64 0] 39)).alloc (.cells #[.slice none 0 0, .slice none 0 0] 31) = W1 := ⟨_, rfl⟩
  rw [hW1] at hD
  have hOK := specDeskOk (.agg #[x, p]) d W1 ⟨x, p, rfl, hx.below hD.below, hp.below hD.below⟩ ⟨by omega, by omega, fun j => by
    by_cases hj : j < d.2.length
    · have := sideB_len (hd1 (d.2.getD j []) (by rw [List.getD, List.getElem?_eq_getElem hj]; exact List.getElem_mem hj)); omega
    · rw [List.getD, List.getElem?_eq_none (by omega)]; simp⟩
  rw [hb] at hOK
  have hCp := fun V (hV : Do1 w x p 5 0 V) => specCopy x p d V (hx.below hV.below) (hp.below hV.below) hb
  have hMd := fun V (hV : Do1 w x p 5 0 V) => specMade x d.1 5 0 V (hx.below hV.below) hd2 hk hn
  have q5 := fun V => equal_deed (k := 5) (n := 0) (by constructor <;> omega) (by constructor <;> omega) (k' := 5) (n' := 0) (by constructor <;> omega) (by constructor <;> omega) V
  have e5 : decide ((5 : Int) = 5 ∧ (0 : Int) = 0) = true := by decide
  rw [e5] at q5
  obtain ⟨row, past⟩ := d
  simp only at hd1 hd2 hd3 hl hx hp hCp hMd hOK ⊢
  have hM : madeV row 5 0 = [] := rfl
  rw [hM] at hMd
  obtain rfl : past = [] := List.length_eq_zero_iff.1 h0
  clear hM e5 h0
  obtain ⟨ap, cp, rfl, _⟩ := id hp
  obtain ⟨ax, cx, rfl⟩ := hx.shape
  obtain ⟨a0, a1, _, _⟩ := row_at hD.desk
  unfold dV at hMd ⊢
  simp only [List.length_nil] at hOK hW1 hD hMd hCp a0 a1 ⊢
  go_enter Tryz.func66, Tryz.ntmps66
  go_wp2_with (first
    | (go_at_call 13; go_loud (refine hOK.mono ?_; clear hOK; rintro e W2 ⟨rfl, hB2⟩; have hD2 := hD.more hB2; obtain ⟨a0, a1, _, _⟩ := row_at hD2.desk; clear hD hB2))
    | (go_at_call 65; go_loud (refine (hCp _ hD2).mono ?_; clear hCp; rintro e W3 ⟨y, q, rfl, hy, hq, hB3⟩; have hE := do2_new (d := (row, [])) hD2 hy hq hB3; obtain ⟨ay, cy, rfl⟩ := own_form hy; obtain ⟨aq, cq, eq0⟩ := hq.form; simp only [List.length_nil] at eq0; subst eq0; obtain ⟨a0, a1, _, _⟩ := row_at hE.one.desk; obtain ⟨c0, c1, _, _⟩ := row_at hE.one.deed; clear hD2 hB3 hy hq; obtain ⟨W4, hW4⟩ : ∃ W4, W3.alloc (.cells #[.slice ay row.length cy, .slice aq 0 cq] 31) = W4 := ⟨_, rfl⟩; rw [hW4] at hE a0 a1 c0 c1; obtain ⟨e0, e1, f0, f1⟩ := row_at hE.out))
    | (go_at_call 106; go_loud (refine (hMd _ hE.one).mono ?_; clear hMd; rintro e W5 ⟨r, rfl, hr, hB5, hrf⟩; have hqb := do2_block hE; have hrlo : ∀ g, r.ownBlock = some g → w.heap.size ≤ g := (fun g e => Nat.le_trans hE.one.below.size (hrf g e)); have hF := hE.more hB5; obtain ⟨a0, a1, _, _⟩ := row_at hF.one.desk; obtain ⟨ar, cr, rfl⟩ := hr.shape; obtain ⟨e0, e1, f0, f1⟩ := row_at hF.out; obtain ⟨r0, r1, g0, g1⟩ := row_at hF.one.res; clear hE hB5))
    | (go_at_call 107; fail))
  have hE2 := hF
  obtain ⟨hown, hBl, hpo, hap⟩ := hE2.result
  have hres := hide (desk_set hE2.one.res (.slice ay row.length cy) (.slice aq 0 cq))
  have hcap : 0 ≤ cq := by obtain ⟨us, _, ho, _⟩ := hE2.past; exact own_cap ho
  have hcn : ∀ g o t, aq = some ⟨g, o, t⟩ → w.heap.size ≤ g := fun g o t e => by
    subst e
    obtain ⟨us, _, ho, _⟩ := hE2.past
    have := (ho.lt g rfl).1
    omega
  clear hE2
  exact bodyPost_ret (results_desk2 rfl _ _ (w.heap.size + 2) _ _ rfl hres.out) rfl ⟨_, rfl, hown, ⟨CapN.of hcap hcn, fun _ => ⟨_, _, rfl, hpo, hap⟩⟩, hBl⟩

set_option maxRecDepth 100000 in
set_option maxHeartbeats 2000000 in
theorem specDo_empty (x p : Value) (d : Dk) (k n : Int) (w : World) (hx : Ints w x d.1) (hp : PastI w p d.2) (hb : deskB d = true) (hk : Fits k) (hn : Fits n) (h5 : ¬ (k = 5 ∧ n = 0)) (hM : madeV d.1 k n = []) : Calls Tryz.prog 66 #[.agg #[x, p], dV k n] w fun e w' =>
    ∃ y, e = .returned (.tuple #[y, .bool (doV d k n).2]) ∧ DeskI w' y (doV d k n).1 ∧ (CapN w.heap.size y ∧ (d.2.length < 8 → PastO w' w.heap.size y (doV d k n).1.2)) ∧ Below w.heap.size w w' := by
  rw [doV_same hb (fun h => h5 ⟨h.1, h.2.1⟩) (.inl hM)]
  obtain ⟨hd1, hd2, hd3⟩ := deskB_is.1 hb
  have hl := sideB_len hd2
  have hD := Do1.new w x p k n
  obtain ⟨W1, hW1⟩ : ∃ W1, ((w.alloc (.cells #[x, p] 31)).alloc (.cells #[.int .i64 k, .int .i64 n] 39)).alloc (.cells #[.slice none 0 0, .slice none 0 0] 31) = W1 := ⟨_, rfl⟩
  rw [hW1] at hD
  have hOK := specDeskOk (.agg #[x, p]) d W1 ⟨x, p, rfl, hx.below hD.below, hp.below hD.below⟩ ⟨by omega, by omega, fun j => by
    by_cases hj : j < d.2.length
    · have := sideB_len (hd1 (d.2.getD j []) (by rw [List.getD, List.getElem?_eq_getElem hj]; exact List.getElem_mem hj)); omega
    · rw [List.getD, List.getElem?_eq_none (by omega)]; simp⟩
  rw [hb] at hOK
  have hCp := fun V (hV : Do1 w x p k n V) => specCopy x p d V (hx.below hV.below) (hp.below hV.below) hb
  have hMd := fun V (hV : Do1 w x p k n V) => specMade x d.1 k n V (hx.below hV.below) hd2 hk hn
  have q5 := fun V => equal_deed hk hn (k' := 5) (n' := 0) (by constructor <;> omega) (by constructor <;> omega) V
  rw [decide_eq_false h5] at q5
  obtain ⟨row, past⟩ := d
  simp only at hd1 hd2 hd3 hl hx hp hCp hMd hOK ⊢
  rw [hM] at hMd
  clear hM h5
  obtain ⟨ap, cp, rfl, _⟩ := id hp
  obtain ⟨ax, cx, rfl⟩ := hx.shape
  obtain ⟨a0, a1, _, _⟩ := row_at hD.desk
  unfold dV at hMd ⊢

  go_enter Tryz.func66, Tryz.ntmps66
  go_wp2_with (first
    | (go_at_call 13; go_loud (refine hOK.mono ?_; clear hOK; rintro e W2 ⟨rfl, hB2⟩; have hD2 := hD.more hB2; obtain ⟨a0, a1, _, _⟩ := row_at hD2.desk; clear hD hB2))
    | (go_at_call 65; go_loud (refine (hCp _ hD2).mono ?_; clear hCp; rintro e W3 ⟨y, q, rfl, hy, hq, hB3⟩; have hE := do2_new (d := (row, past)) hD2 hy hq hB3; obtain ⟨ay, cy, rfl⟩ := own_form hy; obtain ⟨aq, cq, rfl⟩ := hq.form; obtain ⟨a0, a1, _, _⟩ := row_at hE.one.desk; obtain ⟨c0, c1, _, _⟩ := row_at hE.one.deed; clear hD2 hB3 hy hq; obtain ⟨W4, hW4⟩ : ∃ W4, W3.alloc (.cells #[.slice ay row.length cy, .slice aq past.length cq] 31) = W4 := ⟨_, rfl⟩; rw [hW4] at hE a0 a1 c0 c1; obtain ⟨e0, e1, f0, f1⟩ := row_at hE.out))
    | (go_at_call 106; go_loud (refine (hMd _ hE.one).mono ?_; clear hMd; rintro e W5 ⟨r, rfl, hr, hB5, hrf⟩; have hqb := do2_block hE; have hrlo : ∀ g, r.ownBlock = some g → w.heap.size ≤ g := (fun g e => Nat.le_trans hE.one.below.size (hrf g e)); have hF := hE.more hB5; obtain ⟨a0, a1, _, _⟩ := row_at hF.one.desk; obtain ⟨ar, cr, rfl⟩ := hr.shape; obtain ⟨e0, e1, f0, f1⟩ := row_at hF.out; obtain ⟨r0, r1, g0, g1⟩ := row_at hF.one.res; clear hE hB5))
    | (go_at_call 107; fail))
  have hE2 := hF
  obtain ⟨hown, hBl, hpo, hap⟩ := hE2.result
  have hres := hide (desk_set hE2.one.res (.slice ay row.length cy) (.slice aq past.length cq))
  have hcap : past.length ≤ cq := by obtain ⟨us, _, ho, _⟩ := hE2.past; exact own_cap ho
  have hcn : ∀ g o t, aq = some ⟨g, o, t⟩ → w.heap.size ≤ g := fun g o t e => by
    subst e
    obtain ⟨us, _, ho, _⟩ := hE2.past
    have := (ho.lt g rfl).1
    omega
  clear hE2
  exact bodyPost_ret (results_desk2 rfl _ _ (w.heap.size + 2) _ _ rfl hres.out) rfl ⟨_, rfl, hown, ⟨CapN.of hcap hcn, fun _ => ⟨_, _, rfl, hpo, hap⟩⟩, hBl⟩

set_option maxRecDepth 100000 in
set_option maxHeartbeats 2000000 in
theorem specDo_same (x p : Value) (d : Dk) (k n : Int) (w : World) (hx : Ints w x d.1) (hp : PastI w p d.2) (hb : deskB d = true) (hk : Fits k) (hn : Fits n) (h5 : ¬ (k = 5 ∧ n = 0)) (hM : madeV d.1 k n = d.1) : Calls Tryz.prog 66 #[.agg #[x, p], dV k n] w fun e w' =>
    ∃ y, e = .returned (.tuple #[y, .bool (doV d k n).2]) ∧ DeskI w' y (doV d k n).1 ∧ (CapN w.heap.size y ∧ (d.2.length < 8 → PastO w' w.heap.size y (doV d k n).1.2)) ∧ Below w.heap.size w w' := by
  rw [doV_same hb (fun h => h5 ⟨h.1, h.2.1⟩) (.inr hM)]
  obtain ⟨hd1, hd2, hd3⟩ := deskB_is.1 hb
  have hl := sideB_len hd2
  have hD := Do1.new w x p k n
  obtain ⟨W1, hW1⟩ : ∃ W1, ((w.alloc (.cells #[x, p] 31)).alloc (.cells #[.int .i64 k, .int .i64 n] 39)).alloc (.cells #[.slice none 0 0, .slice none 0 0] 31) = W1 := ⟨_, rfl⟩
  rw [hW1] at hD
  have hOK := specDeskOk (.agg #[x, p]) d W1 ⟨x, p, rfl, hx.below hD.below, hp.below hD.below⟩ ⟨by omega, by omega, fun j => by
    by_cases hj : j < d.2.length
    · have := sideB_len (hd1 (d.2.getD j []) (by rw [List.getD, List.getElem?_eq_getElem hj]; exact List.getElem_mem hj)); omega
    · rw [List.getD, List.getElem?_eq_none (by omega)]; simp⟩
  rw [hb] at hOK
  have hCp := fun V (hV : Do1 w x p k n V) => specCopy x p d V (hx.below hV.below) (hp.below hV.below) hb
  have hMd := fun V (hV : Do1 w x p k n V) => specMade x d.1 k n V (hx.below hV.below) hd2 hk hn
  have q5 := fun V => equal_deed hk hn (k' := 5) (n' := 0) (by constructor <;> omega) (by constructor <;> omega) V
  rw [decide_eq_false h5] at q5
  obtain ⟨row, past⟩ := d
  simp only at hd1 hd2 hd3 hl hx hp hCp hMd hOK ⊢
  rw [hM] at hMd
  have hEq := fun (V : World) (r : Value) (hV : Do1 w x p k n V) (hr : Ints V r row) => specSame r x row row V hr (hx.below hV.below) (by omega)
  rw [decide_eq_true (rfl : row = row)] at hEq
  have hrow : ¬ (row = []) := fun e => by rw [e] at hl; simp at hl
  clear hM h5
  obtain ⟨ap, cp, rfl, _⟩ := id hp
  obtain ⟨ax, cx, rfl⟩ := hx.shape
  obtain ⟨a0, a1, _, _⟩ := row_at hD.desk
  unfold dV at hMd ⊢

  go_enter Tryz.func66, Tryz.ntmps66
  go_wp2_with (first
    | (go_at_call 13; go_loud (refine hOK.mono ?_; clear hOK; rintro e W2 ⟨rfl, hB2⟩; have hD2 := hD.more hB2; obtain ⟨a0, a1, _, _⟩ := row_at hD2.desk; clear hD hB2))
    | (go_at_call 65; go_loud (refine (hCp _ hD2).mono ?_; clear hCp; rintro e W3 ⟨y, q, rfl, hy, hq, hB3⟩; have hE := do2_new (d := (row, past)) hD2 hy hq hB3; obtain ⟨ay, cy, rfl⟩ := own_form hy; obtain ⟨aq, cq, rfl⟩ := hq.form; obtain ⟨a0, a1, _, _⟩ := row_at hE.one.desk; obtain ⟨c0, c1, _, _⟩ := row_at hE.one.deed; clear hD2 hB3 hy hq; obtain ⟨W4, hW4⟩ : ∃ W4, W3.alloc (.cells #[.slice ay row.length cy, .slice aq past.length cq] 31) = W4 := ⟨_, rfl⟩; rw [hW4] at hE a0 a1 c0 c1; obtain ⟨e0, e1, f0, f1⟩ := row_at hE.out))
    | (go_at_call 106; go_loud (refine (hMd _ hE.one).mono ?_; clear hMd; rintro e W5 ⟨r, rfl, hr, hB5, hrf⟩; have hqb := do2_block hE; have hrlo : ∀ g, r.ownBlock = some g → w.heap.size ≤ g := (fun g e => Nat.le_trans hE.one.below.size (hrf g e)); have hF := hE.more hB5; obtain ⟨a0, a1, _, _⟩ := row_at hF.one.desk; obtain ⟨ar, cr, rfl⟩ := hr.shape; obtain ⟨e0, e1, f0, f1⟩ := row_at hF.out; obtain ⟨r0, r1, g0, g1⟩ := row_at hF.one.res; clear hE hB5))
    | (go_at_call 107; go_loud (refine (hEq _ _ hF.one hr).mono ?_; clear hEq; rintro e W6 ⟨rfl, hB6⟩; have hr6 := hr.below hB6; have hG := hF.more hB6; obtain ⟨a0, a1, _, _⟩ := row_at hG.one.desk; obtain ⟨e0, e1, f0, f1⟩ := row_at hG.out; obtain ⟨r0, r1, g0, g1⟩ := row_at hG.one.res; clear hF hB6 hr)))
  have hE2 := hG
  obtain ⟨hown, hBl, hpo, hap⟩ := hE2.result
  have hres := hide (desk_set hE2.one.res (.slice ay row.length cy) (.slice aq past.length cq))
  have hcap : past.length ≤ cq := by obtain ⟨us, _, ho, _⟩ := hE2.past; exact own_cap ho
  have hcn : ∀ g o t, aq = some ⟨g, o, t⟩ → w.heap.size ≤ g := fun g o t e => by
    subst e
    obtain ⟨us, _, ho, _⟩ := hE2.past
    have := (ho.lt g rfl).1
    omega
  clear hE2
  exact bodyPost_ret (results_desk2 rfl _ _ (w.heap.size + 2) _ _ rfl hres.out) rfl ⟨_, rfl, hown, ⟨CapN.of hcap hcn, fun _ => ⟨_, _, rfl, hpo, hap⟩⟩, hBl⟩

set_option maxRecDepth 100000 in
set_option maxHeartbeats 2000000 in
theorem specDo_made (x p : Value) (d : Dk) (k n : Int) (w : World) (hx : Ints w x d.1) (hp : PastI w p d.2) (hb : deskB d = true) (hk : Fits k) (hn : Fits n) (h5 : ¬ (k = 5 ∧ n = 0)) (h0 : madeV d.1 k n ≠ []) (hM : madeV d.1 k n ≠ d.1) (h8 : d.2.length < 8) : Calls Tryz.prog 66 #[.agg #[x, p], dV k n] w fun e w' =>
    ∃ y, e = .returned (.tuple #[y, .bool (doV d k n).2]) ∧ DeskI w' y (doV d k n).1 ∧ (CapN w.heap.size y ∧ (d.2.length < 8 → PastO w' w.heap.size y (doV d k n).1.2)) ∧ Below w.heap.size w w' := by
  rw [doV_made hb (fun h => h5 ⟨h.1, h.2.1⟩) (fun h => h.elim h0 hM), show pastV d.2 d.1 = d.2 ++ [d.1] by unfold pastV; rw [if_pos h8]]
  obtain ⟨hd1, hd2, hd3⟩ := deskB_is.1 hb
  have hl := sideB_len hd2
  have hD := Do1.new w x p k n
  obtain ⟨W1, hW1⟩ : ∃ W1, ((w.alloc (.cells #[x, p] 31)).alloc (.cells #[.int .i64 k, .int .i64 n] 39)).alloc (.cells #[.slice none 0 0, .slice none 0 0] 31) = W1 := ⟨_, rfl⟩
  rw [hW1] at hD
  have hOK := specDeskOk (.agg #[x, p]) d W1 ⟨x, p, rfl, hx.below hD.below, hp.below hD.below⟩ ⟨by omega, by omega, fun j => by
    by_cases hj : j < d.2.length
    · have := sideB_len (hd1 (d.2.getD j []) (by rw [List.getD, List.getElem?_eq_getElem hj]; exact List.getElem_mem hj)); omega
    · rw [List.getD, List.getElem?_eq_none (by omega)]; simp⟩
  rw [hb] at hOK
  have hCp := fun V (hV : Do1 w x p k n V) => specCopy x p d V (hx.below hV.below) (hp.below hV.below) hb
  have hMd := fun V (hV : Do1 w x p k n V) => specMade x d.1 k n V (hx.below hV.below) hd2 hk hn
  have q5 := fun V => equal_deed hk hn (k' := 5) (n' := 0) (by constructor <;> omega) (by constructor <;> omega) V
  rw [decide_eq_false h5] at q5
  obtain ⟨row, past⟩ := d
  simp only at hd1 hd2 hd3 hl hx hp hCp hMd hOK ⊢
  have hml := sideB_len (made_side hd2 k n h0)
  have hEq := fun (V : World) (r : Value) (hV : Do1 w x p k n V) (hr : Ints V r (madeV row k n)) => specSame r x (madeV row k n) row V hr (hx.below hV.below) (by omega)
  rw [decide_eq_false hM] at hEq
  generalize madeV row k n = M at *
  have hrow : ¬ (M = []) := h0
  clear h0 hM h5 hd1
  obtain ⟨ap, cp, rfl, _⟩ := id hp
  obtain ⟨ax, cx, rfl⟩ := hx.shape
  obtain ⟨a0, a1, _, _⟩ := row_at hD.desk
  unfold dV at hMd ⊢

  go_enter Tryz.func66, Tryz.ntmps66
  go_wp2_with (first
    | (go_at_call 13; go_loud (refine hOK.mono ?_; clear hOK; rintro e W2 ⟨rfl, hB2⟩; have hD2 := hD.more hB2; obtain ⟨a0, a1, _, _⟩ := row_at hD2.desk; clear hD hB2))
    | (go_at_call 65; go_loud (refine (hCp _ hD2).mono ?_; clear hCp; rintro e W3 ⟨y, q, rfl, hy, hq, hB3⟩; have hE := do2_new (d := (row, past)) hD2 hy hq hB3; obtain ⟨ay, cy, rfl⟩ := own_form hy; obtain ⟨aq, cq, rfl⟩ := hq.form; obtain ⟨a0, a1, _, _⟩ := row_at hE.one.desk; obtain ⟨c0, c1, _, _⟩ := row_at hE.one.deed; clear hD2 hB3 hy hq; obtain ⟨W4, hW4⟩ : ∃ W4, W3.alloc (.cells #[.slice ay row.length cy, .slice aq past.length cq] 31) = W4 := ⟨_, rfl⟩; rw [hW4] at hE a0 a1 c0 c1; obtain ⟨e0, e1, f0, f1⟩ := row_at hE.out))
    | (go_at_call 106; go_loud (refine (hMd _ hE.one).mono ?_; clear hMd; rintro e W5 ⟨r, rfl, hr, hB5, hrf⟩; have hqb := do2_block hE; have hrlo : ∀ g, r.ownBlock = some g → w.heap.size ≤ g := (fun g e => Nat.le_trans hE.one.below.size (hrf g e)); have hF := hE.more hB5; obtain ⟨a0, a1, _, _⟩ := row_at hF.one.desk; obtain ⟨ar, cr, rfl⟩ := hr.shape; obtain ⟨e0, e1, f0, f1⟩ := row_at hF.out; obtain ⟨r0, r1, g0, g1⟩ := row_at hF.one.res; clear hE hB5))
    | (go_at_call 107; go_loud (refine (hEq _ _ hF.one hr).mono ?_; clear hEq; rintro e W6 ⟨rfl, hB6⟩; have hr6 := hr.below hB6; have hG := hF.more hB6; obtain ⟨a0, a1, _, _⟩ := row_at hG.one.desk; obtain ⟨e0, e1, f0, f1⟩ := row_at hG.out; obtain ⟨r0, r1, g0, g1⟩ := row_at hG.one.res; obtain ⟨us, hul, huo, hur⟩ := hG.past; simp only at hul; have hq6 := (Boxed.new W6 28 (.slice ay row.length cy)).cell; have hb7 := (Below.refl _ W6).alloc (Nat.le_refl _) (.cells #[.slice ay row.length cy] 28); have huo7 := own_below huo hb7; have hG7 := hG.more hb7; have hr7 := hr6.below hb7; have hsz7 := hG7.one.size; have hlt7 := hG7.lt; obtain ⟨W7, hW7⟩ : ∃ W7, W6.alloc (.cells #[.slice ay row.length cy] 28) = W7 := ⟨_, rfl⟩; rw [hW7] at hq6 huo7 hG7 hr7 hsz7 hb7; have hur7 := fun j (hj : j < past.length) => own_below (hur j hj) hb7; clear hF hB6 hr))
    | (at_builtin; go_loud (refine append_slice12 rfl _ _ rfl rfl (w.heap.size + 3) _ us.length us rfl huo7 W6.heap.size rfl hq6 (by omega) (by omega) ?_); intro v8 w8 how8 hg8; go_loud (have hF8 := hG7.append hul huo7 hur7 how8 hg8 hr7 hrf hqb; obtain ⟨a8, c8, rfl⟩ := own_form how8; obtain ⟨k0, k1, k2, k3⟩ := row_at hF8.out; obtain ⟨s0, s1, t0, t1⟩ := row_at hF8.res; have hcap8 := own_cap how8; have hcn8 := (fun g h => (how8.lt g h).1); rw [hul] at hcap8 hF8 ⊢; have hF9 := hide hF8; clear hF8 how8 hg8 hG7 huo7 hur7 hur huo hG)))
  have hF10 := (hF9.out.set1 (.slice a8 (past.length + 1) c8)).set0 (.slice ar M.length cr)
  obtain ⟨hown, hBl⟩ := hF10.result (z := .slice a8 (past.length + 1) c8) (fun _ h => h)
  have hpo := hF10.own2 (z := .slice a8 (past.length + 1) c8)
  have hres := desk_set hF10.res (.slice ar M.length cr) (.slice a8 (past.length + 1) c8)
  exact bodyPost_ret (results_desk2 rfl _ _ (w.heap.size + 2) _ _ rfl hres) rfl ⟨_, rfl, hown, ⟨CapN.of hcap8 (fun g o t e => by subst e; have := hcn8 g rfl; omega), fun _ => ⟨_, _, rfl, hpo, fun g e => ⟨hrlo g e, ints_ownSS hF10.ints (List.length_pos_iff.2 hrow) hF10.own (by simp) g e⟩⟩⟩, hBl⟩

set_option maxRecDepth 100000 in
set_option maxHeartbeats 2000000 in
theorem specDo_full (x p : Value) (d : Dk) (k n : Int) (w : World) (hx : Ints w x d.1) (hp : PastI w p d.2) (hb : deskB d = true) (hk : Fits k) (hn : Fits n) (h5 : ¬ (k = 5 ∧ n = 0)) (h0 : madeV d.1 k n ≠ []) (hM : madeV d.1 k n ≠ d.1) (h8 : d.2.length = 8) : Calls Tryz.prog 66 #[.agg #[x, p], dV k n] w fun e w' =>
    ∃ y, e = .returned (.tuple #[y, .bool (doV d k n).2]) ∧ DeskI w' y (doV d k n).1 ∧ (CapN w.heap.size y ∧ (d.2.length < 8 → PastO w' w.heap.size y (doV d k n).1.2)) ∧ Below w.heap.size w w' := by
  rw [doV_made hb (fun h => h5 ⟨h.1, h.2.1⟩) (fun h => h.elim h0 hM), show pastV d.2 d.1 = (d.2 ++ [d.1]).tail by unfold pastV; rw [if_neg (by omega)]]
  obtain ⟨hd1, hd2, hd3⟩ := deskB_is.1 hb
  have hl := sideB_len hd2
  have hD := Do1.new w x p k n
  obtain ⟨W1, hW1⟩ : ∃ W1, ((w.alloc (.cells #[x, p] 31)).alloc (.cells #[.int .i64 k, .int .i64 n] 39)).alloc (.cells #[.slice none 0 0, .slice none 0 0] 31) = W1 := ⟨_, rfl⟩
  rw [hW1] at hD
  have hOK := specDeskOk (.agg #[x, p]) d W1 ⟨x, p, rfl, hx.below hD.below, hp.below hD.below⟩ ⟨by omega, by omega, fun j => by
    by_cases hj : j < d.2.length
    · have := sideB_len (hd1 (d.2.getD j []) (by rw [List.getD, List.getElem?_eq_getElem hj]; exact List.getElem_mem hj)); omega
    · rw [List.getD, List.getElem?_eq_none (by omega)]; simp⟩
  rw [hb] at hOK
  have hCp := fun V (hV : Do1 w x p k n V) => specCopy x p d V (hx.below hV.below) (hp.below hV.below) hb
  have hMd := fun V (hV : Do1 w x p k n V) => specMade x d.1 k n V (hx.below hV.below) hd2 hk hn
  have q5 := fun V => equal_deed hk hn (k' := 5) (n' := 0) (by constructor <;> omega) (by constructor <;> omega) V
  rw [decide_eq_false h5] at q5
  obtain ⟨row, past⟩ := d
  simp only at hd1 hd2 hd3 hl hx hp hCp hMd hOK ⊢
  have hml := sideB_len (made_side hd2 k n h0)
  have hEq := fun (V : World) (r : Value) (hV : Do1 w x p k n V) (hr : Ints V r (madeV row k n)) => specSame r x (madeV row k n) row V hr (hx.below hV.below) (by omega)
  rw [decide_eq_false hM] at hEq
  generalize madeV row k n = M at *
  have hrow : ¬ (M = []) := h0
  clear h0 hM h5 hd1
  have h8' : past.length = 8 := h8
  have hgt : (past.length : Int) + 1 > 8 := by omega
  have hgn : 8 ≤ past.length := by omega
  clear h8 h8'
  obtain ⟨ap, cp, rfl, _⟩ := id hp
  obtain ⟨ax, cx, rfl⟩ := hx.shape
  obtain ⟨a0, a1, _, _⟩ := row_at hD.desk
  unfold dV at hMd ⊢

  go_enter Tryz.func66, Tryz.ntmps66
  go_wp2_with (first
    | (go_at_call 13; go_loud (refine hOK.mono ?_; clear hOK; rintro e W2 ⟨rfl, hB2⟩; have hD2 := hD.more hB2; obtain ⟨a0, a1, _, _⟩ := row_at hD2.desk; clear hD hB2))
    | (go_at_call 65; go_loud (refine (hCp _ hD2).mono ?_; clear hCp; rintro e W3 ⟨y, q, rfl, hy, hq, hB3⟩; have hE := do2_new (d := (row, past)) hD2 hy hq hB3; obtain ⟨ay, cy, rfl⟩ := own_form hy; obtain ⟨aq, cq, rfl⟩ := hq.form; obtain ⟨a0, a1, _, _⟩ := row_at hE.one.desk; obtain ⟨c0, c1, _, _⟩ := row_at hE.one.deed; clear hD2 hB3 hy hq; obtain ⟨W4, hW4⟩ : ∃ W4, W3.alloc (.cells #[.slice ay row.length cy, .slice aq past.length cq] 31) = W4 := ⟨_, rfl⟩; rw [hW4] at hE a0 a1 c0 c1; obtain ⟨e0, e1, f0, f1⟩ := row_at hE.out))
    | (go_at_call 106; go_loud (refine (hMd _ hE.one).mono ?_; clear hMd; rintro e W5 ⟨r, rfl, hr, hB5, hrf⟩; have hqb := do2_block hE; have hrlo : ∀ g, r.ownBlock = some g → w.heap.size ≤ g := (fun g e => Nat.le_trans hE.one.below.size (hrf g e)); have hF := hE.more hB5; obtain ⟨a0, a1, _, _⟩ := row_at hF.one.desk; obtain ⟨ar, cr, rfl⟩ := hr.shape; obtain ⟨e0, e1, f0, f1⟩ := row_at hF.out; obtain ⟨r0, r1, g0, g1⟩ := row_at hF.one.res; clear hE hB5))
    | (go_at_call 107; go_loud (refine (hEq _ _ hF.one hr).mono ?_; clear hEq; rintro e W6 ⟨rfl, hB6⟩; have hr6 := hr.below hB6; have hG := hF.more hB6; obtain ⟨a0, a1, _, _⟩ := row_at hG.one.desk; obtain ⟨e0, e1, f0, f1⟩ := row_at hG.out; obtain ⟨r0, r1, g0, g1⟩ := row_at hG.one.res; obtain ⟨us, hul, huo, hur⟩ := hG.past; simp only at hul; have hq6 := (Boxed.new W6 28 (.slice ay row.length cy)).cell; have hb7 := (Below.refl _ W6).alloc (Nat.le_refl _) (.cells #[.slice ay row.length cy] 28); have huo7 := own_below huo hb7; have hG7 := hG.more hb7; have hr7 := hr6.below hb7; have hsz7 := hG7.one.size; have hlt7 := hG7.lt; obtain ⟨W7, hW7⟩ : ∃ W7, W6.alloc (.cells #[.slice ay row.length cy] 28) = W7 := ⟨_, rfl⟩; rw [hW7] at hq6 huo7 hG7 hr7 hsz7 hb7; have hur7 := fun j (hj : j < past.length) => own_below (hur j hj) hb7; clear hF hB6 hr))
    | (at_builtin; go_loud (refine append_slice12 rfl _ _ rfl rfl (w.heap.size + 3) _ us.length us rfl huo7 W6.heap.size rfl hq6 (by omega) (by omega) ?_); intro v8 w8 how8 hg8; go_loud (have hF8 := hG7.append hul huo7 hur7 how8 hg8 hr7 hrf hqb; obtain ⟨G8, c8, rfl⟩ := own_some how8 (Nat.succ_pos _); obtain ⟨k0, k1, k2, k3⟩ := row_at hF8.out; obtain ⟨s0, s1, t0, t1⟩ := row_at hF8.res; have hcap8 := own_cap how8; have hcn8 := (fun g h => (how8.lt g h).1); rw [hul] at hcap8 hF8 ⊢; have hc81 : ¬ c8 = 1 := (fun e => (by rw [e] at hcap8; omega)); have hF9 := hide hF8; clear hF8 how8 hg8 hG7 huo7 hur7 hur huo hG)))
  have hF10 := ((hF9.out.set1 (.slice (some ⟨G8, 0, none⟩) (past.length + 1) c8)).set1 (.slice (some ⟨G8, 1, none⟩) past.length (c8 - 1))).set0 (.slice ar M.length cr)
  obtain ⟨hown, hBl⟩ := hF10.result (z := .slice (some ⟨G8, 1, none⟩) past.length (c8 - 1)) (fun _ h => past_tail h)
  have hres := desk_set hF10.res (.slice ar M.length cr) (.slice (some ⟨G8, 1, none⟩) past.length (c8 - 1))
  exact bodyPost_ret (results_desk2 rfl _ _ (w.heap.size + 2) _ _ rfl hres) rfl ⟨_, rfl, hown, ⟨CapN.of (by omega) (fun g o t e => by injection e with e; injection e with e _; subst e; exact Nat.le_trans (Nat.le_add_right _ 3) (hcn8 G8 rfl)), fun h => absurd (show past.length < 8 from h) (by omega)⟩, hBl⟩

theorem past_take {W : World} {G o L c : Nat} {rows : List (List Int)} (h : PastI W (.slice (some ⟨G, o, none⟩) (L + 1) c) rows) : PastI W (.slice (some ⟨G, o, none⟩) L c) (rows.take L) := by
  obtain ⟨a, c', e, hr⟩ := h
  injection e with e1 e2 e3
  subst e1
  have hl : (rows.take L).length = L := by rw [List.length_take]; omega
  refine ⟨some ⟨G, o, none⟩, c, by rw [hl], fun h0 => ?_⟩
  obtain ⟨G', o', e, hG, hc⟩ := hr (by omega)
  injection e with e
  injection e with e4 e5
  subst e4 e5
  refine ⟨G, o, rfl, hG, fun j hj => ?_⟩
  rw [hl] at hj
  obtain ⟨u, h1, h2⟩ := hc j (by omega)
  refine ⟨u, h1, ?_⟩
  rw [List.getD, List.getElem?_take, if_pos hj]
  exact h2

set_option maxRecDepth 100000 in
set_option maxHeartbeats 2000000 in
theorem specDo_back (x p : Value) (d : Dk) (k n : Int) (w : World) (hx : Ints w x d.1) (hp : PastI w p d.2) (hb : deskB d = true) (hk : Fits k) (hn : Fits n) (h5 : k = 5 ∧ n = 0) (L : Nat) (hL : d.2.length = L + 1) : Calls Tryz.prog 66 #[.agg #[x, p], dV k n] w fun e w' =>
    ∃ y, e = .returned (.tuple #[y, .bool (doV d k n).2]) ∧ DeskI w' y (doV d k n).1 ∧ (CapN w.heap.size y ∧ (d.2.length < 8 → PastO w' w.heap.size y (doV d k n).1.2)) ∧ Below w.heap.size w w' := by
  obtain ⟨rfl, rfl⟩ := h5
  rw [doV_back hb (by omega)]
  obtain ⟨hd1, hd2, hd3⟩ := deskB_is.1 hb
  have hl := sideB_len hd2
  have hD := Do1.new w x p 5 0
  obtain ⟨W1, hW1⟩ : ∃ W1, ((w.alloc (.cells #[x, p] 31)).alloc (.cells #[.int .i64 5, .int .i64 0] 39)).alloc (.cells #[.slice none 0 0, .slice none 0 0] 31) = W1 := ⟨_, rfl⟩
  rw [hW1] at hD
  have hOK := specDeskOk (.agg #[x, p]) d W1 ⟨x, p, rfl, hx.below hD.below, hp.below hD.below⟩ ⟨by omega, by omega, fun j => by
    by_cases hj : j < d.2.length
    · have := sideB_len (hd1 (d.2.getD j []) (by rw [List.getD, List.getElem?_eq_getElem hj]; exact List.getElem_mem hj)); omega
    · rw [List.getD, List.getElem?_eq_none (by omega)]; simp⟩
  rw [hb] at hOK
  have hCp := fun V (hV : Do1 w x p 5 0 V) => specCopy x p d V (hx.below hV.below) (hp.below hV.below) hb
  have hMd := fun V (hV : Do1 w x p 5 0 V) => specMade x d.1 5 0 V (hx.below hV.below) hd2 hk hn
  have q5 := fun V => equal_deed (k := 5) (n := 0) (by constructor <;> omega) (by constructor <;> omega) (k' := 5) (n' := 0) (by constructor <;> omega) (by constructor <;> omega) V
  have e5 : decide ((5 : Int) = 5 ∧ (0 : Int) = 0) = true := by decide
  rw [e5] at q5
  obtain ⟨row, past⟩ := d
  simp only at hd1 hd2 hd3 hl hx hp hCp hMd hOK ⊢
  have hpst : pstV past = past.getD L [] := by unfold pstV; rw [show past.length = L + 1 from hL]; rfl
  have hLt : past.length - 1 = L := by rw [show past.length = L + 1 from hL]; rfl
  rw [hpst, hLt]
  obtain ⟨R, hRR⟩ : ∃ R, past.getD L [] = R := ⟨_, rfl⟩
  rw [hRR]
  have hRh := hide hRR
  have hR1 : 0 < R.length := by
    rw [← hRR]
    have hLl : L < past.length := by rw [show past.length = L + 1 from hL]; omega
    exact (sideB_len (hd1 (past.getD L []) (by rw [List.getD, List.getElem?_eq_getElem hLl]; exact List.getElem_mem hLl))).1
  clear hRR
  have hL' : past.length = L + 1 := hL
  have hL0 : 0 < past.length := by omega
  have hLlt : L < past.length := by omega
  have hLb : L ≤ 8 := by omega
  have hhL := hide hL'
  clear e5 hpst hLt hd1 hd2 hMd
  obtain ⟨ap, cp, ep, _⟩ := id hp
  rw [hL'] at ep
  subst ep
  obtain ⟨ax, cx, rfl⟩ := hx.shape
  obtain ⟨a0, a1, _, _⟩ := row_at hD.desk
  unfold dV
  clear hL hL' hl hd3

  go_enter Tryz.func66, Tryz.ntmps66
  go_wp2_with (first
    | (go_at_call 13; go_loud (refine hOK.mono ?_; clear hOK; rintro e W2 ⟨rfl, hB2⟩; have hD2 := hD.more hB2; obtain ⟨a0, a1, _, _⟩ := row_at hD2.desk; clear hD hB2))
    | (go_at_call 65; go_loud (refine (hCp _ hD2).mono ?_; clear hCp; rintro e W3 ⟨y, q, rfl, hy, hq, hB3⟩; have hE := do2_new (d := (row, past)) hD2 hy hq hB3; obtain ⟨ay, cy, rfl⟩ := own_form hy; obtain ⟨gq, cq, eq0, hgq, hcq⟩ := hq.read2 hL0; obtain ⟨uL, hul, huL, huo⟩ := hcq L hLlt; have hallo : ∀ g, uL.ownBlock = some g → w.heap.size ≤ g := (fun g e => Nat.le_trans hD2.below.size (huo.lt g e).1); clear huo; rw [hRh.out] at huL; obtain ⟨al, cl, rfl⟩ := huL.shape; rw [hhL.out] at eq0; subst eq0; have hcnb := hD2.below.size; have hcp0 := own_cap (Classical.choose_spec hq).2.1; have hcn0 := Nat.le_trans hcnb ((Classical.choose_spec hq).2.1.lt gq rfl).1; have hcp1 : L ≤ cq := (by omega); obtain ⟨a0, a1, _, _⟩ := row_at hE.one.desk; obtain ⟨c0, c1, _, _⟩ := row_at hE.one.deed; clear hD2 hB3 hy hq; have hba := (Below.refl _ W3).alloc (Nat.le_refl _) (.cells #[.slice ay row.length cy, .slice (some ⟨gq, 0, none⟩) (L + 1) cq] 31); have hul4 := (hba.cell (p := ⟨gq, L, none⟩) hgq).trans hul; have huL4 := huL.below hba; obtain ⟨W4, hW4⟩ : ∃ W4, W3.alloc (.cells #[.slice ay row.length cy, .slice (some ⟨gq, 0, none⟩) (L + 1) cq] 31) = W4 := ⟨_, rfl⟩; rw [hW4] at hE a0 a1 c0 c1 hul4 huL4; obtain ⟨e0, e1, f0, f1⟩ := row_at hE.out; obtain ⟨r0, r1, g0, g1⟩ := row_at hE.one.res; have hF : Fin12 w W3.heap.size _ _ (.slice al R.length cl) R _ past W4 := ⟨hE.one.below, hE.lt, hE.out, hE.one.res, hE.past, huL4⟩; have hF10 := hide ((hF.set0 (.slice al R.length cl)).set1 (.slice (some ⟨gq, 0, none⟩) L cq)); have hgb : ¬ gq = W3.heap.size := (Nat.ne_of_lt hgq); have hlt0 := hE.lt; clear hF hE hcq huL hul huL4 hba hcp0 hgq))
    | (go_at_call 106; go_loud (refine (hMd _ hE.one).mono ?_; clear hMd; rintro e W5 ⟨r, rfl, hr, hB5, hrf⟩; have hqb := do2_block hE; have hrlo : ∀ g, r.ownBlock = some g → w.heap.size ≤ g := (fun g e => Nat.le_trans hE.one.below.size (hrf g e)); have hF := hE.more hB5; obtain ⟨a0, a1, _, _⟩ := row_at hF.one.desk; obtain ⟨ar, cr, rfl⟩ := hr.shape; obtain ⟨e0, e1, f0, f1⟩ := row_at hF.out; obtain ⟨r0, r1, g0, g1⟩ := row_at hF.one.res; clear hE hB5))
    | (go_at_call 106; fail))
  obtain ⟨hown, hBl⟩ := hF10.out.result (z := .slice (some ⟨gq, 0, none⟩) L cq) (fun _ h => past_take h)
  have hpo := ownSS_take (hF10.out.own2 (z := .slice (some ⟨gq, 0, none⟩) L cq))
  have hres := desk_set hF10.out.res (.slice al R.length cl) (.slice (some ⟨gq, 0, none⟩) L cq)
  exact bodyPost_ret (results_desk2 rfl _ _ (w.heap.size + 2) _ _ rfl hres) rfl ⟨_, rfl, hown, ⟨CapN.of (by omega) (fun g o t e => by injection e with e; injection e with e _; subst e; exact hcn0), fun _ => ⟨_, _, rfl, hpo, fun g e1 => ⟨hallo g e1, fun e2 => ints_ownSS hF10.out.ints hR1 hF10.out.own (by omega) g e1 e2⟩⟩⟩, hBl⟩
end Go.Proofs.YtiaaefapbcjgmaaGreatDoor
namespace Go.Proofs.YtiaaefapbcjgmaaGreatDoor
open Go.RowKit

theorem specDo (v : Value) (d : Dk) (k n : Int) (w : World) (hv : DeskI w v d) (hs : DkS d) (hk : Fits k) (hn : Fits n) : Calls Tryz.prog 66 #[v, dV k n] w fun e w' =>
    ∃ y, e = .returned (.tuple #[y, .bool (doV d k n).2]) ∧ DeskI w' y (doV d k n).1 ∧ (CapN w.heap.size y ∧ (d.2.length < 8 → PastO w' w.heap.size y (doV d k n).1.2)) ∧ Below w.heap.size w w' := by
  cases hb : deskB d with
  | false => exact specDo_no v d k n w hv hs hb
  | true =>
    obtain ⟨x, p, rfl, hx, hp⟩ := hv
    by_cases h5 : k = 5 ∧ n = 0
    · by_cases h0 : d.2.length = 0
      · exact specDo_none x p d k n w hx hp hb hk hn h5 h0
      · exact specDo_back x p d k n w hx hp hb hk hn h5 (d.2.length - 1) (by omega)
    · by_cases h0 : madeV d.1 k n = []
      · exact specDo_empty x p d k n w hx hp hb hk hn h5 h0
      · by_cases h1 : madeV d.1 k n = d.1
        · exact specDo_same x p d k n w hx hp hb hk hn h5 h1
        · have h8 := (deskB_is.1 hb).2.2
          by_cases h : d.2.length = 8
          · exact specDo_full x p d k n w hx hp hb hk hn h5 h0 h1 h
          · exact specDo_made x p d k n w hx hp hb hk hn h5 h0 h1 (by omega)
end Go.Proofs.YtiaaefapbcjgmaaGreatDoor
namespace Go.Proofs.YtiaaefapbcjgmaaGreatDoor
open Go Go.RowKit

/-- What is known of the operations' values: from the c-th on, ahead of the store and behind it. -/
def Made0 (c n1 n2 b0 : Nat) (Z : Value) (R : World → Value → Prop) (pre : Nat → Value → World → Prop) (i : Nat) (v : Value) (V : World) : Prop :=
  (i < c → pre i v V) ∧ (i = c ∨ i = c + 1 → ∃ a1 c1 a2 c2, v = .tuple #[.agg #[.slice a1 n1 c1, .slice a2 n2 c2], Z] ∧ R V (.agg #[.slice a1 n1 c1, .slice a2 n2 c2])) ∧
  (i = c + 2 → ∃ a1 c1 a2 c2, v = .agg #[.slice a1 n1 c1, .slice a2 n2 c2] ∧ R V (.agg #[.slice a1 n1 c1, .slice a2 n2 c2])) ∧ (i = c + 3 → v = Z) ∧
  (i = c + 4 → ∃ b, v = .pointer (some ⟨b, 0, none⟩) ∧ b0 ≤ b ∧ V.heap[b]? = some (.cells #[.slice none 0 0, .slice none 0 0] 31 (0, 0)))

def Made1 (c n1 n2 b0 : Nat) (Z : Value) (R : World → Value → Prop) (i : Nat) (v : Value) (V : World) : Prop :=
  (i = c + 1 → ∃ x, v = .tuple #[x, Z]) ∧ (i = c + 3 → v = Z) ∧
  (i = c + 4 → ∃ b, v = .pointer (some ⟨b, 0, none⟩) ∧ b0 ≤ b ∧ ∃ a1 c1 a2 c2, V.heap[b]? = some (.cells #[.slice a1 n1 c1, .slice a2 n2 c2] 31 (0, 0)) ∧ R V (.agg #[.slice a1 n1 c1, .slice a2 n2 c2]))

theorem wpIn_region_made {F : Fence} {n : Nat} {id : Nat} {ops : Array Oper} {Q : Exit → Act → World → Prop} {a : Act} {W : World} (c n1 n2 : Nat) (Z : Value) (R : World → Value → Prop)
    (hm : Tryz.prog.follows .mixedOrders = true) (hb : backB ops = true) (ht : tailB ops (c + 6) = true) (hsz : c + 6 < ops.size)
    (hdep : (depB ops (c + 1) c && depB ops (c + 2) (c + 1) && depB ops (c + 3) (c + 1) && depB ops (c + 5) (c + 2) && depB ops (c + 5) (c + 4)) = true)
    (hnd : ((List.range (c + 5)).all fun i => (i == c + 3) || needs ops (c + 5) ops.size i) = true)
    (fr : (Nat → Value) → Act) (pre : Nat → Value → World → Prop) (hpre : ∀ k v V V', pre k v V → Below V.heap.size V V' → pre k v V')
    (hRb : ∀ V V' y, R V y → Below V.heap.size V V' → R V' y)
    (hRs : ∀ V b a1 c1 a2 c2, R V (.agg #[.slice a1 n1 c1, .slice a2 n2 c2]) → W.heap.size ≤ b → V.heap[b]? = some (.cells #[.slice none 0 0, .slice none 0 0] 31 (0, 0)) → R ((V.setCell ⟨b, 0, none⟩ (.slice a1 n1 c1)).setCell ⟨b, 1, none⟩ (.slice a2 n2 c2)) (.agg #[.slice a1 n1 c1, .slice a2 n2 c2]))
    (h0 : ∃ s, a = fr s) (hput : ∀ i o s v, i < c + 6 → ops[i]? = some o → (fr s).put o.dst v = fr (fun j => if j = i then v else s j))
    (hstep : ∀ i o s V, i < c → ops[i]? = some o → Below W.heap.size W V → (∀ k, k < c → depB ops i k = true → pre k (s k) V) → ∀ Q' : Exit → Act → World → Prop,
      (∀ v V', Below V.heap.size V V' → pre i v V' → Q' .normal ((fr s).put o.dst v) V') → wpListIn F n Tryz.prog ops Q' [o] (fr s) V)
    (hcall : ∀ o s V, ops[c]? = some o → Below W.heap.size W V → (∀ k, k < c → depB ops c k = true → pre k (s k) V) → ∀ Q' : Exit → Act → World → Prop,
      (∀ a1 c1 a2 c2 V', Below V.heap.size V V' → R V' (.agg #[.slice a1 n1 c1, .slice a2 n2 c2]) → Q' .normal ((fr s).put o.dst (.tuple #[.agg #[.slice a1 n1 c1, .slice a2 n2 c2], Z])) V') → wpListIn F n Tryz.prog ops Q' [o] (fr s) V)
    (hmove : ∀ o s V y (Q' : Exit → Act → World → Prop), ops[c + 1]? = some o → s c = y → Q' .normal ((fr s).put o.dst y) V → wpListIn F n Tryz.prog ops Q' [o] (fr s) V)
    (hext0 : ∀ o s V x z (Q' : Exit → Act → World → Prop), ops[c + 2]? = some o → s (c + 1) = .tuple #[x, z] → Q' .normal ((fr s).put o.dst x) V → wpListIn F n Tryz.prog ops Q' [o] (fr s) V)
    (hext1 : ∀ o s V x z (Q' : Exit → Act → World → Prop), ops[c + 3]? = some o → s (c + 1) = .tuple #[x, z] → Q' .normal ((fr s).put o.dst z) V → wpListIn F n Tryz.prog ops Q' [o] (fr s) V)
    (halloc : ∀ o s V (Q' : Exit → Act → World → Prop), ops[c + 4]? = some o → Q' .normal ((fr s).put o.dst (.pointer (some ⟨V.heap.size, 0, none⟩))) (V.alloc (.cells #[.slice none 0 0, .slice none 0 0] 31)) → wpListIn F n Tryz.prog ops Q' [o] (fr s) V)
    (hstore : ∀ o s V b a1 c1 a2 c2 (Q' : Exit → Act → World → Prop), ops[c + 5]? = some o → s (c + 4) = .pointer (some ⟨b, 0, none⟩) → s (c + 2) = .agg #[.slice a1 n1 c1, .slice a2 n2 c2] → V.heap[b]? = some (.cells #[.slice none 0 0, .slice none 0 0] 31 (0, 0)) →
      Q' .normal ((fr s).put o.dst undef) ((V.setCell ⟨b, 0, none⟩ (.slice a1 n1 c1)).setCell ⟨b, 1, none⟩ (.slice a2 n2 c2)) → wpListIn F n Tryz.prog ops Q' [o] (fr s) V)
    (htail : ∀ s V b a1 c1 a2 c2, Below W.heap.size W V → s (c + 4) = .pointer (some ⟨b, 0, none⟩) → W.heap.size ≤ b → V.heap[b]? = some (.cells #[.slice a1 n1 c1, .slice a2 n2 c2] 31 (0, 0)) → R V (.agg #[.slice a1 n1 c1, .slice a2 n2 c2]) → s (c + 3) = Z → wpListIn F n Tryz.prog ops Q (ops.toList.drop (c + 6)) (fr s) V) : (Code.region id ops true).wpIn F n Tryz.prog Q a W := by
  simp only [Bool.and_eq_true] at hdep
  obtain ⟨⟨⟨⟨d1, d2⟩, d3⟩, d4⟩, d5⟩ := hdep
  refine wpIn_region_store (c + 5) (c + 6) hm hb ht (by omega) hsz fr (fun _ V => Below W.heap.size W V) (fun V V' => Below V.heap.size V V')
    (fun ph k v V => (ph = false → Made0 c n1 n2 W.heap.size Z R pre k v V) ∧ (ph = true → Made1 c n1 n2 W.heap.size Z R k v V)) h0 hput (Below.refl _ _).drew ?mono ?step ?mid ?tail
  case mono =>
    rintro ph k v V V' ⟨h1, h2⟩ hg
    refine ⟨fun e => ?_, fun e => ?_⟩
    · obtain ⟨f1, f2, f3, f4, f5⟩ := h1 e
      refine ⟨fun e => hpre _ _ _ _ (f1 e) hg, fun e => ?_, fun e => ?_, f4, fun e => ?_⟩
      · obtain ⟨a1, c1, a2, c2, g1, g2⟩ := f2 e
        exact ⟨a1, c1, a2, c2, g1, hRb _ _ _ g2 hg⟩
      · obtain ⟨a1, c1, a2, c2, g1, g2⟩ := f3 e
        exact ⟨a1, c1, a2, c2, g1, hRb _ _ _ g2 hg⟩
      · obtain ⟨b, g1, g2, g3⟩ := f5 e
        exact ⟨b, g1, g2, (hg.block _ (Array.getElem?_eq_some_iff.1 g3).1).trans g3⟩
    · obtain ⟨f1, f2, f3⟩ := h2 e
      refine ⟨f1, f2, fun e => ?_⟩
      obtain ⟨b, g1, g2, a1, c1, a2, c2, g3, g4⟩ := f3 e
      exact ⟨b, g1, g2, a1, c1, a2, c2, (hg.block _ (Array.getElem?_eq_some_iff.1 g3).1).trans g3, hRb _ _ _ g4 hg⟩
  case step =>
    intro ph i o s V hi hip hnp ho hV hd Q' hQ'
    by_cases e3 : i = c + 3
    · subst e3
      have hx : ∃ x, s (c + 1) = .tuple #[x, Z] := by
        cases ph with
        | false => obtain ⟨a1, c1, a2, c2, g1, _⟩ := ((hd _ d3).1 rfl).2.1 (.inr rfl); exact ⟨_, g1⟩
        | true => exact ((hd _ d3).2 rfl).1 rfl
      obtain ⟨x, hx⟩ := hx
      refine hext1 o s V x Z Q' ho hx (hQ' _ _ hV (Below.refl _ _) ⟨fun _ => ⟨fun e => by omega, fun e => by omega, fun e => by omega, fun _ => rfl, fun e => by omega⟩, fun _ => ⟨fun e => by omega, fun _ => rfl, fun e => by omega⟩⟩)
    · have hph : ph = false := by
        cases ph with
        | false => rfl
        | true =>
          have h1 := hnp rfl
          have h2 := List.all_eq_true.1 hnd i (List.mem_range.2 (by omega))
          rw [h1] at h2
          simp at h2
          exact absurd h2 e3
      subst hph
      have hd0 := fun k hk => (hd k hk).1 rfl
      have hq : ∀ v V', Below V.heap.size V V' → Made0 c n1 n2 W.heap.size Z R pre i v V' → Q' .normal ((fr s).put o.dst v) V' := fun v V' h1 h2 => hQ' v V' (hV.trans (h1.mono hV.size)) h1 ⟨fun _ => h2, fun e => by cases e⟩
      by_cases ec : i < c
      · exact hstep i o s V ec ho hV (fun k hk hdk => (hd0 k hdk).1 hk) Q' (fun v V' h1 h2 => hq v V' h1 ⟨fun _ => h2, fun e => by omega, fun e => by omega, fun e => by omega, fun e => by omega⟩)
      · by_cases e0 : i = c
        · subst e0
          exact hcall o s V ho hV (fun k hk hdk => (hd0 k hdk).1 hk) Q' (fun a1 c1 a2 c2 V' h1 h2 => hq _ V' h1 ⟨fun e => by omega, fun _ => ⟨a1, c1, a2, c2, rfl, h2⟩, fun e => by omega, fun e => by omega, fun e => by omega⟩)
        · by_cases e1 : i = c + 1
          · subst e1
            have h := (hd0 _ d1).2.1 (.inl rfl)
            exact hmove o s V _ Q' ho rfl (hq _ V (Below.refl _ _) ⟨fun e => by omega, fun _ => h, fun e => by omega, fun e => by omega, fun e => by omega⟩)
          · by_cases e2 : i = c + 2
            · subst e2
              obtain ⟨a1, c1, a2, c2, g1, g2⟩ := (hd0 _ d2).2.1 (.inr rfl)
              exact hext0 o s V _ _ Q' ho g1 (hq _ V (Below.refl _ _) ⟨fun e => by omega, fun e => by omega, fun _ => ⟨a1, c1, a2, c2, rfl, g2⟩, fun e => by omega, fun e => by omega⟩)
            · have e4 : i = c + 4 := by omega
              subst e4
              exact halloc o s V Q' ho (hq _ _ ((Below.refl _ V).alloc (Nat.le_refl _) _) ⟨fun e => by omega, fun e => by omega, fun e => by omega, fun e => by omega, fun _ => ⟨V.heap.size, rfl, hV.size, World.alloc_heap_new V _⟩⟩)
  case mid =>
    intro o s V ho hV hd Q' hQ'
    obtain ⟨a1, c1, a2, c2, g1, g2⟩ := ((hd _ d4).1 rfl).2.2.1 rfl
    obtain ⟨b, g3, g4, g5⟩ := ((hd _ d5).1 rfl).2.2.2.2 rfl
    refine hstore o s V b a1 c1 a2 c2 Q' ho g3 g1 g5 (hQ' undef _ ((hV.setCell (p := ⟨b, 0, none⟩) g4 _).setCell (p := ⟨b, 1, none⟩) g4 _) (fun k hk hΦ => ⟨fun e => (by cases e), fun _ => ?_⟩) ⟨fun e => (by cases e), fun _ => ⟨fun e => by omega, fun e => by omega, fun e => by omega⟩⟩)
    have h := hΦ.1 rfl
    refine ⟨fun e => ?_, h.2.2.2.1, fun e => ?_⟩
    · obtain ⟨_, _, _, _, e1, _⟩ := h.2.1 (.inr e)
      exact ⟨_, e1⟩
    · subst e
      exact ⟨b, g3, g4, a1, c1, a2, c2, desk_set g5 _ _, hRs V b a1 c1 a2 c2 g2 g4 g5⟩
  case tail =>
    intro s V hV hd
    obtain ⟨b, g1, g2, a1, c1, a2, c2, g3, g4⟩ := ((hd (c + 4) (by omega)).2 rfl).2.2 rfl
    exact htail s V b a1 c1 a2 c2 hV g1 g2 g3 g4 (((hd (c + 3) (by omega)).2 rfl).2.1 rfl)
end Go.Proofs.YtiaaefapbcjgmaaGreatDoor
namespace Go.Proofs.YtiaaefapbcjgmaaGreatDoor
open Go.RowKit Go.Shelf
attribute [local go_sem] Oper.semAt_some

theorem deskI_over {V : World} {base b n1 c1 n2 c2 m1 e1 m2 e2 : Nat} {a1 a2 s1 s2 : Option Addr} {t : TypeId} {v : Value} {D : Dk} (h : DeskI V v D) (hN : ∀ x g o t n c, v = .agg #[x, .slice (some ⟨g, o, t⟩) n c] → base ≤ g) (hb : b < base) (kb : V.heap[b]? = some (.cells #[.slice a1 n1 c1, .slice a2 n2 c2] t (0, 0))) :
    DeskI ((V.setCell ⟨b, 0, none⟩ (.slice s1 m1 e1)).setCell ⟨b, 1, none⟩ (.slice s2 m2 e2)) v D := by
  obtain ⟨x, p, rfl, hx, hp⟩ := h
  have g0 := grownBy_setAt V b 0 (.slice s1 m1 e1)
  have k1 := set_cells kb 0 (.slice s1 m1 e1)
  have g1 := grownBy_setAt (V.setCell ⟨b, 0, none⟩ (.slice s1 m1 e1)) b 1 (.slice s2 m2 e2)
  have hI : ∀ u xs, Ints V u xs → Ints ((V.setCell ⟨b, 0, none⟩ (.slice s1 m1 e1)).setCell ⟨b, 1, none⟩ (.slice s2 m2 e2)) u xs := fun u xs h => ints_grown (ints_grown h kb g0) k1 g1
  refine ⟨x, p, rfl, hI _ _ hx, ?_⟩
  obtain ⟨a, c, rfl, h⟩ := hp
  refine ⟨a, c, rfl, fun h0 => ?_⟩
  obtain ⟨G, o, rfl, hG, hc⟩ := h h0
  have hGb := hN _ G o _ _ _ rfl
  have hne : G ≠ b := by omega
  refine ⟨G, o, rfl, Nat.lt_of_lt_of_le hG (Nat.le_trans g0.size g1.size), fun j hj => ?_⟩
  obtain ⟨u, h1, h2⟩ := hc j hj
  refine ⟨u, ?_, hI _ _ h2⟩
  have q0 := g0.block G hG (fun e => hne (by injection e))
  have q1 := g1.block G (Nat.lt_of_lt_of_le hG g0.size) (fun e => hne (by injection e))
  exact (World.cell?_of_block (w := V) (q1.trans q0)).trans h1

theorem deskI_store {V : World} {b n1 c1 n2 c2 : Nat} {a1 a2 : Option Addr} {v : Value} {D : Dk} (h : DeskI V v D) (hv : v = .agg #[.slice a1 n1 c1, .slice a2 n2 c2]) (kb : V.heap[b]? = some (.cells #[.slice none 0 0, .slice none 0 0] 31 (0, 0))) (hr : ∀ j, j < D.2.length → 1 ≤ (D.2.getD j []).length) :
    DeskI ((V.setCell ⟨b, 0, none⟩ (.slice a1 n1 c1)).setCell ⟨b, 1, none⟩ (.slice a2 n2 c2)) (.agg #[.slice a1 n1 c1, .slice a2 n2 c2]) D := by
  obtain ⟨x, p, e, hx, hp⟩ := h
  rw [e] at hv
  have g0 := grownBy_setAt V b 0 (.slice a1 n1 c1)
  have k1 := set_cells kb 0 (.slice a1 n1 c1)
  have g1 := grownBy_setAt (V.setCell ⟨b, 0, none⟩ (.slice a1 n1 c1)) b 1 (.slice a2 n2 c2)
  have hI : ∀ u xs, Ints V u xs → Ints ((V.setCell ⟨b, 0, none⟩ (.slice a1 n1 c1)).setCell ⟨b, 1, none⟩ (.slice a2 n2 c2)) u xs := fun u xs h => ints_grown (ints_grown h kb g0) k1 g1
  rw [← hv]
  refine ⟨x, p, rfl, hI _ _ hx, ?_⟩
  obtain ⟨a, c, rfl, h⟩ := hp
  refine ⟨a, c, rfl, fun h0 => ?_⟩
  obtain ⟨G, o, rfl, hG, hc⟩ := h h0
  have hne : G ≠ b := fun e => by
    subst e
    obtain ⟨u, h1, h2⟩ := hc 0 h0
    obtain ⟨g, cc, e2, _⟩ := h2.cells (hr 0 h0)
    unfold World.cell? at h1
    rw [kb] at h1
    subst e2
    match o, h1 with
    | 0, h1 => simp at h1
    | 1, h1 => simp at h1
    | (q + 2), h1 => simp at h1
  refine ⟨G, o, rfl, Nat.lt_of_lt_of_le hG (Nat.le_trans g0.size g1.size), fun j hj => ?_⟩
  obtain ⟨u, h1, h2⟩ := hc j hj
  refine ⟨u, ?_, hI _ _ h2⟩
  have q0 := g0.block G hG (fun e => hne (by injection e))
  have q1 := g1.block G (Nat.lt_of_lt_of_le hG g0.size) (fun e => hne (by injection e))
  exact (World.cell?_of_block (w := V) (q1.trans q0)).trans h1

theorem deskB_size {d : Dk} (h : deskB d = true) : DkS d := by
  obtain ⟨h1, h2, h3⟩ := deskB_is.1 h
  have := sideB_len h2
  refine ⟨by omega, by omega, fun j => ?_⟩
  by_cases hj : j < d.2.length
  · have := sideB_len (h1 (d.2.getD j []) (by rw [List.getD, List.getElem?_eq_getElem hj]; exact List.getElem_mem hj)); omega
  · rw [List.getD, List.getElem?_eq_none (by omega)]; simp
end Go.Proofs.YtiaaefapbcjgmaaGreatDoor
namespace Go.Proofs.YtiaaefapbcjgmaaGreatDoor
open Go.RowKit Go.Shelf

/-- A change in a block of another type leaves a desk as it is. -/
theorem OwnDk.keep {W W' : World} {base b : Nat} {v x p : Value} {d : Dk} {t : TypeId} (h : OwnDk W base v d) (hb : W.heap[b]? = some (.cells #[x, p] t (0, 0))) (h1 : 28 ≠ t) (h2 : 3 ≠ t) (hg : W.grownBy W' (some b)) : OwnDk W' base v d := by
  obtain ⟨mid, y, q, rfl, e1, e2, e3, e4⟩ := h
  refine ⟨mid, y, q, rfl, e1, Nat.le_trans e2 hg.size, ?_, e4.keep hb h1 h2 hg⟩
  rcases e3 with e3 | ⟨g, c, rfl, f1, f2, f3⟩
  · exact .inl e3
  · refine .inr ⟨g, c, rfl, f1, f2, f3.of_block (hg.block g f3.lt (fun e => ?_))⟩
    injection e with e
    subst e
    obtain ⟨cur, hc, _⟩ := f3
    rw [hb] at hc
    injection hc with hc
    injection hc with _ hc
    exact h2 hc.symm
end Go.Proofs.YtiaaefapbcjgmaaGreatDoor
namespace Go.Proofs.YtiaaefapbcjgmaaGreatDoor
open Go Go.RowKit

/-- An activation with the operations' values in their slots. -/
def putsOf : List (Option Tmp × Nat) → Act → (Nat → Value) → Act
  | [], a, _ => a
  | (d, i) :: r, a, s => putsOf r (a.put d (s i)) s

def okPuts : List (Option Tmp × Nat) → Bool
  | [] => true
  | (d, i) :: r => r.all (fun p => p.2 != i && (d.isNone || p.1 != d)) && okPuts r

/-- The slots of the first m operations. -/
def dstsOf (ops : Array Oper) (m : Nat) : List (Option Tmp × Nat) := (List.range m).map fun i => (ops[i]?.bind fun o => o.dst, i)

theorem put_put (a : Act) (d : Option Tmp) (u v : Value) : (a.put d u).put d v = a.put d v := by
  cases d with
  | none => rfl
  | some d => simp [Act.put, Array.setIfInBounds_setIfInBounds]

theorem puts_comm (s : Nat → Value) (d : Option Tmp) (v : Value) : ∀ (L : List (Option Tmp × Nat)) (a : Act), (∀ p ∈ L, ∀ x, d = some x → p.1 ≠ some x) → putsOf L (a.put d v) s = (putsOf L a s).put d v
  | [], _, _ => rfl
  | (e, i) :: r, a, h => by
    simp only [putsOf]
    rw [Act.put_comm a v (s i) (fun x hx => h (e, i) (List.mem_cons_self ..) x hx)]
    exact puts_comm s d v r _ (fun p hp => h p (List.mem_cons_of_mem _ hp))

theorem puts_other {s s' : Nat → Value} : ∀ (L : List (Option Tmp × Nat)) (a : Act), (∀ p ∈ L, s p.2 = s' p.2) → putsOf L a s = putsOf L a s'
  | [], _, _ => rfl
  | (e, i) :: r, a, h => by
    simp only [putsOf]
    rw [h (e, i) (List.mem_cons_self ..)]
    exact puts_other r _ (fun p hp => h p (List.mem_cons_of_mem _ hp))

theorem puts_put (s : Nat → Value) (d : Option Tmp) (i : Nat) (v : Value) : ∀ (L : List (Option Tmp × Nat)) (a : Act), okPuts L = true → (d, i) ∈ L → (putsOf L a s).put d v = putsOf L a (fun j => if j = i then v else s j)
  | [], _, _, h => by cases h
  | (e, j) :: r, a, hok, h => by
    simp only [okPuts, Bool.and_eq_true, List.all_eq_true, bne_iff_ne, Bool.or_eq_true] at hok
    simp only [putsOf]
    rcases List.mem_cons.1 h with h | h
    · injection h with h1 h2
      subst h1
      subst h2
      rw [if_pos rfl, ← puts_comm s d v r _ (fun p hp x hx he => by
        rcases (hok.1 p hp).2 with h3 | h3
        · rw [hx] at h3; cases h3
        · exact h3 (by rw [he, hx])), put_put]
      exact puts_other r _ (fun p hp => by rw [if_neg (hok.1 p hp).1])
    · have h3 := hok.1 _ h
      rw [if_neg (fun e => h3.1 e.symm)]
      exact puts_put s d i v r _ hok.2 h

theorem put_self (a : Act) (d : Option Tmp) : ∃ v, a.put d v = a := by
  cases d with
  | none => exact ⟨undef, rfl⟩
  | some d =>
    by_cases h : d < a.tmps.size
    · refine ⟨a.tmps[d], ?_⟩
      have hx : a.tmps.setIfInBounds d a.tmps[d] = a.tmps := by
        unfold Array.setIfInBounds
        rw [dif_pos h]
        simp
      show ({ a with tmps := a.tmps.setIfInBounds d a.tmps[d] } : Act) = a
      rw [hx]
    · refine ⟨undef, ?_⟩
      have hx : a.tmps.setIfInBounds d undef = a.tmps := by
        unfold Array.setIfInBounds
        rw [dif_neg h]
      show ({ a with tmps := a.tmps.setIfInBounds d undef } : Act) = a
      rw [hx]

theorem puts_self (a : Act) : ∀ (L : List (Option Tmp × Nat)), okPuts L = true → ∃ s, a = putsOf L a s
  | [], _ => ⟨fun _ => undef, rfl⟩
  | (d, i) :: r, hok => by
    simp only [okPuts, Bool.and_eq_true, List.all_eq_true, bne_iff_ne, Bool.or_eq_true] at hok
    obtain ⟨s, hs⟩ := puts_self a r hok.2
    obtain ⟨v, hv⟩ := put_self a d
    refine ⟨fun j => if j = i then v else s j, ?_⟩
    have h1 : putsOf r a (fun j => if j = i then v else s j) = putsOf r a s := puts_other r a (fun p hp => if_neg (hok.1 p hp).1)
    show a = putsOf r (a.put d (if i = i then v else s i)) _
    rw [if_pos rfl, hv, h1]
    exact hs

/-- A region that draws its order, of which all that lay before stands until the last operations, whatever is known of each operation's value. -/
theorem wpIn_region_put {F : Fence} {n : Nat} {P : Program} {id : Nat} {ops : Array Oper} {Q : Exit → Act → World → Prop} {a : Act} {W : World} (m : Nat) (L : List (Option Tmp × Nat)) (hm : P.follows .mixedOrders = true) (hb : backB ops = true) (ht : tailB ops m = true) (hsz : m < ops.size)
    (hL : dstsOf ops m = L) (hok : okPuts L = true) (Φ : Nat → Value → World → Prop) (hmono : ∀ k v V V', Φ k v V → Below V.heap.size V V' → Φ k v V')
    (hstep : ∀ i o s V, i < m → ops[i]? = some o → Below W.heap.size W V → (∀ k, depB ops i k = true → Φ k (s k) V) → ∀ Q' : Exit → Act → World → Prop,
      (∀ v V', Below V.heap.size V V' → Φ i v V' → Q' .normal ((putsOf L a s).put o.dst v) V') → wpListIn F n P ops Q' [o] (putsOf L a s) V)
    (htail : ∀ s V, Below W.heap.size W V → (∀ k, k < m → Φ k (s k) V) → wpListIn F n P ops Q (ops.toList.drop m) (putsOf L a s) V) : (Code.region id ops true).wpIn F n P Q a W := by
  refine wpIn_region_tail m hm hb ht hsz (putsOf L a) (fun V => Below W.heap.size W V) (fun V V' => Below V.heap.size V V') Φ (puts_self a L hok) ?_ (Below.refl _ _).drew (fun k v V V' h hg => hmono k v V V' h hg) ?_ htail
  · intro i o s v hi ho
    refine puts_put s o.dst i v L a hok ?_
    rw [← hL]
    unfold dstsOf
    refine List.mem_map.2 ⟨i, List.mem_range.2 hi, ?_⟩
    rw [ho]
    rfl
  · rintro i o s V him ho hV hd Q' hQ'
    exact hstep i o s V him ho hV hd Q' (fun v V' h2 h3 => hQ' v V' (hV.trans (h2.mono hV.size)) h2 h3)
end Go.Proofs.YtiaaefapbcjgmaaGreatDoor
namespace Go.Proofs.YtiaaefapbcjgmaaGreatDoor
open Go

/-- How many of the first n have been carried out. -/
def cnt (L : Nat → Bool) : Nat → Nat
  | 0 => 0
  | n + 1 => cnt L n + (if L n = true then 1 else 0)
end Go.Proofs.YtiaaefapbcjgmaaGreatDoor
namespace Go.Proofs.YtiaaefapbcjgmaaGreatDoor
open Go.RowKit
attribute [local go_sem] Oper.semAt_some

theorem toDeskA_in (W0 : World) (v : Value) (d : Dk) (w : World) (hv : ArgD W0 v d) (hB0 : Below W0.heap.size W0 w) (hn1 : d.1.length ≤ 1048576) (hn : d.2.length ≤ 1048576) (hln : ∀ j, j < d.2.length → (d.2.getD j []).length ≤ 1048576) : Calls Tryz.prog 30 #[v] w fun e w' =>
    ∃ y, e = .returned y ∧ OwnA w' w.heap.size w'.heap.size y d ∧ Below w.heap.size w w' :=
  (toDesk_mid W0 v d w hv hB0 hn1 hn hln).mono fun _ _ ⟨x, p, h1, h2, _, ⟨mid, m1, m2, m3, m4⟩, h5⟩ => ⟨_, h1, ⟨mid, x, p, rfl, m1, m2, Nat.le_refl _, h2, m3, OwnQL.of m4⟩, h5⟩

theorem ownDk_stored {V : World} {base b n1 c1 n2 c2 : Nat} {a1 a2 : Option Addr} {D : Dk} (h : OwnDk V base (.agg #[.slice a1 n1 c1, .slice a2 n2 c2]) D) (kb : V.heap[b]? = some (.cells #[.slice none 0 0, .slice none 0 0] 31 (0, 0))) :
    OwnDk ((V.setCell ⟨b, 0, none⟩ (.slice a1 n1 c1)).setCell ⟨b, 1, none⟩ (.slice a2 n2 c2)) base (.agg #[.slice a1 n1 c1, .slice a2 n2 c2]) D := by
  have g0 := grownBy_setAt V b 0 (.slice a1 n1 c1)
  have k1 := set_cells kb 0 (.slice a1 n1 c1)
  have g1 := grownBy_setAt (V.setCell ⟨b, 0, none⟩ (.slice a1 n1 c1)) b 1 (.slice a2 n2 c2)
  exact (h.keep kb (by decide) (by decide) g0).keep k1 (by decide) (by decide) g1

/-- What is known of the rows of a desk. -/
def RowsOk (D : Dk) : Prop := (∀ j, j < D.2.length → 1 ≤ (D.2.getD j []).length) ∧ (∀ j, j < D.2.length → (D.2.getD j []).length ≤ 12) ∧ D.1.length ≤ 12 ∧ D.2.length ≤ 8

theorem RowsOk.of {D : Dk} (h : deskB D = true) : RowsOk D := by
  obtain ⟨h1, h2, h3⟩ := deskB_is.1 h
  have hr := fun j (hj : j < D.2.length) => sideB_len (h1 (D.2.getD j []) (by rw [List.getD, List.getElem?_eq_getElem hj]; exact List.getElem_mem hj))
  exact ⟨fun j hj => (hr j hj).1, fun j hj => (hr j hj).2, (sideB_len h2).2, h3⟩

theorem rowsOk_none : RowsOk ([], []) := ⟨fun j hj => by simp at hj, fun j hj => by simp at hj, by simp, by simp⟩

theorem RowsOk.facts {D : Dk} (h : RowsOk D) : (D.1.length ≤ 2000000 ∧ D.2.length ≤ 2000000 ∧ ∀ j, j < D.2.length → (D.2.getD j []).length ≤ 2000000) ∧ (∀ j, j < D.2.length → 0 < (D.2.getD j []).length) ∧ (∀ j, j < D.2.length → (D.2.getD j []).length ≤ 100) ∧ D.2.length ≤ 100 ∧ accN (fun j => (D.2.getD j []).length) D.2.length ≤ 10000 := by
  obtain ⟨h1, h2, h3, h4⟩ := h
  have hr1 : ∀ j, j < D.2.length → (D.2.getD j []).length ≤ 100 := fun j hj => by have := h2 j hj; omega
  have hacc := accN_le hr1 D.2.length (Nat.le_refl _)
  exact ⟨⟨by omega, by omega, fun j hj => by have := h2 j hj; omega⟩, h1, hr1, by omega, by omega⟩
end Go.Proofs.YtiaaefapbcjgmaaGreatDoor
namespace Go.Proofs.YtiaaefapbcjgmaaGreatDoor
open Go.RowKit
attribute [local go_sem] Oper.semAt_some

theorem own_between {W W' : World} {base base' lim' n size : Nat} {e : TypeId} {v : Value} {xs : List Value} (h : W.ownsRow base e size v n xs) (hB : Between base' lim' W W') (hl : lim' ≤ base) : W'.ownsRow base e size v n xs := by
  refine ⟨h.1, ?_⟩
  rcases h.2 with h2 | ⟨g, cap, cur, e1, hb, hg, h3⟩
  · exact .inl h2
  · exact .inr ⟨g, cap, cur, e1, hb, (hB.block g (Array.getElem?_eq_some_iff.1 hg).1 (.inr (by omega))).trans hg, h3⟩

theorem own_belowN {W W' : World} {base n size : Nat} {e : TypeId} {v : Value} {xs : List Value} (h : W.ownsRow base e size v n xs) (hB : Below W.heap.size W W') : W'.ownsRow base e size v n xs := by
  refine ⟨h.1, ?_⟩
  rcases h.2 with h2 | ⟨g, cap, cur, e1, hb, hg, h3⟩
  · exact .inl h2
  · exact .inr ⟨g, cap, cur, e1, hb, (hB.block g (Array.getElem?_eq_some_iff.1 hg).1).trans hg, h3⟩
end Go.Proofs.YtiaaefapbcjgmaaGreatDoor
namespace Go.Proofs.YtiaaefapbcjgmaaGreatDoor
open Go.RowKit Go.BigFrame

def digS : ByteArray := ⟨#[48, 49, 50, 51, 52, 53, 54, 55, 56, 57, 97, 98, 99, 100, 101, 102, 103, 104, 105, 106, 107, 108, 109, 110, 111, 112, 113, 114, 115, 116, 117, 118, 119, 120, 121, 122]⟩

def twoS : ByteArray := ⟨((List.range 100).flatMap fun i => [UInt8.ofNat (48 + i / 10), UInt8.ofNat (48 + i % 10)]).toArray⟩

theorem dig_ten : ((List.range 10).all fun i => decide (digS.extract i (i + 1) = str (decF 20 i))) = true := by decide +kernel

theorem dig_two : ((List.range 100).all fun i => decide (i < 10 ∨ twoS.extract (i * 2) (i * 2 + 2) = str (decF 20 i))) = true := by decide +kernel

set_option maxRecDepth 100000 in
set_option maxHeartbeats 1000000 in
theorem small_ten (i : Nat) (hi : i < 10) (w : World) : Calls Tryz.prog 178 #[.int .i64 i] w fun e w' => e = .returned (.string (str (decF 20 i))) ∧ w = w' := by
  have h := List.all_eq_true.1 dig_ten i (List.mem_range.2 hi)
  simp only [decide_eq_true_eq] at h
  unfold digS at h
  have h1 : (i : Int) < 10 := by omega
  rw [← h]
  clear h
  go_enter Tryz.func178, Tryz.ntmps178
  go_wp2
  go_ret
  exact ⟨rfl, rfl⟩

set_option maxRecDepth 100000 in
set_option maxHeartbeats 1000000 in
theorem small_two (i : Nat) (h10 : 10 ≤ i) (hi : i < 100) (w : World) : Calls Tryz.prog 178 #[.int .i64 i] w fun e w' => e = .returned (.string (str (decF 20 i))) ∧ w = w' := by
  have h := List.all_eq_true.1 dig_two i (List.mem_range.2 hi)
  simp only [decide_eq_true_eq] at h
  have h := h.resolve_left (by omega)
  have h1 : ¬ (i : Int) < 10 := by omega
  rw [← h]
  clear h
  go_enter Tryz.func178, Tryz.ntmps178
  go_wp2
  go_ret
  exact ⟨by rfl, rfl⟩

theorem small_in (i : Nat) (hi : i < 100) (w : World) : Calls Tryz.prog 178 #[.int .i64 i] w fun e w' => e = .returned (.string (str (decF 20 i))) ∧ w = w' := by
  by_cases h : i < 10
  · exact small_ten i h w
  · exact small_two i (by omega) hi w

set_option maxRecDepth 100000 in
set_option maxHeartbeats 1000000 in
theorem formatInt_in (i : Nat) (hi : i < 100) (w : World) : Calls Tryz.prog 143 #[.int .i64 i, .int .i64 10] w fun e w' => e = .returned (.string (str (decF 20 i))) ∧ w = w' := by
  have hS := small_in i hi w
  have h1 : (0 : Int) ≤ (i : Int) := by omega
  have h2 : (i : Int) < 100 := by omega
  generalize str (decF 20 i) = s at *
  go_enter Tryz.func143, Tryz.ntmps143
  go_wp2_with (go_at_call 178; refine hS.mono ?_; clear hS; rintro e w' ⟨rfl, rfl⟩)
  go_ret
  exact ⟨rfl, rfl⟩

theorem itoa_in (i : Nat) (hi : i < 100) (w : World) : Calls Tryz.prog 58 #[.int .i64 i] w fun e w' => e = .returned (.string (str (decF 20 i))) ∧ w = w' := by
  have hF := formatInt_in i hi w
  generalize str (decF 20 i) = s at *
  have hI : Calls Tryz.prog 101 #[.int .i64 i] w fun e w' => e = .returned (.string s) ∧ w = w' := by
    go_enter Tryz.func101, Tryz.ntmps101
    go_wp2_with (go_at_call 143; refine hF.mono ?_; clear hF; rintro e w' ⟨rfl, rfl⟩)
    go_ret
    exact ⟨rfl, rfl⟩
  go_enter Tryz.func58, Tryz.ntmps58
  go_wp2_with (go_at_call 101; refine hI.mono ?_; clear hI; rintro e w' ⟨rfl, rfl⟩)
  go_ret
  exact ⟨rfl, rfl⟩

/-- The greatest number that is named. -/
def mostT (k : Int) : Int := if k = 0 then 99 else if k = 1 then 9 else 0

theorem mostT_in (k : Int) (w : World) : Calls Tryz.prog 56 #[.int .i64 k] w fun e w' => e = .returned (.int .i64 (mostT k)) ∧ w = w' := by
  by_cases h0 : k = 0
  · subst h0
    go_enter Tryz.func56, Tryz.ntmps56
    go_wp2
    go_ret
    exact ⟨rfl, rfl⟩
  by_cases h1 : k = 1
  · subst h1
    go_enter Tryz.func56, Tryz.ntmps56
    go_wp2
    go_ret
    exact ⟨rfl, rfl⟩
  · have hm : mostT k = 0 := by unfold mostT; rw [if_neg h0, if_neg h1]
    rw [hm]
    have b0 : (k == 0) = false := by rw [beq_eq_false_iff_ne]; exact h0
    have b1 : (k == 1) = false := by rw [beq_eq_false_iff_ne]; exact h1
    clear h0 h1 hm
    go_enter Tryz.func56, Tryz.ntmps56
    go_wp2
    go_ret
    exact ⟨rfl, rfl⟩

def wordsA : Array Value := #[.string ⟨#[102, 108, 105, 112]⟩, .string ⟨#[112, 117, 116]⟩, .string ⟨#[117, 110, 100, 101, 114]⟩, .string ⟨#[116, 117, 114, 110]⟩, .string ⟨#[114, 111, 117, 110, 100]⟩, .string ⟨#[98, 97, 99, 107]⟩]

theorem words_in (w : World) : Calls Tryz.prog 57 #[] w fun e w' => e = .returned (.slice (some ⟨w.heap.size, 0, none⟩) 6 6) ∧ w' = w.alloc (.cells wordsA 9) := by
  unfold wordsA
  go_enter Tryz.func57, Tryz.ntmps57
  go_wp2
  go_ret
  exact ⟨rfl, rfl⟩

theorem word_at (W : World) (k : Nat) (v : Value) (h : wordsA[k]? = some v) : (W.alloc (.cells wordsA 9)).cell? ⟨W.heap.size, k, none⟩ = some v := by
  have hb := World.alloc_heap_new W (.cells wordsA 9)
  unfold World.cell?
  rw [hb]
  exact h

theorem words_at (w : World) : Calls Tryz.prog 57 #[] w fun e w' => e = .returned (.slice (some ⟨w.heap.size, 0, none⟩) 6 6) ∧ (∀ k v, wordsA[k]? = some v → w'.cell? ⟨w.heap.size, k, none⟩ = some v) ∧ Below w.heap.size w w' :=
  (words_in w).mono fun _ _ ⟨he, hw⟩ => ⟨he, by rw [hw]; exact fun k v h => word_at w k v h, by rw [hw]; exact (Below.refl _ w).alloc (Nat.le_refl _) _⟩

/-- What is known when the text is asked for: the deed lies boxed. -/
structure Dt (w : World) (k n : Int) (W : World) : Prop where
  eq : w.alloc (.cells #[.int .i64 k, .int .i64 n] 39) = W
  below : Below w.heap.size w W
  c0 : ∀ m : After W, m.now.cell? ⟨w.heap.size, 0, none⟩ = some (.int .i64 k)
  c1 : ∀ m : After W, m.now.cell? ⟨w.heap.size, 1, none⟩ = some (.int .i64 n)

theorem Dt.new (w : World) (k n : Int) : ∃ W, Dt w k n W := by
  have hb := World.alloc_heap_new w (.cells #[.int .i64 k, .int .i64 n] 39)
  refine ⟨_, rfl, (Below.refl _ w).alloc (Nat.le_refl _) _, fun m => ?_, fun m => ?_⟩
  · refine (m.ok.cell (p := ⟨w.heap.size, 0, none⟩) (by simp)).trans ?_
    unfold World.cell?; rw [hb]; rfl
  · refine (m.ok.cell (p := ⟨w.heap.size, 1, none⟩) (by simp)).trans ?_
    unfold World.cell?; rw [hb]; rfl

theorem below_of {P : Program} {f : Nat} {args : Array Value} {v : Value} {W : World} (h : Calls P f args W fun e w' => e = .returned v ∧ W = w') : Calls P f args W fun e w' => e = .returned v ∧ Below W.heap.size W w' := h.mono fun _ _ ⟨he, hw⟩ => ⟨he, hw ▸ Below.refl _ _⟩

set_option maxRecDepth 100000 in
set_option maxHeartbeats 1000000 in
/-- No deed that has a text: its kind is none. -/
theorem deedText_kind (k n : Int) (w : World) (h : k < 0 ∨ 5 < k) : Calls Tryz.prog 15 #[dV k n] w fun e w' => e = .returned (.string ⟨#[]⟩) ∧ Below w.heap.size w w' := by
  obtain ⟨W1, hW1, hB0, d0, d1⟩ := Dt.new w k n
  have hW : ∀ m : After W1, Calls Tryz.prog 55 #[.int .i64 k, .int .i64 5] m.now fun e w' => e = .returned (.bool false) ∧ Below m.now.heap.size m.now w' := fun m => below_of (within_f k 5 m.now h)
  unfold dV
  clear h
  go_enter Tryz.func15, Tryz.ntmps15
  go_wp2
  refine wp_region_below W1 (by kernel_rfl) (by kernel_rfl) (Below.refl _ _) ?_
  repeat (go_big_quiet_step ((go_at_call 55; with_reducible exact after_of (hW _))))
  refine wpQuiet_nil ?_
  rintro _ ⟨nq, rfl⟩
  go_wp2
  go_ret
  exact ⟨rfl, hB0.trans (nq.ok.mono hB0.size)⟩

set_option maxRecDepth 100000 in
set_option maxHeartbeats 1000000 in
/-- No deed that has a text: its number is none. -/
theorem deedText_num (k n : Int) (w : World) (h1 : 0 ≤ k) (h2 : k ≤ 5) (h : n < 0 ∨ mostT k < n) : Calls Tryz.prog 15 #[dV k n] w fun e w' => e = .returned (.string ⟨#[]⟩) ∧ Below w.heap.size w w' := by
  obtain ⟨W1, hW1, hB0, d0, d1⟩ := Dt.new w k n
  have hW : ∀ m : After W1, Calls Tryz.prog 55 #[.int .i64 k, .int .i64 5] m.now fun e w' => e = .returned (.bool true) ∧ Below m.now.heap.size m.now w' := fun m => below_of (within_t k 5 m.now h1 h2)
  have hM : ∀ m : After W1, Calls Tryz.prog 56 #[.int .i64 k] m.now fun e w' => e = .returned (.int .i64 (mostT k)) ∧ Below m.now.heap.size m.now w' := fun m => below_of (mostT_in k m.now)
  have hN : ∀ m : After W1, Calls Tryz.prog 55 #[.int .i64 n, .int .i64 (mostT k)] m.now fun e w' => e = .returned (.bool false) ∧ Below m.now.heap.size m.now w' := fun m => below_of (within_f n (mostT k) m.now h)
  unfold dV
  generalize mostT k = M at *
  clear h h1 h2
  go_enter Tryz.func15, Tryz.ntmps15
  go_wp2
  refine wp_region_below W1 (by kernel_rfl) (by kernel_rfl) (Below.refl _ _) ?_
  repeat (go_big_quiet_step (first | (go_at_call 55; with_reducible exact after_of (hW _)) | (go_at_call 55; with_reducible exact after_of (hN _)) | (go_at_call 56; with_reducible exact after_of (hM _))))
  refine wpQuiet_nil ?_
  rintro _ ⟨nq, rfl⟩
  go_wp2
  go_ret
  exact ⟨rfl, hB0.trans (nq.ok.mono hB0.size)⟩

set_option maxRecDepth 100000 in
set_option maxHeartbeats 1000000 in
/-- A deed without a number: its word. -/
theorem deedText_word (K : Nat) (hK : 2 ≤ K) (hK5 : K ≤ 5) (s : ByteArray) (hs : wordsA[K]? = some (.string s)) (w : World) : Calls Tryz.prog 15 #[dV K 0] w fun e w' => e = .returned (.string s) ∧ Below w.heap.size w w' := by
  obtain ⟨W1, hW1, hB0, d0, d1⟩ := Dt.new w K 0
  have hmk : mostT K = 0 := by unfold mostT; rw [if_neg (by omega), if_neg (by omega)]
  have hW : ∀ m : After W1, Calls Tryz.prog 55 #[.int .i64 K, .int .i64 5] m.now fun e w' => e = .returned (.bool true) ∧ Below m.now.heap.size m.now w' := fun m => below_of (within_t K 5 m.now (by omega) (by omega))
  have hM0 : ∀ V, Calls Tryz.prog 56 #[.int .i64 K] V fun e w' => e = .returned (.int .i64 0) ∧ V = w' := fun V => by have := mostT_in K V; rwa [hmk] at this
  have hM : ∀ m : After W1, Calls Tryz.prog 56 #[.int .i64 K] m.now fun e w' => e = .returned (.int .i64 0) ∧ Below m.now.heap.size m.now w' := fun m => below_of (hM0 m.now)
  have hN : ∀ m : After W1, Calls Tryz.prog 55 #[.int .i64 0, .int .i64 0] m.now fun e w' => e = .returned (.bool true) ∧ Below m.now.heap.size m.now w' := fun m => below_of (within_t 0 0 m.now (by omega) (by omega))
  have hKi : (K : Int) < 6 := by omega
  unfold dV
  have hsh := hide hs
  clear hmk hs
  go_enter Tryz.func15, Tryz.ntmps15
  go_wp2
  refine wp_region_below W1 (by kernel_rfl) (by kernel_rfl) (Below.refl _ _) ?_
  repeat (go_big_quiet_step (first | (go_at_call 55; with_reducible exact after_of (hW _)) | (go_at_call 55; with_reducible exact after_of (hN _)) | (go_at_call 56; with_reducible exact after_of (hM _))))
  refine wpQuiet_nil ?_
  rintro _ ⟨nq, rfl⟩
  have e0 := d0 nq
  have hl0 : w.heap.size < nq.now.heap.size := World.block_lt_of_cell? _ _ e0
  have hBq := nq.ok
  generalize nq.now = W2 at *
  have e0' : ∀ V, Below W2.heap.size W2 V → V.cell? ⟨w.heap.size, 0, none⟩ = some (.int .i64 K) := fun V hV => (hV.cell (p := ⟨w.heap.size, 0, none⟩) hl0).trans e0
  go_wp2
  go_region_with (go_at_call 57; go_loud (refine (words_at _).mono ?_; rintro e w3 ⟨rfl, hwk, hB3⟩; have hwk' : w3.cell? ⟨W2.heap.size, K, none⟩ = some (.string s) := hwk K _ hsh.out; have hwk2 : w3.cell? ⟨W2.drew.heap.size, K, none⟩ = some (.string s) := hwk K _ hsh.out; have hB23 : Below W2.heap.size W2 w3 := (Below.trans ((Below.refl _ W2).drew) hB3); have e0w := e0' w3 hB23; clear hwk))
  all_goals
    go_wp2_with (go_at_call 56; refine (hM0 _).mono ?_; rintro e w4 ⟨rfl, rfl⟩)
    go_ret
    exact ⟨rfl, hB0.trans ((hBq.trans (hB23.mono hBq.size)).mono hB0.size)⟩

theorem dec_small : ((List.range 100).all fun i => decide ((str (decF 20 i)).size ≤ 100)) = true := by decide +kernel

set_option maxRecDepth 100000 in
set_option maxHeartbeats 1000000 in
/-- A deed with a number: its word, a space and the number. -/
theorem deedText_named (K N M : Nat) (hK : K ≤ 1) (hmk : mostT K = M) (hNM : N ≤ M) (hM1 : 1 ≤ M) (hM99 : M ≤ 99) (s : ByteArray) (hsz : s.size ≤ 100) (hs : wordsA[K]? = some (.string s)) (w : World) : Calls Tryz.prog 15 #[dV K N] w fun e w' => e = .returned (.string (s ++ ⟨#[32]⟩ ++ str (decF 20 N))) ∧ Below w.heap.size w w' := by
  obtain ⟨W1, hW1, hB0, d0, d1⟩ := Dt.new w K N
  have hW : ∀ m : After W1, Calls Tryz.prog 55 #[.int .i64 K, .int .i64 5] m.now fun e w' => e = .returned (.bool true) ∧ Below m.now.heap.size m.now w' := fun m => below_of (within_t K 5 m.now (by omega) (by omega))
  have hM0 : ∀ V, Calls Tryz.prog 56 #[.int .i64 K] V fun e w' => e = .returned (.int .i64 M) ∧ V = w' := fun V => by have := mostT_in K V; rwa [hmk] at this
  have hM : ∀ m : After W1, Calls Tryz.prog 56 #[.int .i64 K] m.now fun e w' => e = .returned (.int .i64 M) ∧ Below m.now.heap.size m.now w' := fun m => below_of (hM0 m.now)
  have hN : ∀ m : After W1, Calls Tryz.prog 55 #[.int .i64 N, .int .i64 M] m.now fun e w' => e = .returned (.bool true) ∧ Below m.now.heap.size m.now w' := fun m => below_of (within_t N M m.now (by omega) (by omega))
  have hKi : (K : Int) < 6 := by omega
  have hIt := fun V => itoa_in N (by omega) V
  have hMne : ¬ M = 0 := by omega
  have hds : (str (decF 20 N)).size ≤ 100 := by
    have h := List.all_eq_true.1 dec_small N (List.mem_range.2 (by omega))
    simpa using h
  generalize str (decF 20 N) = D at *
  unfold dV
  have hsh := hide hs
  clear hmk hs
  go_enter Tryz.func15, Tryz.ntmps15
  go_wp2
  refine wp_region_below W1 (by kernel_rfl) (by kernel_rfl) (Below.refl _ _) ?_
  repeat (go_big_quiet_step (first | (go_at_call 55; with_reducible exact after_of (hW _)) | (go_at_call 55; with_reducible exact after_of (hN _)) | (go_at_call 56; with_reducible exact after_of (hM _))))
  refine wpQuiet_nil ?_
  rintro _ ⟨nq, rfl⟩
  have e0 := d0 nq
  have f0 := d1 nq
  have hl0 : w.heap.size < nq.now.heap.size := World.block_lt_of_cell? _ _ e0
  have hBq := nq.ok
  generalize nq.now = W2 at *
  have e0' : ∀ V, Below W2.heap.size W2 V → V.cell? ⟨w.heap.size, 0, none⟩ = some (.int .i64 K) := fun V hV => (hV.cell (p := ⟨w.heap.size, 0, none⟩) hl0).trans e0
  have f0' : ∀ V, Below W2.heap.size W2 V → V.cell? ⟨w.heap.size, 1, none⟩ = some (.int .i64 N) := fun V hV => (hV.cell (p := ⟨w.heap.size, 1, none⟩) hl0).trans f0
  go_wp2
  go_region_with (go_at_call 57; go_loud (refine (words_at _).mono ?_; rintro e w3 ⟨rfl, hwk, hB3⟩; have hwk' : w3.cell? ⟨W2.heap.size, K, none⟩ = some (.string s) := hwk K _ hsh.out; have hwk2 : w3.cell? ⟨W2.drew.heap.size, K, none⟩ = some (.string s) := hwk K _ hsh.out; have hB23 : Below W2.heap.size W2 w3 := (Below.trans ((Below.refl _ W2).drew) hB3); have e0w := e0' w3 hB23; have f0w := f0' w3 hB23; clear hwk))
  all_goals
    go_wp2_with (first | (go_at_call 56; refine (hM0 _).mono ?_; rintro e w4 ⟨rfl, rfl⟩) | (go_at_call 58; refine (hIt _).mono ?_; rintro e w4 ⟨rfl, rfl⟩))
    go_ret
    exact ⟨rfl, hB0.trans ((hBq.trans (hB23.mono hBq.size)).mono hB0.size)⟩

theorem implDeedText (k n : Int) (_hk : Fits k) (_hn : Fits n) (w : World) : Calls Tryz.prog 15 #[dV k n] w fun e w' => e = .returned (.string (str (deedT k n))) ∧ Below w.heap.size w w' := by
  by_cases hk : k < 0 ∨ 5 < k
  · have hd : deedT k n = [] := by
      unfold deedT
      rw [if_neg (by omega), if_neg (by omega), if_neg (by omega), if_neg (by omega), if_neg (by omega), if_neg (by omega)]
    rw [hd]
    exact deedText_kind k n w hk
  obtain ⟨K, rfl⟩ : ∃ K : Nat, k = K := ⟨k.toNat, by omega⟩
  by_cases hn : n < 0 ∨ mostT K < n
  · have hd : deedT K n = [] := by
      unfold mostT at hn
      unfold deedT
      by_cases h0 : (K : Int) = 0
      · rw [if_pos h0] at hn
        rw [if_neg (by omega), if_neg (by omega), if_neg (by omega), if_neg (by omega), if_neg (by omega), if_neg (by omega)]
      · rw [if_neg h0] at hn
        by_cases h1 : (K : Int) = 1
        · rw [if_pos h1] at hn
          rw [if_neg (by omega), if_neg (by omega), if_neg (by omega), if_neg (by omega), if_neg (by omega), if_neg (by omega)]
        · rw [if_neg h1] at hn
          rw [if_neg (by omega), if_neg (by omega), if_neg (by omega), if_neg (by omega), if_neg (by omega), if_neg (by omega)]
    rw [hd]
    exact deedText_num K n w (by omega) (by omega) hn
  obtain ⟨N, rfl⟩ : ∃ N : Nat, n = N := ⟨n.toNat, by omega⟩
  have hN0 : 2 ≤ K → N = 0 := fun h2 => by
    have : mostT (K : Int) = 0 := by unfold mostT; rw [if_neg (by omega), if_neg (by omega)]
    omega
  rcases (show K = 0 ∨ K = 1 ∨ K = 2 ∨ K = 3 ∨ K = 4 ∨ K = 5 by omega) with rfl | rfl | rfl | rfl | rfl | rfl
  · have hN : (N : Int) ≤ 99 := by have : mostT ((0 : Nat) : Int) = 99 := rfl
                                   omega
    have hd : str (deedT ((0 : Nat) : Int) N) = (⟨#[102, 108, 105, 112]⟩ : ByteArray) ++ ⟨#[32]⟩ ++ str (decF 20 N) := by
      unfold deedT
      rw [if_pos ⟨rfl, by omega, hN⟩, Int.toNat_natCast, ← str_app]
      rfl
    rw [hd]
    exact deedText_named 0 N 99 (by omega) rfl (by omega) (by omega) (by omega) _ (by decide) rfl w
  · have hN : (N : Int) ≤ 9 := by have : mostT ((1 : Nat) : Int) = 9 := rfl
                                  omega
    have hd : str (deedT ((1 : Nat) : Int) N) = (⟨#[112, 117, 116]⟩ : ByteArray) ++ ⟨#[32]⟩ ++ str (decF 20 N) := by
      unfold deedT
      rw [if_neg (by omega), if_pos ⟨rfl, by omega, hN⟩, Int.toNat_natCast, ← str_app]
      rfl
    rw [hd]
    exact deedText_named 1 N 9 (by omega) rfl (by omega) (by omega) (by omega) _ (by decide) rfl w
  · obtain rfl := hN0 (by omega)
    exact deedText_word 2 (by omega) (by omega) _ rfl w
  · obtain rfl := hN0 (by omega)
    exact deedText_word 3 (by omega) (by omega) _ rfl w
  · obtain rfl := hN0 (by omega)
    exact deedText_word 4 (by omega) (by omega) _ rfl w
  · obtain rfl := hN0 (by omega)
    exact deedText_word 5 (by omega) (by omega) _ rfl w
end Go.Proofs.YtiaaefapbcjgmaaGreatDoor
namespace Go.Proofs.YtiaaefapbcjgmaaGreatDoor

theorem dec_digits : ∀ (f u : Nat), u < 10 ^ (f + 1) → Lib.decDigits u = (decF f u).map UInt8.ofNat
  | 0, u, h => by
    rw [Lib.decDigits_one (by simpa using h)]
    have : u % 10 = u := Nat.mod_eq_of_lt (by simpa using h)
    simp [decF, this]
  | f + 1, u, h => by
    unfold decF
    by_cases h1 : u < 10
    · rw [if_pos h1, Lib.decDigits_one h1]; rfl
    · rw [if_neg h1, Lib.decDigits, dif_neg h1, dec_digits f (u / 10) (by rw [Nat.pow_succ] at h; omega)]
      simp

theorem itoa_dec (u : Nat) (h : u ≤ 999999999) : Lib.itoa (u : Int) = (decF 20 u).map UInt8.ofNat := by
  rw [Lib.itoa_nonneg]
  exact dec_digits 20 u (Nat.lt_of_le_of_lt h (by decide))

theorem dec_byte : ∀ (f u : Nat), ∀ x ∈ decF f u, 48 ≤ x ∧ x ≤ 57
  | 0, u, x, hx => by simp [decF] at hx; omega
  | f + 1, u, x, hx => by
    unfold decF at hx
    split at hx
    · simp at hx; omega
    · rcases List.mem_append.1 hx with hx | hx
      · exact dec_byte f _ x hx
      · simp at hx; omega

theorem digL_app : ∀ (xs : List Nat) (c n : Nat), digL (xs ++ [c]) n = (digL xs n).bind fun k => if 48 ≤ c ∧ c ≤ 57 then some (10 * k + (c - 48)) else none
  | [], c, n => by
    simp only [List.nil_append, digL, Option.bind_some]
  | x :: xs, c, n => by
    rw [List.cons_append, digL, digL]
    split
    · exact digL_app xs c _
    · rfl

theorem dec_dig : ∀ (f u : Nat), u < 10 ^ (f + 1) → digL (decF f u) 0 = some u
  | 0, u, h => by
    have : u % 10 = u := Nat.mod_eq_of_lt (by simpa using h)
    have h2 : u < 10 := by simpa using h
    simp only [decF, this, digL]
    rw [if_pos (by omega)]
    simp
  | f + 1, u, h => by
    unfold decF
    by_cases h1 : u < 10
    · rw [if_pos h1]
      simp only [digL]
      rw [if_pos (by omega)]
      simp
    · rw [if_neg h1, digL_app, dec_dig f (u / 10) (by rw [Nat.pow_succ] at h; omega), Option.bind_some, if_pos (by omega)]
      congr 1
      omega

theorem dec_len : ∀ (f u k : Nat), 1 ≤ k → u < 10 ^ k → 1 ≤ (decF f u).length ∧ (k ≤ f + 1 → (decF f u).length ≤ k)
  | 0, u, k, hk, h => by simp [decF]; omega
  | f + 1, u, k, hk, h => by
    unfold decF
    by_cases h1 : u < 10
    · rw [if_pos h1]; simp; omega
    · rw [if_neg h1]
      have hk2 : 2 ≤ k := by
        rcases Nat.lt_or_ge k 2 with h3 | h3
        · obtain rfl : k = 1 := by omega
          simp at h; omega
        · exact h3
      obtain ⟨j, rfl⟩ : ∃ j, k = j + 1 := ⟨k - 1, by omega⟩
      have := dec_len f (u / 10) j (by omega) (by rw [Nat.pow_succ] at h; omega)
      rw [List.length_append, List.length_singleton]
      exact ⟨by omega, fun h4 => by have := this.2 (by omega); omega⟩

theorem dec_head : ∀ (f u : Nat), 1 ≤ u → u < 10 ^ (f + 1) → (decF f u).getD 0 0 ≠ 48
  | 0, u, h1, h => by
    have : u % 10 = u := Nat.mod_eq_of_lt (by simpa using h)
    simp [decF, this]; omega
  | f + 1, u, h1, h => by
    unfold decF
    by_cases h2 : u < 10
    · rw [if_pos h2]; simp; omega
    · rw [if_neg h2]
      have h3 := dec_head f (u / 10) (by omega) (by rw [Nat.pow_succ] at h; omega)
      have h4 := (dec_len f (u / 10) (f + 1) (by omega) (by rw [Nat.pow_succ] at h; omega)).1
      rw [List.getD, List.getElem?_append_left (by omega)]
      exact h3

theorem dig_dec (m : Nat) (h : m ≤ 999999999) : digT (decF 20 m) = some m := by
  have h20 : m < 10 ^ 21 := Nat.lt_of_le_of_lt h (by decide)
  have hl := dec_len 20 m 9 (by omega) (by omega)
  have h3 : ¬ (1 < (decF 20 m).length ∧ (decF 20 m).getD 0 0 = 48) := fun ⟨h1, h2⟩ => by
    rcases Nat.eq_zero_or_pos m with e | e
    · subst e; simp [decF] at h1
    · exact dec_head 20 m e h20 h2
  unfold digT
  rw [if_pos (show _ ∧ _ ∧ _ from ⟨hl.1, hl.2 (by omega), h3⟩), dec_dig 20 m h20]

/-- Digits without a leading nought are the numeral of what they spell. -/
theorem dig_num : ∀ (n : Nat) (q : List Nat), q.length = n → q ≠ [] → q.getD 0 0 ≠ 48 → ∀ k, digL q 0 = some k → 1 ≤ k ∧ k < 10 ^ q.length ∧ ∀ f, q.length ≤ f + 1 → decF f k = q
  | 0, q, hn, hne, _, _, _ => absurd (List.length_eq_zero_iff.1 hn) hne
  | n + 1, q, hn, hne, h48, k, hk => by
    obtain ⟨r, c, rfl⟩ : ∃ r c, q = r ++ [c] := ⟨q.dropLast, q.getLast hne, (List.dropLast_concat_getLast hne).symm⟩
    rw [digL_app] at hk
    have hr : r.length = n := by simpa using hn
    cases hd : digL r 0 with
    | none => rw [hd] at hk; cases hk
    | some k' =>
      rw [hd, Option.bind_some] at hk
      split at hk
      · rename_i hc
        injection hk with hk
        subst hk
        by_cases h0 : r = []
        · subst h0
          simp only [digL] at hd
          injection hd with hd
          subst hd
          simp at h48
          refine ⟨by omega, by simp; omega, fun f _ => ?_⟩
          have hlt : 10 * 0 + (c - 48) < 10 := by omega
          cases f with
          | zero => simp [decF]; omega
          | succ f => unfold decF; rw [if_pos hlt]; simp; omega
        · have hrl : 0 < r.length := List.length_pos_iff.2 h0
          have h48' : r.getD 0 0 ≠ 48 := by
            rw [List.getD, List.getElem?_append_left hrl] at h48
            exact h48
          obtain ⟨h1, h2, h3⟩ := dig_num n r hr h0 h48' k' hd
          refine ⟨by omega, ?_, fun f hf => ?_⟩
          · rw [List.length_append, List.length_singleton, Nat.pow_succ]; omega
          · rw [List.length_append, List.length_singleton] at hf
            cases f with
            | zero => omega
            | succ f =>
              unfold decF
              rw [if_neg (by omega), show (10 * k' + (c - 48)) / 10 = k' by omega, show (10 * k' + (c - 48)) % 10 = c - 48 by omega, h3 f (by omega), show 48 + (c - 48) = c by omega]
      · cases hk

theorem dig_is {p : List Nat} {m : Nat} (h : digT p = some m) : m ≤ 999999999 ∧ decF 20 m = p := by
  unfold digT at h
  split at h
  · rename_i hc
    obtain ⟨h1, h2, h3⟩ := hc
    by_cases h48 : p.getD 0 0 = 48
    · have hl : p.length = 1 := by
        rcases Nat.lt_or_ge 1 p.length with h4 | h4
        · exact absurd ⟨h4, h48⟩ h3
        · omega
      match p, hl with
      | [c], _ =>
        simp at h48
        subst h48
        simp only [digL] at h
        injection h with h
        subst h
        exact ⟨by omega, rfl⟩
    · obtain ⟨h4, h5, h6⟩ := dig_num p.length p rfl (fun e => by rw [e] at h1; simp at h1) h48 m h
      have h7 : (10 : Nat) ^ p.length ≤ 10 ^ 9 := Nat.pow_le_pow_right (by omega) h2
      exact ⟨by omega, h6 20 (by omega)⟩
  · cases h

theorem digL_ge : ∀ (p : List Nat) (n m : Nat), digL p n = some m → n ≤ m
  | [], n, m, h => by simp only [digL] at h; injection h with h; omega
  | c :: r, n, m, h => by
    rw [digL] at h
    split at h
    · have := digL_ge r _ m h; omega
    · cases h

theorem parse_dig : ∀ (p : List Nat) (n m : Nat), (∀ x ∈ p, x < 256) → m ≤ 999999999 → digL p n = some m → Lib.parseUint10 n (p.map UInt8.ofNat) = .ok m
  | [], n, m, _, _, h => by simp only [digL] at h; injection h with h; subst h; rfl
  | c :: r, n, m, hb, hm, h => by
    rw [digL] at h
    split at h
    · rename_i hc
      have hge := digL_ge r _ m h
      have hcb : (UInt8.ofNat c).toNat = c := by simp; have := hb c (by simp); omega
      rw [List.map_cons, Lib.parseUint10, hcb, if_pos hc, if_neg (by omega), if_neg (by omega), show n * 10 + (c - 48) = 10 * n + (c - 48) by omega]
      exact parse_dig r _ m (fun x hx => hb x (by simp [hx])) hm h
    · cases h

theorem atoi_dig {p : List Nat} {m : Nat} (hb : ∀ x ∈ p, x < 256) (h : digT p = some m) : Lib.atoiAll (p.map UInt8.ofNat) = .ok (m : Int) := by
  obtain ⟨hm, hd⟩ := dig_is h
  have h2 := h
  unfold digT at h2
  split at h2
  · rename_i hc
    match p, hc with
    | c :: r, _ =>
      have hcd : 48 ≤ c ∧ c ≤ 57 := by
        rw [digL] at h2
        split at h2
        · assumption
        · cases h2
      have hcb : (UInt8.ofNat c).toNat = c := by simp; omega
      have hp := parse_dig (c :: r) 0 m hb hm h2
      rw [List.map_cons] at hp ⊢
      rw [Lib.atoiAll_plain _ _ (by omega) (by omega)]
      unfold Lib.parseMag
      rw [if_neg (by simp), hp]
      unfold Lib.signless
      simp
      omega
  · cases h2

/-- What is no numeral of one to nine digits is not written so, whatever number is read out of it. -/
theorem itoa_not {p : List Nat} (hb : ∀ x ∈ p, x < 256) (h : digT p = none) (n : Nat) (hn : n ≤ 999999999) : (Lib.itoa (n : Int)) ≠ p.map UInt8.ofNat := fun e => by
  rw [itoa_dec n hn] at e
  have h1 := str_inj (fun x hx => by have := dec_byte 20 n x hx; omega) hb e
  rw [← h1, dig_dec n hn] at h
  cases h
end Go.Proofs.YtiaaefapbcjgmaaGreatDoor
namespace Go.Proofs.YtiaaefapbcjgmaaGreatDoor

theorem index_cons32 (c : UInt8) (h : c ≠ 32) (s : List UInt8) : Lib.index (c :: s) [32] = if Lib.index s [32] == -1 then -1 else Lib.index s [32] + 1 := by
  rw [Lib.index, if_neg]
  simp [List.isPrefixOf]
  exact fun e => h e.symm

theorem splitK_cons (c : UInt8) (h : c ≠ 32) : ∀ (k : Nat) (s x : List UInt8) (t : List (List UInt8)), Lib.splitK [32] 0 k s = x :: t → Lib.splitK [32] 0 k (c :: s) = (c :: x) :: t
  | 0, s, x, t, e => by
    rw [Lib.splitK] at e ⊢
    injection e with e1 e2
    rw [e1, e2]
  | k + 1, s, x, t, e => by
    have hge := Lib.index_ge s [32]
    rw [Lib.splitK] at e ⊢
    rw [index_cons32 c h]
    by_cases h1 : Lib.index s [32] = -1
    · rw [h1] at e ⊢
      simp at e ⊢
      exact e
    · obtain ⟨i, hi⟩ : ∃ i : Nat, Lib.index s [32] = i := ⟨(Lib.index s [32]).toNat, by omega⟩
      have hb : ¬ ((i : Int) == -1) = true := by simp
      have hb2 : ¬ ((i : Int) + 1 == -1) = true := by simp; omega
      rw [hi, if_neg hb] at e
      rw [hi, if_neg hb, if_neg hb2]
      have e3 : ((i : Int) + 1).toNat = i + 1 := by omega
      have e4 : ((i : Int)).toNat = i := by omega
      rw [e4] at e
      rw [e3]
      simp only [List.length_singleton, Nat.add_zero, List.take_succ_cons, List.drop_succ_cons] at e ⊢
      injection e with e1 e2
      rw [e1, e2]

theorem cutL_front (sep : Nat) : ∀ (r line : List Nat), ∃ h t, cutL sep [] r = h :: t ∧ cutL sep line r = (line ++ h) :: t
  | [], line => ⟨[], [], rfl, by simp [cutL]⟩
  | c :: r, line => by
    by_cases e : c = sep
    · subst e
      exact ⟨[], cutL c [] r, cutL_hit c [] r, by rw [cutL_hit, List.append_nil]⟩
    · obtain ⟨h, t, h1, h2⟩ := cutL_front sep r [c]
      obtain ⟨h', t', h3, h4⟩ := cutL_front sep r (line ++ [c])
      rw [h1] at h3
      injection h3 with h5 h6
      subst h5 h6
      exact ⟨[c] ++ h, t, by rw [cutL_other e, List.nil_append]; exact h2, by rw [cutL_other e, h4, List.append_assoc]⟩

theorem split_cut : ∀ (l : List Nat), (∀ x ∈ l, x < 256) → Lib.splitK [32] 0 ((l.map UInt8.ofNat).count 32) (l.map UInt8.ofNat) = (cutT 32 l).map (·.map UInt8.ofNat)
  | [], _ => by simp [Lib.splitK, cutT, cutL]
  | c :: r, hb => by
    have ih := split_cut r (fun x hx => hb x (by simp [hx]))
    have hc := hb c (by simp)
    by_cases e : c = 32
    · subst e
      unfold cutT at ih ⊢
      rw [cutL_hit, List.map_cons, List.map_cons, show UInt8.ofNat 32 = 32 from rfl, List.count_cons_self, Lib.splitK, show Lib.index ((32 : UInt8) :: r.map UInt8.ofNat) [32] = 0 by rw [Lib.index]; simp [List.isPrefixOf]]
      simp
      exact ih
    · have hne : UInt8.ofNat c ≠ 32 := fun e2 => by
        have := congrArg UInt8.toNat e2
        simp at this
        omega
      obtain ⟨h, t, h1, h2⟩ := cutL_front 32 r [c]
      unfold cutT at ih ⊢
      rw [h1, List.map_cons] at ih
      rw [cutL_other e, List.nil_append, h2, List.map_cons, List.count_cons_of_ne hne, List.map_cons, splitK_cons _ hne _ _ _ _ ih]
      rfl

theorem str_data (l : List Nat) : (str l).data.toList = l.map UInt8.ofNat := rfl

theorem data_str {b : ByteArray} {l : List Nat} (h : b.data.toList = l.map UInt8.ofNat) : b = str l := by
  unfold str
  rw [← h]

theorem data_all : ∀ (A : List ByteArray) (L : List (List Nat)), A.map (·.data.toList) = L.map (·.map UInt8.ofNat) → A = L.map str
  | [], [], _ => rfl
  | [], _ :: _, h => by simp at h
  | _ :: _, [], h => by simp at h
  | x :: A, y :: L, h => by
    rw [List.map_cons, List.map_cons] at h
    injection h with h1 h2
    rw [List.map_cons, data_str h1, data_all A L h2]

/-- The pieces of strings.Split at one space. -/
theorem splitB_cut (l : List Nat) (hb : ∀ x ∈ l, x < 256) : Lib.splitB ⟨#[32]⟩ 0 (Lib.countB (str l) ⟨#[32]⟩) (str l) = (cutT 32 l).map str := by
  have h := Lib.splitB_data ⟨#[32]⟩ 0 (Lib.countB (str l) ⟨#[32]⟩) (str l)
  have hk : Lib.countB (str l) ⟨#[32]⟩ = (l.map UInt8.ofNat).count 32 := Lib.count_one 32 (l.map UInt8.ofNat)
  rw [show (⟨#[32]⟩ : ByteArray).data.toList = [32] from rfl, str_data, hk, split_cut l hb] at h
  rw [hk]
  exact data_all _ _ h
end Go.Proofs.YtiaaefapbcjgmaaGreatDoor
namespace Go.Proofs.YtiaaefapbcjgmaaGreatDoor
open Go.RowKit

/-- What the library's texts ask of a world: the length of the longest slice, the table of tens, the two errors. -/
structure Env (w : World) : Prop where
  ml : ∃ m, w.cell? ⟨Tryz.splitA_ren.g 1, 0, none⟩ = some (.int .i64 m)
  pow : Lib.TabIs Tryz.prog w "internal/strconv.uint64pow10" .u64 Lib.pow10Tab
  es : ∃ ev, w.cell? ⟨Tryz.atoiA_ren.g 15, 0, none⟩ = some ev ∧ (ev = .nilIface ∨ ∃ te pe, ev = .iface te pe)
  er : ∃ ev, w.cell? ⟨Tryz.atoiA_ren.g 16, 0, none⟩ = some ev ∧ (ev = .nilIface ∨ ∃ te pe, ev = .iface te pe)

theorem Env.below {w w' : World} (h : Env w) (hB : Below w.heap.size w w') : Env w' := by
  have hc : ∀ {a : Addr} {v : Value}, w.cell? a = some v → w'.cell? a = some v := fun {a v} e => (hB.cell (World.block_lt_of_cell? w a e)).trans e
  obtain ⟨⟨m, hm⟩, hp, ⟨es, h1, h2⟩, ⟨er, h3, h4⟩⟩ := h
  exact ⟨⟨m, hc hm⟩, (Lib.tabBelow_of_tabIs hp) w' hB, ⟨es, hc h1, h2⟩, ⟨er, hc h3, h4⟩⟩

theorem spaces_in (l : List Nat) (hl : ∀ x ∈ l, x < 256) (hn : l.length ≤ 2000000) (w : World) (hE : Env w) : Calls Tryz.prog 123 #[.string (str l), .string ⟨#[32]⟩] w fun e w' =>
    e = .returned (.slice (some ⟨w.heap.size, 0, none⟩) (cutT 32 l).length (cutT 32 l).length) ∧ (∀ i, i < (cutT 32 l).length → w'.cell? ⟨w.heap.size, i, none⟩ = some (.string (str ((cutT 32 l).getD i [])))) ∧ Below w.heap.size w w' := by
  obtain ⟨m, hm⟩ := hE.ml
  have hc := splitB_cut l hl
  have hlen := Lib.splitB_all ⟨#[32]⟩ (by decide) 0 _ (str l) rfl
  refine (Any.strings_Split { Tryz.splitA with } Tryz.splitA.i9 (str l) ⟨#[32]⟩ m w (by have := str_size l; omega) hm (by decide)).mono ?_
  rintro e w' ⟨rfl, rfl⟩
  rw [hc, List.length_map] at hlen
  rw [hc, ← hlen]
  refine ⟨rfl, fun i hi => ?_, (Below.refl _ _).alloc (Nat.le_refl _) _⟩
  have hb := World.alloc_heap_new w (.cells (((cutT 32 l).map str).map Value.string).toArray (Tryz.splitA_ren.t 9))
  unfold World.cell?
  rw [hb]
  simp [hi]

/-- A word of a line as a number: what strconv.Atoi and strconv.Itoa say of it. -/
theorem atoi_in (p : List Nat) (hp : ∀ x ∈ p, x < 256) (hn : p.length ≤ 2000000) (w : World) (hE : Env w) : Calls Tryz.prog 124 #[.string (str p)] w fun e w' =>
    (∃ (n : Int) (ev : Value), e = .returned (.tuple #[.int .i64 n, ev]) ∧ ((ev = .nilIface ∧ Lib.atoiAll (str p).data.toList = .ok n) ∨ (digT p = none ∧ ∃ t B, ev = .iface t (.pointer (some ⟨B, 0, none⟩))))) ∧ Below w.heap.size w w' := by
  have hsz := str_size p
  rcases h : Lib.atoiAll (str p).data.toList with v | _ | _
  · refine (Any.strconv_Atoi_ok { Tryz.atoiA with } (str p) (by omega) v h w).mono ?_
    rintro e w' ⟨rfl, hw⟩
    refine ⟨⟨v, _, rfl, .inl ⟨rfl, rfl⟩⟩, ?_⟩
    rcases hw with rfl | ⟨t, rfl⟩
    · exact Below.refl _ _
    · exact Lib.bytesWorld_below _ _ _
  · obtain ⟨ev, h1, h2⟩ := hE.es
    refine (Any.strconv_Atoi_syntax { Tryz.atoiA with } (str p) (by omega) h ev w h1 h2).mono ?_
    rintro e w' ⟨N, rfl, _, _, hB⟩
    refine ⟨⟨0, _, rfl, .inr ⟨?_, _, N, rfl⟩⟩, hB⟩
    cases hd : digT p with
    | none => rfl
    | some m => rw [str_data, atoi_dig hp hd] at h; cases h
  · obtain ⟨ev, h1, h2⟩ := hE.er
    refine (Any.strconv_Atoi_range { Tryz.atoiA with } (str p) (by omega) h ev w h1 h2).mono ?_
    rintro e w' ⟨N, rfl, _, _, hB⟩
    refine ⟨⟨_, _, rfl, .inr ⟨?_, _, N, rfl⟩⟩, hB⟩
    cases hd : digT p with
    | none => rfl
    | some m => rw [str_data, atoi_dig hp hd] at h; cases h

theorem itoaAll_in (n : Int) (h0 : 0 ≤ n) (h1 : n ≤ 999999999) (w : World) (hE : Env w) : Calls Tryz.prog 58 #[.int .i64 n] w fun e w' => e = .returned (.string (str (decF 20 n.toNat))) ∧ Below w.heap.size w w' := by
  refine (Any.strconv_Itoa { Tryz.itoaA with } n (by omega) (by omega) w hE.pow).mono ?_
  obtain ⟨u, rfl⟩ : ∃ u : Nat, n = u := ⟨n.toNat, by omega⟩
  rintro e w' ⟨rfl, k, os, rfl⟩
  rw [itoa_dec u (by omega)]
  exact ⟨rfl, Lib.below_grow _ _ (Nat.le_refl _) _ _⟩
end Go.Proofs.YtiaaefapbcjgmaaGreatDoor
namespace Go.Proofs.YtiaaefapbcjgmaaGreatDoor
open Go.RowKit

theorem own_fromD {w : World} {base base' n : Nat} {e : TypeId} {v : Value} {xs : List Value} (h : w.ownsRow base e 1 v n xs) (hb : base' ≤ base) : w.ownsRow base' e 1 v n xs := by
  obtain ⟨h1, h2⟩ := h
  refine ⟨h1, ?_⟩
  rcases h2 with h2 | ⟨g, cap, cur, rfl, h3, h4⟩
  · exact .inl h2
  · exact .inr ⟨g, cap, cur, rfl, Nat.le_trans hb h3, h4⟩

theorem cutL_len (l : List Nat) : (cutT 32 l).length ≤ l.length + 1 := by
  have h : ∀ (r line : List Nat), (cutL 32 line r).length ≤ r.length + 1 := fun r => by
    induction r with
    | nil => intro line; simp [cutL]
    | cons c r ih =>
      intro line
      by_cases e : c = 32
      · subst e; rw [cutL_hit]; have := ih []; simp; omega
      · rw [cutL_other e]; have := ih (line ++ [c]); simp; omega
  exact h l []

/-- What Atoi and Itoa say of a word. -/
def Said (p : List Nat) (n : Int) (ev : Value) : Prop :=
  (ev = .nilIface ∧ 0 ≤ n ∧ n ≤ 999999999 ∧ digT p = some n.toNat ∧ decF 20 n.toNat = p) ∨ (ev = .nilIface ∧ 0 ≤ n ∧ n ≤ 999999999 ∧ digT p = none ∧ ¬ str (decF 20 n.toNat) = str p) ∨
  (ev = .nilIface ∧ digT p = none ∧ (n < 0 ∨ 999999999 < n)) ∨ (digT p = none ∧ ∃ t B, ev = .iface t (.pointer (some ⟨B, 0, none⟩)))

theorem said_of {p : List Nat} (hp : ∀ x ∈ p, x < 256) {n : Int} {ev : Value} (h : (ev = .nilIface ∧ Lib.atoiAll (str p).data.toList = .ok n) ∨ (digT p = none ∧ ∃ t B, ev = .iface t (.pointer (some ⟨B, 0, none⟩)))) : Said p n ev := by
  rcases h with ⟨rfl, h⟩ | h
  · cases hd : digT p with
    | some m =>
      rw [str_data, atoi_dig hp hd] at h
      injection h with h
      subst h
      obtain ⟨h1, h2⟩ := dig_is hd
      exact .inl ⟨rfl, by omega, by omega, hd ▸ rfl, h2⟩
    | none =>
      by_cases hr : n < 0 ∨ 999999999 < n
      · exact .inr (.inr (.inl ⟨rfl, hd, hr⟩))
      · refine .inr (.inl ⟨rfl, by omega, by omega, hd, fun e => ?_⟩)
        obtain ⟨u, rfl⟩ : ∃ u : Nat, n = u := ⟨n.toNat, by omega⟩
        have h1 := itoa_not hp hd u (by omega)
        rw [itoa_dec u (by omega)] at h1
        have h2 := congrArg (fun b : ByteArray => b.data.toList) e
        exact h1 h2
  · exact .inr (.inr (.inr h))

/-- What readLine answers: the first word and the numbers, or nothing. -/
def rlV (l : List Nat) : List Nat × List Int := match numsL (cutT 32 l).tail with
  | none => ([], [])
  | some ns => ((cutT 32 l).getD 0 [], ns)

theorem numsL_cons (p : List Nat) (r : List (List Nat)) : numsL (p :: r) = match digT p with | none => none | some n => (numsL r).map ((n : Int) :: ·) := by
  rw [numsL]
  cases digT p with
  | none => rfl
  | some n => cases numsL r <;> rfl

set_option maxRecDepth 100000 in
set_option maxHeartbeats 2000000 in
theorem readLine_in (l : List Nat) (hl : ∀ x ∈ l, x < 256) (hn : l.length ≤ 1100000) (w : World) (hE : Env w) : Calls Tryz.prog 91 #[.string (str l)] w fun e w' =>
    ∃ v, e = .returned (.tuple #[.string (str (rlV l).1), v]) ∧ w'.ownsRow w.heap.size 3 1 v (rlV l).2.length ((rlV l).2.map (Value.int .i64)) ∧ Below w.heap.size w w' := by
  have hS := hide (spaces_in l hl (by omega) w hE)
  have hpos := cutL_pos 32 l []
  have hlen : (cutT 32 l).length ≤ l.length + 1 := cutL_len l
  have hmem : ∀ i, (∀ c ∈ (cutT 32 l).getD i [], c < 256) ∧ ((cutT 32 l).getD i []).length ≤ 2000000 := fun i => by
    by_cases hi : i < (cutT 32 l).length
    · have := cutL_mem 32 l [] ((cutT 32 l).getD i []) (word_mem _ i hi)
      exact ⟨fun c hc => hl c ((this.1 c hc).resolve_left (by simp)), Nat.le_trans this.2 (by simp; omega)⟩
    · rw [List.getD, List.getElem?_eq_none (by omega)]; simp
  have hrl : rlV l = match numsL (cutT 32 l).tail with | none => ([], []) | some ns => ((cutT 32 l).getD 0 [], ns) := rfl
  generalize rlV l = res at *
  change 0 < (cutT 32 l).length at hpos
  obtain ⟨ws, hws⟩ : ∃ ws, cutT 32 l = ws := ⟨_, rfl⟩
  rw [hws] at hS hpos hlen hmem hrl
  obtain ⟨n, hwn⟩ : ∃ n, ws.length = n := ⟨_, rfl⟩
  have hS := hS.out
  rw [hwn] at hS hpos hlen
  generalize str l = S at *
  clear hws hl
  have hf0 : numsL ws.tail = none → res = ([], []) := fun e => by rw [hrl, e]
  have hf1 : ∀ ns, numsL ws.tail = some ns → res = (ws.getD 0 [], ns) := fun ns e => by rw [hrl, e]
  replace hf0 := hide hf0
  replace hf1 := hide hf1
  have hst : Hid (numsL ws.tail = (numsL (ws.drop 1)).map ([] ++ ·)) := hide (by rw [List.drop_one]; cases numsL ws.tail <;> rfl)
  clear hrl
  by_cases h1 : n = 1
  · subst h1
    go_enter Tryz.func91, Tryz.ntmps91
    go_wp2_with (go_at_call 123; refine hS.mono ?_; clear hS; rintro e w1 ⟨rfl, hc, hB1⟩)
    have hc0 := hc 0 (by omega)
    obtain ⟨P0, hP0⟩ : ∃ P0, str (ws.getD 0 []) = P0 := ⟨_, rfl⟩
    rw [hP0] at hc0
    clear hc
    go_loopw [5, 15] (fun o a wr => o = .slice none 0 0 ∧ a = .int .i64 0 ∧ wr = w1) (fun _ _ _ => 0)
    case atStart => exact ⟨rfl, rfl, rfl⟩
    case round =>
      obtain ⟨rfl, rfl, rfl⟩ := hrel
      go_wp2
      have hr := hf1.out [] (by rw [hst.out, List.drop_eq_nil_of_le (by omega)]; rfl)
      go_ret2
      rw [hr, hP0]
      exact ⟨_, rfl, World.ownsRow_nil _ _ _ _, hB1⟩
  have hn1 : (1 : Int) ≤ (n : Int) := by omega
  have hn2 : ¬ n = 1 := h1
  go_enter Tryz.func91, Tryz.ntmps91
  go_wp2_with (go_at_call 123; refine hS.mono ?_; clear hS; rintro e w1 ⟨rfl, hc, hB1⟩)
  have hsz0 : w.heap.size < w1.heap.size := World.block_lt_of_cell? _ _ (hc 0 (by omega))
  have hcW : ∀ W, Below w1.heap.size w1 W → ∀ i, i < n → W.cell? ⟨w.heap.size, i, none⟩ = some (.string (str (ws.getD i []))) := fun W hW i hi => (hW.cell (p := ⟨w.heap.size, i, none⟩) hsz0).trans (hc i hi)
  have hE1 := hE.below hB1
  replace hcW := hide hcW
  clear hc
  go_loopw [5, 15] (fun o a wr => ∃ (i : Nat) (xs : List Int), i < n ∧ xs.length = i ∧ a = .int .i64 i ∧ wr.ownsRow w1.heap.size 3 1 o xs.length (xs.map (Value.int .i64)) ∧ Hid (numsL ws.tail = (numsL (ws.drop (i + 1))).map (xs ++ ·)) ∧ Below w1.heap.size w1 wr) (fun _ a _ => n - (intOf a).toNat)
  case atStart => exact ⟨0, [], by omega, rfl, rfl, World.ownsRow_nil _ _ _ _, hst, Below.refl _ _⟩
  case round =>
    clear hst
    obtain ⟨i, xs, hi, hxi, rfl, hown, hst, hB⟩ := hrel
    have hEr := hE1.below hB
    by_cases hlt : i + 1 < n
    · have hcell := hcW.out _ hB (i + 1) hlt
      have hcell' : wr.cell? ⟨w.heap.size, 1 + i, none⟩ = some (.string (str (ws.getD (i + 1) []))) := by rw [Nat.add_comm 1 i]; exact hcell
      obtain ⟨hp, hpl⟩ := hmem (i + 1)
      have hdr : ws.drop (i + 1) = ws.getD (i + 1) [] :: ws.drop (i + 2) := by
        rw [List.drop_eq_getElem_cons (by omega), List.getD, List.getElem?_eq_getElem (by omega)]; rfl
      have hst' := hst.out
      rw [hdr, numsL_cons] at hst'
      obtain ⟨p, hpe⟩ : ∃ p, ws.getD (i + 1) [] = p := ⟨_, rfl⟩
      rw [hpe] at hcell hcell' hp hpl hst'
      have hAt := fun V hV => atoi_in p hp hpl V hV
      have hSaid := fun n ev h => said_of (n := n) (ev := ev) hp h
      obtain ⟨T, hT⟩ : ∃ T, str p = T := ⟨_, rfl⟩
      have hlti : (i : Int) < (n : Int) - 1 := by omega
      have hlti2 : (i : Int) < ((n - 1 : Nat) : Int) := by omega
      clear hdr hst hpe
      rw [hT] at hcell hcell' hAt hSaid
      go_wp2_with (go_at_call 124; refine (hAt _ hEr).mono ?_; clear hAt)
      rintro e w2 ⟨⟨m, ev, rfl, hcase⟩, hB2⟩
      have hE2 := hEr.below hB2
      have hB12 : Below w1.heap.size w1 w2 := hB.trans (hB2.mono hB.size)
      have hbad : ∀ W, Below w2.heap.size w2 W → digT p = none → ∃ v, (Ending.returned (.tuple #[.string ⟨#[]⟩, .slice none 0 0])) = .returned (.tuple #[.string (str res.1), v]) ∧ W.ownsRow w.heap.size 3 1 v res.2.length (res.2.map (Value.int .i64)) ∧ Below w.heap.size w W := fun W hW hd => by
        have hr := hf0.out (by rw [hst', hd]; rfl)
        rw [hr]
        exact ⟨_, rfl, World.ownsRow_nil _ _ _ _, hB1.trans ((hB12.trans (hW.mono hB12.size)).mono hB1.size)⟩
      rcases hSaid _ _ hcase with ⟨rfl, m0, m1, hd, hdec⟩ | ⟨rfl, m0, m1, hd, hne⟩ | ⟨rfl, hd, hm⟩ | ⟨hd, t, B, rfl⟩
      · have hIt := fun V hV => itoaAll_in m m0 m1 V hV
        rw [hdec, hT] at hIt
        have hWi := fun V => within_t m 999999999 V m0 m1
        have hown2 := own_more hown (hB2)
        have hnx := hide (show numsL ws.tail = (numsL (ws.drop (i + 1 + 1))).map ((xs ++ [m]) ++ ·) by
          rw [hst', hd]
          simp only
          have e : ((m.toNat : Nat) : Int) = m := by omega
          rw [e]
          cases numsL (ws.drop (i + 2)) <;> simp)
        clear hbad hcase hSaid hst'
        go_wp2_with (first
          | (go_at_call 55; refine (hWi _).mono ?_; clear hWi; rintro e w3 ⟨rfl, rfl⟩)
          | (go_at_call 58; refine (hIt _ hE2).mono ?_; clear hIt; rintro e w4 ⟨rfl, hB4⟩; have hown4 := own_more hown2 hB4; have hs4 := hB4.size; have hs12 := hB12.size)
          | (at_builtin; refine append_one rfl _ _ rfl w1.heap.size _ _ _ rfl hown4 rfl (by omega) (by omega) ?_; intro v' w5 hown5 hgr))
        have hB5 : Below w1.heap.size w1 w5 := ((hB12.trans (hB4.mono hB12.size)).alloc (by omega) _).grown hgr (by rw [World.size_alloc]; omega) (fun q hq => (hown4.lt q hq).1)
        go_roundw
        case rel => exact ⟨i + 1, xs ++ [m], hlt, by simp [hxi], by go_num, by simpa using hown5, hnx, hB5⟩
        case measure => simp [intOf]; omega
      · have hIt := fun V hV => itoaAll_in m m0 m1 V hV
        obtain ⟨D, hD⟩ : ∃ D, str (decF 20 m.toNat) = D := ⟨_, rfl⟩
        rw [hD] at hIt hne
        rw [hT] at hne
        have hne2 := (Lib.bytes_beq_false_iff D T).2 hne
        have hWi := fun V => within_t m 999999999 V m0 m1
        clear hcase hSaid
        go_wp2_with (first
          | (go_at_call 55; refine (hWi _).mono ?_; clear hWi; rintro e w3 ⟨rfl, rfl⟩)
          | (go_at_call 58; refine (hIt _ hE2).mono ?_; clear hIt; rintro e w4 ⟨rfl, hB4⟩))
        go_ret2
        exact hbad _ hB4 hd
      · have hWi := fun V => within_f m 999999999 V hm
        clear hcase hSaid
        go_wp2_with (go_at_call 55; refine (hWi _).mono ?_; clear hWi; rintro e w3 ⟨rfl, rfl⟩)
        go_ret2
        exact hbad _ (Below.refl _ _) hd
      · clear hcase hSaid
        go_wp2
        go_ret2
        exact hbad _ (Below.refl _ _) hd
    · obtain rfl : i = n - 1 := by omega
      have hc0 := hcW.out _ hB 0 (by omega)
      have hst' := hst.out
      rw [List.drop_eq_nil_of_le (by omega)] at hst'
      have hr := hide (hf1.out xs (by rw [hst']; simp [numsL]))
      obtain ⟨P0, hP0⟩ : ∃ P0, str (ws.getD 0 []) = P0 := ⟨_, rfl⟩
      rw [hP0] at hc0
      have hlti : ¬ (((n - 1 : Nat) : Int)) < (n : Int) - 1 := by omega
      have hown' := own_fromD hown (Nat.le_of_lt hsz0)
      have hB' := hB1.trans (hB.mono hB1.size)
      clear hst hst'
      go_wp2
      go_ret2
      rw [hr.out, hP0]
      exact ⟨_, rfl, hown', hB'⟩
end Go.Proofs.YtiaaefapbcjgmaaGreatDoor
namespace Go.Proofs.YtiaaefapbcjgmaaGreatDoor

/-- The twelve words. -/
def qW (i : Nat) : List Nat := match i with
  | 0 => [114, 111, 119]
  | 1 => [111, 110, 101, 115]
  | 2 => [108, 97, 115, 116]
  | 3 => [101, 110, 100]
  | 4 => [98, 97, 108, 97, 110, 99, 101, 100]
  | 5 => [115, 104, 97, 114, 101, 100]
  | 6 => [119, 97, 121, 115]
  | 7 => [99, 101, 108, 108]
  | 8 => [107, 101, 112, 116]
  | 9 => [108, 101, 102, 116]
  | 10 => [111, 102, 116, 101, 110]
  | 11 => [99, 97, 114, 114, 105, 101, 115]
  | _ => []

/-- How many numbers each wants. -/
def qC (i : Nat) : Nat := if i < 5 then 0 else if i < 7 then 1 else if i < 9 then 2 else if i < 12 then 3 else 0

/-- What answers each. -/
def qA (row ns : List Int) (i : Nat) : List Nat := match i with
  | 0 => rowTx row
  | 1 => toldI (onesV row)
  | 2 => toldI (endV row)
  | 3 => toldI (endI row)
  | 4 => if 4 * onesV row = (row.length : Int) * ((row.length : Int) + 1) then [121, 101, 115] else [110, 111]
  | 5 => toldI (sharedV (ns.getD 0 0))
  | 6 => toldI (waysV (ns.getD 0 0))
  | 7 => toldI (cellV (ns.getD 0 0) (ns.getD 1 0))
  | 8 => toldI (keepV (ns.getD 0 0) (ns.getD 1 0))
  | 9 => toldI (leftV (ns.getD 0 0) (ns.getD 1 0) (ns.getD 2 0))
  | 10 => toldI (cellTV (ns.getD 0 0) (ns.getD 1 0) (ns.getD 2 0))
  | 11 => toldI (carriesV (ns.getD 0 0) (ns.getD 1 0) (ns.getD 2 0))
  | _ => []

def qI (W : List Nat) : Nat :=
  if W = qW 0 then 0 else if W = qW 1 then 1 else if W = qW 2 then 2 else if W = qW 3 then 3 else if W = qW 4 then 4 else if W = qW 5 then 5
  else if W = qW 6 then 6 else if W = qW 7 then 7 else if W = qW 8 then 8 else if W = qW 9 then 9 else if W = qW 10 then 10 else if W = qW 11 then 11 else 12

theorem qI_all : ((List.range 12).all fun i => decide (qI (qW i) = i) && decide ((qW i).length ≤ 8) && (qW i).all fun c => decide (c < 256)) = true := by decide

theorem qI_at {i : Nat} (h : i < 12) : qI (qW i) = i := by
  have := List.all_eq_true.1 qI_all i (List.mem_range.2 h)
  simp only [Bool.and_eq_true, decide_eq_true_eq] at this
  exact this.1.1

theorem qW_byte {i : Nat} (h : i < 12) : ∀ c ∈ qW i, c < 256 := by
  have := List.all_eq_true.1 qI_all i (List.mem_range.2 h)
  simp only [Bool.and_eq_true, decide_eq_true_eq, List.all_eq_true] at this
  exact this.2

theorem qI_is {W : List Nat} (h : qI W < 12) : W = qW (qI W) := by
  unfold qI at h ⊢
  by_cases h0 : W = qW 0
  · simp only [if_pos h0]; exact h0
  simp only [if_neg h0] at h ⊢
  by_cases h1 : W = qW 1
  · simp only [if_pos h1]; exact h1
  simp only [if_neg h1] at h ⊢
  by_cases h2 : W = qW 2
  · simp only [if_pos h2]; exact h2
  simp only [if_neg h2] at h ⊢
  by_cases h3 : W = qW 3
  · simp only [if_pos h3]; exact h3
  simp only [if_neg h3] at h ⊢
  by_cases h4 : W = qW 4
  · simp only [if_pos h4]; exact h4
  simp only [if_neg h4] at h ⊢
  by_cases h5 : W = qW 5
  · simp only [if_pos h5]; exact h5
  simp only [if_neg h5] at h ⊢
  by_cases h6 : W = qW 6
  · simp only [if_pos h6]; exact h6
  simp only [if_neg h6] at h ⊢
  by_cases h7 : W = qW 7
  · simp only [if_pos h7]; exact h7
  simp only [if_neg h7] at h ⊢
  by_cases h8 : W = qW 8
  · simp only [if_pos h8]; exact h8
  simp only [if_neg h8] at h ⊢
  by_cases h9 : W = qW 9
  · simp only [if_pos h9]; exact h9
  simp only [if_neg h9] at h ⊢
  by_cases h10 : W = qW 10
  · simp only [if_pos h10]; exact h10
  simp only [if_neg h10] at h ⊢
  by_cases h11 : W = qW 11
  · simp only [if_pos h11]; exact h11
  simp only [if_neg h11] at h ⊢
  omega

/-- What the program answers. -/
def ansV (row : List Int) (l : List Nat) : List Nat :=
  if qI (rlV l).1 < 12 ∧ (rlV l).2.length = qC (qI (rlV l).1) then qA row (rlV l).2 (qI (rlV l).1) else whatT

theorem cutL_one : ∀ (r line : List Nat), (cutL 32 line r).tail = [] → cutL 32 line r = [line ++ r]
  | [], line, _ => by simp [cutL]
  | c :: r, line, h => by
    by_cases e : c = 32
    · subst e
      rw [cutL_hit] at h
      have := cutL_pos 32 r []
      simp at h
      rw [h] at this
      simp at this
    · rw [cutL_other e] at h ⊢
      rw [cutL_one r _ h]
      simp

theorem nums_len : ∀ {p : List (List Nat)} {ns : List Int}, numsL p = some ns → ns.length = p.length
  | [], ns, h => by cases h; rfl
  | w :: r, ns, h => by
    rw [numsL] at h
    split at h
    · cases h
    · split at h
      · cases h
      · rename_i h2
        cases h
        simp [nums_len h2]

theorem toldI_dec {n : Int} (h : 0 ≤ n) : toldI n = decI n := by unfold toldI; rw [if_neg (by omega)]

theorem ones_nn {row : List Int} (h : sideB row = true) : 0 ≤ onesV row := by unfold onesV; rw [if_pos h]; omega

theorem end_nn {row : List Int} (h : sideB row = true) : 0 ≤ endV row := by unfold endV; rw [if_pos h]; omega

theorem endI_told (row : List Int) : toldI (endI row) = if endB row = true then decI (endI row) else [110, 111, 110, 101] := by
  unfold endI endB
  cases endN row with
  | none => rfl
  | some r => simp only [Option.isSome_some, if_true]; exact toldI_dec (by omega)

theorem rl_word {i : Nat} (h : i < 5) : rlV (qW i) = (qW i, []) := by
  rcases (show i = 0 ∨ i = 1 ∨ i = 2 ∨ i = 3 ∨ i = 4 by omega) with rfl | rfl | rfl | rfl | rfl <;> rfl

theorem ans_word {row : List Int} {i : Nat} (h : i < 5) : ansV row (qW i) = qA row [] i := by
  unfold ansV
  rw [rl_word h]
  simp only
  rw [qI_at (by omega), if_pos ⟨by omega, by unfold qC; rw [if_pos h]; rfl⟩]

theorem ans_qa {row : List Int} (hs : sideB row = true) (l : List Nat) : ansV row l = qaV row l := by
  unfold qaV
  by_cases h0 : l = [114, 111, 119]
  · subst h0; rw [if_pos rfl]; exact ans_word (i := 0) (by omega)
  by_cases h1 : l = [111, 110, 101, 115]
  · subst h1; rw [if_neg h0, if_pos rfl, ← toldI_dec (ones_nn hs)]; exact ans_word (i := 1) (by omega)
  by_cases h2 : l = [108, 97, 115, 116]
  · subst h2; rw [if_neg h0, if_neg h1, if_pos rfl, ← toldI_dec (end_nn hs)]; exact ans_word (i := 2) (by omega)
  by_cases h3 : l = [101, 110, 100]
  · subst h3; rw [if_neg h0, if_neg h1, if_neg h2, if_pos rfl, ← endI_told]; exact ans_word (i := 3) (by omega)
  by_cases h4 : l = [98, 97, 108, 97, 110, 99, 101, 100]
  · subst h4; rw [if_neg h0, if_neg h1, if_neg h2, if_neg h3, if_pos rfl]; exact ans_word (i := 4) (by omega)
  rw [if_neg h0, if_neg h1, if_neg h2, if_neg h3, if_neg h4]
  have hne : ∀ i, i < 5 → l ≠ qW i := fun i hi => by
    rcases (show i = 0 ∨ i = 1 ∨ i = 2 ∨ i = 3 ∨ i = 4 by omega) with rfl | rfl | rfl | rfl | rfl <;> assumption
  clear h0 h1 h2 h3 h4
  unfold ansV wordsV rlV
  cases hn : numsL (cutT 32 l).tail with
  | none =>
    simp only
    rw [if_neg]
    rintro ⟨h, _⟩
    exact absurd h (by decide)
  | some ns =>
    simp only
    have hlen := nums_len hn
    have hone : ns.length = 0 → (cutT 32 l).getD 0 [] = l := fun h => by
      have ht : (cutT 32 l).tail = [] := List.eq_nil_of_length_eq_zero (by omega)
      have := cutL_one l [] ht
      unfold cutT
      rw [this]
      rfl
    obtain ⟨W, hW⟩ : ∃ W, (cutT 32 l).getD 0 [] = W := ⟨_, rfl⟩
    rw [hW] at hone ⊢
    by_cases hq : qI W < 12
    · have hWi := qI_is hq
      obtain ⟨i, hi⟩ : ∃ i, qI W = i := ⟨_, rfl⟩
      rw [hi] at hq hWi ⊢
      subst hWi
      by_cases h5 : i < 5
      · have hl : ns.length ≠ 0 := fun e => hne i h5 (hone e).symm
        rw [if_neg (fun h => hl (by have := h.2; unfold qC at this; rw [if_pos h5] at this; exact this))]
        unfold askV
        rcases (show i = 0 ∨ i = 1 ∨ i = 2 ∨ i = 3 ∨ i = 4 by omega) with rfl | rfl | rfl | rfl | rfl <;> simp [qW]
      · unfold askV
        rcases (show i = 5 ∨ i = 6 ∨ i = 7 ∨ i = 8 ∨ i = 9 ∨ i = 10 ∨ i = 11 by omega) with rfl | rfl | rfl | rfl | rfl | rfl | rfl <;> simp [qW, qC, qA]
    · rw [if_neg (fun h => hq h.1)]
      have hnw : ∀ i, i < 12 → W ≠ qW i := fun i hi e => hq (by rw [e, qI_at hi]; exact hi)
      unfold askV
      rw [if_neg (fun h => hnw 7 (by omega) h.1), if_neg (fun h => hnw 5 (by omega) h.1), if_neg (fun h => hnw 6 (by omega) h.1), if_neg (fun h => hnw 8 (by omega) h.1), if_neg (fun h => hnw 9 (by omega) h.1), if_neg (fun h => hnw 10 (by omega) h.1), if_neg (fun h => hnw 11 (by omega) h.1)]

theorem sharedV_big (n : Int) : sharedV n ≤ 1000000000000000000 := by
  unfold sharedV
  split
  · omega
  · rename_i h
    have := shared_le (n := n.toNat) (by omega) (by omega)
    omega

theorem waysV_big (n : Int) : waysV n ≤ 1000000000000000000 := by
  unfold waysV
  split
  · omega
  · rename_i h
    have := (cat_one n.toNat (by omega)).2.2.1
    omega

theorem cellV_big (n k : Int) : cellV n k ≤ 1000000000000000000 := by
  unfold cellV
  split
  · omega
  · rename_i h
    have := bin_max (n := n.toNat) k.toNat (by omega)
    omega

theorem keepV_big (n p : Int) : keepV n p ≤ 1000000000000000000 := by
  by_cases h : badK n p
  · rw [keepV_bad h]; omega
  · obtain ⟨N, P, rfl, rfl, h1, h3⟩ := badK_nat h
    rw [keepV_nat h1 h3]
    have := prm_two h3
    have := keep_le (p := P) (by omega) N
    omega

theorem leftV_big (n k p : Int) : leftV n k p ≤ 1000000000000000000 := by
  unfold leftV
  split
  · omega
  · rename_i h
    unfold badL at h
    obtain ⟨P, rfl, hP⟩ := prmI_t (p := p) (by cases e : prmI p; exact absurd (.inr (.inr (.inr (.inr e)))) h; rfl)
    have h2 := prm_two hP
    have : bin n.toNat k.toNat % P < P := Nat.mod_lt _ (by omega)
    simp only [Int.toNat_natCast]
    omega

theorem cellTV_big (n k p : Int) : cellTV n k p ≤ 1000000000000000000 := by
  unfold cellTV
  split
  · omega
  · rename_i h
    obtain ⟨P, rfl, hP⟩ := prmI_t (p := p) (by cases e : prmI p; exact absurd (.inr (.inr (.inr (.inr e)))) h; rfl)
    have h2 := prm_two hP
    have := cars_lt (p := P) (by omega) (n := n.toNat) (k := k.toNat) (by omega)
    simp only [Int.toNat_natCast]
    omega

theorem carriesV_big (x y b : Int) : carriesV x y b ≤ 1000000000000000000 := by
  unfold carriesV
  split
  · omega
  · rename_i h
    unfold bad2 at h
    have h1 := carL_le (b := b.toNat) 0 (pairs b.toNat x.toNat y.toNat) (by omega) (pairs_lt (by omega) _ _)
    have h2 := pairs_len (b := b.toNat) (by omega) x.toNat y.toNat
    omega

theorem onesV_big {row : List Int} (hs : sideB row = true) : onesV row ≤ 100 := by
  have hl := sideB_len hs
  have := few_ones (side_bit hs) (n := row.length) hl.2
  unfold onesV
  rw [if_pos hs]
  have h2 : row.length * (row.length + 1) ≤ 12 * 13 := Nat.mul_le_mul hl.2 (by omega)
  omega

theorem endV_big {row : List Int} (hs : sideB row = true) : endV row ≤ 1 := by
  have := st_le (side_bit hs) (row.length - 1) 0
  unfold endV
  rw [if_pos hs]
  omega

theorem endI_big (row : List Int) : endI row ≤ 2001 := by
  unfold endI
  cases h : endN row with
  | none => simp only; omega
  | some r =>
    simp only
    unfold endN at h
    split at h
    · have := (firstI_some.1 h).1; omega
    · cases h
end Go.Proofs.YtiaaefapbcjgmaaGreatDoor
namespace Go.Proofs.YtiaaefapbcjgmaaGreatDoor
open Go.RowKit Go.Maps

theorem keyS : Keyed Tryz.prog 9 := string_keyed Tryz.underlying9

theorem zeroQ (w : World) : (zeroValue 121).run Tryz.prog w = .ok (.agg #[.int .i64 0, .nilFunc]) w := by kernel_rfl

/-- The twelve functions. -/
def qF (i : Nat) : Nat := match i with
  | 0 => 125
  | 1 => 126
  | 2 => 127
  | 3 => 128
  | 4 => 129
  | 5 => 130
  | 6 => 131
  | 7 => 132
  | 8 => 133
  | 9 => 134
  | 10 => 135
  | 11 => 136
  | _ => 0

/-- What lies in the map for the word i. -/
def qV (i : Nat) : Value := .agg #[.int .i64 (qC i : Nat), .func (.func (qF i)) #[] #[]]

open Classical in
/-- How an entry reads. -/
noncomputable def qR (v : Value) : Option (DataW Unit × List MemPlace) :=
  if h : ∃ p : Int × Nat, v = .agg #[.int .i64 p.1, .func (.func p.2) #[] #[]] then some (.agg [.lit (.int .i64 h.choose.1), .lit (.int .i64 (h.choose.2 : Nat))], [])
  else if h : ∃ n : Int, v = .agg #[.int .i64 n, .nilFunc] then some (.agg [.lit (.int .i64 h.choose)], []) else none

theorem qR_mk (n : Int) (f : Nat) : qR (.agg #[.int .i64 n, .func (.func f) #[] #[]]) = some (.agg [.lit (.int .i64 n), .lit (.int .i64 (f : Nat))], []) := by
  have h : ∃ p : Int × Nat, Value.agg #[.int .i64 n, .func (.func f) #[] #[]] = .agg #[.int .i64 p.1, .func (.func p.2) #[] #[]] := ⟨(n, f), rfl⟩
  unfold qR
  rw [dif_pos h]
  have := h.choose_spec
  generalize h.choose = p at this ⊢
  simp only [Value.agg.injEq, Array.mk.injEq, List.cons.injEq, Value.int.injEq, Value.func.injEq, Fn.func.injEq, true_and, and_true] at this
  rw [← this.1, ← this.2]

theorem qR_nil (n : Int) : qR (.agg #[.int .i64 n, .nilFunc]) = some (.agg [.lit (.int .i64 n)], []) := by
  have h0 : ¬ ∃ p : Int × Nat, Value.agg #[.int .i64 n, .nilFunc] = .agg #[.int .i64 p.1, .func (.func p.2) #[] #[]] := fun ⟨p, e⟩ => by simp at e
  have h : ∃ m : Int, Value.agg #[.int .i64 n, .nilFunc] = .agg #[.int .i64 m, .nilFunc] := ⟨n, rfl⟩
  unfold qR
  rw [dif_neg h0, dif_pos h]
  have := h.choose_spec
  generalize h.choose = p at this ⊢
  simp only [Value.agg.injEq, Array.mk.injEq, List.cons.injEq, Value.int.injEq, true_and, and_true] at this
  rw [← this]

theorem qR_inv {v : Value} {n f : Int} {ps : List MemPlace} (h : qR v = some (.agg [.lit (.int .i64 n), .lit (.int .i64 f)], ps)) : v = .agg #[.int .i64 n, .func (.func f.toNat) #[] #[]] := by
  by_cases h1 : ∃ p : Int × Nat, v = .agg #[.int .i64 p.1, .func (.func p.2) #[] #[]]
  · obtain ⟨p, rfl⟩ := h1
    rw [qR_mk] at h
    simp only [Option.some.injEq, Prod.mk.injEq, DataW.agg.injEq, List.cons.injEq, DataW.lit.injEq, Lit.int.injEq, true_and, and_true] at h
    obtain ⟨⟨rfl, rfl⟩, _⟩ := h
    rfl
  · by_cases h2 : ∃ n : Int, v = .agg #[.int .i64 n, .nilFunc]
    · obtain ⟨m, rfl⟩ := h2
      rw [qR_nil] at h
      simp at h
    · unfold qR at h
      rw [dif_neg h1, dif_neg h2] at h
      cases h

theorem qR_zero {v : Value} {n : Int} {ps : List MemPlace} (h : qR v = some (.agg [.lit (.int .i64 n)], ps)) : v = .agg #[.int .i64 n, .nilFunc] := by
  by_cases h1 : ∃ p : Int × Nat, v = .agg #[.int .i64 p.1, .func (.func p.2) #[] #[]]
  · obtain ⟨p, rfl⟩ := h1
    rw [qR_mk] at h
    simp at h
  · by_cases h2 : ∃ n : Int, v = .agg #[.int .i64 n, .nilFunc]
    · obtain ⟨m, rfl⟩ := h2
      rw [qR_nil] at h
      simp only [Option.some.injEq, Prod.mk.injEq, DataW.agg.injEq, List.cons.injEq, DataW.lit.injEq, Lit.int.injEq, true_and, and_true] at h
      obtain ⟨rfl, _⟩ := h
      rfl
    · unfold qR at h
      rw [dif_neg h1, dif_neg h2] at h
      cases h

/-- The map in block b reads as D. -/
abbrev OwnQM (w : World) (b n : Nat) (D : DataW Unit) : Prop := w.ownsMap Tryz.prog 9 qR b n D

def qK (l : List Nat) : Lit := .string (l.map UInt8.ofNat)

def qE (i : Nat) : DataW Unit := .agg [.lit (.int .i64 (qC i : Nat)), .lit (.int .i64 (qF i : Nat))]

/-- The map of the first n words. -/
def qD : Nat → DataW Unit
  | 0 => .map []
  | n + 1 => (qD n).put (qK (qW n)) (qE n)

theorem qPut {w : World} {b i : Nat} (h : OwnQM w b i (qD i)) (hn : i < 12) (s : ByteArray) (hs : s.data.toList = (qW i).map UInt8.ofNat) (c : Int) (hc : c = (qC i : Nat)) (f : Nat) (hf : f = qF i) :
    ∃ w', (Instr.mapUpdate 123 (.map (some b)) (.string s) (.agg #[.int .i64 c, .func (.func f) #[] #[]])).run Tryz.prog w = .ok () w' ∧ OwnQM w' b (i + 1) (qD (i + 1)) ∧ w.grownBy w' (some b) := by
  subst hc
  subst hf
  have hsz : s.size ≤ maxLen := by
    have h1 : s.size = (qW i).length := by
      show s.data.size = _
      rw [← Array.length_toList, hs, List.length_map]
    have h2 : (qW i).length ≤ 8 := by
      have := List.all_eq_true.1 qI_all i (List.mem_range.2 hn)
      simp only [Bool.and_eq_true, decide_eq_true_eq] at this
      exact this.1.2
    unfold maxLen; omega
  have hk : keyOf Tryz.prog 9 (.string s) = some (qK (qW i)) := by
    unfold qK
    rw [← hs]
    exact Go.WideMaps.keyOf_string_mk Tryz.underlying9 hsz
  exact World.ownsMap.update h keyS Tryz.underlying123 (by unfold maxLen; omega) hk (qR_mk _ _)

set_option maxRecDepth 100000 in
set_option maxHeartbeats 2000000 in
theorem questions_in (w : World) : Calls Tryz.prog 97 #[] w fun e w' => e = .returned (.map (some w.heap.size)) ∧ OwnQM w' w.heap.size 12 (qD 12) ∧ Below w.heap.size w w' := by
  have hmm := @run_makeMap Tryz.prog
  have h0 : OwnQM (w.alloc (.map #[] 0)) w.heap.size 0 (qD 0) := World.ownsMap_made w Tryz.prog 9 qR
  have hB0 : Below w.heap.size w (w.alloc (.map #[] 0)) := (Below.refl _ w).alloc (Nat.le_refl _) _
  obtain ⟨w1, r1, h1, g1⟩ := qPut h0 (by omega) ⟨#[114, 111, 119]⟩ (by kernel_rfl) 0 rfl 125 rfl
  obtain ⟨w2, r2, h2, g2⟩ := qPut h1 (by omega) ⟨#[111, 110, 101, 115]⟩ (by kernel_rfl) 0 rfl 126 rfl
  obtain ⟨w3, r3, h3, g3⟩ := qPut h2 (by omega) ⟨#[108, 97, 115, 116]⟩ (by kernel_rfl) 0 rfl 127 rfl
  obtain ⟨w4, r4, h4, g4⟩ := qPut h3 (by omega) ⟨#[101, 110, 100]⟩ (by kernel_rfl) 0 rfl 128 rfl
  obtain ⟨w5, r5, h5, g5⟩ := qPut h4 (by omega) ⟨#[98, 97, 108, 97, 110, 99, 101, 100]⟩ (by kernel_rfl) 0 rfl 129 rfl
  obtain ⟨w6, r6, h6, g6⟩ := qPut h5 (by omega) ⟨#[115, 104, 97, 114, 101, 100]⟩ (by kernel_rfl) 1 rfl 130 rfl
  obtain ⟨w7, r7, h7, g7⟩ := qPut h6 (by omega) ⟨#[119, 97, 121, 115]⟩ (by kernel_rfl) 1 rfl 131 rfl
  obtain ⟨w8, r8, h8, g8⟩ := qPut h7 (by omega) ⟨#[99, 101, 108, 108]⟩ (by kernel_rfl) 2 rfl 132 rfl
  obtain ⟨w9, r9, h9, g9⟩ := qPut h8 (by omega) ⟨#[107, 101, 112, 116]⟩ (by kernel_rfl) 2 rfl 133 rfl
  obtain ⟨w10, r10, h10, g10⟩ := qPut h9 (by omega) ⟨#[108, 101, 102, 116]⟩ (by kernel_rfl) 3 rfl 134 rfl
  obtain ⟨w11, r11, h11, g11⟩ := qPut h10 (by omega) ⟨#[111, 102, 116, 101, 110]⟩ (by kernel_rfl) 3 rfl 135 rfl
  obtain ⟨w12, r12, h12, g12⟩ := qPut h11 (by omega) ⟨#[99, 97, 114, 114, 105, 101, 115]⟩ (by kernel_rfl) 3 rfl 136 rfl
  have hl : ∀ j, some w.heap.size = some j → w.heap.size ≤ j := fun j hj => by cases hj; exact Nat.le_refl _
  have hB1 := hB0.grown g1 hB0.size hl
  have hB2 := hB1.grown g2 hB1.size hl
  have hB3 := hB2.grown g3 hB2.size hl
  have hB4 := hB3.grown g4 hB3.size hl
  have hB5 := hB4.grown g5 hB4.size hl
  have hB6 := hB5.grown g6 hB5.size hl
  have hB7 := hB6.grown g7 hB6.size hl
  have hB8 := hB7.grown g8 hB7.size hl
  have hB9 := hB8.grown g9 hB8.size hl
  have hB10 := hB9.grown g10 hB9.size hl
  have hB11 := hB10.grown g11 hB10.size hl
  have hB12 := hB11.grown g12 hB11.size hl
  clear hB0 hB1 hB2 hB3 hB4 hB5 hB6 hB7 hB8 hB9 hB10 hB11 g1 g2 g3 g4 g5 g6 g7 g8 g9 g10 g11 g12 h0 h1 h2 h3 h4 h5 h6 h7 h8 h9 h10 h11 hl
  go_enter Tryz.func97, Tryz.ntmps97
  go_wp2
  go_ret
  exact ⟨rfl, h12, hB12⟩

theorem qK_is (l : List Nat) : WideAt.IsKeyLit (qK l) := by unfold qK; simp [WideAt.IsKeyLit]

theorem qK_ne {i j : Nat} (hi : i < 12) (hj : j < 12) (h : i ≠ j) : qK (qW i) ≠ qK (qW j) := fun e => by
  have h1 : ((List.range 12).all fun i => (List.range 12).all fun j => decide (i = j) || !decide ((qW i).map UInt8.ofNat = (qW j).map UInt8.ofNat)) = true := by decide +kernel
  have h2 := List.all_eq_true.1 (List.all_eq_true.1 h1 i (List.mem_range.2 hi)) j (List.mem_range.2 hj)
  simp only [Bool.or_eq_true, decide_eq_true_eq, Bool.not_eq_true', decide_eq_false_iff_not] at h2
  unfold qK at e
  injection e with e
  exact h2.elim h (fun h3 => h3 e)

theorem qD_map : ∀ n, IsMap (qD n)
  | 0 => isMap_empty
  | n + 1 => by
    obtain ⟨es, he⟩ := qD_map n
    unfold qD
    rw [he]
    exact ⟨_, rfl⟩

theorem qD_at (z : DataW Unit) : ∀ n i, n ≤ 12 → i < n → (qD n).atKey (qK (qW i)) z = qE i ∧ has (qD n) (qK (qW i)) = true
  | 0, i, _, h => by omega
  | n + 1, i, hn, h => by
    unfold qD
    by_cases e : i = n
    · subst e
      exact ⟨atKey_put_same (qD_map _) (qK_is _) _ _, has_put_same (qD_map _) (qK_is _) _⟩
    · rw [atKey_put_other (qK_ne (by omega) (by omega) e), has_put_other (qK_ne (by omega) (by omega) e)]
      exact qD_at z n i (by omega) (by omega)

theorem qD_no (z : DataW Unit) (k : Lit) : ∀ n, n ≤ 12 → (∀ i, i < 12 → k ≠ qK (qW i)) → (qD n).atKey k z = z ∧ has (qD n) k = false
  | 0, _, _ => ⟨rfl, rfl⟩
  | n + 1, hn, h => by
    unfold qD
    rw [atKey_put_other (h n (by omega)), has_put_other (h n (by omega))]
    exact qD_no z k n (by omega) h

/-- A word looked up. -/
theorem qLook {w : World} {b : Nat} (h : OwnQM w b 12 (qD 12)) (p : List Nat) (hp : ∀ x ∈ p, x < 256) (hl : p.length ≤ 2000000) :
    ∃ v, (Instr.lookup 123 (.map (some b)) (.string (str p)) true).run Tryz.prog w = .ok (.tuple #[v, .bool (decide (qI p < 12))]) w ∧ (qI p < 12 → v = qV (qI p)) ∧ (¬ qI p < 12 → v = .agg #[.int .i64 0, .nilFunc]) := by
  have hd : (str p).data.toList = p.map UInt8.ofNat := str_data p
  have hk : keyOf Tryz.prog 9 (.string (str p)) = some (qK p) := by
    unfold qK
    rw [← hd]
    exact Go.WideMaps.keyOf_string_mk Tryz.underlying9 (by rw [str_size]; unfold maxLen; omega)
  obtain ⟨v, ps, h1, h2⟩ := World.ownsMap.look_ok h keyS Tryz.underlying123 (zeroQ w) (zd := .agg [.lit (.int .i64 0)]) (zp := []) (qR_nil 0) hk
  by_cases hq : qI p < 12
  · have hW := qI_is hq
    have h3 := qD_at (.agg [.lit (.int .i64 0)]) 12 (qI p) (Nat.le_refl _) hq
    rw [← hW] at h3
    rw [h3.2] at h1
    rw [h3.1] at h2
    refine ⟨v, by rw [decide_eq_true hq]; exact h1, fun _ => ?_, fun h => absurd hq h⟩
    have := qR_inv h2
    simpa [qV] using this
  · have h3 := qD_no (.agg [.lit (.int .i64 0)]) (qK p) 12 (Nat.le_refl _) (fun i hi e => hq (by
      unfold qK at e
      injection e with e
      have : p = qW i := by
        exact str_inj hp (qW_byte hi) e
      rw [this, qI_at hi]; exact hi))
    rw [h3.2] at h1
    rw [h3.1] at h2
    exact ⟨v, by rw [decide_eq_false hq]; exact h1, fun h => absurd h hq, fun _ => qR_zero h2⟩
end Go.Proofs.YtiaaefapbcjgmaaGreatDoor
namespace Go.Proofs.YtiaaefapbcjgmaaGreatDoor
open Go.RowKit

theorem itoaBig_in (n : Int) (h0 : 0 ≤ n) (h1 : n ≤ 1000000000000000000) (w : World) (hE : Env w) : Calls Tryz.prog 58 #[.int .i64 n] w fun e w' => e = .returned (.string (str (decI n))) ∧ Below w.heap.size w w' := by
  refine (Any.strconv_Itoa { Tryz.itoaA with } n (by omega) (by omega) w hE.pow).mono ?_
  obtain ⟨u, rfl⟩ : ∃ u : Nat, n = u := ⟨n.toNat, by omega⟩
  rintro e w' ⟨rfl, k, os, rfl⟩
  have e : Lib.itoa (u : Int) = (decF 20 u).map UInt8.ofNat := by
    rw [Lib.itoa_nonneg]
    exact dec_digits 20 u (Nat.lt_of_le_of_lt (show u ≤ 1000000000000000000 by omega) (by decide))
  rw [e]
  exact ⟨rfl, Lib.below_grow _ _ (Nat.le_refl _) _ _⟩

theorem implTold (n : Int) (h1 : n ≤ 1000000000000000000) (w : World) (hE : Env w) : Calls Tryz.prog 158 #[.int .i64 n] w fun e w' => e = .returned (.string (str (toldI n))) ∧ Below w.heap.size w w' := by
  by_cases h0 : n < 0
  · have e : toldI n = [110, 111, 110, 101] := by unfold toldI; rw [if_pos h0]
    rw [e]
    go_enter Tryz.func158, Tryz.ntmps158
    go_wp2
    go_ret
    exact ⟨rfl, Below.refl _ _⟩
  · rw [toldI_dec (by omega)]
    have hI := itoaBig_in n (by omega) h1 w hE
    obtain ⟨X, hX⟩ : ∃ X, str (decI n) = X := ⟨_, rfl⟩
    rw [hX] at hI ⊢
    go_enter Tryz.func158, Tryz.ntmps158
    go_wp2_with (go_at_call 58; refine hI.mono ?_; rintro e w1 ⟨rfl, hB⟩)
    go_ret
    exact ⟨rfl, hB⟩
end Go.Proofs.YtiaaefapbcjgmaaGreatDoor
namespace Go.Proofs.YtiaaefapbcjgmaaGreatDoor
open Go.RowKit Go.Shelf

theorem bldSize : (Tryz.prog.info? 87).map (·.size) = some 2 := by kernel_rfl

theorem bldLies : liesAt Tryz.prog Tryz.prog.depth 87 (2 / Tryz.prog.cellsOf 87) 0 87 1 = true := by kernel_rfl

theorem byteInfo : (Tryz.prog.info? 5).map (fun i => (i.zero, i.size, i.bytes)) = some (some (.int .u8 0), 1, 1) := by kernel_rfl

set_option maxHeartbeats 1000000 in
set_option maxRecDepth 100000 in
theorem check_used (b : Nat) (w : World) (h0 : w.cell? ⟨b, 0, none⟩ = some (.pointer (some ⟨b, 0, none⟩))) :
    Calls Tryz.prog 102 #[.pointer (some ⟨b, 0, none⟩)] w fun e w' => e = .returned (.tuple #[]) ∧ w' = w := by
  obtain ⟨j, hj, _⟩ := Option.map_eq_some_iff.1 bldSize
  go_enter Tryz.func102, Tryz.ntmps102
  go_wp2
  rw [Lib.run_neq_ptr_same w _ Tryz.underlying85 hj]
  go_wp2
  go_end0
  exact ⟨rfl, rfl⟩

set_option maxHeartbeats 1000000 in
set_option maxRecDepth 100000 in
theorem check_fresh (b : Nat) (w : World) (h0 : w.cell? ⟨b, 0, none⟩ = some (.pointer none)) (hsh : w.shape? b = some (87, 2)) (hfz : w.frozen? ⟨b, 0, none⟩ = false) :
    Calls Tryz.prog 102 #[.pointer (some ⟨b, 0, none⟩)] w fun e w' => e = .returned (.tuple #[]) ∧ w' = w.setCell ⟨b, 0, none⟩ (.pointer (some ⟨b, 0, none⟩)) := by
  obtain ⟨j, hj, hjs⟩ := Option.map_eq_some_iff.1 bldSize
  go_enter Tryz.func102, Tryz.ntmps102
  go_wp2
  rw [Lib.run_to_unsafe w ⟨b, 0, none⟩ Tryz.underlying85 Tryz.underlying140 hj (by rw [hjs]; decide) hsh (Nat.zero_lt_succ 1)]
  simp only [Result.andThen]
  rw [Oper.upon_value]
  go_wp2
  rw [run_callFunc_extern Tryz.func144 (by kernel_rfl) (by kernel_rfl) (by kernel_rfl) (e := Extern.AbiNoEscape.same) (by kernel_rfl)]
  rw [Lib.run_noEscape]
  simp only [Result.andThen]
  rw [Oper.upon_value]
  go_wp2
  rw [Lib.run_from_unsafe w ⟨b, 0, none⟩ Tryz.underlying140 Tryz.underlying85 hj hsh bldLies]
  simp only [Result.andThen]
  rw [Oper.upon_value]
  go_wp2
  go_end0
  exact ⟨rfl, rfl⟩

theorem check_in (B b : Nat) (bs : List Value) (w : World) (h : Lib.IsBuilderF 87 5 B b bs w) :
    Calls Tryz.prog 102 #[.pointer (some ⟨b, 0, none⟩)] w fun e w' => e = .returned (.tuple #[]) ∧ Lib.BuilderAtF 87 5 B b (.pointer (some ⟨b, 0, none⟩)) bs w' ∧ Below B w w' ∧ Lib.OthersKept 5 (some b) w w' := by
  rcases h with h | h
  · refine (check_fresh b w h.cell0 h.shape h.frozen0).mono ?_
    rintro e w' ⟨rfl, rfl⟩
    exact ⟨rfl, h.used _, (Below.refl B w).setCell (p := ⟨b, 0, none⟩) h.1 _, (Lib.OthersKept.refl _ _ w).setCell ⟨b, 0, none⟩ rfl _⟩
  · refine (check_used b w h.cell0).mono ?_
    rintro e w' ⟨rfl, rfl⟩
    exact ⟨rfl, h, Below.refl B _, Lib.OthersKept.refl _ _ _⟩
end Go.Proofs.YtiaaefapbcjgmaaGreatDoor
namespace Go.Proofs.YtiaaefapbcjgmaaGreatDoor
open Go.RowKit Go.Shelf

theorem bldExtraJ : Builder.Extra Tryz.prog Tryz.stringA_ren := {
  sizeBuilder := by kernel_rfl
  liesBuilder := by kernel_rfl
  t5 := Tryz.underlying5
  a5 := Tryz.isAgg5
  z5 := Tryz.sizeOf5
  v5 := Tryz.zeroValue5
  infoByte := by kernel_rfl
  cellsByte := by kernel_rfl
  sizeByte := by kernel_rfl
  neB5 := by decide }

set_option maxHeartbeats 2000000 in
set_option maxRecDepth 100000 in
theorem writeString_in (B b : Nat) (bs : List Value) (s : ByteArray) (w : World) (h : Lib.IsBuilderF 87 5 B b bs w) (hlen : bs.length + s.size ≤ 140737488355328) (hBw : B ≤ w.heap.size) :
    Calls Tryz.prog 59 #[.pointer (some ⟨b, 0, none⟩), .string s] w fun e w' => e = .returned (.tuple #[.int .i64 s.size, .nilIface]) ∧ Lib.BuilderAtF 87 5 B b (.pointer (some ⟨b, 0, none⟩)) (bs ++ Lib.strCells s) w' ∧ Below B w w' := by
  obtain ⟨i0, hi, hz0, hz1, hz2⟩ := info_parts byteInfo
  have hC := check_in B b bs w h
  go_enter Tryz.func59, Tryz.ntmps59
  go_wp2_with (go_at_call 102; refine hC.mono ?_)
  rintro e w1 ⟨rfl, h1, hb1, hk1⟩
  obtain ⟨hB, v, hbk, hown, hne⟩ := h1
  have c0 : w1.cell? ⟨b, 0, none⟩ = some (.pointer (some ⟨b, 0, none⟩)) := by rw [Lib.cell_of_heap hbk]; rfl
  have c1 : w1.cell? ⟨b, 1, none⟩ = some v := by rw [Lib.cell_of_heap hbk]; rfl
  go_wp2_with (at_builtin; refine Lib.wpList_append_own_stringF _ rfl _ _ 22 9 rfl B 5 i0 Tryz.underlying22 Tryz.underlying9 hi hz0 hz1 hz2 _ _ _ rfl hown s rfl ?c3 ?c4 ?c5 ?_)
  case c3 => unfold maxLen; omega
  case c4 => omega
  case c5 => have := hb1.size; omega
  intro v' w2 hown' hgrow _
  have hlt : b < w1.heap.size := (Array.getElem?_eq_some_iff.1 hbk).1
  have hb2 : w2.heap[b]? = some (.cells #[.pointer (some ⟨b, 0, none⟩), v] 87 (0, 0)) := by
    rw [hgrow.block b hlt (fun e => hne e.symm)]
    exact hbk
  have d0 : w2.cell? ⟨b, 0, none⟩ = some (.pointer (some ⟨b, 0, none⟩)) := by rw [Lib.cell_of_heap hb2]; rfl
  have d1 : w2.cell? ⟨b, 1, none⟩ = some v := by rw [Lib.cell_of_heap hb2]; rfl
  have f1 : w2.frozen? ⟨b, 1, none⟩ = false := Lib.frozen_of_heap hb2 1
  obtain ⟨ao, n', cap, rfl⟩ : ∃ ao n' cap, v' = .slice ao n' cap := by
    rcases hown'.2 with ⟨hv, _⟩ | ⟨g, cap, cur, fz, hv, _⟩
    · exact ⟨_, _, _, hv⟩
    · exact ⟨_, _, _, hv⟩
  go_wp2
  go_ret2
  refine ⟨rfl, ?_, ?_⟩
  · exact Lib.BuilderAtF.put (T := 87) (e := 5) hB hb2 (bs' := bs ++ Lib.strCells s) (by simpa [Lib.strCells_length] using hown') (by decide)
  · exact (hb1.grown hgrow (by have := hb1.size; omega) (fun k hk => (hown.lt k hk).1)).setCell (p := ⟨b, 1, none⟩) hB _

/-- The builder in block b holds these bytes. -/
def BldJ (w : World) (b : Nat) (l : List Nat) : Prop := Lib.IsBuilderF 87 5 b b (Lib.byteCells (l.map UInt8.ofNat)) w

theorem BldJ.below {w w' : World} {b : Nat} {l : List Nat} (h : BldJ w b l) (hg : Below w.heap.size w w') : BldJ w' b l := by
  have go : ∀ p, Lib.BuilderAtF 87 5 b b p (Lib.byteCells (l.map UInt8.ofNat)) w → Lib.BuilderAtF 87 5 b b p (Lib.byteCells (l.map UInt8.ofNat)) w' := by
    rintro p ⟨h1, v, hb, hown, hne⟩
    refine ⟨h1, v, (hg.block b (Array.getElem?_eq_some_iff.1 hb).1).trans hb, hown.kept (row := none) ⟨hg.os, hg.tape, hg.output, hg.size, fun k hk _ => hg.block k hk⟩ (by cases v.ownBlock <;> simp), hne⟩
  exact h.imp (go _) (go _)

theorem BldJ.text {w : World} {b : Nat} {l : List Nat} (h : BldJ w b l) (hb : b ≤ w.heap.size) :
    Calls Tryz.prog 61 #[.pointer (some ⟨b, 0, none⟩)] w fun e w' => e = .returned (.string (str l)) ∧ Below b w w' :=
  (Any.Builder_String_any_k Tryz.stringA bldExtraJ b b _ w h hb).mono fun _ _ ⟨h1, _, h3, _⟩ => ⟨h1, h3⟩

theorem BldJ.str {w : World} {b : Nat} {l : List Nat} (h : BldJ w b l) (t : List Nat) (ht : t.length ≤ 100000000) (hl : l.length ≤ 100000000) (hb : b ≤ w.heap.size) :
    Calls Tryz.prog 59 #[.pointer (some ⟨b, 0, none⟩), .string (str t)] w fun e w' => e = .returned (.tuple #[.int .i64 t.length, .nilIface]) ∧ BldJ w' b (l ++ t) ∧ Below b w w' := by
  have hsz := str_size t
  refine (writeString_in b b _ (Go.Proofs.YtiaaefapbcjgmaaGreatDoor.str t) w h (by rw [Lib.byteCells_length, List.length_map]; omega) hb).mono ?_
  rintro e w' ⟨h1, h2, h3⟩
  rw [hsz] at h1
  refine ⟨h1, .inr ?_, h3⟩
  rw [List.map_append, Lib.byteCells_append]
  exact h2
end Go.Proofs.YtiaaefapbcjgmaaGreatDoor
namespace Go.Proofs.YtiaaefapbcjgmaaGreatDoor
open Go.RowKit

set_option maxHeartbeats 400000 in
set_option maxRecDepth 100000 in
theorem specRow_in (r : Nat) (hr : r ≤ 60) (w : World) : Calls Tryz.prog 148 #[.int .i64 r] w fun e w' =>
    ∃ v, e = .returned v ∧ w'.ownsRow w.heap.size 3 1 v (rowN r).length ((rowN r).map (Value.int .i64)) ∧ Below w.heap.size w w' := by
  have hd : decide ((r : Int) ≤ 60) = true := by simp; omega
  go_enter Tryz.func148, Tryz.ntmps148
  go_wp2
  go_loopw [3, 4] (fun out n wr => ∃ j : Nat, j ≤ r + 1 ∧ n = .int .i64 j ∧ wr.ownsRow w.heap.size 3 1 out (outSt j).length ((outSt j).map (Value.int .i64)) ∧ Below w.heap.size w wr)
    (fun _ n _ => r + 1 - (intOf n).toNat)
  case atStart => exact ⟨0, by omega, rfl, World.ownsRow_made _ _ _ (Nat.le_refl _) (by decide) rfl, (Below.refl _ _).alloc (Nat.le_refl _) _⟩
  case round =>
    obtain ⟨j, hj, rfl, hown, hB⟩ := hrel
    by_cases hjr : j ≤ r
    · have h60 : j ≤ 60 := by omega
      by_cases hj0 : j = 0
      · subst hj0
        go_wp2
        obtain ⟨wo, rfl⟩ : ∃ wo : World, wo = wr := ⟨_, rfl⟩
        go_loopw [5, 6] (fun nx k wi => nx = .slice (some ⟨wo.heap.size, 0, none⟩) 1 1 ∧ k = .int .i64 1 ∧ wi = wo.alloc (.cells #[.int .i64 1] 3)) (fun _ _ _ => 0)
        case atStart => exact ⟨rfl, rfl, rfl⟩
        case round =>
          obtain ⟨rfl, rfl, rfl⟩ := hrel
          go_wp2
          go_roundw
          case rel => exact ⟨1, by omega, rfl, ⟨rfl, .inr ⟨wo.heap.size, 1, _, rfl, hB.size, heap_alloc_new _ _, Nat.le_refl _, by decide, rfl, rfl⟩⟩, hB.alloc hB.size _⟩
          case measure => simp [intOf]
      · rw [outSt_len] at hown
        obtain ⟨g, cap, rfl, hg1, hg2, hg3, hcells⟩ := owns_open hown (by omega)
        go_wp2
        obtain ⟨wo, rfl⟩ : ∃ wo : World, wo = wr := ⟨_, rfl⟩
        go_loopw [5, 6] (fun nx k wi => ∃ i : Nat, 1 ≤ i ∧ i ≤ j ∧ k = .int .i64 i ∧ wi.ownsRow wo.heap.size 3 1 nx i ((rowP j i).map (Value.int .i64)) ∧ Below wo.heap.size wo wi)
          (fun _ k _ => j - (intOf k).toNat)
        case atStart =>
          refine ⟨1, Nat.le_refl _, by omega, rfl, ?_, (Below.refl _ _).alloc (Nat.le_refl _) _⟩
          rw [rowP_one]
          exact ⟨rfl, .inr ⟨wo.heap.size, 1, _, rfl, Nat.le_refl _, heap_alloc_new _ _, Nat.le_refl _, by decide, rfl, rfl⟩⟩
        case round =>
          obtain ⟨i, hi1, hij, rfl, hown2, hB2⟩ := hrel
          by_cases hlt : i < j
          · obtain ⟨k, rfl⟩ : ∃ k, i = k + 1 := ⟨i - 1, by omega⟩
            have hca : wr.cell? ⟨g, k + 1, none⟩ = some (.int .i64 (bin (j - 1) (k + 1))) := (hB2.cell (by exact hg2)).trans (hcells _ _ (by rw [List.getElem?_map, outSt_get _ _ hlt]; rfl))
            have hcb : wr.cell? ⟨g, k, none⟩ = some (.int .i64 (bin (j - 1) k)) := (hB2.cell (by exact hg2)).trans (hcells _ _ (by rw [List.getElem?_map, outSt_get _ _ (by omega)]; rfl))
            have hkj : k < j := by omega
            clear hcells
            go_wp2
            have hsum : ((bin (j - 1) k : Int) + bin (j - 1) (k + 1)) = bin j (k + 1) := by have := bin_sum j (k + 1) hi1 hlt; simp at this; omega
            have hsm := bin_small (j - 1) k (by omega)
            have hsm2 := bin_small (j - 1) (k + 1) (by omega)
            have hw1 : IntKind.i64.wrap (k : Int) = k := IntWalk.i64_in _ (by omega)
            have hw2 : IntKind.i64.wrap ((bin (j - 1) k : Int) + bin (j - 1) (k + 1)) = bin j (k + 1) := by rw [← hsum]; exact IntWalk.i64_in _ (by omega)
            have hw3 : ((k : Int) + 1).toNat = k + 1 := by omega
            have hw4 : (k : Int) + 1 < j := by omega
            have hw5 : (0 : Int) ≤ (k : Int) + 1 := by omega
            clear hsum
            go_region_law ((refine step_append_one (by rfl) _ _ (by rfl) wo.heap.size _ _ _ (by rfl) hown2.drew (by rfl) (by omega) (by have := hB2.size; simp; omega) ?_; intro v' w1 hown' hgrow))
            all_goals
              go_wp2
              go_roundw
              case rel => exact ⟨k + 1 + 1, by omega, by omega, by go_num, by have := hown'; rw [rowP_snoc, List.map_append]; exact this, (hB2.drew.alloc (by have := hB2.size; simp; omega) _).grown hgrow (by have := hB2.size; simp; omega) (fun b hb => (hown2.lt b hb).1)⟩
              case measure => simp [intOf]; omega
          · obtain rfl : i = j := by omega
            go_wp2_with (at_builtin; refine append_one rfl _ _ rfl wo.heap.size _ _ _ rfl hown2 rfl (by omega) (by have := hB2.size; omega) ?_; intro v' w1 hown' hgrow)
            go_roundw
            case rel =>
              refine ⟨i + 1, by omega, by go_num, ?_, ?_⟩
              · rw [outSt_len]; simpa [outSt, ← rowP_last] using owns_from hown' hB.size
              · exact (hB.trans (((hB2.alloc (by exact hB2.size) _).grown hgrow (by have := hB2.size; simp; omega) (fun b hb => (hown2.lt b hb).1)).mono hB.size))
            case measure => simp [intOf]; omega
    · obtain rfl : j = r + 1 := by omega
      go_wp2
      go_ret
      exact ⟨_, rfl, hown, hB⟩

theorem specCell (row place : Int) (w : World) : Calls Tryz.prog 113 #[.int .i64 row, .int .i64 place] w fun e w' =>
    e = .returned (.int .i64 (cellV row place)) ∧ Below w.heap.size w w' := by
  by_cases h1 : row < 0 ∨ 60 < row
  · have hv := hide (cellV_bad (row := row) (place := place) (by omega))
    go_enter Tryz.func113, Tryz.ntmps113
    go_wp2_with (go_at_call 95; refine (l1In_f _ _ _ _ (by assumption)).mono ?_; rintro e w' ⟨rfl, rfl⟩)
    go_ret
    exact ⟨ret_int hv.out.symm, Below.refl _ _⟩
  · by_cases h2 : place < 0
    · have hv := hide (cellV_bad (row := row) (place := place) (by omega))
      have h1a : 0 ≤ row := by omega
      have h1b : row ≤ 60 := by omega
      clear h1
      go_enter Tryz.func113, Tryz.ntmps113
      go_wp2_with (go_at_call 95; refine (l1In_t _ _ _ _ (by assumption) (by assumption)).mono ?_; rintro e w' ⟨rfl, rfl⟩)
      go_ret
      exact ⟨ret_int hv.out.symm, Below.refl _ _⟩
    · obtain ⟨r, rfl⟩ : ∃ r : Nat, row = r := ⟨row.toNat, by omega⟩
      obtain ⟨k, rfl⟩ : ∃ k : Nat, place = k := ⟨place.toNat, by omega⟩
      have h6 : r ≤ 60 := by omega
      have hv := hide (cellV_nat (k := k) h6)
      have h1a : (0 : Int) ≤ r := by omega
      have h1b : (r : Int) ≤ 60 := by omega
      clear h1
      by_cases h3 : r < k
      · have hb := hide (bin_over r k h3)
        go_enter Tryz.func113, Tryz.ntmps113
        go_wp2_with (go_at_call 95; refine (l1In_t _ _ _ _ (by assumption) (by assumption)).mono ?_; rintro e w' ⟨rfl, rfl⟩)
        go_ret
        exact ⟨ret_int (by rw [hv.out, hb.out]; rfl), Below.refl _ _⟩
      · have h4 : k < r + 1 := by omega
        go_enter Tryz.func113, Tryz.ntmps113
        go_wp2_with (first | (go_at_call 95; refine (l1In_t _ _ _ _ (by assumption) (by assumption)).mono ?_; rintro e w' ⟨rfl, rfl⟩) | (go_at_call 148; refine (specRow_in _ (by assumption) _).mono ?_; rintro e w1 ⟨v, rfl, hown, hB⟩; rw [rowN_len] at hown; obtain ⟨g, cap, rfl, hg1, hg2, hg3, hcells⟩ := owns_open hown (by omega); have hc := hcells k (.int .i64 (bin r k)) (by rw [List.getElem?_map, rowN, List.getElem?_map, List.getElem?_range h4]; rfl); clear hcells))
        go_ret
        exact ⟨ret_int hv.out.symm, hB⟩

set_option maxHeartbeats 400000 in
theorem common_in (a b : Nat) (ha : a ≤ 4000000000000000000) (hb : b ≤ 4000000000000000000) (w : World) : Calls Tryz.prog 149 #[.int .i64 a, .int .i64 b] w fun e w' => e = .returned (.int .i64 (Nat.gcd a b : Nat)) ∧ w = w' := by
  obtain ⟨G, hG⟩ : ∃ G, Nat.gcd a b = G := ⟨_, rfl⟩
  rw [hG]
  have hG' := hide hG
  clear hG
  go_enter Tryz.func149, Tryz.ntmps149
  go_wp2
  go_loop [0, 1] (fun s t => ∃ x y : Nat, s = .int .i64 x ∧ t = .int .i64 y ∧ x ≤ 4000000000000000000 ∧ y ≤ 4000000000000000000 ∧ Hid (Nat.gcd x y = G)) (fun _ t => (intOf t).toNat)
  case atStart => exact ⟨a, b, rfl, rfl, ha, hb, hG'⟩
  case round =>
    clear hG' ha hb
    obtain ⟨x, y, rfl, rfl, hx, hy, hg⟩ := hrel
    by_cases h0 : 0 < y
    · have hq := tmod_n x y
      have hr := Nat.mod_lt x h0
      have hg' : Hid (Nat.gcd y (x % y) = G) := hide (by rw [← hg.out, Nat.gcd_comm x y, Nat.gcd_rec y x, Nat.gcd_comm])
      generalize x % y = r at *
      have hw1 : IntKind.i64.wrap (r : Int) = r := IntWalk.i64_in _ (by omega)
      have hy0 : ((y : Int) == 0) = false := by simp; omega
      clear hg
      go_wp2
      go_round
      case rel => exact ⟨y, r, rfl, rfl, hy, by omega, hg'⟩
      case measure => simp [intOf]; omega
    · obtain rfl : y = 0 := by omega
      have hg2 := hg.out
      rw [Nat.gcd_zero_right] at hg2
      subst hg2
      clear hg
      go_wp2
      go_ret
      exact ⟨rfl, rfl⟩

theorem bin_60 {n : Nat} (h : n ≤ 60) (k : Nat) : bin n k ≤ 1152921504606846976 := Nat.le_trans (bin_le n k) (Nat.le_trans (Nat.pow_le_pow_right (by omega) h) (by decide))

theorem gcdU_le (f : Nat → Nat) (m : Nat) (h : ∀ i, i < m → 0 < f i) (hl : ∀ i, i < m → f i ≤ 1152921504606846976) : gcdU f m ≤ 1152921504606846976 := by
  cases m with
  | zero => exact Nat.zero_le _
  | succ m =>
    show Nat.gcd (gcdU f m) (f m) ≤ _
    exact Nat.le_trans (Nat.le_of_dvd (h m (by omega)) (Nat.gcd_dvd_right _ _)) (hl m (by omega))

set_option maxHeartbeats 1000000 in
theorem specShared (row : Int) (w : World) : Calls Tryz.prog 114 #[.int .i64 row] w fun e w' => e = .returned (.int .i64 (sharedV row)) ∧ Below w.heap.size w w' := by
  by_cases hbad : row < 2 ∨ 60 < row
  · rw [sharedV_bad hbad]
    go_enter Tryz.func114, Tryz.ntmps114
    go_wp2_with (go_at_call 95; refine (l1In_f _ _ _ _ (by omega)).mono ?_; rintro e w' ⟨rfl, rfl⟩)
    go_ret
    exact ⟨rfl, Below.refl _ _⟩
  · obtain ⟨N, rfl⟩ : ∃ N : Nat, row = N := ⟨row.toNat, by omega⟩
    have hN2 : 2 ≤ N := by omega
    have hN : N ≤ 60 := by omega
    rw [sharedV_nat hN2 hN]
    obtain ⟨S, hS⟩ : ∃ S, shared N = S := ⟨_, rfl⟩
    rw [hS]
    have hS' := hide hS
    clear hbad hS
    go_enter Tryz.func114, Tryz.ntmps114
    go_wp2_with (first | (go_at_call 95; refine (l1In_t _ _ _ _ (by omega) (by omega)).mono ?_; rintro e w' ⟨rfl, rfl⟩) | (go_at_call 148; refine (specRow_in N hN _).mono ?_; rintro e w1 ⟨v, rfl, hown, hB⟩; rw [rowN_len] at hown; obtain ⟨g, cap, rfl, hg1, hg2, hg3, hcells⟩ := owns_open hown (by omega)))
    have hc : ∀ k, k < N + 1 → w1.cell? ⟨g, k, none⟩ = some (.int .i64 (bin N k : Nat)) := fun k hk => hcells k _ (by rw [List.getElem?_map]; unfold rowN; rw [List.getElem?_map, List.getElem?_range (by omega)]; rfl)
    clear hcells hown hg1 hg3
    go_loop [4, 5] (fun o i => ∃ j : Nat, j + 1 ≤ N ∧ i = .int .i64 ((j : Int) + 1) ∧ o = .int .i64 (gcdU (fun k => bin N (k + 1)) j : Nat)) (fun _ i => N - (intOf i).toNat)
    case atStart => exact ⟨0, by omega, rfl, rfl⟩
    case round =>
      obtain ⟨j, hj, rfl, rfl⟩ := hrel
      by_cases hlt : j + 1 < N
      · have hck := hc (j + 1) (by omega)
        have hcl := bin_60 hN (j + 1)
        have hgl := gcdU_le (fun k => bin N (k + 1)) j (fun i hi => bin_pos _ _ (by omega)) (fun i hi => bin_60 hN _)
        have hst : gcdU (fun k => bin N (k + 1)) (j + 1) = Nat.gcd (gcdU (fun k => bin N (k + 1)) j) (bin N (j + 1)) := rfl
        have hG := fun w => common_in (gcdU (fun k => bin N (k + 1)) j) (bin N (j + 1)) (by omega) (by omega) w
        rw [← hst] at hG
        clear hst hc
        generalize gcdU (fun k => bin N (k + 1)) j = x at *
        generalize bin N (j + 1) = c at *
        have hji : (j : Int) + 1 < (N : Int) := by omega
        have h1 : (0 : Int) ≤ (j : Int) + 1 := by omega
        have h2 : ((j : Int) + 1).toNat = j + 1 := by omega
        have h3 : (j : Int) + 1 < (N : Int) + 1 := by omega
        go_wp2_with (go_at_call 149; (with_reducible refine (hG _).mono ?_); rintro e w' ⟨rfl, rfl⟩)
        go_round
        case rel => exact ⟨j + 1, by omega, by go_num, rfl⟩
        case measure => simp [intOf]; omega
      · have hj1 : j = N - 1 := by omega
        have hji : ¬ (j : Int) + 1 < (N : Int) := by omega
        subst hj1
        have hS2 : gcdU (fun k => bin N (k + 1)) (N - 1) = S := hS'.out
        rw [hS2]
        clear hS' hS2
        go_wp2
        go_ret
        exact ⟨rfl, hB⟩
end Go.Proofs.YtiaaefapbcjgmaaGreatDoor
namespace Go.Proofs.YtiaaefapbcjgmaaGreatDoor
open Go.RowKit Go.Shelf
attribute [local go_sem] Oper.semAt_some

set_option maxHeartbeats 1000000 in
theorem two_in (a b : Nat) (ha : a ≤ 4000000000000000000) (hb : b ≤ 4000000000000000000) (w : World) : Calls Tryz.prog 221 #[.int .i64 a, .int .i64 b] w fun e w' => e = .returned (.int .i64 (Nat.gcd a b : Nat)) ∧ Below w.heap.size w w' := by
  obtain ⟨G, hG⟩ : ∃ G, Nat.gcd a b = G := ⟨_, rfl⟩
  rw [hG]
  have hG' := hide hG
  clear hG
  go_enter Tryz.func221, Tryz.ntmps221
  go_wp2
  go_loopw [0, 1] (fun s t wr => ∃ x y : Nat, s = .int .i64 x ∧ t = .int .i64 y ∧ x ≤ 4000000000000000000 ∧ y ≤ 4000000000000000000 ∧ Hid (Nat.gcd x y = G) ∧ Below w.heap.size w wr) (fun _ t _ => (intOf t).toNat)
  case atStart => exact ⟨a, b, rfl, rfl, ha, hb, hG', Below.refl _ _⟩
  case round =>
    clear hG' ha hb
    obtain ⟨x, y, rfl, rfl, hx, hy, hg, hB⟩ := hrel
    by_cases h0 : 0 < y
    · have hq := tmod_n x y
      have hr := Nat.mod_lt x h0
      have hg' : Hid (Nat.gcd y (x % y) = G) := hide (by rw [← hg.out, Nat.gcd_comm x y, Nat.gcd_rec y x, Nat.gcd_comm])
      generalize x % y = r at *
      have hw1 : IntKind.i64.wrap (r : Int) = r := IntWalk.i64_in _ (by omega)
      have hy0 : ((y : Int) == 0) = false := by simp; omega
      clear hg
      go_wp2
      go_quiet (fail)
      go_wp2
      go_roundw
      case rel => exact ⟨y, r, rfl, rfl, hy, by omega, hg', ⟨hB.os, hB.tape, hB.output, hB.size, hB.block⟩⟩
      case measure => simp [intOf]; omega
    · obtain rfl : y = 0 := by omega
      have hg2 := hg.out
      rw [Nat.gcd_zero_right] at hg2
      subst hg2
      clear hg
      go_wp2
      go_ret
      exact ⟨rfl, hB⟩

/-- What is known while an iterator hands out the numbers f 0, f 1, .. -/
def NumHd (n : Nat) (_n0 : Nat) (pre : List Nat) (x : Nat) (_W : World) : Prop := pre = List.range x ∧ x < n

def NumS (n : Nat) (_n0 : Nat) (xs : List Nat) (_W : World) : Prop := xs = List.range n

set_option maxRecDepth 100000 in
set_option maxHeartbeats 1000000 in
theorem vals_stops (n B g off L cap : Nat) (f : Nat → Int) (hL : L ≤ 1000000) (hn : 1 ≤ n) (w : World) (hB : B < w.heap.size) (hg : g < w.heap.size)
    (hc : w.cell? ⟨B, 0, none⟩ = some (.slice (some ⟨g, off, none⟩) L cap)) (hv : ∀ i, i < L → w.cell? ⟨g, off + i, none⟩ = some (.int .i64 (f i))) :
    SeqMem Fence.wide n Tryz.prog 241 #[.pointer (some ⟨B, 0, none⟩)] 0 (fun _ (j : Nat) => #[.int .i64 (f j)])
      (NumHd L) (fun _ k => k = g) (NumS L) (fun _ _ _ => True) w := by
  intro l J Jx W hW hJ hJx hY h0
  have hc' := (hW.cell (p := ⟨B, 0, none⟩) hB).trans hc
  have hv' : ∀ i, i < L → W.cell? ⟨g, off + i, none⟩ = some (.int .i64 (f i)) := fun i hi => (hW.cell (p := ⟨g, off + i, none⟩) hg).trans (hv i hi)
  have hgW : g < W.heap.size := Nat.lt_of_lt_of_le hg hW.size
  clear hc hv
  refine callsIn_of_wp Tryz.func241 rfl trivial ?_ rfl
  simp only [Tryz.ntmps241, List.size_toArray, List.length_cons, List.length_nil, Nat.reduceAdd, Nat.reduceSub, Array.replicate_succ, Array.replicate_zero, List.push_toArray, List.append_toArray, List.nil_append, List.cons_append]
  gi_wp2
  clear hc'
  gi_loopw [7] (fun i wr => ∃ j : Nat, j ≤ L ∧ i = .int .i64 (j : Int) ∧ J (List.range j) wr ∧ g < wr.heap.size ∧ ∀ i, i < L → wr.cell? ⟨g, off + i, none⟩ = some (.int .i64 (f i))) (fun i _ => L - (intOf i).toNat)
  case atStart => exact ⟨0, by omega, rfl, h0, hgW, hv'⟩
  case round =>
    clear hv' h0
    obtain ⟨j, hj, rfl, hJs, hgr, hvr⟩ := hrel
    by_cases hlt : j < L
    · have hi1 : (j : Int) < (L : Int) := by omega
      have hcj := hvr j hlt
      obtain ⟨z, hz⟩ : ∃ z, f j = z := ⟨_, rfl⟩
      obtain ⟨fn, tmps, assign, body, hy, hR⟩ := hY _ j wr hJs ⟨rfl, hlt⟩
      rw [hz] at hcj hy
      clear hY
      gi_wp2
      refine hR.mono ?_
      rintro e W3 (⟨rfl, hJ3, hk3⟩ | ⟨rfl, hJx3, hk3⟩)
      · have hc3 : ∀ i, i < L → W3.cell? ⟨g, off + i, none⟩ = some (.int .i64 (f i)) := fun i hi => (World.cell?_of_block (a := ⟨g, off + i, none⟩) (hk3.same g hgr rfl)).trans (hvr i hi)
        clear hvr hcj
        gi_wp2
        go_roundw
        case rel => exact ⟨j + 1, by omega, by go_num, by rw [List.range_succ]; exact hJ3, Nat.lt_of_lt_of_le hgr hk3.size, hc3⟩
        case measure => simp [intOf]; omega
      · gi_wp2
        refine bodyPost_ret (results_none rfl _ _ _) rfl ?_
        exact ⟨⟨_, rfl⟩, .inr ⟨_, trivial, hJx3⟩⟩
    · obtain rfl : j = L := by omega
      have hi1 : ¬ (j : Int) < (j : Int) := by omega
      clear hvr
      gi_wp2
      go_end0
      exact ⟨⟨_, rfl⟩, .inl ⟨_, rfl, hJs⟩⟩

theorem second_in (u v : Value) (w : World) : Calls Tryz.prog 223 #[u, v] w fun e w' => e = .returned v ∧ w = w' := by
  go_enter Tryz.func223, Tryz.ntmps223
  go_wp2
  go_ret
  exact ⟨rfl, rfl⟩

set_option maxRecDepth 100000 in
set_option maxHeartbeats 1000000 in
theorem foldRows_in (r B : Nat) (hr : r ≤ 60) (w : World) (hB0 : B < w.heap.size) (hc0 : w.cell? ⟨B, 0, none⟩ = some (.int .i64 r)) :
    Calls Tryz.prog 222 #[.func (.func 182) #[] #[.pointer (some ⟨B, 0, none⟩)], .slice none 0 0, .func (.func 223) #[] #[]] w fun e w' =>
      ∃ g, e = .returned (.slice (some ⟨g, 0, none⟩) (r + 1) (r + 1)) ∧ RowAt w' g (r + 1) (fun i => (bin r i : Int)) ∧ w.heap.size ≤ g ∧ Below w.heap.size w w' := by
  refine (callsIn_wide (n := 9)).1 ?_
  refine callsIn_of_wp_marks Tryz.func222 rfl trivial ?_ rfl
  simp only [Tryz.ntmps222, List.size_toArray, List.length_cons, List.length_nil, Nat.reduceAdd, Nat.reduceSub, Array.replicate_succ, Array.replicate_zero, List.push_toArray, List.append_toArray, List.nil_append, List.cons_append]
  gi_wp2
  obtain ⟨W0, hW0⟩ : ∃ W0, ((w.alloc (Obj.cells #[Value.slice none 0 0] 28)).alloc (Obj.cells #[Value.func (.func 223) #[] #[]] 217)) = W0 := ⟨_, rfl⟩
  have hsz1 : W0.heap.size ≤ w.heap.size + 2 := by rw [← hW0]; simp
  have hsz2 : w.heap.size + 2 ≤ W0.heap.size := by rw [← hW0]; simp
  have hbs : Boxed W0 w.heap.size 28 (.slice none 0 0) := by rw [← hW0]; exact (Boxed.new w _ _).alloc _
  have hbj : Boxed W0 (w.heap.size + 1) 217 (.func (.func 223) #[] #[]) := by rw [← hW0]; have := Boxed.new (w.alloc (Obj.cells #[Value.slice none 0 0] 28)) 217 (.func (.func 223) #[] #[]); rwa [World.size_alloc] at this
  have hbel : Below w.heap.size w W0 := by rw [← hW0]; exact ((Below.refl _ w).alloc (Nat.le_refl _) _).alloc (by simp) _
  rw [hW0]
  clear hW0
  refine wpIn_rangeFunc_mem rfl (by omega) (gf := 182) (lb := #[.pointer (some ⟨B, 0, none⟩)]) rfl trivial (enters_of Tryz.func182 (by kernel_rfl) rfl)
    (rows_stops (9 - 1) B r hr (by omega) W0 (by omega) ((hbel.cell (p := ⟨B, 0, none⟩) hB0).trans hc0)) (fun _ _ => rfl) (by omega)
    (fun pre x W o h => ⟨h.1, h.2.1, h.2.2.of_block (World.putObj_heap_other (by omega))⟩) (fun xs W o h => ⟨h.1, h.2.of_block (World.putObj_heap_other (by omega))⟩)
    (fun pre W o h => by obtain ⟨j, h1, h2, h3⟩ := h; exact ⟨j, h1, h2, h3.of_block (World.putObj_heap_other (by omega))⟩)
    (fun pre W => Boxed W w.heap.size 28 (lastV (W0.heap.size + 2) pre.length (r + 1)) ∧ Boxed W (w.heap.size + 1) 217 (.func (.func 223) #[] #[]) ∧ Below w.heap.size w W) (fun _ _ _ => False)
    (fun s A B row hs hg hr => ⟨hs.1.kept hg (fun e => by have := hr _ e.symm; omega), hs.2.1.kept hg (fun e => by have := hr _ e.symm; omega), hs.2.2.grown hg hs.2.2.size (fun k e => by have := hr _ e; omega)⟩)
    (fun _ _ _ _ _ hs _ _ => hs) ⟨hbs, hbj, hbel⟩
    (fun x => { tmps := #[.func (.func 182) #[] #[.pointer (some ⟨B, 0, none⟩)], .slice none 0 0, .func (.func 223) #[] #[], undef, .pointer (some ⟨w.heap.size, 0, none⟩), .pointer (some ⟨w.heap.size + 1, 0, none⟩), .slice none 0 0, .slice (some ⟨W0.heap.size + 2, 0, none⟩) (x + 1) (r + 1), .func (.func 182) #[] #[.pointer (some ⟨B, 0, none⟩)], .slice (some ⟨W0.heap.size + 2, 0, none⟩) (x + 1) (r + 1), undef, undef, undef, undef, undef], defers := [] }) ?assign ?body ?done ?stop
  case assign =>
    intro l x W K hK
    gi_wp2
    exact hK
  case body =>
    rintro l pre x W hlt ⟨hb, hbjj, hB⟩ ⟨hpre, hx, hrow⟩
    have hc := hb.cell
    have hf := hb.frozen
    have hcj := hbjj.cell
    gi_wp2_with (refine ⟨trivial, ?_⟩; gi_at_call 223; refine (callsIn_wide.2 (second_in _ _ _)).mono ?_; rintro e w1 ⟨rfl, rfl⟩)
    refine ⟨KeepsSet.setCell _ _ _ (by omega), ?_, hbjj.other (by omega) _, hB.setCell (p := ⟨w.heap.size, 0, none⟩) (Nat.le_refl _) _⟩
    have := hb.set (.slice (some ⟨W0.heap.size + 2, 0, none⟩) (x + 1) (r + 1))
    rw [show lastV (W0.heap.size + 2) (pre ++ [x]).length (r + 1) = .slice (some ⟨W0.heap.size + 2, 0, none⟩) (x + 1) (r + 1) by subst hpre; simp [lastV]]
    exact this
  case done =>
    rintro ys W ⟨rfl, hrow⟩ ⟨hb, hbjj, hB⟩ hK
    rw [show lastV (W0.heap.size + 2) (List.range (r + 1)).length (r + 1) = .slice (some ⟨W0.heap.size + 2, 0, none⟩) (r + 1) (r + 1) by simp [lastV]] at hb
    have hc := hb.cell
    gi_wp2
    refine ⟨by simp, .inl ⟨_, _, rfl, run_takeDeferred hK, ?_⟩⟩
    refine ⟨_, results_tmp rfl _ _ _, W0.heap.size + 2, rfl, hrow.of_block (World.putObj_heap_other (by omega)), by omega, ?_⟩
    exact hB.grown (grownBy_putObj' W _ _) hB.size (fun k e => by cases e; omega)
  case stop =>
    rintro c pre W _ h _
    exact h.elim

set_option maxHeartbeats 1000000 in
theorem lastRow_in (r : Nat) (hr : r ≤ 60) (w : World) : Calls Tryz.prog 197 #[.int .i64 r] w fun e w' =>
    ∃ g, e = .returned (.slice (some ⟨g, 0, none⟩) (r + 1) (r + 1)) ∧ RowAt w' g (r + 1) (fun i => (bin r i : Int)) ∧ Below w.heap.size w w' := by
  have hF : Calls Tryz.prog 222 #[.func (.func 182) #[] #[.pointer (some ⟨w.heap.size, 0, none⟩)], .slice none 0 0, .func (.func 223) #[] #[]] (w.alloc (.cells #[.int .i64 r] 3)) fun e w' =>
      ∃ g, e = .returned (.slice (some ⟨g, 0, none⟩) (r + 1) (r + 1)) ∧ RowAt w' g (r + 1) (fun i => (bin r i : Int)) ∧ Below w.heap.size w w' :=
    (foldRows_in r w.heap.size hr _ (by simp) (Boxed.new w 3 (.int .i64 r)).cell).mono fun e w' ⟨g, h1, h2, _, h4⟩ =>
      ⟨g, h1, h2, ((Below.refl _ w).alloc (Nat.le_refl _) _).trans (h4.mono (by simp))⟩
  go_enter Tryz.func197, Tryz.ntmps197
  go_wp2_with (first | (go_at_call 145; refine (rowsTo_in _ _).mono ?_; rintro e w' ⟨rfl, rfl⟩) | (go_at_call 222; refine hF.mono ?_; rintro e w2 ⟨g, rfl, hrow, hB⟩))
  go_ret
  exact ⟨g, rfl, hrow, hB⟩

theorem values_in (a : Option Addr) (l c : Nat) (w : World) : Calls Tryz.prog 220 #[.slice a l c] w fun e w' => e = .returned (.func (.func 241) #[] #[.pointer (some ⟨w.heap.size, 0, none⟩)]) ∧ w.alloc (.cells #[.slice a l c] 28) = w' := by
  have hmf : ∀ (fn : Fn) (first cap : Array Value) (w : World), (Instr.makeFunc fn first cap).run Tryz.prog w = .ok (.func fn first cap) w := fun _ _ _ _ => rfl
  go_enter Tryz.func220, Tryz.ntmps220
  go_wp2
  go_ret
  exact ⟨rfl, rfl⟩
end Go.Proofs.YtiaaefapbcjgmaaGreatDoor
namespace Go.Proofs.YtiaaefapbcjgmaaGreatDoor
open Go.RowKit Go.Shelf

set_option maxHeartbeats 1000000 in
theorem implWaysOf (up : Int) (w : World) : Calls Tryz.prog 164 #[.int .i64 up] w fun e w' => e = .returned (.int .i64 (waysV up)) ∧ Below w.heap.size w w' := by
  by_cases hbad : up < 0 ∨ 30 < up
  · rw [waysV_bad hbad]
    go_enter Tryz.func164, Tryz.ntmps164
    go_wp2_with (go_at_call 55; refine (within_f _ _ _ (by omega)).mono ?_; rintro e w' ⟨rfl, rfl⟩)
    go_ret
    exact ⟨rfl, Below.refl _ _⟩
  · obtain ⟨u, rfl⟩ : ∃ u : Nat, up = u := ⟨up.toNat, by omega⟩
    have hu : u ≤ 30 := by omega
    have hv := hide (waysV_nat hu)
    have hC : ∀ w, Calls Tryz.prog 63 #[.int .i64 (2 * (u : Int)), .int .i64 u] w fun e w' => e = .returned (.int .i64 (bin (2 * u) u : Nat)) ∧ Below w.heap.size w w' := fun w => by
      have h := implCell ((2 * u : Nat) : Int) u w
      rwa [cellV_nat (by omega), show ((2 * u : Nat) : Int) = 2 * (u : Int) by omega] at h
    have hb := bin_le (2 * u) u
    have hb2 : (2 : Nat) ^ (2 * u) ≤ 1152921504606846976 := Nat.le_trans (Nat.pow_le_pow_right (by omega) (show 2 * u ≤ 60 by omega)) (by decide)
    have hq := tdiv_n (bin (2 * u) u) (u + 1)
    have hc : bin (2 * u) u / (u + 1) = catN u := rfl
    have hd := Nat.div_le_self (bin (2 * u) u) (u + 1)
    rw [hc] at hq hd
    have hq' : Int.tdiv ((bin (2 * u) u : Nat) : Int) ((u : Int) + 1) = (catN u : Int) := hq
    generalize bin (2 * u) u = B at *
    generalize catN u = C at *
    have hw1 : IntKind.i64.wrap (C : Int) = C := IntWalk.i64_in _ (by omega)
    have hz : ((u : Int) + 1 == 0) = false := by simp; omega
    clear hbad hc hq
    go_enter Tryz.func164, Tryz.ntmps164
    go_wp2_with (first | (go_at_call 55; refine (within_t _ _ _ (by omega) (by omega)).mono ?_; rintro e w' ⟨rfl, rfl⟩) | (go_at_call 63; (with_reducible refine (hC _).mono ?_); rintro e w1 ⟨rfl, hB⟩))
    go_ret
    exact ⟨ret_int hv.out.symm, hB⟩
end Go.Proofs.YtiaaefapbcjgmaaGreatDoor
namespace Go.Proofs.YtiaaefapbcjgmaaGreatDoor
open Go.RowKit

theorem prime_tab : (List.range 17).all (fun p => prmI (p : Nat) == (decide (2 ≤ p) && (List.range p).all fun d => decide (d < 2) || !(p % d == 0))) = true := by decide

theorem prime_no {p d : Nat} (hp : p ≤ 16) (hd : 2 ≤ d) (hdp : d < p) (h : p % d = 0) : prmI p = false := by
  have h1 := List.all_eq_true.1 prime_tab p (List.mem_range.2 (by omega))
  rw [beq_iff_eq] at h1
  rw [h1, Bool.and_eq_false_iff]
  right
  rw [List.all_eq_false]
  exact ⟨d, List.mem_range.2 hdp, by simp [h]; omega⟩

theorem prime_yes {p : Nat} (hp : p ≤ 16) (h2 : 2 ≤ p) (h : ∀ d, 2 ≤ d → d < p → p % d ≠ 0) : prmI p = true := by
  have h1 := List.all_eq_true.1 prime_tab p (List.mem_range.2 (by omega))
  rw [beq_iff_eq] at h1
  rw [h1, Bool.and_eq_true]
  refine ⟨by simpa using h2, List.all_eq_true.2 fun d hd => ?_⟩
  have hd' := List.mem_range.1 hd
  by_cases e : 2 ≤ d
  · have := h d e hd'; simp [this]
  · simp; omega

set_option maxHeartbeats 400000 in
theorem specPrime (p : Int) (w : World) : Calls Tryz.prog 150 #[.int .i64 p] w fun e w' => e = .returned (.bool (prmI p)) ∧ w = w' := by
  by_cases h1 : p < 2
  · have hv := hide (show prmI p = false by unfold prmI; simp; omega)
    go_enter Tryz.func150, Tryz.ntmps150
    go_wp2
    refine wp_loop_rounds 1 ?_
    rw [rounds_succ]
    go_wp2_with (go_at_call 95; refine (l1In_f _ _ _ _ (by omega)).mono ?_; rintro e w' ⟨rfl, rfl⟩)
    go_ret
    exact ⟨by rw [hv.out]; rfl, rfl⟩
  · by_cases h2 : 16 < p
    · have hv := hide (show prmI p = false by unfold prmI; simp; omega)
      have h3 : ¬ p ≤ 16 := by omega
      have h4 : (2 : Int) < p := by omega
      go_enter Tryz.func150, Tryz.ntmps150
      go_wp2
      refine wp_loop_rounds 1 ?_
      rw [rounds_succ]
      go_wp2_with (go_at_call 95; refine (l1In_f _ _ _ _ (by omega)).mono ?_; rintro e w' ⟨rfl, rfl⟩)
      go_ret
      exact ⟨by rw [hv.out]; rfl, rfl⟩
    · obtain ⟨P, rfl⟩ : ∃ N : Nat, p = N := ⟨p.toNat, by omega⟩
      have hP : P ≤ 16 := by omega
      have hP2 : 2 ≤ P := by omega
      have hPi : (P : Int) ≤ 16 := by omega
      clear h1 h2
      go_enter Tryz.func150, Tryz.ntmps150
      go_wp2
      go_loop [3] (fun d => ∃ D : Nat, d = .int .i64 D ∧ 2 ≤ D ∧ D ≤ P ∧ Hid (∀ j, 2 ≤ j → j < D → P % j ≠ 0)) (fun d => P - (intOf d).toNat)
      case atStart => exact ⟨2, rfl, by omega, by omega, hide (fun j h1 h2 => by omega)⟩
      case round =>
        obtain ⟨D, rfl, hD2, hDP, hno⟩ := hrel
        by_cases hlt : D < P
        · have hq1 := tmod_n P D
          have hb0 : ((D : Int) == 0) = false := by simp; omega
          have hr := Nat.mod_lt P (show 0 < D by omega)
          by_cases hz : P % D = 0
          · have hv := hide (prime_no hP hD2 hlt hz)
            rw [hz] at hq1
            clear hr
            go_wp2
            go_ret
            exact ⟨by rw [hv.out]; rfl, rfl⟩
          · have hno' : Hid (∀ j, 2 ≤ j → j < D + 1 → P % j ≠ 0) := hide (fun j h1 h2 => by
              by_cases e : j = D
              · subst e; exact hz
              · exact hno.out j h1 (by omega))
            have hz' : ¬ (((P % D : Nat) : Int) = 0) := by omega
            have hz2 : (((P % D : Nat) : Int) == 0) = false := by rw [beq_eq_false_iff_ne]; exact hz'
            generalize P % D = r at *
            have hw1 : IntKind.i64.wrap (r : Int) = r := IntWalk.i64_in _ (by omega)
            go_wp2
            go_round
            case rel => exact ⟨D + 1, by go_num, by omega, by omega, hno'⟩
            case measure => simp [intOf]; omega
        · obtain rfl : D = P := by omega
          have hv := hide (prime_yes hP hP2 hno.out)
          go_wp2_with (go_at_call 95; refine (l1In_t _ _ _ _ (by omega) (by omega)).mono ?_; rintro e w' ⟨rfl, rfl⟩)
          go_ret
          exact ⟨by rw [hv.out]; rfl, rfl⟩

/-- Prime or not, as a result that the walk knows. -/
theorem specPrime_is {p : Int} {b : Bool} (h : prmI p = b) (w : World) : Calls Tryz.prog 150 #[.int .i64 p] w fun e w' => e = .returned (.bool b) ∧ w = w' := h ▸ specPrime p w

set_option maxHeartbeats 400000 in
theorem specAll (n p : Int) (w : World) : Calls Tryz.prog 153 #[.int .i64 n, .int .i64 p] w fun e w' => e = .returned (.int .i64 (allV n p)) ∧ w = w' := by
  cases hpr : prmI p with
  | false =>
    rw [allV_bad (.inr (.inr hpr))]
    have hP := fun w => specPrime_is hpr w
    clear hpr
    go_enter Tryz.func153, Tryz.ntmps153
    go_wp2_with (go_at_call 150; refine (hP _).mono ?_; rintro e w' ⟨rfl, rfl⟩)
    go_ret
    exact ⟨rfl, rfl⟩
  | true =>
    have hP := fun w => specPrime_is hpr w
    by_cases hbad : n < 0 ∨ 999999999 < n
    · rw [allV_bad (hbad.imp id .inl)]
      clear hpr
      go_enter Tryz.func153, Tryz.ntmps153
      go_wp2_with (first | (go_at_call 150; refine (hP _).mono ?_; rintro e w' ⟨rfl, rfl⟩) | (go_at_call 95; refine (l1In_f _ _ _ _ (by omega)).mono ?_; rintro e w' ⟨rfl, rfl⟩))
      go_ret
      exact ⟨rfl, rfl⟩
    · obtain ⟨B, rfl, hB⟩ := prmI_t hpr
      obtain ⟨N, rfl⟩ : ∃ N : Nat, n = N := ⟨n.toNat, by omega⟩
      have hN : N ≤ 999999999 := by omega
      rw [allV_nat hN hB]
      have hB2 := (prm_two hB).1
      have hB13 := (prm_two hB).2
      have hlt := tup_le hB2 N
      obtain ⟨S, hS⟩ : ∃ S, tup B N = S := ⟨_, rfl⟩
      rw [hS] at hlt ⊢
      have hS0 : 0 + tup B N = S := by omega
      clear hS hbad hpr
      go_enter Tryz.func153, Tryz.ntmps153
      go_wp2_with (first | (go_at_call 150; refine (hP _).mono ?_; rintro e w' ⟨rfl, rfl⟩) | (go_at_call 95; refine (l1In_t _ _ _ _ (by omega) (by omega)).mono ?_; rintro e w' ⟨rfl, rfl⟩))
      clear hP
      go_loop [0, 5] (fun n s => ∃ m t : Nat, n = .int .i64 m ∧ s = .int .i64 t ∧ m ≤ N ∧ t + tup B m = S) (fun n _ => (intOf n).toNat)
      case atStart => exact ⟨N, 0, rfl, rfl, Nat.le_refl _, hS0⟩
      case round =>
        clear hS0
        obtain ⟨m, t, rfl, rfl, hm, hs⟩ := hrel
        by_cases hlt : 0 < m
        · rw [tup_pos hB2 hlt] at hs
          have hq2 := tdiv_n m B
          have hb0 : ((B : Int) == 0) = false := by simp; omega
          have hdl := Nat.div_lt_self hlt hB2
          generalize m / B = q at *
          have hs' := hide hs
          have hts : t + q ≤ S := by omega
          clear hs
          have hw2 : IntKind.i64.wrap (q : Int) = q := IntWalk.i64_in _ (by omega)
          go_wp2
          go_round
          case rel => exact ⟨q, t + q, rfl, by go_num, by omega, by have := hs'.out; omega⟩
          case measure => simp [intOf]; omega
        · obtain rfl : m = 0 := by omega
          rw [tup_zero] at hs
          obtain rfl : t = S := by omega
          clear hs
          go_wp2
          go_ret
          exact ⟨rfl, rfl⟩

set_option maxHeartbeats 400000 in
theorem specCellT (row place p : Int) (w : World) : Calls Tryz.prog 118 #[.int .i64 row, .int .i64 place, .int .i64 p] w fun e w' => e = .returned (.int .i64 (cellTV row place p)) ∧ w = w' := by
  cases hpr : prmI p with
  | false =>
    rw [cellTV_bad (.inr (.inr (.inr (.inr hpr))))]
    have hP := fun w => specPrime_is hpr w
    clear hpr
    go_enter Tryz.func118, Tryz.ntmps118
    go_wp2_with (go_at_call 150; refine (hP _).mono ?_; rintro e w' ⟨rfl, rfl⟩)
    go_ret
    exact ⟨rfl, rfl⟩
  | true =>
    have hP := fun w => specPrime_is hpr w
    by_cases h1 : row < 0 ∨ 499999999 < row
    · rw [cellTV_bad (h1.imp id .inl)]
      clear hpr
      go_enter Tryz.func118, Tryz.ntmps118
      go_wp2_with (first | (go_at_call 150; refine (hP _).mono ?_; rintro e w' ⟨rfl, rfl⟩) | (go_at_call 95; refine (l1In_f _ _ _ _ (by omega)).mono ?_; rintro e w' ⟨rfl, rfl⟩))
      go_ret
      exact ⟨rfl, rfl⟩
    · by_cases h2 : place < 0 ∨ row < place
      · rw [cellTV_bad (.inr (.inr (h2.imp id .inl)))]
        clear hpr
        go_enter Tryz.func118, Tryz.ntmps118
        go_wp2_with (first | (go_at_call 150; refine (hP _).mono ?_; rintro e w' ⟨rfl, rfl⟩) | (go_at_call 95; refine (l1In_t _ _ _ _ (by omega) (by omega)).mono ?_; rintro e w' ⟨rfl, rfl⟩) | (go_at_call 95; refine (l1In_f _ _ _ _ (by omega)).mono ?_; rintro e w' ⟨rfl, rfl⟩))
        go_ret
        exact ⟨rfl, rfl⟩
      · obtain ⟨B, rfl, hB⟩ := prmI_t hpr
        obtain ⟨N, rfl⟩ : ∃ N : Nat, row = N := ⟨row.toNat, by omega⟩
        obtain ⟨K, rfl⟩ : ∃ K : Nat, place = K := ⟨place.toNat, by omega⟩
        have hN : N ≤ 499999999 := by omega
        have hK : K ≤ N := by omega
        have hB2 := (prm_two hB).1
        obtain ⟨R, hR⟩ : ∃ R, N - K = R := ⟨_, rfl⟩
        have hRi : (N : Int) - (K : Int) = (R : Int) := by omega
        have e1 : ∀ w, Calls Tryz.prog 153 #[.int .i64 N, .int .i64 B] w fun e w' => e = .returned (.int .i64 (tup B N)) ∧ w = w' := fun w => by simpa [allV_nat (show N ≤ 999999999 by omega) hB] using specAll N B w
        have e2 : ∀ w, Calls Tryz.prog 153 #[.int .i64 K, .int .i64 B] w fun e w' => e = .returned (.int .i64 (tup B K)) ∧ w = w' := fun w => by simpa [allV_nat (show K ≤ 999999999 by omega) hB] using specAll K B w
        have e3 : ∀ w, Calls Tryz.prog 153 #[.int .i64 R, .int .i64 B] w fun e w' => e = .returned (.int .i64 (tup B R)) ∧ w = w' := fun w => by simpa [allV_nat (show R ≤ 999999999 by omega) hB] using specAll R B w
        have hc := tup_cars hB2 hK
        rw [cellTV_nat hN hK hB]
        rw [hR] at hc
        have hl := tup_le hB2 N
        generalize tup B N = T1 at *
        generalize tup B K = T2 at *
        generalize tup B R = T3 at *
        generalize cars B N K = C at *
        have hv := hide (show (T1 : Int) - T2 - T3 = C by omega)
        have hl1 : (T1 : Int) ≤ 499999999 := by omega
        have hl2 : (T2 : Int) ≤ 499999999 := by omega
        have hl3 : (T3 : Int) ≤ 499999999 := by omega
        clear hc hR h1 h2 hpr hl
        go_enter Tryz.func118, Tryz.ntmps118
        go_wp2_with (first | (go_at_call 150; refine (hP _).mono ?_; rintro e w' ⟨rfl, rfl⟩) | (go_at_call 95; refine (l1In_t _ _ _ _ (by omega) (by omega)).mono ?_; rintro e w' ⟨rfl, rfl⟩) | (go_at_call 153; (with_reducible refine (e1 _).mono ?_); rintro e w' ⟨rfl, rfl⟩) | (go_at_call 153; (with_reducible refine (e2 _).mono ?_); rintro e w' ⟨rfl, rfl⟩) | (go_at_call 153; (with_reducible refine (e3 _).mono ?_); rintro e w' ⟨rfl, rfl⟩))
        go_ret
        exact ⟨ret_int hv.out, rfl⟩

set_option maxHeartbeats 1000000 in
theorem specWaysOf (up : Int) (w : World) : Calls Tryz.prog 115 #[.int .i64 up] w fun e w' => e = .returned (.int .i64 (waysV up)) ∧ Below w.heap.size w w' := by
  by_cases hbad : up < 0 ∨ 30 < up
  · rw [waysV_bad hbad]
    go_enter Tryz.func115, Tryz.ntmps115
    go_wp2_with (go_at_call 95; refine (l1In_f _ _ _ _ (by omega)).mono ?_; rintro e w' ⟨rfl, rfl⟩)
    go_ret
    exact ⟨rfl, Below.refl _ _⟩
  · obtain ⟨u, rfl⟩ : ∃ u : Nat, up = u := ⟨up.toNat, by omega⟩
    have hu : u ≤ 30 := by omega
    have hv := hide (waysV_nat hu)
    have hC : ∀ w, Calls Tryz.prog 113 #[.int .i64 (2 * (u : Int)), .int .i64 u] w fun e w' => e = .returned (.int .i64 (bin (2 * u) u : Nat)) ∧ Below w.heap.size w w' := fun w => by
      have h := specCell ((2 * u : Nat) : Int) u w
      rwa [cellV_nat (by omega), show ((2 * u : Nat) : Int) = 2 * (u : Int) by omega] at h
    have hb := bin_le (2 * u) u
    have hb2 : (2 : Nat) ^ (2 * u) ≤ 1152921504606846976 := Nat.le_trans (Nat.pow_le_pow_right (by omega) (show 2 * u ≤ 60 by omega)) (by decide)
    have hq := tdiv_n (bin (2 * u) u) (u + 1)
    have hc : bin (2 * u) u / (u + 1) = catN u := rfl
    have hd := Nat.div_le_self (bin (2 * u) u) (u + 1)
    rw [hc] at hq hd
    have hq' : Int.tdiv ((bin (2 * u) u : Nat) : Int) ((u : Int) + 1) = (catN u : Int) := hq
    generalize bin (2 * u) u = B at *
    generalize catN u = C at *
    have hw1 : IntKind.i64.wrap (C : Int) = C := IntWalk.i64_in _ (by omega)
    have hz : ((u : Int) + 1 == 0) = false := by simp; omega
    clear hbad hc hq
    go_enter Tryz.func115, Tryz.ntmps115
    go_wp2_with (first | (go_at_call 95; refine (l1In_t _ _ _ _ (by omega) (by omega)).mono ?_; rintro e w' ⟨rfl, rfl⟩) | (go_at_call 113; (with_reducible refine (hC _).mono ?_); rintro e w1 ⟨rfl, hB⟩))
    go_ret
    exact ⟨ret_int hv.out.symm, hB⟩

set_option maxHeartbeats 800000 in
theorem specCarries (x y b : Int) (w : World) : Calls Tryz.prog 119 #[.int .i64 x, .int .i64 y, .int .i64 b] w fun e w' => e = .returned (.int .i64 (carriesV x y b)) ∧ Below w.heap.size w w' := by
  by_cases hbad : bad2 x y b
  · rw [carriesV_bad hbad]
    unfold bad2 at hbad
    by_cases h1 : x < 0 ∨ 499999999 < x
    case' neg => by_cases h2 : y < 0 ∨ 499999999 < y
    all_goals
      go_enter Tryz.func119, Tryz.ntmps119
      go_wp2_with (first | (go_at_call 95; refine (l1In_t _ _ _ _ (by omega) (by omega)).mono ?_; rintro e w' ⟨rfl, rfl⟩) | (go_at_call 95; refine (l1In_f _ _ _ _ (by omega)).mono ?_; rintro e w' ⟨rfl, rfl⟩))
      go_ret
      exact ⟨rfl, Below.refl _ _⟩
  · unfold bad2 at hbad
    obtain ⟨X, rfl⟩ : ∃ N : Nat, x = N := ⟨x.toNat, by omega⟩
    obtain ⟨Y, rfl⟩ : ∃ N : Nat, y = N := ⟨y.toNat, by omega⟩
    obtain ⟨B, rfl⟩ : ∃ B : Nat, b = B := ⟨b.toNat, by omega⟩
    have hX : X ≤ 499999999 := by omega
    have hY : Y ≤ 499999999 := by omega
    have hB : 2 ≤ B := by omega
    have hB2 : B ≤ 16 := by omega
    rw [carriesV_nat hX hY hB hB2]
    clear hbad
    have hsl : carL B 0 (pairs B X Y) ≤ X + Y := Nat.le_trans (carL_le 0 _ (by omega) (pairs_lt hB X Y)) (pairs_len hB X Y)
    obtain ⟨S, hS⟩ : ∃ S, carL B 0 (pairs B X Y) = S := ⟨_, rfl⟩
    rw [hS] at hsl ⊢
    have hS' := hide (show 0 + carL B 0 (pairs B X Y) = S by omega)
    clear hS
    go_enter Tryz.func119, Tryz.ntmps119
    go_wp2_with (go_at_call 95; refine (l1In_t _ _ _ _ (by omega) (by omega)).mono ?_; rintro e w' ⟨rfl, rfl⟩)
    go_loopw [0, 1, 7, 8, 9] (fun p q s c d wr => ∃ m k t h : Nat, p = .int .i64 m ∧ q = .int .i64 k ∧ s = .int .i64 t ∧ c = .int .i64 h ∧ d = d ∧ m ≤ X ∧ k ≤ Y ∧ h ≤ 1 ∧ t + carL B h (pairs B m k) = S ∧ Below w.heap.size w wr) (fun p q _ c _ _ => (intOf p).toNat + (intOf q).toNat + (intOf c).toNat)
    case atStart => exact ⟨X, Y, 0, 0, rfl, rfl, rfl, rfl, rfl, Nat.le_refl _, Nat.le_refl _, by omega, hS'.out, Below.refl _ _⟩
    case round =>
      clear hS'
      obtain ⟨m, k, t, h, rfl, rfl, rfl, rfl, _, hm, hk, hh, hs, hBl⟩ := hrel
      have hb0 : ((B : Int) == 0) = false := by simp; omega
      by_cases hlt : 0 < m + k
      · rw [pairs_pos hB hlt] at hs
        simp only [carL] at hs
        have hq1 := tmod_nat' m B
        have hq2 := tdiv_nat' m B
        have hq3 := tmod_nat' k B
        have hq4 := tdiv_nat' k B
        have hr1 := Nat.mod_lt m (show 0 < B by omega)
        have hr2 := Nat.mod_lt k (show 0 < B by omega)
        have hd1 := Nat.div_le_self m B
        have hd2 := Nat.div_le_self k B
        have hone := one_carry hr1 hr2 hh
        have hst := div_mod B (m % B + k % B + h)
        have hst1 := div_mod B m
        have hst2 := div_mod B k
        have hdm := two_mul_le (q := m / B) hB
        have hdk := two_mul_le (q := k / B) hB
        generalize B * (m / B) = Bm at *
        generalize B * (k / B) = Bk at *
        generalize m % B = r1 at *
        generalize m / B = q1 at *
        generalize k % B = r2 at *
        generalize k / B = q2 at *
        have hw1 : IntKind.i64.wrap (r1 : Int) = r1 := IntWalk.i64_in _ (by omega)
        have hw2 : IntKind.i64.wrap (q1 : Int) = q1 := IntWalk.i64_in _ (by omega)
        have hw3 : IntKind.i64.wrap (r2 : Int) = r2 := IntWalk.i64_in _ (by omega)
        have hw4 : IntKind.i64.wrap (q2 : Int) = q2 := IntWalk.i64_in _ (by omega)
        have hw5 : IntKind.i64.wrap ((r1 : Int) + r2) = (r1 : Int) + r2 := IntWalk.i64_in _ (by omega)
        have hw6 : IntKind.i64.wrap ((r1 : Int) + r2 + h) = (r1 : Int) + r2 + h := IntWalk.i64_in _ (by omega)
        have hmod := Nat.mod_lt (r1 + r2 + h) (show 0 < B by omega)
        generalize (r1 + r2 + h) % B = e at *
        generalize (r1 + r2 + h) / B = g at *
        rcases (show g = 0 ∨ g = 1 by omega) with rfl | rfl
        · rw [Nat.mul_zero] at hst
          have hlow : (r1 : Int) + r2 + h < B := by omega
          have hs' := hide (show t + carL B 0 (pairs B q1 q2) = S by omega)
          have hmeas : q1 + q2 + 0 < m + k + h := by omega
          clear hs hst hone
          by_cases hm0 : 0 < m
          all_goals
            have hk0 : 0 < m ∨ 0 < k := by omega
            go_wp2
            go_quiet (fail)
            go_wp2
            go_roundw
            case rel => exact ⟨q1, q2, t, 0, rfl, rfl, rfl, rfl, trivial, by omega, by omega, by omega, hs'.out, ⟨hBl.os, hBl.tape, hBl.output, hBl.size, hBl.block⟩⟩
            case measure => simp [intOf]; omega
        · rw [Nat.mul_one] at hst
          have hlow : (B : Int) ≤ (r1 : Int) + r2 + h := by omega
          have hs' := hide (show t + 1 + carL B 1 (pairs B q1 q2) = S by omega)
          have hts : t + 1 ≤ S := by omega
          have hmeas : q1 + q2 + 1 < m + k + h := by omega
          clear hs hst hone
          by_cases hm0 : 0 < m
          all_goals
            have hk0 : 0 < m ∨ 0 < k := by omega
            go_wp2
            go_quiet (fail)
            go_wp2
            go_roundw
            case rel => exact ⟨q1, q2, t + 1, 1, rfl, rfl, by go_num, rfl, trivial, by omega, by omega, by omega, hs'.out, ⟨hBl.os, hBl.tape, hBl.output, hBl.size, hBl.block⟩⟩
            case measure => simp [intOf]; omega
      · obtain ⟨rfl, rfl⟩ : m = 0 ∧ k = 0 := by omega
        rw [pairs_zero] at hs
        simp only [carL] at hs
        obtain rfl : t = S := by omega
        clear hs
        have hz1 : Int.tmod 0 (B : Int) = 0 := by simp
        have hz2 : Int.tdiv 0 (B : Int) = 0 := by simp
        have h1B : (1 : Int) < B := by omega
        rcases (show h = 0 ∨ h = 1 by omega) with rfl | rfl
        · go_wp2
          go_ret
          exact ⟨rfl, hBl⟩
        · go_wp2
          go_quiet (fail)
          go_wp2
          go_roundw
          case rel => exact ⟨0, 0, t, 0, rfl, rfl, rfl, rfl, trivial, by omega, by omega, by omega, by rw [pairs_zero]; rfl, ⟨hBl.os, hBl.tape, hBl.output, hBl.size, hBl.block⟩⟩
          case measure => simp [intOf]
end Go.Proofs.YtiaaefapbcjgmaaGreatDoor
namespace Go.Proofs.YtiaaefapbcjgmaaGreatDoor
open Go.RowKit Go.Shelf
attribute [local go_sem] Oper.semAt_some

/-- A variable of one cell is read. -/
theorem loadVar_box {t : TypeId} {B : Nat} {v : Value} {w : World} (ht : (match Tryz.prog.underlying t with | some (.struct _) | some (.array _ _) => false | some _ => true | none => false) = true) (hb : Boxed w B t v) :
    (loadVar t ⟨B, 0, none⟩).run Tryz.prog w = .ok v w := by
  have hc := hb.cell
  have ha : (isAgg t).run Tryz.prog w = .ok false w := by
    unfold isAgg
    cases hu : Tryz.prog.underlying t with
    | none => rw [hu] at ht; cases ht
    | some d =>
      rw [Sem.run_bind, run_underlying hu w]
      rw [hu] at ht
      cases d <;> simp_all [Result.andThen]
  simp [loadVar, Sem.run_bind, ha, Result.andThen, hc]

theorem results_two {fn : Func} {p q : Tmp} {t u : TypeId} (h : fn.results = #[.cell p t, .cell q u]) (tmps : Array Value) (w : World) {B C : Nat} {v z : Value} (hp : tmps.getD p undef = .pointer (some ⟨B, 0, none⟩)) (hq : tmps.getD q undef = .pointer (some ⟨C, 0, none⟩))
    (hB : (loadVar t ⟨B, 0, none⟩).run Tryz.prog w = .ok v w) (hC : (loadVar u ⟨C, 0, none⟩).run Tryz.prog w = .ok z w) : (results fn tmps).run Tryz.prog w = .ok (.tuple #[v, z]) w := by
  have hp' : tmps[p]?.getD undef = .pointer (some ⟨B, 0, none⟩) := by simpa using hp
  have hq' : tmps[q]?.getD undef = .pointer (some ⟨C, 0, none⟩) := by simpa using hq
  simp [results, h, hp', hq', asAddr, hB, hC, Sem.run_bind, Result.andThen]

theorem box_at {W : World} {k : Nat} (t : TypeId) (v : Value) (h : W.heap.size = k) : Boxed (W.alloc (.cells #[v] t)) k t v := h ▸ Boxed.new W t v

theorem box_two {W : World} {B C : Nat} {t u : TypeId} {v z : Value} (hB : Boxed W B t v) (hC : Boxed W C u z) (h : B ≠ C) (v' z' : Value) :
    Boxed ((W.setCell ⟨B, 0, none⟩ v').setCell ⟨C, 0, none⟩ z') B t v' ∧ Boxed ((W.setCell ⟨B, 0, none⟩ v').setCell ⟨C, 0, none⟩ z') C u z' :=
  ⟨(hB.set v').kept (grown_cell _ _ _ _) (by simp; exact h), (hC.kept (grown_cell W B 0 v') (by simp; exact fun e => h e.symm)).set z'⟩

theorem box_int (B : Nat) (v : Value) {w : World} (hb : Boxed w B 3 v) : (loadVar 3 ⟨B, 0, none⟩).run Tryz.prog w = .ok v w := loadVar_box (by kernel_rfl) hb

theorem box_bool (B : Nat) (v : Value) {w : World} (hb : Boxed w B 4 v) : (loadVar 4 ⟨B, 0, none⟩).run Tryz.prog w = .ok v w := loadVar_box (by kernel_rfl) hb

/-- A ring that is not one. -/
theorem implEnd_no (v : Value) (xs : List Int) (w : World) (hv : Ints w v xs) (hl : xs.length ≤ 10000000) (hs : ringB xs = false) : Calls Tryz.prog 161 #[v] w fun e w' => e = .returned (.tuple #[.int .i64 (-1), .bool false]) ∧ Below w.heap.size w w' := by
  have hB0 : Below w.heap.size w ((w.alloc (.cells #[.int .i64 0] 3)).alloc (.cells #[.bool false] 4)) := ((Below.refl _ w).alloc (Nat.le_refl _) _).alloc (by simp) _
  have h2 : Boxed ((w.alloc (.cells #[.int .i64 0] 3)).alloc (.cells #[.bool false] 4)) w.heap.size 3 (.int .i64 0) := (Boxed.new w _ _).alloc _
  have h3 : Boxed ((w.alloc (.cells #[.int .i64 0] 3)).alloc (.cells #[.bool false] 4)) (w.heap.size + 1) 4 (.bool false) := box_at _ _ (by simp)
  have hS := implRing v xs _ (hv.below hB0) (by omega)
  rw [hs] at hS
  clear hv
  go_enter Tryz.func161, Tryz.ntmps161
  go_wp2_with (go_at_call 174; refine hS.mono ?_; clear hS; go_loud (rintro e w1 ⟨rfl, hB1⟩; have hx2 : Boxed w1 w.heap.size 3 (.int .i64 0) := (hB1.block _ h2.lt).trans h2; have hx3 : Boxed w1 (w.heap.size + 1) 4 (.bool false) := (hB1.block _ h3.lt).trans h3; have c2 := hx2.cell; have c3 := hx3.cell; have f2 := hx2.frozen; have f3 := hx3.frozen))
  obtain ⟨k2, k3⟩ := box_two hx2 hx3 (by omega) (.int .i64 (-1)) (.bool false)
  refine bodyPost_ret (results_two rfl _ _ rfl rfl (box_int _ _ k2) (box_bool _ _ k3)) rfl ⟨rfl, ?_⟩
  exact ((hB0.trans (hB1.mono hB0.size)).setCell (p := ⟨w.heap.size, 0, none⟩) (Nat.le_refl _) _).setCell (p := ⟨w.heap.size + 1, 0, none⟩) (by show w.heap.size ≤ w.heap.size + 1; omega) _

theorem cz_small {f : Nat → Nat} (hf : ∀ k, f k ≤ 100) (n : Nat) (i : Nat) (_ : i < 8) : cz f n i ≤ 1000000 := by
  unfold cz
  split
  · have := hf i; omega
  · omega

theorem cz_zero (f : Nat → Nat) (n x : Nat) (hn : n ≤ 8) : (∀ i, i < 8 → cz (dR f x) n i = 0) ↔ zeroB f n x = true := by
  rw [zeroB_iff]
  refine ⟨fun h j hj => ?_, fun h i _ => ?_⟩
  · have := h j (by omega)
    rwa [cz_in hj] at this
  · unfold cz
    split
    · exact h i (by assumption)
    · rfl

set_option maxRecDepth 100000 in
set_option maxHeartbeats 1000000 in
theorem implEnd_in (v : Value) (xs : List Int) (w : World) (hv : Ints w v xs) (hs : ringB xs = true) : Calls Tryz.prog 161 #[v] w fun e w' => e = .returned (.tuple #[.int .i64 (endI xs), .bool (endB xs)]) ∧ Below w.heap.size w w' := by
  have hlen := ringB_len hs
  have hB0 : Below w.heap.size w ((w.alloc (.cells #[.int .i64 0] 3)).alloc (.cells #[.bool false] 4)) := ((Below.refl _ w).alloc (Nat.le_refl _) _).alloc (by simp) _
  have h2 : Boxed ((w.alloc (.cells #[.int .i64 0] 3)).alloc (.cells #[.bool false] 4)) w.heap.size 3 (.int .i64 0) := (Boxed.new w _ _).alloc _
  have h3 : Boxed ((w.alloc (.cells #[.int .i64 0] 3)).alloc (.cells #[.bool false] 4)) (w.heap.size + 1) 4 (.bool false) := box_at _ _ (by simp)
  have hS := implRing v xs _ (hv.below hB0) (by omega)
  rw [hs] at hS
  have hO := fun w1 (hB : Below w.heap.size w w1) => circleOf_in v xs w1 (hv.below hB) hs
  have hf := ringF_le hs
  have hp := ringF_per (xs := xs)
  have hsome : ∀ r, r ≤ 2000 → zeroB (ringF xs) xs.length r = true → (∀ j, j < r → zeroB (ringF xs) xs.length j = false) → endI xs = r ∧ endB xs = true := fun r h1 h2 h3 => by
    have : endN xs = some r := by unfold endN; rw [if_pos hs, firstI_some]; exact ⟨by omega, h2, h3⟩
    unfold endI endB; rw [this]; exact ⟨rfl, rfl⟩
  have hnone : (∀ j, j < 2001 → zeroB (ringF xs) xs.length j = false) → endI xs = -1 ∧ endB xs = false := fun h => by
    have : endN xs = none := by unfold endN; rw [if_pos hs, firstI_none]; exact h
    unfold endI endB; rw [this]; exact ⟨rfl, rfl⟩
  have hsome' := hide hsome
  have hnone' := hide hnone
  clear hv hs hsome hnone
  generalize endI xs = I at *
  generalize endB xs = E at *
  generalize ringF xs = f at *
  generalize xs.length = n at *
  refine (callsIn_wide (n := 9)).1 ?_
  refine callsIn_of_wp_marks Tryz.func161 rfl trivial ?_ rfl
  simp only [Tryz.ntmps161, List.size_toArray, List.length_cons, List.length_nil, Nat.reduceAdd, Nat.reduceSub, Array.replicate_succ, Array.replicate_zero, List.push_toArray, List.append_toArray, List.nil_append, List.cons_append]
  have hD := fun w => roundsTo_in (cz f n) n 2000 w
  gi_wp2_with (first
    | (refine ⟨trivial, ?_⟩; gi_at_call 174; refine (callsIn_wide.2 hS).mono ?_; clear hS; go_loud (rintro e w1 ⟨rfl, hB1⟩; have hB1' := hB0.trans (hB1.mono hB0.size)))
    | (refine ⟨trivial, ?_⟩; gi_at_call 175; refine (callsIn_wide.2 (hO _ hB1')).mono ?_; clear hO; rintro e w4 ⟨rfl, hB4⟩)
    | (refine ⟨trivial, ?_⟩; gi_at_call 194; refine (callsIn_wide.2 (hD _)).mono ?_; clear hD; rintro e w' ⟨rfl, rfl⟩))
  obtain ⟨W0, hW0⟩ : ∃ W0, (w4.alloc (Obj.cells (crA (cz f n) n) 158)).alloc (Obj.cells #[Value.int IntKind.i64 2000] 3) = W0 := ⟨_, rfl⟩
  have hC0 : CrAt W0 w4.heap.size (cz f n) n := by rw [← hW0]; exact (CrAt.new w4 _ _).alloc _
  have hL0 : Boxed W0 (w4.heap.size + 1) 3 (.int .i64 (2000 : Nat)) := by
    rw [← hW0]
    have := Boxed.new (w4.alloc (Obj.cells (crA (cz f n) n) 158)) 3 (.int .i64 2000)
    rwa [World.size_alloc] at this
  have k2 : Boxed W0 w.heap.size 3 (.int .i64 0) := by
    rw [← hW0]
    have h12 : Boxed w1 w.heap.size 3 (.int .i64 0) := (hB1.block _ h2.lt).trans h2
    have h42 : Boxed w4 w.heap.size 3 (.int .i64 0) := (hB4.block _ h12.lt).trans h12
    exact (h42.alloc _).alloc _
  have k3 : Boxed W0 (w.heap.size + 1) 4 (.bool false) := by
    rw [← hW0]
    have h12 : Boxed w1 (w.heap.size + 1) 4 (.bool false) := (hB1.block _ h3.lt).trans h3
    have h42 : Boxed w4 (w.heap.size + 1) 4 (.bool false) := (hB4.block _ h12.lt).trans h12
    exact (h42.alloc _).alloc _
  have hBx : Below w.heap.size w w4 := hB1'.trans (hB4.mono hB1'.size)
  have hB0' : Below w.heap.size w W0 := by rw [← hW0]; exact (hBx.alloc hBx.size _).alloc (by simp; have := hBx.size; omega) _
  have hsz0 : w4.heap.size + 1 < W0.heap.size := by rw [← hW0]; simp
  have hlt3 : w.heap.size + 1 < W0.heap.size := k3.lt
  rw [hW0]
  clear hW0 hB4 hBx hB1 hB1' hB0 h2 h3
  generalize w4.heap.size = C at *
  refine wpIn_rangeFunc_box rfl (by omega) (gf := 218) (lb := #[.pointer (some ⟨C, 0, none⟩), .pointer (some ⟨C + 1, 0, none⟩)]) rfl trivial (enters_of Tryz.func218 (by kernel_rfl) rfl)
    (rounds_stops (9 - 1) C (C + 1) 2000 n f (by omega) hlen.1 hlen.2 hf hp (by omega) W0 hC0 hL0) (fun _ _ => rfl) (by omega)
    (fun ys W o h => h) (fun pre W o h => h)
    (fun pre W => Boxed W w.heap.size 3 (.int .i64 0) ∧ Boxed W (w.heap.size + 1) 4 (.bool false) ∧ Hid (∀ j ∈ pre, zeroB f n j = false) ∧ Below w.heap.size w W)
    (fun c pre W => ∃ r : Nat, c = .ret ∧ Boxed W w.heap.size 3 (.int .i64 r) ∧ Boxed W (w.heap.size + 1) 4 (.bool true) ∧ Hid (r ≤ 2000 ∧ zeroB f n r = true ∧ ∀ j, j < r → zeroB f n j = false) ∧ Below w.heap.size w W)
    (fun s A B' row hs hg hr => ⟨hs.1.kept hg (fun e => by have := hr _ e.symm; omega), hs.2.1.kept hg (fun e => by have := hr _ e.symm; omega), hs.2.2.1, hs.2.2.2.grown hg hs.2.2.2.size (fun k e => by have := hr _ e; omega)⟩)
    (fun c s A B' row hs hg hr => by
      obtain ⟨r, h1, h2, h3, h4, h5⟩ := hs
      exact ⟨r, h1, h2.kept hg (fun e => by have := hr _ e.symm; omega), h3.kept hg (fun e => by have := hr _ e.symm; omega), h4, h5.grown hg h5.size (fun k e => by have := hr _ e; omega)⟩) ⟨k2, k3, hide (by simp), hB0'⟩
    (fun pre x b W => ∃ k, b = { tmps := #[v, undef, .pointer (some ⟨w.heap.size, 0, none⟩), .pointer (some ⟨w.heap.size + 1, 0, none⟩), .int .i64 x, .pointer (some ⟨k, 0, none⟩), v, .bool true, .bool false, v, crV (cz f n) n,
      .func (.func 218) #[] #[.pointer (some ⟨C, 0, none⟩), .pointer (some ⟨C + 1, 0, none⟩)], .int .i64 x, crV (cz (dR f x) n) n, undef, undef, undef], defers := [] } ∧ (CrAt W k (cz (dR f x) n) n ∧ (Boxed W w.heap.size 3 (.int .i64 0) ∧ Boxed W (w.heap.size + 1) 4 (.bool false)) ∧ Below w.heap.size w W ∧ Hid (∀ j ∈ pre, zeroB f n j = false) ∧ Hid (pre = List.range x ∧ x ≤ 2000) ∧ W0.heap.size + 2 ≤ k))
    (fun pre x b W o ⟨k, hb, hO⟩ => ⟨k, hb, hO.1.of_block (World.putObj_heap_other (by have := hO.2.2.2.2.2; omega)), ⟨hO.2.1.1.kept (grownBy_putObj' W _ _) (by simp; omega), hO.2.1.2.kept (grownBy_putObj' W _ _) (by simp; omega)⟩, hO.2.2.1.grown (grownBy_putObj' W _ _) hO.2.2.1.size (fun k e => by cases e; omega), hO.2.2.2⟩) ?assign ?body ?done ?stop
  case assign =>
    rintro l pre x W Q' hlt ⟨hx2, hx3, hpz, hB⟩ ⟨hpre, hx⟩ hQ
    have hQ' := hide hQ
    clear hQ
    gi_wp2_with (refine store_crI rfl _ _ rfl W.heap.size _ _ rfl rfl (World.alloc_heap_new W _) rfl ?_; intro w6 hC6 hg6)
    have hgW := World.grownBy_alloc W (Obj.cells (crA (fun _ => 0) 0) 158) none
    have hg6' : (W.alloc (Obj.cells (crA (fun _ => 0) 0) 158)).grownBy w6 (some W.heap.size) := hg6
    exact hQ'.out _ _ ⟨Nat.le_trans hgW.size hg6'.size, fun q hq _ => (hg6'.block q (Nat.lt_of_lt_of_le hq hgW.size) (by simp; omega)).trans (hgW.block q hq (by simp))⟩
      ⟨W.heap.size, rfl, hC6, ⟨(hx2.kept hgW (by simp)).kept hg6' (by simp; omega), (hx3.kept hgW (by simp)).kept hg6' (by simp; omega)⟩, (hB.alloc hB.size _).grown hg6' (by simp; have := hB.size; omega) (fun _ e => by cases e; exact hB.size), hpz, hide ⟨hpre, hx⟩, by omega⟩
  case body =>
    rintro l pre x b W hlt ⟨k, rfl, hC, ⟨hx2, hx3⟩, hB, hpz, hpx, hk⟩
    have hE := fun V => ended_in (cz (dR f x) n) n (cz_small (hundred hf x) n) V
    have hzz := cz_zero f n x hlen.2
    have hzz' := hide hzz
    clear hzz
    cases hz : zeroB f n x with
    | true =>
      have hr := hide (show x ≤ 2000 ∧ zeroB f n x = true ∧ ∀ j, j < x → zeroB f n j = false from ⟨hpx.out.2, hz, fun j hj => hpz.out j (by rw [hpx.out.1]; simpa using hj)⟩)
      rw [hz] at hzz'
      clear hz
      gi_wp2_with (first
        | (refine load_crI rfl _ rfl k rfl hC ?_)
        | (refine ⟨trivial, ?_⟩; gi_at_call 195; refine (callsIn_wide.2 (hE _)).mono ?_; clear hE; go_loud (rintro e w6 ⟨⟨b, rfl, hb⟩, hB6⟩; obtain rfl : b = true := hb.2 (hzz'.out.2 (by simp)); clear hb; have k2 : Boxed w6 w.heap.size 3 (.int .i64 0) := (hB6.block _ hx2.lt).trans hx2; have k3 : Boxed w6 (w.heap.size + 1) 4 (.bool false) := (hB6.block _ hx3.lt).trans hx3; have c2 := k2.cell; have c3 := k3.cell; have f2 := k2.frozen; have f3 := k3.frozen)))
      obtain ⟨y2, y3⟩ := box_two k2 k3 (by omega) (.int .i64 x) (.bool true)
      exact ⟨⟨by simpa [World.setCell] using hB6.size, fun q hq _ => (Below.heap_setCell _ _ _ q (by simp; omega)).trans ((Below.heap_setCell _ _ _ q (by simp; omega)).trans (hB6.block q hq))⟩, x, rfl, y2, y3, hr,
        ((hB.trans (hB6.mono hB.size)).setCell (p := ⟨w.heap.size, 0, none⟩) (Nat.le_refl _) _).setCell (p := ⟨w.heap.size + 1, 0, none⟩) (by show w.heap.size ≤ w.heap.size + 1; omega) _⟩
    | false =>
      have hp' := hide (show ∀ j ∈ pre ++ [x], zeroB f n j = false from fun j hj => by
        rcases List.mem_append.1 hj with h | h
        · exact hpz.out j h
        · obtain rfl : j = x := by simpa using h
          exact hz)
      rw [hz] at hzz'
      simp only [Bool.false_eq_true] at hzz'
      clear hz
      gi_wp2_with (first
        | (refine load_crI rfl _ rfl k rfl hC ?_)
        | (refine ⟨trivial, ?_⟩; gi_at_call 195; refine (callsIn_wide.2 (hE _)).mono ?_; clear hE; go_loud (rintro e w6 ⟨⟨b, rfl, hb⟩, hB6⟩; obtain rfl : b = false := (by cases b; rfl; exact (hzz'.out.1 (hb.1 rfl)).elim); clear hb)))
      exact ⟨⟨hB6.size, fun q hq _ => hB6.block q hq⟩, (hB6.block _ hx2.lt).trans hx2, (hB6.block _ hx3.lt).trans hx3, hp', hB.trans (hB6.mono hB.size)⟩
  case done =>
    rintro ys W hys ⟨hx2, hx3, hpz, hB⟩ hK
    obtain rfl : ys = List.range 2001 := hys
    obtain ⟨rfl, rfl⟩ := hnone'.out fun j hj => hpz.out j (by simpa using hj)
    have hK0 := (Array.getElem?_eq_some_iff.1 hK).1
    have c2 := hx2.cell
    have c3 := hx3.cell
    have f2 := hx2.frozen
    have f3 := hx3.frozen
    gi_wp2
    obtain ⟨y2, y3⟩ := box_two hx2 hx3 (by omega) (.int .i64 (-1)) (.bool false)
    have hB2 := (hB.setCell (p := ⟨w.heap.size, 0, none⟩) (Nat.le_refl _) (.int .i64 (-1))).setCell (p := ⟨w.heap.size + 1, 0, none⟩) (by show w.heap.size ≤ w.heap.size + 1; omega) (.bool false)
    have hK2 : ((W.setCell ⟨w.heap.size, 0, none⟩ (.int .i64 (-1))).setCell ⟨w.heap.size + 1, 0, none⟩ (.bool false)).heap[W0.heap.size]? = some (.deferred (some [])) := (Below.heap_setCell _ _ _ _ (by simp; omega)).trans ((Below.heap_setCell _ _ _ _ (by simp; omega)).trans hK)
    refine ⟨by simp, .inl ⟨_, _, rfl, run_takeDeferred hK2, ?_⟩⟩
    refine ⟨_, results_two rfl _ _ rfl rfl (box_int _ _ (y2.kept (grownBy_putObj' _ _ _) (by simp; omega))) (box_bool _ _ (y3.kept (grownBy_putObj' _ _ _) (by simp; omega))), rfl, ?_⟩
    exact hB2.grown (grownBy_putObj' _ _ _) hB2.size (fun k e => by cases e; omega)
  case stop =>
    rintro cd pre W _ ⟨r, rfl, hx2, hx3, hr, hB⟩ hK
    obtain ⟨rfl, rfl⟩ := hsome'.out r hr.out.1 hr.out.2.1 hr.out.2.2
    gi_wp2
    refine ⟨by simp, .inl ⟨_, _, rfl, run_takeDeferred hK, ?_⟩⟩
    refine ⟨_, results_two rfl _ _ rfl rfl (box_int _ _ (hx2.kept (grownBy_putObj' _ _ _) (by simp; omega))) (box_bool _ _ (hx3.kept (grownBy_putObj' _ _ _) (by simp; omega))), rfl, ?_⟩
    exact hB.grown (grownBy_putObj' _ _ _) hB.size (fun k e => by cases e; omega)

theorem implEnd10 (v : Value) (xs : List Int) (w : World) (hv : Ints w v xs) (_hlies : Lies v) (hl : xs.length ≤ 10000000) : Calls Tryz.prog 161 #[v] w fun e w' => e = .returned (.tuple #[.int .i64 (endI xs), .bool (endB xs)]) ∧ Below w.heap.size w w' := by
  cases hs : ringB xs with
  | true => exact implEnd_in v xs w hv hs
  | false =>
    have h := implEnd_no v xs w hv hl hs
    have : endN xs = none := by unfold endN; rw [hs]; rfl
    unfold endI endB
    rw [this]
    exact h
end Go.Proofs.YtiaaefapbcjgmaaGreatDoor
namespace Go.Proofs.YtiaaefapbcjgmaaGreatDoor
open Go.RowKit Go.Maps

theorem keyI : Keyed Tryz.prog 3 := int_keyed Tryz.underlying3

theorem zeroI (w : World) : (zeroValue 3).run Tryz.prog w = .ok (.int .i64 0) w := by kernel_rfl

abbrev litI (z : Int) : Lit := .int .i64 z

abbrev datI (z : Int) : DataW Unit := .lit (.int .i64 z)

/-- A map of ints in block b that reads as D. -/
abbrev OwnM (w : World) (b n : Nat) (D : DataW Unit) : Prop := w.ownsMap Tryz.prog 3 (plainElem Tryz.prog 3) b n D
end Go.Proofs.YtiaaefapbcjgmaaGreatDoor
