/-
  The laws' helpers over desks that came in: toDesk; and marks over such a copy.
-/
import Derived.Test.YtimnhedjapakhaaLawKit10
namespace Go.Proofs.Ytimnhedjapakhaa
open Go.RowKit

theorem ArgI.below {W W' : World} {v : Value} {xs : List Int} (h : ArgI W v xs) (hB : Below W.heap.size W W') : ArgI W' v xs := by
  rcases h with h2 | ⟨b, of, cap, e2, hb, hcc⟩
  · exact .inl h2
  · exact .inr ⟨b, of, cap, e2, Nat.lt_of_lt_of_le hb hB.size, fun i hi => (hB.cell (p := ⟨b, of + i, .none⟩) hb).trans (hcc i hi)⟩
theorem ArgP.below {W W' : World} {v : Value} {rows : List (List Int)} (h : ArgP W v rows) (hB : Below W.heap.size W W') : ArgP W' v rows := by
  obtain ⟨a, c, e, h⟩ := h
  refine ⟨a, c, e, fun h0 => ?_⟩
  obtain ⟨G, o, e1, hG, hc⟩ := h h0
  refine ⟨G, o, e1, Nat.lt_of_lt_of_le hG hB.size, fun j hj => ?_⟩
  obtain ⟨u, h1, h2⟩ := hc j hj
  exact ⟨u, (hB.cell (p := ⟨G, o + j, .none⟩) hG).trans h1, h2.below hB⟩
theorem ArgD.below {W W' : World} {v : Value} {d : Dk} (h : ArgD W v d) (hB : Below W.heap.size W W') : ArgD W' v d := by
  obtain ⟨x, p, rfl, h1, h2⟩ := h
  exact ⟨x, p, rfl, h1.below hB, h2.below hB⟩
theorem ArgD.form {W : World} {v : Value} {d : Dk} (h : ArgD W v d) : ∃ a b c e, v = .agg #[.slice a d.1.length b, .slice c d.2.length e] := by
  obtain ⟨x, p, rfl, h1, a, c, rfl, _⟩ := h
  obtain ⟨x1, x2, rfl⟩ := h1.form
  exact ⟨_, _, _, _, rfl⟩
theorem own_set {W : World} {base n g c : Nat} {e : TypeId} {xs : List Value} (h : W.ownsRow base e 1 (.slice (some ⟨g, 0, none⟩) n c) n xs) {k : Nat} (hk : k < n) (z : Value) : (W.setCell ⟨g, k, none⟩ z).ownsRow base e 1 (.slice (some ⟨g, 0, none⟩) n c) n (xs.set k z) := by
  obtain ⟨hl, h2⟩ := h
  refine ⟨by rw [List.length_set]; exact hl, ?_⟩
  rcases h2 with ⟨e, h0⟩ | ⟨g', cap, cur, e, hb, hg, hc, hm, hs, ht⟩
  · omega
  · injection e with e1 e2 e3
    injection e1 with e1
    injection e1 with e1
    subst e1 e3
    obtain ⟨hlt, hk2⟩ := Array.getElem?_eq_some_iff.1 hg
    refine .inr ⟨g, c, cur.setIfInBounds k z, rfl, hb, ?_, hc, hm, by simpa using hs, ?_⟩
    · show (W.heap.modify g _)[g]? = _
      rw [Array.getElem?_eq_getElem (by rw [Array.size_modify]; exact hlt), Array.getElem_modify_self, hk2]; rfl
    · rw [Array.toList_setIfInBounds, List.take_set, ht]
theorem own_at {W : World} {base n g c : Nat} {e : TypeId} {xs : List Value} (h : W.ownsRow base e 1 (.slice (some ⟨g, 0, none⟩) n c) n xs) (k : Nat) (hk : k < n) : (∃ u, W.cell? ⟨g, k, none⟩ = some u) ∧ W.frozen? ⟨g, k, none⟩ = false := by
  rcases h.2 with ⟨e, h0⟩ | ⟨g', cap, cur, e, hb, hg, hc, hm, hs, ht⟩
  · omega
  · injection e with e1 e2 e3
    injection e1 with e1
    injection e1 with e1
    subst e1 e3
    have hkc : k < cur.size := by omega
    refine ⟨⟨cur[k]'hkc, ?_⟩, by unfold World.frozen?; rw [hg]; rfl⟩
    unfold World.cell?
    rw [hg]
    exact Array.getElem?_eq_getElem hkc

theorem own_blk12 {W : World} {base n : Nat} {e : TypeId} {v : Value} {xs : List Value} (h : W.ownsRow base e 1 v n xs) : v.ownBlock = .none ∨ ∃ b, v.ownBlock = some b ∧ base ≤ b ∧ b < W.heap.size := by
  rcases h.2 with ⟨rfl, _⟩ | ⟨b, cap, cur, rfl, hb, hg, _⟩
  · exact .inl rfl
  · exact .inr ⟨b, rfl, hb, (Array.getElem?_eq_some_iff.1 hg).1⟩
/-- Rows of one's own, no two in one block. -/
def OwnQ (W : World) (base : Nat) (v : Value) (rows : List (List Int)) : Prop :=
  ∃ us : List Value, us.length = rows.length ∧ W.ownsRow base 23 1 v us.length us ∧ (∀ j, j < rows.length → W.ownsRow base 3 1 (us.getD j undef) (rows.getD j []).length ((rows.getD j []).map (Value.int .i64))) ∧
    ∀ i j, i < j → j < rows.length → (us.getD i undef).ownBlock = .none ∨ (us.getD i undef).ownBlock ≠ (us.getD j undef).ownBlock
theorem OwnQ.ownSS {W : World} {base : Nat} {v : Value} {rows : List (List Int)} (h : OwnQ W base v rows) : OwnSS W base v rows := by
  obtain ⟨us, h1, h2, h3, _⟩ := h
  exact ⟨us, h1, h2, h3⟩
theorem OwnQ.old {W W' : World} {base b : Nat} {v : Value} {rows : List (List Int)} (h : OwnQ W base v rows) (hb : b < base) (hg : W.grownBy W' (some b)) : OwnQ W' base v rows := by
  obtain ⟨us, l, o, r, ne⟩ := h
  exact ⟨us, l, own_kept o hg (own_old o hb), fun j hj => own_kept (r j hj) hg (own_old (r j hj) hb), ne⟩
theorem OwnQ.down {W : World} {base base' : Nat} {v : Value} {rows : List (List Int)} (h : OwnQ W base v rows) (hb : base' ≤ base) : OwnQ W base' v rows := by
  obtain ⟨us, l, o, r, ne⟩ := h
  exact ⟨us, l, own_from o hb, fun j hj => own_from (r j hj) hb, ne⟩
theorem OwnQ.below {W W' : World} {base : Nat} {v : Value} {rows : List (List Int)} (h : OwnQ W base v rows) (hB : Below W.heap.size W W') : OwnQ W' base v rows := by
  obtain ⟨us, l, o, r, ne⟩ := h
  exact ⟨us, l, own_below o hB, fun j hj => own_below (r j hj) hB, ne⟩
/-- The rows that have been copied. -/
structure Tss (w : World) (n : Nat) (rows : List (List Int)) (k : Nat) (W : World) : Prop where
  below : Below w.heap.size w W
  own : ∃ us : List Value, us.length = n ∧ W.ownsRow w.heap.size 23 1 (.slice (some ⟨w.heap.size, 0, none⟩) n n) n us ∧ (∀ j, j < k → W.ownsRow w.heap.size 3 1 (us.getD j undef) (rows.getD j []).length ((rows.getD j []).map (Value.int .i64))) ∧ ∀ i j, i < j → j < k → (us.getD i undef).ownBlock = .none ∨ (us.getD i undef).ownBlock ≠ (us.getD j undef).ownBlock
theorem Tss.next {w : World} {n : Nat} {rows : List (List Int)} {k : Nat} {W V : World} {u : Value} (h : Tss w n rows k W) (hk : k < n) (hV : Below W.heap.size W V) (hu : V.ownsRow W.heap.size 3 1 u (rows.getD k []).length ((rows.getD k []).map (Value.int .i64))) :
    ((∃ z, V.cell? ⟨w.heap.size, k, none⟩ = some z) ∧ V.frozen? ⟨w.heap.size, k, none⟩ = false) ∧ Tss w n rows (k + 1) (V.setCell ⟨w.heap.size, k, .none⟩ u) := by
  obtain ⟨hB, us, hl, ho, hr, hne⟩ := h
  have hoV := own_below ho hV
  have hs := grownBy_setAt V w.heap.size k u
  have huV := own_from hu hB.size
  refine ⟨own_at hoV k hk, ⟨(hB.trans (hV.mono hB.size)).setCell (p := ⟨w.heap.size, k, .none⟩) (Nat.le_refl _) _, us.set k u, by rw [List.length_set]; exact hl, own_set hoV hk u, fun j hj => ?_, fun i j hij hj => ?_⟩⟩
  rotate_left
  · have hi' : (us.set k u).getD i undef = us.getD i undef := by rw [List.getD, List.getElem?_set, if_neg (by omega)]; rfl
    rw [hi']
    by_cases e : j = k
    · subst e
      have hk' : (us.set j u).getD j undef = u := by rw [List.getD, List.getElem?_set, if_pos rfl, if_pos (by omega)]; rfl
      rw [hk']
      rcases own_blk12 (hr i (by omega)) with e1 | ⟨b1, e1, _, hb1⟩
      · exact .inl e1
      · refine .inr (fun e4 => ?_)
        rw [e1] at e4
        rcases own_blk12 hu with e5 | ⟨b5, e5, hb5, _⟩
        · rw [e5] at e4; cases e4
        · rw [e5] at e4; injection e4 with e4; omega
    · have hj' : (us.set k u).getD j undef = us.getD j undef := by rw [List.getD, List.getElem?_set, if_neg (fun h => e h.symm)]; rfl
      rw [hj']
      exact hne i j hij (by omega)
  by_cases e : j = k
  · subst e
    rw [List.getD, List.getElem?_set, if_pos rfl, if_pos (by omega)]
    exact huV.kept hs (by rcases own_apart huV hoV with h | h
                          · exact .inl h
                          · exact .inr (fun e => h (by rw [e]; rfl)))
  · rw [List.getD, List.getElem?_set, if_neg (fun h => e h.symm)]
    have hj2 := own_below (hr j (by omega)) hV
    exact hj2.kept hs (by rcases own_apart hj2 hoV with h | h
                          · exact .inl h
                          · exact .inr (fun e => h (by rw [e]; rfl)))

set_option maxRecDepth 100000 in
set_option maxHeartbeats 1000000 in
theorem toSS_in (W0 : World) (v : Value) (rows : List (List Int)) (w : World) (hv : ArgP W0 v rows) (hB : Below W0.heap.size W0 w) (hn : rows.length ≤ 1048576) (hln : ∀ j, j < rows.length → (rows.getD j []).length ≤ 1048576) : Calls Try.prog 53 #[v] w fun e w' =>
    ∃ r, e = .returned r ∧ OwnQ w' w.heap.size r rows ∧ Below w.heap.size w w' := by
  obtain ⟨a, c, rfl, hr⟩ := hv
  obtain ⟨i0, hi, hz0, hz1, hz2⟩ := info_rows Try.infoRow
  obtain ⟨n, hN⟩ : ∃ n, rows.length = n := ⟨_, rfl⟩
  rw [hN] at hr hn hln ⊢
  go_enter Try.func53, Try.ntmps53
  go_wp2_with (at_make; go_loud (refine wpList_make_full _ rfl _ _ 24 rfl w.heap.size 23 i0 (.slice none 0 0) 1 Try.underlying24 hi hz0 hz1 .i64 .i64 n n n rfl rfl rfl rfl (by rw [hz2]; omega) (by unfold maxLen; omega) (Nat.le_refl _) ?_); intro w1 hown hg1)
  have hT : Tss w n rows 0 w1 := ⟨(Below.refl _ w).grown hg1 (Nat.le_refl _) (fun _ e => by cases e), _, by have := hown.1; simpa using this, hown, fun j hj => absurd hj (Nat.not_lt_zero j), fun _ j _ hj => absurd hj (Nat.not_lt_zero j)⟩
  clear hown hg1
  go_loopw [4] (fun i wr => ∃ k : Nat, k ≤ n ∧ i = .int .i64 k ∧ Tss w n rows k wr) (fun i _ => n - (intOf i).toNat)
  case atStart => exact ⟨0, by omega, rfl, hT⟩
  case round =>
    clear hT
    obtain ⟨k, hk, rfl, hT⟩ := hrel
    by_cases hlt : k < n
    · obtain ⟨G, o, rfl, hG, hc⟩ := hr (by omega)
      obtain ⟨u, huc, hu⟩ := hc k hlt
      have hBw := hB.trans (hT.below.mono hB.size)
      have hcc := (hBw.cell (p := ⟨G, o + k, none⟩) hG).trans huc
      have hI := toIntS_in W0 u (rows.getD k []) wr hu hBw (by have := hln k hlt; omega)
      obtain ⟨ua, uc, rfl⟩ := hu.form
      have hki : (k : Int) < (n : Int) := by omega
      have hT' := hide hT
      have hN' := hide hN
      clear hc hu hr huc hln hT hN
      go_wp2_with (go_at_call 52; go_loud (refine hI.mono ?_; clear hI; rintro e w3 ⟨r, rfl, hr3, hB3⟩; obtain ⟨⟨⟨z, hz⟩, hf⟩, hT3⟩ := hT'.out.next hlt hB3 hr3; obtain ⟨ra, rc, rfl⟩ := own_form hr3; clear hr3 hB3))
      go_roundw
      case rel => exact ⟨k + 1, by omega, by go_num, hT3⟩
      case measure => simp [intOf]; omega
    · obtain rfl : k = n := by omega
      have hki : ¬ ((k : Nat) : Int) < (k : Int) := by omega
      obtain ⟨hBf, us, hl, ho, hr2, hne2⟩ := hT
      have hN' := hide hN
      clear hr hln hN
      go_wp2
      go_ret
      exact ⟨_, rfl, ⟨us, by rw [hl, hN'.out], by rw [hl]; exact ho, fun j hj => hr2 j (by rw [hN'.out] at hj; exact hj), fun i j hij hj => hne2 i j hij (by rw [hN'.out] at hj; exact hj)⟩, hBf⟩

theorem toDesk_step {w W1 W2 : World} {x p z1 z2 r : Value} {n : Nat} {xs : List Value} (hB : Below w.heap.size w W1) (hs : w.heap.size + 3 ≤ W1.heap.size) (k0 : W1.heap[w.heap.size]? = some (.cells #[x, p] 44 (0, 0))) (k1 : W1.heap[w.heap.size + 1]? = some (.cells #[.slice none 0 0, .slice none 0 0] 26 (0, 0)))
    (k2 : W1.heap[w.heap.size + 2]? = some (.cells #[z1, z2] 26 (0, 0))) (hr : W2.ownsRow W1.heap.size 3 1 r n xs) (hB2 : Below W1.heap.size W1 W2) :
    Below w.heap.size w (W2.setCell ⟨w.heap.size + 2, 0, none⟩ r) ∧ (W2.setCell ⟨w.heap.size + 2, 0, none⟩ r).heap[w.heap.size]? = some (.cells #[x, p] 44 (0, 0)) ∧ (W2.setCell ⟨w.heap.size + 2, 0, none⟩ r).heap[w.heap.size + 1]? = some (.cells #[.slice none 0 0, .slice none 0 0] 26 (0, 0)) ∧
    (W2.setCell ⟨w.heap.size + 2, 0, none⟩ r).heap[w.heap.size + 2]? = some (.cells #[r, z2] 26 (0, 0)) ∧ (W2.setCell ⟨w.heap.size + 2, 0, none⟩ r).ownsRow (w.heap.size + 3) 3 1 r n xs ∧ w.heap.size + 3 ≤ (W2.setCell ⟨w.heap.size + 2, 0, none⟩ r).heap.size := by
  have hg := grownBy_setAt W2 (w.heap.size + 2) 0 r
  have hz := hB2.size
  have hz3 := hg.size
  refine ⟨(hB.trans (hB2.mono hB.size)).setCell (p := ⟨w.heap.size + 2, 0, none⟩) (by show w.heap.size ≤ w.heap.size + 2; omega) r, ?_, ?_, set_cells ((hB2.block _ (by omega)).trans k2) 0 r, ?_, by omega⟩
  · exact (hg.block _ (by omega) (fun e => by injection e with e; omega)).trans ((hB2.block _ (by omega)).trans k0)
  · exact (hg.block _ (by omega) (fun e => by injection e with e; omega)).trans ((hB2.block _ (by omega)).trans k1)
  · exact own_from (own_kept hr hg (own_old hr (by omega))) hs
theorem toDesk_fin {w W3 W4 : World} {r q : Value} {n : Nat} {xs : List Value} {rows : List (List Int)} (hB : Below w.heap.size w W3) (hs : w.heap.size + 3 ≤ W3.heap.size) (k1 : W3.heap[w.heap.size + 1]? = some (.cells #[.slice none 0 0, .slice none 0 0] 26 (0, 0)))
    (hr : W3.ownsRow (w.heap.size + 3) 3 1 r n xs) (hq : OwnQ W4 W3.heap.size q rows) (hB4 : Below W3.heap.size W3 W4) :
    (((W4.setCell ⟨w.heap.size + 2, 1, none⟩ q).setCell ⟨w.heap.size + 1, 0, none⟩ r).setCell ⟨w.heap.size + 1, 1, none⟩ q).heap[w.heap.size + 1]? = some (.cells #[r, q] 26 (0, 0)) ∧
    (((W4.setCell ⟨w.heap.size + 2, 1, none⟩ q).setCell ⟨w.heap.size + 1, 0, none⟩ r).setCell ⟨w.heap.size + 1, 1, none⟩ q).ownsRow w.heap.size 3 1 r n xs ∧
    OwnQ (((W4.setCell ⟨w.heap.size + 2, 1, none⟩ q).setCell ⟨w.heap.size + 1, 0, none⟩ r).setCell ⟨w.heap.size + 1, 1, none⟩ q) w.heap.size q rows ∧ Below w.heap.size w (((W4.setCell ⟨w.heap.size + 2, 1, none⟩ q).setCell ⟨w.heap.size + 1, 0, none⟩ r).setCell ⟨w.heap.size + 1, 1, none⟩ q) ∧
    W3.heap.size ≤ (((W4.setCell ⟨w.heap.size + 2, 1, none⟩ q).setCell ⟨w.heap.size + 1, 0, none⟩ r).setCell ⟨w.heap.size + 1, 1, none⟩ q).heap.size ∧ (∀ g, r.ownBlock = some g → g < W3.heap.size) ∧ OwnQ (((W4.setCell ⟨w.heap.size + 2, 1, none⟩ q).setCell ⟨w.heap.size + 1, 0, none⟩ r).setCell ⟨w.heap.size + 1, 1, none⟩ q) W3.heap.size q rows := by
  have g1 := grownBy_setAt W4 (w.heap.size + 2) 1 q
  have g2 := grownBy_setAt (W4.setCell ⟨w.heap.size + 2, 1, none⟩ q) (w.heap.size + 1) 0 r
  have g3 := grownBy_setAt ((W4.setCell ⟨w.heap.size + 2, 1, none⟩ q).setCell ⟨w.heap.size + 1, 0, none⟩ r) (w.heap.size + 1) 1 q
  have hz := hB4.size
  have k14 := (g1.block (w.heap.size + 1) (by omega) (fun e => by injection e with e; omega)).trans ((hB4.block _ (by omega)).trans k1)
  have hr4 := own_below hr hB4
  have hr5 := own_kept hr4 g1 (own_old hr4 (by omega))
  have hr6 := own_kept hr5 g2 (own_old hr5 (by omega))
  have hr7 := own_kept hr6 g3 (own_old hr6 (by omega))
  refine ⟨desk_set k14 r q, own_from hr7 (by omega), (((hq.old (by omega) g1).old (by omega) g2).old (by omega) g3).down (by omega), ?_, Nat.le_trans hz (Nat.le_trans g1.size (Nat.le_trans g2.size g3.size)), fun g e => (hr.lt g e).2, ((hq.old (by omega) g1).old (by omega) g2).old (by omega) g3⟩
  have h0 := (hB.trans (hB4.mono hB.size)).setCell (p := ⟨w.heap.size + 2, 1, none⟩) (by show w.heap.size ≤ w.heap.size + 2; omega) q
  exact (h0.setCell (p := ⟨w.heap.size + 1, 0, none⟩) (by show w.heap.size ≤ w.heap.size + 1; omega) r).setCell (p := ⟨w.heap.size + 1, 1, none⟩) (by show w.heap.size ≤ w.heap.size + 1; omega) q
set_option maxRecDepth 100000 in
set_option maxHeartbeats 1000000 in
theorem toDesk_mid (W0 : World) (v : Value) (d : Dk) (w : World) (hv : ArgD W0 v d) (hB0 : Below W0.heap.size W0 w) (hn1 : d.1.length ≤ 1048576) (hn : d.2.length ≤ 1048576) (hln : ∀ j, j < d.2.length → (d.2.getD j []).length ≤ 1048576) : Calls Try.prog 22 #[v] w fun e w' =>
    ∃ x p, e = .returned (.agg #[x, p]) ∧ w'.ownsRow w.heap.size 3 1 x d.1.length (d.1.map (Value.int .i64)) ∧ OwnQ w' w.heap.size p d.2 ∧ (∃ mid, w.heap.size ≤ mid ∧ mid ≤ w'.heap.size ∧ (∀ g, x.ownBlock = some g → g < mid) ∧ OwnQ w' mid p d.2) ∧ Below w.heap.size w w' := by
  obtain ⟨x, p, rfl, hx, hp⟩ := hv
  have hB : Below w.heap.size w (((w.alloc (.cells #[x, p] 44)).alloc (.cells #[.slice none 0 0, .slice none 0 0] 26)).alloc (.cells #[.slice none 0 0, .slice none 0 0] 26)) := (((Below.refl _ w).alloc (Nat.le_refl _) _).alloc (by rw [World.size_alloc]; omega) _).alloc (by rw [World.size_alloc, World.size_alloc]; omega) _
  have k0 : (((w.alloc (.cells #[x, p] 44)).alloc (.cells #[.slice none 0 0, .slice none 0 0] 26)).alloc (.cells #[.slice none 0 0, .slice none 0 0] 26)).heap[w.heap.size]? = some (.cells #[x, p] 44 (0, 0)) := (Below.heap_alloc _ _ _ (by rw [World.size_alloc, World.size_alloc]; omega)).trans ((Below.heap_alloc _ _ _ (by rw [World.size_alloc]; omega)).trans (World.alloc_heap_new w _))
  have k1 : (((w.alloc (.cells #[x, p] 44)).alloc (.cells #[.slice none 0 0, .slice none 0 0] 26)).alloc (.cells #[.slice none 0 0, .slice none 0 0] 26)).heap[w.heap.size + 1]? = some (.cells #[.slice none 0 0, .slice none 0 0] 26 (0, 0)) := by
    have h := World.alloc_heap_new (w.alloc (.cells #[x, p] 44)) (.cells #[.slice none 0 0, .slice none 0 0] 26)
    rw [World.size_alloc] at h
    exact (Below.heap_alloc _ _ _ (by rw [World.size_alloc, World.size_alloc]; omega)).trans h
  have k2 : (((w.alloc (.cells #[x, p] 44)).alloc (.cells #[.slice none 0 0, .slice none 0 0] 26)).alloc (.cells #[.slice none 0 0, .slice none 0 0] 26)).heap[w.heap.size + 2]? = some (.cells #[.slice none 0 0, .slice none 0 0] 26 (0, 0)) := by
    have h := World.alloc_heap_new ((w.alloc (.cells #[x, p] 44)).alloc (.cells #[.slice none 0 0, .slice none 0 0] 26)) (.cells #[.slice none 0 0, .slice none 0 0] 26)
    rw [World.size_alloc, World.size_alloc] at h
    exact h
  obtain ⟨W1, hW1⟩ : ∃ W1, ((w.alloc (.cells #[x, p] 44)).alloc (.cells #[.slice none 0 0, .slice none 0 0] 26)).alloc (.cells #[.slice none 0 0, .slice none 0 0] 26) = W1 := ⟨_, rfl⟩
  rw [hW1] at hB k0 k1 k2
  have l2 := (Array.getElem?_eq_some_iff.1 k2).1
  have hBW := hB0.trans (hB.mono hB0.size)
  have hI := toIntS_in W0 x d.1 W1 hx hBW (by omega)
  have hS := fun V (hV : Below w.heap.size w V) => toSS_in W0 p d.2 V hp (hB0.trans (hV.mono hB0.size)) hn hln
  have hsW : w.heap.size + 3 ≤ W1.heap.size := by rw [← hW1]; simp
  obtain ⟨xa, xc, rfl⟩ := hx.form
  obtain ⟨pa, pc, rfl, _⟩ := hp
  obtain ⟨c0, c1, _, _⟩ := row_at k0
  clear hx
  obtain ⟨b0, b1, f0, f1⟩ := row_at k2
  go_enter Try.func22, Try.ntmps22
  have l0 : w.heap.size < W1.heap.size := by omega
  have l1 : w.heap.size + 1 < W1.heap.size := by omega
  go_wp2_with (first
    | (go_at_call 52; go_loud (refine hI.mono ?_; clear hI; rintro e W2 ⟨r, rfl, hr, hB2⟩; obtain ⟨ra, rc, rfl⟩ := own_form hr; have hst := toDesk_step hB hsW k0 k1 k2 hr hB2; obtain ⟨b0, b1, f0, f1⟩ := row_at ((hB2.block _ l2).trans k2); obtain ⟨W3, hW3⟩ : ∃ W3, W2.setCell ⟨w.heap.size + 2, 0, none⟩ (.slice ra d.1.length rc) = W3 := ⟨_, rfl⟩; rw [hW3] at hst; obtain ⟨hB3, h0, h1, h2, hr3, hz3⟩ := hst; obtain ⟨c0, c1, _, _⟩ := row_at h0))
    | (go_at_call 53; go_loud (refine (hS _ hB3).mono ?_; clear hS; rintro e W4 ⟨q, rfl, hq, hB4⟩; obtain ⟨qa, qc, rfl⟩ := hq.ownSS.form; have hfin := toDesk_fin hB3 hz3 h1 hr3 hq hB4; obtain ⟨b0, b1, f0, f1⟩ := row_at ((hB4.block _ (Array.getElem?_eq_some_iff.1 h2).1).trans h2); obtain ⟨s0, s1, t0, t1⟩ := row_at ((hB4.block _ (Array.getElem?_eq_some_iff.1 h1).1).trans h1); have hfin' := hide hfin; clear hfin hq hB4)))
  exact bodyPost_ret (results_desk rfl _ _ (w.heap.size + 1) _ _ rfl hfin'.out.1) rfl ⟨_, _, rfl, hfin'.out.2.1, hfin'.out.2.2.1, ⟨W3.heap.size, by have := hB3.size; omega, hfin'.out.2.2.2.2.1, hfin'.out.2.2.2.2.2.1, hfin'.out.2.2.2.2.2.2⟩, hfin'.out.2.2.2.1⟩
theorem toDesk_in (W0 : World) (v : Value) (d : Dk) (w : World) (hv : ArgD W0 v d) (hB0 : Below W0.heap.size W0 w) (hn1 : d.1.length ≤ 1048576) (hn : d.2.length ≤ 1048576) (hln : ∀ j, j < d.2.length → (d.2.getD j []).length ≤ 1048576) : Calls Try.prog 22 #[v] w fun e w' =>
    ∃ x p, e = .returned (.agg #[x, p]) ∧ w'.ownsRow w.heap.size 3 1 x d.1.length (d.1.map (Value.int .i64)) ∧ OwnQ w' w.heap.size p d.2 ∧ Below w.heap.size w w' :=
  (toDesk_mid W0 v d w hv hB0 hn1 hn hln).mono fun _ _ ⟨x, p, h1, h2, h3, _, h5⟩ => ⟨x, p, h1, h2, h3, h5⟩
end Go.Proofs.Ytimnhedjapakhaa
