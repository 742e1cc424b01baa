/-
  The program's DeskRun at every desk and deeds.
-/
import Derived.Test.YtimnhedjapakhaaI12Z
import Derived.Test.YtimnhedjapakhaaSpec12r
namespace Go.Proofs.Ytimnhedjapakhaa
open Go.RowKit Go.Shelf

/-- A change in a block of another type leaves a desk as it is. -/
theorem OwnDk.keep {W W' : World} {base b : Nat} {v x p : Value} {d : Dk} {t : TypeId} (h : OwnDk W base v d) (hb : W.heap[b]? = some (.cells #[x, p] t (0, 0))) (h1 : 23 ≠ t) (h2 : 3 ≠ t) (hg : W.grownBy W' (some b)) : OwnDk W' base v d := by
  obtain ⟨mid, y, q, rfl, e1, e2, e3, e4⟩ := h
  refine ⟨mid, y, q, rfl, e1, Nat.le_trans e2 hg.size, ?_, e4.keep hb h1 h2 hg⟩
  rcases e3 with e3 | ⟨g, c, rfl, f1, f2, f3⟩
  · exact .inl e3
  · refine .inr ⟨g, c, rfl, f1, f2, f3.of_block (hg.block g f3.lt (fun e => ?_))⟩
    injection e with e
    subst e
    obtain ⟨cur, hc, _⟩ := f3
    rw [hb] at hc
    injection hc with hc
    injection hc with _ hc
    exact h2 hc.symm
/-- A round of DeskRun: the desk's box b, and how many were done. -/
structure Rn (w : World) (b : Nat) (d : Dk) (L : List (Int × Int)) (k : Nat) (x p : Value) (W : World) : Prop where
  below : Below w.heap.size w W
  res : W.heap[w.heap.size + 1]? = some (.cells #[.slice none 0 0, .slice none 0 0] 26 (0, 0))
  box : W.heap[b]? = some (.cells #[x, p] 26 (0, 0))
  lt : w.heap.size + 2 ≤ b
  own : OwnDk W (w.heap.size + 2) (.agg #[x, p]) (runL d 0 (L.take k)).1

set_option maxRecDepth 100000 in
set_option maxHeartbeats 2000000 in
theorem implRun_in (x p ls : Value) (d : Dk) (L : List (Int × Int)) (w : World) (hx : Ints w x d.1) (hp : PastI w p d.2) (hb : deskB d = true) (hl : L.length ≤ 40) (hls : DeedsI w ls L) (hf : ∀ a ∈ L, Fits a.1 ∧ Fits a.2) : Calls Try.prog 18 #[.agg #[x, p], ls] w fun e w' =>
    ∃ y, e = .returned (.tuple #[y, .int .i64 ((runL d 0 L).2 : Nat)]) ∧ OwnDk w' w.heap.size y (runL d 0 L).1 ∧ Below w.heap.size w w' := by
  obtain ⟨hd1, hd2, hd3⟩ := deskB_is.1 hb
  have hl1 := sideB_len hd2
  have hB : Below w.heap.size w ((w.alloc (.cells #[x, p] 26)).alloc (.cells #[.slice none 0 0, .slice none 0 0] 26)) := ((Below.refl _ w).alloc (Nat.le_refl _) _).alloc (by rw [World.size_alloc]; omega) _
  have k0 : ((w.alloc (.cells #[x, p] 26)).alloc (.cells #[.slice none 0 0, .slice none 0 0] 26)).heap[w.heap.size]? = some (.cells #[x, p] 26 (0, 0)) := (Below.heap_alloc _ _ _ (by rw [World.size_alloc]; omega)).trans (World.alloc_heap_new w _)
  have k1 := World.alloc_heap_new (w.alloc (.cells #[x, p] 26)) (.cells #[.slice none 0 0, .slice none 0 0] 26)
  rw [World.size_alloc] at k1
  have hsz : w.heap.size + 2 ≤ ((w.alloc (.cells #[x, p] 26)).alloc (.cells #[.slice none 0 0, .slice none 0 0] 26)).heap.size := by simp
  obtain ⟨W1, hW1⟩ : ∃ W1, (w.alloc (.cells #[x, p] 26)).alloc (.cells #[.slice none 0 0, .slice none 0 0] 26) = W1 := ⟨_, rfl⟩
  rw [hW1] at hB k0 k1 hsz
  have hOK := implDeskOk (.agg #[x, p]) d W1 ⟨x, p, rfl, hx.below hB, hp.below hB⟩ ⟨by omega, by omega, fun j => by
    by_cases hj : j < d.2.length
    · have := sideB_len (hd1 (d.2.getD j []) (by rw [List.getD, List.getElem?_eq_getElem hj]; exact List.getElem_mem hj)); omega
    · rw [List.getD, List.getElem?_eq_none (by omega)]; simp⟩
  rw [hb] at hOK
  have hKp := fun V (hV : Below w.heap.size w V) => deskOf_in x p d.1 d.2 V (hx.below hV) hl1.1 hl1.2 (hp.below hV) hd3 (fun j hj => sideB_len (hd1 _ (by rw [List.getD, List.getElem?_eq_getElem hj]; exact List.getElem_mem hj)))
  obtain ⟨xa, xc, rfl⟩ := hx.shape
  obtain ⟨pa, pc, rfl, _⟩ := id hp
  obtain ⟨la, lc, rfl, hlr⟩ := hls
  obtain ⟨N, hN⟩ : ∃ N, L.length = N := ⟨_, rfl⟩
  rw [hN] at hl hlr ⊢
  have hl' : ¬ (N : Int) > 40 := by omega
  obtain ⟨c0, c1, _, _⟩ := row_at k0
  have l0 := (Array.getElem?_eq_some_iff.1 k0).1
  have l1 := (Array.getElem?_eq_some_iff.1 k1).1
  clear hx hp hd1
  go_enter Try.func18, Try.ntmps18
  go_wp2_with (first
    | (go_at_call 9; go_loud (refine hOK.mono ?_; clear hOK; rintro e W2 ⟨rfl, hB2⟩; obtain ⟨c0, c1, _, _⟩ := row_at ((hB2.block _ l0).trans k0)))
    | (go_at_call 37; go_loud (refine (hKp _ (hB.trans (hB2.mono hB.size))).mono ?_; clear hKp; rintro e W3 ⟨y, rfl, hy, hB3⟩; obtain ⟨y1, y2, y3, y4, rfl⟩ := hy.form)))
  have hy0 := hy
  have z3 := hB3.size
  have hBw3 : Below w.heap.size w W3 := (hB.trans (hB2.mono hB.size)).trans (hB3.mono (Nat.le_trans hB.size hB2.size))
  have hy4 := (hy.down (Nat.le_trans hsz hB2.size)).below ((Below.refl _ W3).alloc (Nat.le_refl _) (.cells #[.slice y1 d.1.length y2, .slice y3 d.2.length y4] 26))
  have hb4 := World.alloc_heap_new W3 (.cells #[.slice y1 d.1.length y2, .slice y3 d.2.length y4] 26)
  have hB4 := hBw3.alloc hBw3.size (.cells #[.slice y1 d.1.length y2, .slice y3 d.2.length y4] 26)
  have k4 := (Below.heap_alloc W3 (.cells #[.slice y1 d.1.length y2, .slice y3 d.2.length y4] 26) (w.heap.size + 1) (by have := hB2.size; omega)).trans ((hB3.block _ (by have := hB2.size; omega)).trans ((hB2.block _ l1).trans k1))
  have hbl : w.heap.size + 2 ≤ W3.heap.size := by have := hB2.size; omega
  have hpc : deskB d = true := hb
  obtain ⟨b, hbe⟩ : ∃ b, W3.heap.size = b := ⟨_, rfl⟩
  rw [hbe] at hb4 hbl ⊢
  obtain ⟨V0, hV0⟩ : ∃ V0, W3.alloc (.cells #[.slice y1 d.1.length y2, .slice y3 d.2.length y4] 26) = V0 := ⟨_, rfl⟩
  rw [hV0] at hy4 hb4 hB4 k4 ⊢
  have hR0 : Rn w b d L 0 (.slice y1 d.1.length y2) (.slice y3 d.2.length y4) V0 := ⟨hB4, k4, hb4, hbl, by rw [List.take_zero]; exact hy4⟩
  have hr0 : (runL d 0 (L.take 0)).2 = 0 := by rw [List.take_zero]; rfl
  clear hy4 hb4 hB4 k4 hy hy0 hB2 hB3 hBw3 z3 hbe hV0 k0 k1 l0 l1 c0 c1 hB hsz hl1 hd2 hd3 hpc
  go_loopw [7, 28] (fun c i wr => ∃ (k : Nat) (x p : Value), k ≤ N ∧ i = .int .i64 k ∧ c = .int .i64 ((runL d 0 (L.take k)).2 : Nat) ∧ Rn w b d L k x p wr) (fun _ i _ => N - (intOf i).toNat)
  case atStart => exact ⟨0, _, _, Nat.zero_le _, rfl, by rw [hr0]; rfl, hR0⟩
  case round =>
    obtain ⟨k, u, q, hk, rfl, rfl, hR⟩ := hrel
    clear hR0 hr0
    obtain ⟨rB, rres, rbox, rlt, rown⟩ := hR
    have hcn := runL_le (L.take k) d
    rw [List.length_take] at hcn
    have hdb := runL_desk (L.take k) d 0 hb
    by_cases hlt : k < N
    · have hki : (k : Int) < (N : Int) := by omega
      obtain ⟨g, o, rfl, hg, hc⟩ := hlr (by omega)
      obtain ⟨e1, e2⟩ := hc k hlt
      have hx : L.getD k (0, 0) ∈ L := by rw [List.getD, List.getElem?_eq_getElem (by omega)]; exact List.getElem_mem _
      have hfx := hf _ hx
      have hnx := hide (runL_next (d := d) (L := L) (k := k) (by omega))
      obtain ⟨a, ha⟩ : ∃ a, L.getD k (0, 0) = a := ⟨_, rfl⟩
      rw [ha] at e1 e2 hfx hnx
      have d1 := (rB.cell (p := ⟨g, o + k * 2, none⟩) hg).trans e1
      have d2 := (rB.cell (p := ⟨g, o + k * 2 + 1, none⟩) hg).trans e2
      obtain ⟨dk, hdk⟩ : ∃ dk, (runL d 0 (L.take k)).1 = dk := ⟨_, rfl⟩
      obtain ⟨cn, hcn'⟩ : ∃ cn, (runL d 0 (L.take k)).2 = cn := ⟨_, rfl⟩
      rw [hdk] at rown hdb hnx
      rw [hcn'] at hcn hnx ⊢
      obtain ⟨ak, an⟩ := a
      simp only at d1 d2 hfx hnx
      have hcni : (cn : Int) ≤ 40 := by omega
      have hdi := rown.deskI.below ((Below.refl _ wr).alloc (Nat.le_refl _) (.cells #[.int .i64 ak, .int .i64 an] 32))
      have lb := (Array.getElem?_eq_some_iff.1 rbox).1
      have hDo := implDo (.agg #[u, q]) dk ak an _ hdi rown.cap (deskB_size hdb) hfx.1 hfx.2
      have bB := rB.alloc rB.size (.cells #[.int .i64 ak, .int .i64 an] 32)
      have bbox := (Below.heap_alloc wr (.cells #[.int .i64 ak, .int .i64 an] 32) b lb).trans rbox
      have bres := (Below.heap_alloc wr (.cells #[.int .i64 ak, .int .i64 an] 32) (w.heap.size + 1) (by omega)).trans rres
      have bown := rown.below ((Below.refl _ wr).alloc (Nat.le_refl _) (.cells #[.int .i64 ak, .int .i64 an] 32))
      obtain ⟨m0, m1, _, _⟩ := row_at bbox
      obtain ⟨D, hD⟩ : ∃ D, (doV dk ak an).1 = D := ⟨_, rfl⟩
      obtain ⟨bb, hbb⟩ : ∃ bb, (doV dk ak an).2 = bb := ⟨_, rfl⟩
      rw [hD, hbb] at hDo hnx
      unfold dV at hDo
      have hsw := rB.size
      have hdk2 := hide hdk
      have hcn2 := hide hcn'
      clear rB rbox rres rown hdi hD hbb hdb hdk hcn' ha e1 e2 hx hfx hb hf hlr hc hg
      cases bb
      · have hnx' := hnx.out
        rw [if_neg (by simp)] at hnx'
        have hnx2 := hide hnx'
        clear hnx hnx'
        go_wp2_with (go_at_call 13; go_loud (refine hDo.mono ?_; clear hDo; rintro e V2 ⟨y, rfl, hy, hB2⟩; obtain ⟨z1, z2, z3, z4, rfl⟩ := hy.form; have zB := (bB.trans (hB2.mono bB.size)).alloc (Nat.le_trans bB.size hB2.size) (.cells #[.slice z1 D.1.length z2, .slice z3 D.2.length z4] 26); have lb1 := (Array.getElem?_eq_some_iff.1 bbox).1; have lr1 := (Array.getElem?_eq_some_iff.1 bres).1; have zbox := (Below.heap_alloc V2 (.cells #[.slice z1 D.1.length z2, .slice z3 D.2.length z4] 26) b (Nat.lt_of_lt_of_le lb1 hB2.size)).trans ((hB2.block _ lb1).trans bbox); have zres := (Below.heap_alloc V2 (.cells #[.slice z1 D.1.length z2, .slice z3 D.2.length z4] 26) (w.heap.size + 1) (Nat.lt_of_lt_of_le lr1 hB2.size)).trans ((hB2.block _ lr1).trans bres); have zown := (hy.down (base' := w.heap.size + 2) (by rw [World.size_alloc]; omega)).below ((Below.refl _ V2).alloc (Nat.le_refl _) (.cells #[.slice z1 D.1.length z2, .slice z3 D.2.length z4] 26)); have zold := (bown.below hB2).below ((Below.refl _ V2).alloc (Nat.le_refl _) (.cells #[.slice z1 D.1.length z2, .slice z3 D.2.length z4] 26)); obtain ⟨m0, m1, f0, f1⟩ := row_at zbox; clear hy hB2 bB bbox bres bown lb1 lr1))
        go_roundw
        case rel => exact ⟨k + 1, _, _, by omega, by go_num, by rw [hnx2.out, hcn2.out], ⟨zB, zres, zbox, rlt, by rw [hnx2.out, hdk2.out]; exact zold⟩⟩
        case measure => simp [intOf]; omega
      · have hnx' := hnx.out
        rw [if_pos rfl] at hnx'
        have hnx2 := hide hnx'
        clear hnx hnx'
        go_wp2_with (go_at_call 13; go_loud (refine hDo.mono ?_; clear hDo; rintro e V2 ⟨y, rfl, hy, hB2⟩; obtain ⟨z1, z2, z3, z4, rfl⟩ := hy.form; have zB := (bB.trans (hB2.mono bB.size)).alloc (Nat.le_trans bB.size hB2.size) (.cells #[.slice z1 D.1.length z2, .slice z3 D.2.length z4] 26); have lb1 := (Array.getElem?_eq_some_iff.1 bbox).1; have lr1 := (Array.getElem?_eq_some_iff.1 bres).1; have zbox := (Below.heap_alloc V2 (.cells #[.slice z1 D.1.length z2, .slice z3 D.2.length z4] 26) b (Nat.lt_of_lt_of_le lb1 hB2.size)).trans ((hB2.block _ lb1).trans bbox); have zres := (Below.heap_alloc V2 (.cells #[.slice z1 D.1.length z2, .slice z3 D.2.length z4] 26) (w.heap.size + 1) (Nat.lt_of_lt_of_le lr1 hB2.size)).trans ((hB2.block _ lr1).trans bres); have zown := (hy.down (base' := w.heap.size + 2) (by rw [World.size_alloc]; omega)).below ((Below.refl _ V2).alloc (Nat.le_refl _) (.cells #[.slice z1 D.1.length z2, .slice z3 D.2.length z4] 26)); have zold := (bown.below hB2).below ((Below.refl _ V2).alloc (Nat.le_refl _) (.cells #[.slice z1 D.1.length z2, .slice z3 D.2.length z4] 26)); obtain ⟨m0, m1, f0, f1⟩ := row_at zbox; clear hy hB2 bB bbox bres bown lb1 lr1; have g0 := grownBy_setAt (V2.alloc (.cells #[.slice z1 D.1.length z2, .slice z3 D.2.length z4] 26)) b 0 (.slice z1 D.1.length z2); have zb1 := set_cells zbox 0 (.slice z1 D.1.length z2); have g1 := grownBy_setAt ((V2.alloc (.cells #[.slice z1 D.1.length z2, .slice z3 D.2.length z4] 26)).setCell ⟨b, 0, none⟩ (.slice z1 D.1.length z2)) b 1 (.slice z3 D.2.length z4); have own2 := (zown.keep zbox (by decide) (by decide) g0).keep zb1 (by decide) (by decide) g1; have zb2 := desk_set zbox (.slice z1 D.1.length z2) (.slice z3 D.2.length z4); have zr2 := (g1.block _ (Nat.lt_of_lt_of_le (Array.getElem?_eq_some_iff.1 zres).1 g0.size) (fun e => by injection e with e; omega)).trans ((g0.block _ (Array.getElem?_eq_some_iff.1 zres).1 (fun e => by injection e with e; omega)).trans zres); have zB2 := (zB.setCell (p := ⟨b, 0, none⟩) (Nat.le_trans (by omega) rlt) (.slice z1 D.1.length z2)).setCell (p := ⟨b, 1, none⟩) (Nat.le_trans (by omega) rlt) (.slice z3 D.2.length z4); have hbc := hide (And.intro zB2 (And.intro zr2 (And.intro zb2 own2))); clear zold g0 zb1 g1 own2 zb2 zr2 zB2 zown))
        go_roundw
        case rel => exact ⟨k + 1, _, _, by omega, by go_num, by rw [hnx2.out]; go_num, ⟨hbc.out.1, hbc.out.2.1, hbc.out.2.2.1, rlt, by rw [hnx2.out]; exact hbc.out.2.2.2⟩⟩
        case measure => simp [intOf]; omega
    · obtain rfl : k = N := by omega
      have hki : ¬ (k : Int) < (k : Int) := by omega
      have ht : L.take k = L := by rw [← hN, List.take_length]
      rw [ht] at rown ⊢
      obtain ⟨q1, q2, q3, q4, hq⟩ := rown.form
      injection hq with hq
      simp at hq
      obtain ⟨rfl, rfl⟩ := hq
      obtain ⟨n1, hn1⟩ : ∃ n1, (runL d 0 L).1.1.length = n1 := ⟨_, rfl⟩
      obtain ⟨n2, hn2⟩ : ∃ n2, (runL d 0 L).1.2.length = n2 := ⟨_, rfl⟩
      rw [hn1, hn2] at rown rbox
      obtain ⟨m0, m1, _, _⟩ := row_at rbox
      obtain ⟨r0, r1, f0, f1⟩ := row_at rres
      have hrs := hide (desk_set rres (.slice q1 n1 q2) (.slice q3 n2 q4))
      have hown := hide (rown.result (b := w.heap.size + 1) (base' := w.heap.size) (by omega) (by omega))
      have hBl := hide ((rB.setCell (p := ⟨w.heap.size + 1, 0, none⟩) (Nat.le_succ _) (.slice q1 n1 q2)).setCell (p := ⟨w.heap.size + 1, 1, none⟩) (Nat.le_succ _) (.slice q3 n2 q4))
      clear rB rown hcn hdb ht hf hlr hb
      go_wp2
      (try simp only [Exit.inBlock, Exit.then])
      exact bodyPost_ret (results_desk2 rfl _ _ (w.heap.size + 1) _ _ rfl hrs.out) rfl ⟨_, rfl, hown.out, hBl.out⟩

set_option maxRecDepth 100000 in
set_option maxHeartbeats 1000000 in
theorem implRun_no (x p ls : Value) (d : Dk) (L : List (Int × Int)) (w : World) (hx : Ints w x d.1) (hp : PastI w p d.2) (hs : DkS d) (hb : deskB d = false ∨ 40 < L.length) (hls : DeedsI w ls L) (hn : L.length ≤ 2000000) : Calls Try.prog 18 #[.agg #[x, p], ls] w fun e w' =>
    ∃ y, e = .returned (.tuple #[y, .int .i64 0]) ∧ OwnDk w' w.heap.size y ([], []) ∧ Below w.heap.size w w' := by
  have hB : Below w.heap.size w ((w.alloc (.cells #[x, p] 26)).alloc (.cells #[.slice none 0 0, .slice none 0 0] 26)) := ((Below.refl _ w).alloc (Nat.le_refl _) _).alloc (by rw [World.size_alloc]; omega) _
  have k0 : ((w.alloc (.cells #[x, p] 26)).alloc (.cells #[.slice none 0 0, .slice none 0 0] 26)).heap[w.heap.size]? = some (.cells #[x, p] 26 (0, 0)) := (Below.heap_alloc _ _ _ (by rw [World.size_alloc]; omega)).trans (World.alloc_heap_new w _)
  have k1 := World.alloc_heap_new (w.alloc (.cells #[x, p] 26)) (.cells #[.slice none 0 0, .slice none 0 0] 26)
  rw [World.size_alloc] at k1
  have hsz : w.heap.size + 2 ≤ ((w.alloc (.cells #[x, p] 26)).alloc (.cells #[.slice none 0 0, .slice none 0 0] 26)).heap.size := by simp
  obtain ⟨W1, hW1⟩ : ∃ W1, (w.alloc (.cells #[x, p] 26)).alloc (.cells #[.slice none 0 0, .slice none 0 0] 26) = W1 := ⟨_, rfl⟩
  rw [hW1] at hB k0 k1 hsz
  have hOK := implDeskOk (.agg #[x, p]) d W1 ⟨x, p, rfl, hx.below hB, hp.below hB⟩ hs
  obtain ⟨xa, xc, rfl⟩ := hx.shape
  obtain ⟨pa, pc, rfl, _⟩ := id hp
  obtain ⟨la, lc, rfl, hlr⟩ := hls
  obtain ⟨N, hN⟩ : ∃ N, L.length = N := ⟨_, rfl⟩
  rw [hN] at hn hb ⊢
  obtain ⟨c0, c1, _, _⟩ := row_at k0
  have l0 := (Array.getElem?_eq_some_iff.1 k0).1
  have l1 := (Array.getElem?_eq_some_iff.1 k1).1
  have h40 : deskB d = true → (40 : Int) < (N : Int) := fun e => by
    rcases hb with h | h
    · rw [e] at h; cases h
    · omega
  clear hx hp hs hlr hb
  cases hd : deskB d <;> rw [hd] at hOK h40
  all_goals
    have h40' := h40
    clear h40
    simp at h40'
    go_enter Try.func18, Try.ntmps18
    go_wp2_with (go_at_call 9; go_loud (refine hOK.mono ?_; clear hOK; rintro e W2 ⟨rfl, hB2⟩; have zres := (hB2.block _ l1).trans k1; obtain ⟨c0, c1, _, _⟩ := row_at ((hB2.block _ l0).trans k0); obtain ⟨r0, r1, f0, f1⟩ := row_at zres))
    (try simp only [Exit.inBlock, Exit.then])
    have hB3 := hB.trans (hB2.mono hB.size)
    have hz := hB2.size
    exact bodyPost_ret (results_desk2 rfl _ _ (w.heap.size + 1) _ _ rfl (desk_set zres (.slice none 0 0) (.slice none 0 0))) rfl ⟨_, rfl, (OwnDk.none W2 (w.heap.size + 2) (by omega)).result (b := w.heap.size + 1) (base' := w.heap.size) (by omega) (by omega), (hB3.setCell (p := ⟨w.heap.size + 1, 0, none⟩) (Nat.le_succ _) _).setCell (p := ⟨w.heap.size + 1, 1, none⟩) (Nat.le_succ _) _⟩

theorem implRun (v ls : Value) (d : Dk) (L : List (Int × Int)) (w : World) (hv : DeskI w v d) (hs : DkS d) (hls : DeedsI w ls L) (hn : L.length ≤ 2000000) (hf : ∀ a ∈ L, Fits a.1 ∧ Fits a.2) : Calls Try.prog 18 #[v, ls] w fun e w' =>
    ∃ y, e = .returned (.tuple #[y, .int .i64 ((runV d L).2 : Nat)]) ∧ OwnDk w' w.heap.size y (runV d L).1 ∧ Below w.heap.size w w' := by
  obtain ⟨x, p, rfl, hx, hp⟩ := hv
  by_cases h : deskB d = true ∧ L.length ≤ 40
  · unfold runV
    rw [if_pos h]
    exact implRun_in x p ls d L w hx hp h.1 h.2 hls hf
  · unfold runV
    rw [if_neg h]
    refine implRun_no x p ls d L w hx hp hs ?_ hls hn
    cases hb : deskB d with
    | false => exact .inl rfl
    | true => exact .inr (by rw [hb] at h; simp at h; omega)
end Go.Proofs.Ytimnhedjapakhaa
