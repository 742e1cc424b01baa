/-
  The model's DeskRun at every desk and deeds.
-/
import Derived.Test.YtimnhedjapakhaaS12Y
import Derived.Test.YtimnhedjapakhaaSpecZ
import Derived.Test.YtimnhedjapakhaaRegMade
namespace Go.Proofs.Ytimnhedjapakhaa
open Go.RowKit Go.Shelf
attribute [local go_sem] Oper.semAt_some

theorem deskI_over {V : World} {base b n1 c1 n2 c2 m1 e1 m2 e2 : Nat} {a1 a2 s1 s2 : Option Addr} {t : TypeId} {v : Value} {D : Dk} (h : DeskI V v D) (hN : ∀ x g o t n c, v = .agg #[x, .slice (some ⟨g, o, t⟩) n c] → base ≤ g) (hb : b < base) (kb : V.heap[b]? = some (.cells #[.slice a1 n1 c1, .slice a2 n2 c2] t (0, 0))) :
    DeskI ((V.setCell ⟨b, 0, none⟩ (.slice s1 m1 e1)).setCell ⟨b, 1, none⟩ (.slice s2 m2 e2)) v D := by
  obtain ⟨x, p, rfl, hx, hp⟩ := h
  have g0 := grownBy_setAt V b 0 (.slice s1 m1 e1)
  have k1 := set_cells kb 0 (.slice s1 m1 e1)
  have g1 := grownBy_setAt (V.setCell ⟨b, 0, none⟩ (.slice s1 m1 e1)) b 1 (.slice s2 m2 e2)
  have hI : ∀ u xs, Ints V u xs → Ints ((V.setCell ⟨b, 0, none⟩ (.slice s1 m1 e1)).setCell ⟨b, 1, none⟩ (.slice s2 m2 e2)) u xs := fun u xs h => ints_grown (ints_grown h kb g0) k1 g1
  refine ⟨x, p, rfl, hI _ _ hx, ?_⟩
  obtain ⟨a, c, rfl, h⟩ := hp
  refine ⟨a, c, rfl, fun h0 => ?_⟩
  obtain ⟨G, o, rfl, hG, hc⟩ := h h0
  have hGb := hN _ G o _ _ _ rfl
  have hne : G ≠ b := by omega
  refine ⟨G, o, rfl, Nat.lt_of_lt_of_le hG (Nat.le_trans g0.size g1.size), fun j hj => ?_⟩
  obtain ⟨u, h1, h2⟩ := hc j hj
  refine ⟨u, ?_, hI _ _ h2⟩
  have q0 := g0.block G hG (fun e => hne (by injection e))
  have q1 := g1.block G (Nat.lt_of_lt_of_le hG g0.size) (fun e => hne (by injection e))
  exact (World.cell?_of_block (w := V) (q1.trans q0)).trans h1
theorem deskI_store {V : World} {b n1 c1 n2 c2 : Nat} {a1 a2 : Option Addr} {v : Value} {D : Dk} (h : DeskI V v D) (hv : v = .agg #[.slice a1 n1 c1, .slice a2 n2 c2]) (kb : V.heap[b]? = some (.cells #[.slice none 0 0, .slice none 0 0] 26 (0, 0))) (hr : ∀ j, j < D.2.length → 1 ≤ (D.2.getD j []).length) :
    DeskI ((V.setCell ⟨b, 0, none⟩ (.slice a1 n1 c1)).setCell ⟨b, 1, none⟩ (.slice a2 n2 c2)) (.agg #[.slice a1 n1 c1, .slice a2 n2 c2]) D := by
  obtain ⟨x, p, e, hx, hp⟩ := h
  rw [e] at hv
  have g0 := grownBy_setAt V b 0 (.slice a1 n1 c1)
  have k1 := set_cells kb 0 (.slice a1 n1 c1)
  have g1 := grownBy_setAt (V.setCell ⟨b, 0, none⟩ (.slice a1 n1 c1)) b 1 (.slice a2 n2 c2)
  have hI : ∀ u xs, Ints V u xs → Ints ((V.setCell ⟨b, 0, none⟩ (.slice a1 n1 c1)).setCell ⟨b, 1, none⟩ (.slice a2 n2 c2)) u xs := fun u xs h => ints_grown (ints_grown h kb g0) k1 g1
  rw [← hv]
  refine ⟨x, p, rfl, hI _ _ hx, ?_⟩
  obtain ⟨a, c, rfl, h⟩ := hp
  refine ⟨a, c, rfl, fun h0 => ?_⟩
  obtain ⟨G, o, rfl, hG, hc⟩ := h h0
  have hne : G ≠ b := fun e => by
    subst e
    obtain ⟨u, h1, h2⟩ := hc 0 h0
    obtain ⟨g, cc, e2, _⟩ := h2.cells (hr 0 h0)
    unfold World.cell? at h1
    rw [kb] at h1
    subst e2
    match o, h1 with
    | 0, h1 => simp at h1
    | 1, h1 => simp at h1
    | (q + 2), h1 => simp at h1
  refine ⟨G, o, rfl, Nat.lt_of_lt_of_le hG (Nat.le_trans g0.size g1.size), fun j hj => ?_⟩
  obtain ⟨u, h1, h2⟩ := hc j hj
  refine ⟨u, ?_, hI _ _ h2⟩
  have q0 := g0.block G hG (fun e => hne (by injection e))
  have q1 := g1.block G (Nat.lt_of_lt_of_le hG g0.size) (fun e => hne (by injection e))
  exact (World.cell?_of_block (w := V) (q1.trans q0)).trans h1
theorem deskB_size {d : Dk} (h : deskB d = true) : DkS d := by
  obtain ⟨h1, h2, h3⟩ := deskB_is.1 h
  have := sideB_len h2
  refine ⟨by omega, by omega, fun j => ?_⟩
  by_cases hj : j < d.2.length
  · have := sideB_len (h1 (d.2.getD j []) (by rw [List.getD, List.getElem?_eq_getElem hj]; exact List.getElem_mem hj)); omega
  · rw [List.getD, List.getElem?_eq_none (by omega)]; simp
theorem runL_next {d : Dk} {L : List (Int × Int)} {k : Nat} (h : k < L.length) : runL d 0 (L.take (k + 1)) =
    (if (doV (runL d 0 (L.take k)).1 (L.getD k (0, 0)).1 (L.getD k (0, 0)).2).2 = true then ((doV (runL d 0 (L.take k)).1 (L.getD k (0, 0)).1 (L.getD k (0, 0)).2).1, (runL d 0 (L.take k)).2 + 1) else runL d 0 (L.take k)) := by
  rw [take_deed h, runL_app]
  cases hd : (doV (runL d 0 (L.take k)).1 (L.getD k (0, 0)).1 (L.getD k (0, 0)).2).2 with
  | true => rw [runL_yes hd, if_pos rfl]; rfl
  | false => rw [runL_not hd, if_neg (by simp)]; rfl

/-- A round of the model's DeskRun: the desk's box b. -/
structure Rs (w : World) (b : Nat) (d : Dk) (L : List (Int × Int)) (k : Nat) (x p : Value) (W : World) : Prop where
  below : Below w.heap.size w W
  res : W.heap[w.heap.size + 1]? = some (.cells #[.slice none 0 0, .slice none 0 0] 26 (0, 0))
  box : W.heap[b]? = some (.cells #[x, p] 26 (0, 0))
  lt : w.heap.size + 2 ≤ b
  desk : DeskI W (.agg #[x, p]) (runL d 0 (L.take k)).1

set_option maxRecDepth 100000 in
set_option maxHeartbeats 2000000 in
theorem specRun_in (x p ls : Value) (d : Dk) (L : List (Int × Int)) (w : World) (hx : Ints w x d.1) (hp : PastI w p d.2) (hb : deskB d = true) (hl : L.length ≤ 40) (hls : DeedsI w ls L) (hf : ∀ a ∈ L, Fits a.1 ∧ Fits a.2) : Calls Try.prog 19 #[.agg #[x, p], ls] w fun e w' =>
    ∃ y, e = .returned (.tuple #[y, .int .i64 ((runL d 0 L).2 : Nat)]) ∧ DeskI w' y (runL d 0 L).1 ∧ Below w.heap.size w w' := by
  have hB : Below w.heap.size w ((w.alloc (.cells #[x, p] 26)).alloc (.cells #[.slice none 0 0, .slice none 0 0] 26)) := ((Below.refl _ w).alloc (Nat.le_refl _) _).alloc (by rw [World.size_alloc]; omega) _
  have k0 : ((w.alloc (.cells #[x, p] 26)).alloc (.cells #[.slice none 0 0, .slice none 0 0] 26)).heap[w.heap.size]? = some (.cells #[x, p] 26 (0, 0)) := (Below.heap_alloc _ _ _ (by rw [World.size_alloc]; omega)).trans (World.alloc_heap_new w _)
  have k1 := World.alloc_heap_new (w.alloc (.cells #[x, p] 26)) (.cells #[.slice none 0 0, .slice none 0 0] 26)
  rw [World.size_alloc] at k1
  have hsz : w.heap.size + 2 ≤ ((w.alloc (.cells #[x, p] 26)).alloc (.cells #[.slice none 0 0, .slice none 0 0] 26)).heap.size := by simp
  obtain ⟨W1, hW1⟩ : ∃ W1, (w.alloc (.cells #[x, p] 26)).alloc (.cells #[.slice none 0 0, .slice none 0 0] 26) = W1 := ⟨_, rfl⟩
  rw [hW1] at hB k0 k1 hsz
  have hOK := specDeskOk (.agg #[x, p]) d W1 ⟨x, p, rfl, hx.below hB, hp.below hB⟩ (deskB_size hb)
  rw [hb] at hOK
  have hKp := fun V (hV : Below w.heap.size w V) => specCopy x p d V (hx.below hV) (hp.below hV) hb
  obtain ⟨xa, xc, rfl⟩ := hx.shape
  obtain ⟨pa, pc, rfl, _⟩ := id hp
  obtain ⟨la, lc, rfl, hlr⟩ := hls
  obtain ⟨N, hN⟩ : ∃ N, L.length = N := ⟨_, rfl⟩
  rw [hN] at hl hlr ⊢
  have hl' : ¬ (N : Int) > 40 := by omega
  obtain ⟨c0, c1, _, _⟩ := row_at k0
  have l0 := (Array.getElem?_eq_some_iff.1 k0).1
  have l1 := (Array.getElem?_eq_some_iff.1 k1).1
  clear hx hp
  refine (callsIn_wide (n := 9)).1 ?_
  refine callsIn_of_wp Try.func19 rfl trivial ?_ rfl
  simp only [Try.ntmps19, List.size_toArray, List.length_cons, List.length_nil, Nat.reduceAdd, Nat.reduceSub, Array.replicate_succ, Array.replicate_zero, List.push_toArray, List.append_toArray, List.nil_append, List.cons_append]
  gi_wp2_with (first
    | (refine ⟨trivial, ?_⟩; gi_at_call 10; go_loud (refine (callsIn_wide.2 hOK).mono ?_; clear hOK; rintro e W2 ⟨rfl, hB2⟩; obtain ⟨c0, c1, _, _⟩ := row_at ((hB2.block _ l0).trans k0)))
    | (refine ⟨trivial, ?_⟩; gi_at_call 41; go_loud (refine (callsIn_wide.2 (hKp _ (hB.trans (hB2.mono hB.size)))).mono ?_; clear hKp; rintro e W3 ⟨y, q, rfl, hy, hq, hB3⟩; have hdy : DeskI W3 (.agg #[y, q]) d := ⟨y, q, rfl, Ints.of_owns hy, hq.past⟩; obtain ⟨y1, y2, rfl⟩ := own_form hy; obtain ⟨y3, y4, rfl⟩ := hq.form)))
  have z3 := hB3.size
  have hBw3 : Below w.heap.size w W3 := (hB.trans (hB2.mono hB.size)).trans (hB3.mono (Nat.le_trans hB.size hB2.size))
  have hy4 := hdy.below ((Below.refl _ W3).alloc (Nat.le_refl _) (.cells #[.slice y1 d.1.length y2, .slice y3 d.2.length y4] 26))
  have hb4 := World.alloc_heap_new W3 (.cells #[.slice y1 d.1.length y2, .slice y3 d.2.length y4] 26)
  have hB4 := hBw3.alloc hBw3.size (.cells #[.slice y1 d.1.length y2, .slice y3 d.2.length y4] 26)
  have k4 := (Below.heap_alloc W3 (.cells #[.slice y1 d.1.length y2, .slice y3 d.2.length y4] 26) (w.heap.size + 1) (by have := hB2.size; omega)).trans ((hB3.block _ (by have := hB2.size; omega)).trans ((hB2.block _ l1).trans k1))
  have hbl : w.heap.size + 2 ≤ W3.heap.size := by have := hB2.size; omega
  obtain ⟨b, hbe⟩ : ∃ b, W3.heap.size = b := ⟨_, rfl⟩
  rw [hbe] at hb4 hbl ⊢
  obtain ⟨V0, hV0⟩ : ∃ V0, W3.alloc (.cells #[.slice y1 d.1.length y2, .slice y3 d.2.length y4] 26) = V0 := ⟨_, rfl⟩
  rw [hV0] at hy4 hb4 hB4 k4 ⊢
  have hR0 : Rs w b d L 0 (.slice y1 d.1.length y2) (.slice y3 d.2.length y4) V0 := ⟨hB4, k4, hb4, hbl, by rw [List.take_zero]; exact hy4⟩
  have hr0 : (runL d 0 (L.take 0)).2 = 0 := by rw [List.take_zero]; rfl
  clear hy4 hb4 hB4 k4 hy hdy hq hB2 hB3 hBw3 z3 hbe hV0 k0 k1 l0 l1 c0 c1 hB hsz
  gi_loopw [7, 8] (fun c i wr => ∃ (k : Nat) (x p : Value), k ≤ N ∧ i = .int .i64 k ∧ c = .int .i64 ((runL d 0 (L.take k)).2 : Nat) ∧ Rs w b d L k x p wr) (fun _ i _ => N - (intOf i).toNat)
  case atStart => exact ⟨0, _, _, Nat.zero_le _, rfl, by rw [hr0]; rfl, hR0⟩
  case round =>
    obtain ⟨k, u, q, hk, rfl, rfl, hR⟩ := hrel
    clear hR0 hr0
    obtain ⟨rB, rres, rbox, rlt, rown⟩ := hR
    have hcn := runL_le (L.take k) d
    rw [List.length_take] at hcn
    have hdb := runL_desk (L.take k) d 0 hb
    by_cases hlt : k < N
    · have hki : (k : Int) < (N : Int) := by omega
      obtain ⟨g, o, rfl, hg, hc⟩ := hlr (by omega)
      obtain ⟨e1, e2⟩ := hc k hlt
      have hx : L.getD k (0, 0) ∈ L := by rw [List.getD, List.getElem?_eq_getElem (by omega)]; exact List.getElem_mem _
      have hfx := hf _ hx
      have hnx := hide (runL_next (d := d) (L := L) (k := k) (by omega))
      obtain ⟨a, ha⟩ : ∃ a, L.getD k (0, 0) = a := ⟨_, rfl⟩
      rw [ha] at e1 e2 hfx hnx
      obtain ⟨dk, hdk⟩ : ∃ dk, (runL d 0 (L.take k)).1 = dk := ⟨_, rfl⟩
      obtain ⟨cn, hcn'⟩ : ∃ cn, (runL d 0 (L.take k)).2 = cn := ⟨_, rfl⟩
      rw [hdk] at rown hdb hnx
      rw [hcn'] at hcn hnx ⊢
      obtain ⟨ak, an⟩ := a
      simp only at e1 e2 hfx hnx
      have hcni : (cn : Int) ≤ 40 := by omega
      obtain ⟨ux, uy, eu, hu1, hu2⟩ := id rown
      injection eu with eu
      simp at eu
      obtain ⟨rfl, rfl⟩ := eu
      obtain ⟨q1, q2, rfl⟩ := hu1.shape
      obtain ⟨q3, q4, rfl, _⟩ := id hu2
      obtain ⟨m0, m1, f0, f1⟩ := row_at rbox
      clear hu1 hu2
      obtain ⟨D, hD⟩ : ∃ D, (doV dk ak an).1 = D := ⟨_, rfl⟩
      obtain ⟨bb, hbb⟩ : ∃ bb, (doV dk ak an).2 = bb := ⟨_, rfl⟩
      have hDo := fun v V (hv : DeskI V v dk) => specDo v dk ak an V hv (deskB_size hdb) hfx.1 hfx.2
      have hDd := do_desk hdb ak an
      rw [hD] at hDd
      rw [hD, hbb] at hDo hnx
      unfold dV at hDo
      have hdk2 := hide hdk
      have hcn2 := hide hcn'
      have hrow : ∀ j, j < D.2.length → 1 ≤ (D.2.getD j []).length := fun j hj => (sideB_len ((deskB_is.1 hDd).1 (D.2.getD j []) (by rw [List.getD, List.getElem?_eq_getElem hj]; exact List.getElem_mem hj))).1
      have lb := (Array.getElem?_eq_some_iff.1 rbox).1
      have hAt := hide (fun V (hV : Below wr.heap.size wr V) => And.intro (row_at ((hV.block _ lb).trans rbox)) (And.intro ((hV.cell (p := ⟨g, o + k * 2, none⟩) (Nat.lt_of_lt_of_le hg rB.size)).trans ((rB.cell (p := ⟨g, o + k * 2, none⟩) hg).trans e1)) ((hV.cell (p := ⟨g, o + k * 2 + 1, none⟩) (Nat.lt_of_lt_of_le hg rB.size)).trans ((rB.cell (p := ⟨g, o + k * 2 + 1, none⟩) hg).trans e2))))
      have hDoh := hide hDo
      have hrown := hide rown
      clear hDo rown e1 e2 hD hbb hdk hcn' ha hx hfx hb hf hlr hc m0 m1 f0 f1 hDd
      gi_wp2
      refine wpIn_region_made 5 D.1.length D.2.length (.bool bb) (fun V y => DeskI V y D ∧ CapN wr.heap.size y) (by kernel_rfl) (by kernel_rfl) (by kernel_rfl) (by decide) (by kernel_rfl) (by kernel_rfl)
        (fun s => { tmps := #[.agg #[.slice xa d.1.length xc, .slice pa d.2.length pc], .slice (some ⟨g, o, none⟩) N lc, .pointer (some ⟨w.heap.size, 0, none⟩), undef, .pointer (some ⟨w.heap.size + 1, 0, none⟩), .int .i64 0, .pointer (some ⟨b, 0, none⟩), .int .i64 cn, .int .i64 k, s 9, u10, .agg #[.slice xa d.1.length xc, .slice pa d.2.length pc], .bool true, .bool false, .bool false, .slice (some ⟨g, o, none⟩) N lc, .int .i64 N, .bool (decide ((40 : Int) < N)), .bool (decide ((40 : Int) < N)), undef, .agg #[.slice xa d.1.length xc, .slice pa d.2.length pc], .agg #[.slice y1 d.1.length y2, .slice y3 d.2.length y4], .int .i64 k, .slice (some ⟨g, o, none⟩) N lc, .int .i64 N, .bool true, u26, u27, s 6, s 0, s 1, s 2, s 3, s 4, s 5, s 7, s 8, u37, u38, u39, u40, undef, undef], defers := [] })
        (fun i v _ => (i = 0 → v = .agg #[.slice q1 dk.1.length q2, .slice q3 dk.2.length q4]) ∧ (i = 1 → v = .slice (some ⟨g, o, none⟩) N lc) ∧ (i = 2 → v = .int .i64 k) ∧ (i = 3 → v = .pointer (some ⟨g, o + k * 2, none⟩)) ∧ (i = 4 → v = .agg #[.int .i64 ak, .int .i64 an])) (fun _ _ _ _ h _ => h)
        (fun V V' y h hB => ⟨h.1.below hB, h.2⟩)
        (fun V b' a1 c1 a2 c2 h _ hz => ⟨deskI_store h.1 rfl hz hrow, h.2⟩)
        ⟨fun j => (#[u29, u30, u31, u32, u33, u34, u28, u35, u36, u9] : Array Value).getD j undef, rfl⟩ ?put ?step ?call ?move ?ext0 ?ext1 ?allo ?stor ?tail
      case put =>
        intro i o s v hi ho
        rcases (show i = 0 ∨ i = 1 ∨ i = 2 ∨ i = 3 ∨ i = 4 ∨ i = 5 ∨ i = 6 ∨ i = 7 ∨ i = 8 ∨ i = 9 ∨ i = 10 by omega) with rfl | rfl | rfl | rfl | rfl | rfl | rfl | rfl | rfl | rfl | rfl
        all_goals
          simp at ho
          subst ho
          simp [Act.put]
      case step =>
        rintro i oo s V hi ho hV hd Q' hQ
        obtain ⟨⟨a0, a1, _, _⟩, b0, b1⟩ := hAt.out V hV
        rcases (show i = 0 ∨ i = 1 ∨ i = 2 ∨ i = 3 ∨ i = 4 by omega) with rfl | rfl | rfl | rfl | rfl
        all_goals
          simp at ho
          subst ho
          simp [Act.put] at hQ
          have hQ' := hide hQ
          clear hQ
        case inl =>
          clear hd
          gi_wp2
          exact hQ'.out _ _ (Below.refl _ _) rfl
        case inr.inl =>
          clear hd
          gi_wp2
          exact hQ'.out _ _ (Below.refl _ _) rfl
        case inr.inr.inl =>
          clear hd
          gi_wp2
          exact hQ'.out _ _ (Below.refl _ _) rfl
        case inr.inr.inr.inl =>
          have e1 := (hd 1 (by decide) (by kernel_rfl)).2.1 rfl
          have e2 := (hd 2 (by decide) (by kernel_rfl)).2.2.1 rfl
          clear hd
          gi_wp2
          have hr := hQ'.out
          rw [e1, e2] at hr
          exact hr _ _ (Below.refl _ _) rfl
        case inr.inr.inr.inr =>
          have e1 := (hd 3 (by decide) (by kernel_rfl)).2.2.2.1 rfl
          clear hd
          gi_wp2
          have hr := hQ'.out
          rw [e1] at hr
          exact hr _ _ (Below.refl _ _) rfl
      case call =>
        rintro oo s V ho hV hd Q' hQ
        have e1 := (hd 0 (by decide) (by kernel_rfl)).1 rfl
        have e2 := (hd 4 (by decide) (by kernel_rfl)).2.2.2.2 rfl
        simp at ho
        subst ho
        simp [Act.put] at hQ
        have hQ' := hide hQ
        have hS := hDoh.out _ V (hrown.out.below hV)
        have hsV := hV.size
        clear hQ hd
        gi_wp2_with (refine ⟨trivial, ?_⟩; gi_at_call 14; go_loud (refine (callsIn_wide.2 hS).mono ?_; rintro e W9 ⟨y9, rfl, hy9, hN9, hB9⟩))
        obtain ⟨yx, yp, rfl, hyx, hyp⟩ := id hy9
        obtain ⟨y5, y6, rfl⟩ := hyx.shape
        obtain ⟨y7, y8, rfl, _⟩ := id hyp
        have hr := hQ'.out
        rw [e1, e2] at hr
        exact hr _ _ _ _ _ hB9 hy9 ⟨hN9.1.1, fun x g o t n c e => Nat.le_trans hsV (hN9.1.2 x g o t n c e)⟩
      case move =>
        rintro oo s V y Q' ho hs hQ
        simp at ho
        subst ho
        simp [Act.put] at hQ
        have hQ' := hide hQ
        clear hQ
        gi_wp2
        have hr := hQ'.out
        rw [hs] at hr
        exact hr
      case ext0 =>
        rintro oo s V y z Q' ho hs hQ
        simp at ho
        subst ho
        simp [Act.put] at hQ
        have hQ' := hide hQ
        clear hQ
        gi_wp2
        have hr := hQ'.out
        rw [show s 6 = .tuple #[y, z] from hs] at hr
        exact hr
      case ext1 =>
        rintro oo s V y z Q' ho hs hQ
        simp at ho
        subst ho
        simp [Act.put] at hQ
        have hQ' := hide hQ
        clear hQ
        gi_wp2
        have hr := hQ'.out
        rw [show s 6 = .tuple #[y, z] from hs] at hr
        exact hr
      case allo =>
        rintro oo s V Q' ho hQ
        simp at ho
        subst ho
        simp [Act.put] at hQ
        have hQ' := hide hQ
        clear hQ
        gi_wp2
        exact hQ'.out
      case stor =>
        rintro oo s V b' a1 c1 a2 c2 Q' ho hs1 hs2 hz hQ
        obtain ⟨z0, z1, z2, z3⟩ := row_at hz
        simp at ho
        subst ho
        simp [Act.put] at hQ
        have hQ' := hide hQ
        clear hQ
        gi_wp2
        have hr := hQ'.out
        rw [show s 9 = .pointer (some ⟨b', 0, none⟩) from hs1, show s 7 = .agg #[.slice a1 D.1.length c1, .slice a2 D.2.length c2] from hs2] at hr
        exact hr
      case tail =>
        rintro s V b' a1 c1 a2 c2 hV hs9 hb' hz ⟨hdI, hcN⟩ hs8
        obtain ⟨⟨a0, a1', f0, f1⟩, b0, b1⟩ := hAt.out V hV
        have hbox := (hV.block _ lb).trans rbox
        have hres := (hV.block _ (Array.getElem?_eq_some_iff.1 rres).1).trans rres
        have hBV := rB.trans (hV.mono rB.size)
        have hold := hrown.out.below hV
        have hs8' : s 8 = .bool bb := hs8
        have hs9' : s 9 = .pointer (some ⟨b', 0, none⟩) := hs9
        obtain ⟨z0, z1, _, _⟩ := row_at hz
        simp only [List.drop_succ_cons, List.drop_zero, hs8', hs9']
        clear hs8 hs9 hAt hDoh hrown rbox rres b0 b1
        cases bb
        · have hnx' := hnx.out
          rw [if_neg (by simp)] at hnx'
          have hnx2 := hide hnx'
          clear hnx hnx'
          gi_wp2
          go_roundw
          case rel => exact ⟨k + 1, _, _, by omega, by go_num, by rw [hnx2.out, hcn2.out], ⟨hBV, hres, hbox, rlt, by rw [hnx2.out, hdk2.out]; exact hold⟩⟩
          case measure => simp [intOf]; omega
        · have hnx' := hnx.out
          rw [if_pos rfl] at hnx'
          have hnx2 := hide hnx'
          have dB := deskI_over (s1 := a1) (m1 := D.1.length) (e1 := c1) (s2 := a2) (m2 := D.2.length) (e2 := c2) hdI hcN.2 lb hbox
          have g0 := grownBy_setAt V b 0 (.slice a1 D.1.length c1)
          have g1 := grownBy_setAt (V.setCell ⟨b, 0, none⟩ (.slice a1 D.1.length c1)) b 1 (.slice a2 D.2.length c2)
          have zb2 := desk_set hbox (.slice a1 D.1.length c1) (.slice a2 D.2.length c2)
          have zr2 := (g1.block _ (Nat.lt_of_lt_of_le (Array.getElem?_eq_some_iff.1 hres).1 g0.size) (fun e => by injection e with e; omega)).trans ((g0.block _ (Array.getElem?_eq_some_iff.1 hres).1 (fun e => by injection e with e; omega)).trans hres)
          have zB2 := (hBV.setCell (p := ⟨b, 0, none⟩) (Nat.le_trans (by omega) rlt) (.slice a1 D.1.length c1)).setCell (p := ⟨b, 1, none⟩) (Nat.le_trans (by omega) rlt) (.slice a2 D.2.length c2)
          have hbc := hide (And.intro zB2 (And.intro zr2 (And.intro zb2 dB)))
          clear hnx hnx' g0 g1 zb2 zr2 zB2 dB hold hdI
          gi_wp2
          go_roundw
          case rel => exact ⟨k + 1, _, _, by omega, by go_num, by rw [hnx2.out]; go_num, ⟨hbc.out.1, hbc.out.2.1, hbc.out.2.2.1, rlt, by rw [hnx2.out]; exact hbc.out.2.2.2⟩⟩
          case measure => simp [intOf]; omega
    · obtain rfl : k = N := by omega
      have hki : ¬ (k : Int) < (k : Int) := by omega
      have ht : L.take k = L := by rw [← hN, List.take_length]
      rw [ht] at rown ⊢
      obtain ⟨ux, uy, eu, hu1, hu2⟩ := id rown
      injection eu with eu
      simp at eu
      obtain ⟨rfl, rfl⟩ := eu
      obtain ⟨q1, q2, rfl⟩ := hu1.shape
      obtain ⟨q3, q4, rfl, _⟩ := id hu2
      obtain ⟨n1, hn1⟩ : ∃ n1, (runL d 0 L).1.1.length = n1 := ⟨_, rfl⟩
      obtain ⟨n2, hn2⟩ : ∃ n2, (runL d 0 L).1.2.length = n2 := ⟨_, rfl⟩
      have hdr := runL_desk L d 0 hb
      have hrow : ∀ j, j < (runL d 0 L).1.2.length → 1 ≤ ((runL d 0 L).1.2.getD j []).length := fun j hj => (sideB_len ((deskB_is.1 hdr).1 ((runL d 0 L).1.2.getD j []) (by rw [List.getD, List.getElem?_eq_getElem hj]; exact List.getElem_mem hj))).1
      have hown := hide (deskI_store rown rfl rres hrow)
      rw [hn1, hn2] at rown rbox hown
      obtain ⟨m0, m1, _, _⟩ := row_at rbox
      obtain ⟨r0, r1, f0, f1⟩ := row_at rres
      have hrs := hide (desk_set rres (.slice q1 n1 q2) (.slice q3 n2 q4))
      have hBl := hide ((rB.setCell (p := ⟨w.heap.size + 1, 0, none⟩) (Nat.le_succ _) (.slice q1 n1 q2)).setCell (p := ⟨w.heap.size + 1, 1, none⟩) (Nat.le_succ _) (.slice q3 n2 q4))
      clear rB rown hcn hdb ht hf hlr hb hrow hdr hu1 hu2
      gi_wp2
      (try simp only [Exit.inBlock, Exit.then])
      exact bodyPost_ret (results_desk2 rfl _ _ (w.heap.size + 1) _ _ rfl hrs.out) rfl ⟨_, rfl, hown.out, hBl.out⟩

set_option maxRecDepth 100000 in
set_option maxHeartbeats 1000000 in
theorem specRun_no (x p ls : Value) (d : Dk) (L : List (Int × Int)) (w : World) (hx : Ints w x d.1) (hp : PastI w p d.2) (hs : DkS d) (hb : deskB d = false ∨ 40 < L.length) (hls : DeedsI w ls L) (hn : L.length ≤ 2000000) : Calls Try.prog 19 #[.agg #[x, p], ls] w fun e w' =>
    ∃ y, e = .returned (.tuple #[y, .int .i64 0]) ∧ DeskI w' y ([], []) ∧ Below w.heap.size w w' := by
  have hB : Below w.heap.size w ((w.alloc (.cells #[x, p] 26)).alloc (.cells #[.slice none 0 0, .slice none 0 0] 26)) := ((Below.refl _ w).alloc (Nat.le_refl _) _).alloc (by rw [World.size_alloc]; omega) _
  have k0 : ((w.alloc (.cells #[x, p] 26)).alloc (.cells #[.slice none 0 0, .slice none 0 0] 26)).heap[w.heap.size]? = some (.cells #[x, p] 26 (0, 0)) := (Below.heap_alloc _ _ _ (by rw [World.size_alloc]; omega)).trans (World.alloc_heap_new w _)
  have k1 := World.alloc_heap_new (w.alloc (.cells #[x, p] 26)) (.cells #[.slice none 0 0, .slice none 0 0] 26)
  rw [World.size_alloc] at k1
  have hsz : w.heap.size + 2 ≤ ((w.alloc (.cells #[x, p] 26)).alloc (.cells #[.slice none 0 0, .slice none 0 0] 26)).heap.size := by simp
  obtain ⟨W1, hW1⟩ : ∃ W1, (w.alloc (.cells #[x, p] 26)).alloc (.cells #[.slice none 0 0, .slice none 0 0] 26) = W1 := ⟨_, rfl⟩
  rw [hW1] at hB k0 k1 hsz
  have hOK := specDeskOk (.agg #[x, p]) d W1 ⟨x, p, rfl, hx.below hB, hp.below hB⟩ hs
  obtain ⟨xa, xc, rfl⟩ := hx.shape
  obtain ⟨pa, pc, rfl, _⟩ := id hp
  obtain ⟨la, lc, rfl, hlr⟩ := hls
  obtain ⟨N, hN⟩ : ∃ N, L.length = N := ⟨_, rfl⟩
  rw [hN] at hn hb ⊢
  obtain ⟨c0, c1, _, _⟩ := row_at k0
  have l0 := (Array.getElem?_eq_some_iff.1 k0).1
  have l1 := (Array.getElem?_eq_some_iff.1 k1).1
  have h40 : deskB d = true → (40 : Int) < (N : Int) := fun e => by
    rcases hb with h | h
    · rw [e] at h; cases h
    · omega
  clear hx hp hs hlr hb
  cases hd : deskB d <;> rw [hd] at hOK h40
  all_goals
    have h40' := h40
    clear h40
    simp at h40'
    go_enter Try.func19, Try.ntmps19
    go_wp2_with (go_at_call 10; go_loud (refine hOK.mono ?_; clear hOK; rintro e W2 ⟨rfl, hB2⟩; have zres := (hB2.block _ l1).trans k1; obtain ⟨c0, c1, _, _⟩ := row_at ((hB2.block _ l0).trans k0); obtain ⟨r0, r1, f0, f1⟩ := row_at zres))
    (try simp only [Exit.inBlock, Exit.then])
    have hB3 := hB.trans (hB2.mono hB.size)
    have hz := hB2.size
    exact bodyPost_ret (results_desk2 rfl _ _ (w.heap.size + 1) _ _ rfl (desk_set zres (.slice none 0 0) (.slice none 0 0))) rfl ⟨_, rfl, ⟨_, _, rfl, Ints.none _ _ _, PastI.none _ _ _⟩, (hB3.setCell (p := ⟨w.heap.size + 1, 0, none⟩) (Nat.le_succ _) _).setCell (p := ⟨w.heap.size + 1, 1, none⟩) (Nat.le_succ _) _⟩

theorem specRun (v ls : Value) (d : Dk) (L : List (Int × Int)) (w : World) (hv : DeskI w v d) (hs : DkS d) (hls : DeedsI w ls L) (hn : L.length ≤ 2000000) (hf : ∀ a ∈ L, Fits a.1 ∧ Fits a.2) : Calls Try.prog 19 #[v, ls] w fun e w' =>
    ∃ y, e = .returned (.tuple #[y, .int .i64 ((runV d L).2 : Nat)]) ∧ DeskI w' y (runV d L).1 ∧ Below w.heap.size w w' := by
  obtain ⟨x, p, rfl, hx, hp⟩ := hv
  by_cases h : deskB d = true ∧ L.length ≤ 40
  · unfold runV
    rw [if_pos h]
    exact specRun_in x p ls d L w hx hp h.1 h.2 hls hf
  · unfold runV
    rw [if_neg h]
    refine specRun_no x p ls d L w hx hp hs ?_ hls hn
    cases hb : deskB d with
    | false => exact .inl rfl
    | true => exact .inr (by rw [hb] at h; simp at h; omega)
end Go.Proofs.Ytimnhedjapakhaa
