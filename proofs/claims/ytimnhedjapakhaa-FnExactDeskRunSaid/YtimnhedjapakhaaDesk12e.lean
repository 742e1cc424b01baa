/-
  The program's deskOf: a desk of one's own.
-/
import Derived.Test.YtimnhedjapakhaaDesk12c
namespace Go.Proofs.Ytimnhedjapakhaa
open Go.RowKit Go.Shelf
attribute [local go_sem] Oper.semAt_some

set_option maxRecDepth 100000 in
set_option maxHeartbeats 2000000 in
theorem deskOf_8 (w : World) (u : Value) (row : List Int) (rows : List (List Int)) (cp G o : Nat) (hN : rows.length = 8) (hG : G < w.heap.size) (hrows : ∀ k, k < 8 → ∃ u, w.cell? ⟨G, o + k, none⟩ = some u ∧ Ints w u (rows.getD k [])) (hr : ∀ j, j < 8 → 1 ≤ (rows.getD j []).length ∧ (rows.getD j []).length ≤ 12) (hu : Ints w u row) (h1 : 1 ≤ row.length) (h2 : row.length ≤ 12) :
    Calls Try.prog 37 #[u, .slice (some ⟨G, o, none⟩) 8 cp] w fun e w' => ∃ x, e = .returned x ∧ OwnDk w' w.heap.size x (row, rows) ∧ Below w.heap.size w w' := by
  obtain ⟨g, c, rfl, hg, hc⟩ := hu.cells h1

  have hB0 : Below w.heap.size w (w.alloc (.cells #[.slice none 0 0, .slice none 0 0] 26)) := (Below.refl _ w).alloc (Nat.le_refl _) _
  have hres := World.alloc_heap_new w (.cells #[.slice none 0 0, .slice none 0 0] 26)
  have hsz := Nat.le_of_eq (World.size_alloc w (.cells #[.slice none 0 0, .slice none 0 0] 26)).symm
  obtain ⟨W0, hW0⟩ : ∃ W0, w.alloc (.cells #[.slice none 0 0, .slice none 0 0] 26) = W0 := ⟨_, rfl⟩
  rw [hW0] at hB0 hres hsz
  have hC := clone_in g row.length c row W0 rfl (by omega) (map_get (fun i hi => (hB0.cell (p := ⟨g, i, none⟩) hg).trans (hc i hi)))
  clear hc
  refine (callsIn_wide (n := 9)).1 ?_
  refine callsIn_of_wp Try.func37 rfl trivial ?_ rfl
  simp only [Try.ntmps37, List.size_toArray, List.length_cons, List.length_nil, Nat.reduceAdd, Nat.reduceSub, Array.replicate_succ, Array.replicate_zero, List.push_toArray, List.append_toArray, List.nil_append, List.cons_append]
  gi_wp2_with (refine ⟨trivial, ?_⟩; gi_at_call 69; refine (callsIn_wide.2 hC).mono ?_; clear hC; go_loud (rintro e w2 ⟨r, rfl, hy, hB2⟩; obtain ⟨ay, cy, rfl⟩ := own_form hy))
  have hs2 := hB2.size
  have hB3 : Below w.heap.size w w2 := hB0.trans (hB2.mono hB0.size)
  have hx : OwnI w2 (w.heap.size + 1) w2.heap.size (.slice ay row.length cy) row.length (fun i => row.getD i 0) := by
    obtain ⟨gy, cy', e1, e2, e3⟩ := RowAt.of_owns hy (by omega)
    exact .inr ⟨gy, cy', e1, by omega, e3.lt, e3⟩
  have hD0 : Dof w w2.heap.size (.slice ay row.length cy) row (rows.take 0) (.slice none 0 0) (w2.alloc (.cells #[.slice ay row.length cy, .slice none 0 0] 26)) :=
    ⟨hB3.alloc hB3.size _, (Below.heap_alloc _ _ _ (by omega)).trans ((hB2.block _ (by omega)).trans hres), World.alloc_heap_new w2 _, by omega, hx.below ((Below.refl _ _).alloc (Nat.le_refl _) _), OwnRows.nil _ _⟩
  clear hy hB2 hB3 hB0 hres hsz hx hW0 hs2
  generalize w2.alloc (.cells #[.slice ay row.length cy, .slice none 0 0] 26) = W3 at *
  generalize w2.heap.size = b at *
  gi_loopw [18] (fun i wr => ∃ k : Nat, k ≤ 8 ∧ i = .int .i64 k ∧ ∃ pv, Dof w b (.slice ay row.length cy) row (rows.take k) pv wr) (fun i _ => 8 - (intOf i).toNat)
  case atStart => exact ⟨0, by omega, rfl, _, hD0⟩
  case round =>
    clear hD0
    obtain ⟨k, hk, rfl, pv, hDk⟩ := hrel
    by_cases hlt : k < 8
    · have hki : (k : Int) < (8 : Int) := by omega
      obtain ⟨uu, huc, huu⟩ := hrows k hlt
      have hrk := hr k hlt
      obtain ⟨gu, cu, rfl, hgu, hcu⟩ := huu.cells hrk.1
      have htake : rows.take (k + 1) = rows.take k ++ [rows.getD k []] := by
        rw [List.take_add_one, List.getElem?_eq_getElem (by omega), List.getD, List.getElem?_eq_getElem (by omega)]; rfl
      obtain ⟨R, hR⟩ : ∃ R, rows.getD k [] = R := ⟨_, rfl⟩
      rw [hR] at huc hcu hrk htake
      have huc2 := (hDk.below.cell (p := ⟨G, o + k, none⟩) hG).trans huc
      have hcl : ∀ V, Below wr.heap.size wr V → Calls Try.prog 69 #[.slice (some ⟨gu, 0, none⟩) R.length cu] V fun e w' => ∃ v, e = .returned v ∧ w'.ownsRow V.heap.size 3 1 v R.length (R.map (Value.int .i64)) ∧ Below V.heap.size V w' := fun V hV =>
        clone_in gu R.length cu R V rfl (by omega) (map_get (fun i hi => (hV.cell (p := ⟨gu, i, none⟩) (Nat.lt_of_lt_of_le hgu hDk.below.size)).trans ((hDk.below.cell (p := ⟨gu, i, none⟩) hgu).trans (hcu i hi))))
      have hwb := hDk.below.size
      have hblt := hDk.lt
      have hbs := (Array.getElem?_eq_some_iff.1 hDk.out).1
      have hDk' := hide hDk
      clear hDk huc huu hcu hR hrows hr
      gi_wp2
      refine wpIn_region_kinds 5 (by kernel_rfl) (by kernel_rfl) (by kernel_rfl) (by decide)
        (fun s => { tmps := #[.slice (some ⟨g, 0, none⟩) row.length c, .slice (some ⟨G, o, none⟩) 8 cp, undef, undef, .pointer (some ⟨w.heap.size, 0, none⟩), .pointer (some ⟨b, 0, none⟩), undef, .slice (some ⟨gu, 0, none⟩) R.length cu, .slice (some ⟨g, 0, none⟩) row.length c, .slice ay row.length cy, .agg #[.slice ay row.length cy, .slice none 0 0], .slice (some ⟨G, o, none⟩) 8 cp, .slice (some ⟨G, o, none⟩) 8 cp, .int .i64 8, .int .i64 0, .int .i64 0, .slice (some ⟨G, o, none⟩) 8 cp, .int .i64 8, .int .i64 k, .bool true, .pointer (some ⟨G, o + k, none⟩), .slice (some ⟨gu, 0, none⟩) R.length cu, s 0, s 1, s 2, s 3, s 4, u27, u28, u29, undef], defers := [] })
        [.val (.pointer (some ⟨b, 1, none⟩)), .val pv, .val (.slice (some ⟨gu, 0, none⟩) R.length cu), .own wr.heap.size R.length (R.map (Value.int .i64)), .oneOwn wr.heap.size R.length (R.map (Value.int .i64))]
        ⟨fun j => #[u22, u23, u24, u25, u26].getD j undef, rfl⟩ ?put ?step ?tail
      case put =>
        intro i o s v hi ho
        rcases (show i = 0 ∨ i = 1 ∨ i = 2 ∨ i = 3 ∨ i = 4 by omega) with rfl | rfl | rfl | rfl | rfl
        all_goals
          simp at ho
          subst ho
          simp [Act.put]
      case step =>
        rintro i o s V hi ho hV hd Q' hQ
        rcases (show i = 0 ∨ i = 1 ∨ i = 2 ∨ i = 3 ∨ i = 4 by omega) with rfl | rfl | rfl | rfl | rfl
        all_goals
          simp at ho
          subst ho
          simp [Act.put] at hQ
          have hQ' := hide hQ
          clear hQ
        case inl =>
          clear hd
          gi_wp2
          exact hQ'.out _ _ (Below.refl _ _) rfl
        case inr.inl =>
          have e1 : s 0 = .pointer (some ⟨b, 1, none⟩) := hd 0 (by kernel_rfl)
          have hcc : V.cell? ⟨b, 1, none⟩ = some pv := by unfold World.cell?; rw [(hDk'.out.more hV).out]; rfl
          clear hd
          gi_wp2
          exact hQ'.out _ _ (Below.refl _ _) rfl
        case inr.inr.inl =>
          clear hd
          gi_wp2
          exact hQ'.out _ _ (Below.refl _ _) rfl
        case inr.inr.inr.inl =>
          have e1 : s 2 = .slice (some ⟨gu, 0, none⟩) R.length cu := hd 2 (by kernel_rfl)
          have hcV := hcl V hV
          clear hd
          gi_wp2_with (refine ⟨trivial, ?_⟩; gi_at_call 69; refine (callsIn_wide.2 hcV).mono ?_; rintro e w' ⟨r, rfl, hown', hB'⟩)
          have hr := hQ'.out
          rw [e1] at hr
          exact hr _ _ hB' (own_from hown' hV.size)
        case inr.inr.inr.inr =>
          have e1 : V.ownsRow wr.heap.size 3 1 (s 3) R.length (R.map (Value.int .i64)) := hd 3 (by kernel_rfl)
          clear hd
          obtain ⟨ar, cr, er⟩ := own_form e1
          rw [er] at e1
          gi_wp2
          exact hQ'.out _ _ ((Below.refl _ V).alloc (Nat.le_refl _) _) ⟨V.heap.size, .slice ar R.length cr, rfl, by simp, (Boxed.new V 23 (.slice ar R.length cr)).cell, e1.alloc _⟩
      case tail =>
        rintro s V hV hd
        have e1 : s 1 = pv := hd 1 (by omega)
        obtain ⟨q, u0, e9, hq, hcq, hu0⟩ : ∃ q u, s 4 = .slice (some ⟨q, 0, none⟩) 1 1 ∧ q < V.heap.size ∧ V.cell? ⟨q, 0, none⟩ = some u ∧ V.ownsRow wr.heap.size 3 1 u R.length (R.map (Value.int .i64)) := hd 4 (by omega)
        clear hd
        obtain ⟨us, hul, huo, hur, hune⟩ := hDk'.out.past.open_ hV
        have hus : us.length ≤ 9 := by rw [hul, List.length_take]; omega
        have hVs := hV.size
        simp only [List.drop_succ_cons, List.drop_zero]
        refine append_slice_in rfl _ _ rfl (by obtain ⟨ar, cr, rfl⟩ := own_form hu0; rfl) b pv us.length us e1 huo q e9 hcq (by omega) (by omega) ?_
        intro v' w' how hgr
        obtain ⟨k2, hnew⟩ := hDk'.out.push hV hrk.1 hu0 us hul huo hur hune how hgr
        rw [← htake] at hnew
        obtain ⟨c0, c1, f0, f1⟩ := row_at k2
        obtain ⟨a', c', e'⟩ := hnew.past.form
        rw [List.length_take, Nat.min_eq_left (by omega)] at e'
        rw [e'] at hnew
        have hnew' := hide hnew
        subst e'
        clear hnew hgr how huo hur hune hDk' hu0 hcq k2
        gi_wp2
        go_roundw
        case rel => exact ⟨k + 1, by omega, by go_num, _, hnew'.out⟩
        case measure => simp [intOf]; omega
    · have hki : ¬ ((k : Nat) : Int) < (8 : Int) := by omega
      rw [List.take_of_length_le (by omega)] at hDk
      obtain ⟨a', c', e'⟩ := hDk.past.form
      rw [hN] at e'
      subst e'
      obtain ⟨c0, c1, f0, f1⟩ := row_at hDk.out
      obtain ⟨r0, r1, g0, g1⟩ := row_at hDk.res
      have hres := desk_set hDk.res (.slice ay row.length cy) (.slice a' 8 c')
      have hdone := hide hDk.done
      clear hDk hrows hr
      gi_wp2
      refine bodyPost_ret (results_desk rfl _ _ w.heap.size _ _ rfl hres) rfl ⟨_, rfl, hdone.out.1, hdone.out.2⟩
end Go.Proofs.Ytimnhedjapakhaa
