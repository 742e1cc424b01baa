/-
  The program's DeskDo: the last row of before is put back.
-/
import Derived.Test.YtimnhedjapakhaaImpl12b
namespace Go.Proofs.Ytimnhedjapakhaa
open Go.RowKit Go.Shelf
attribute [local go_sem] Oper.semAt_some

theorem OwnDk.cap {W : World} {base : Nat} {v : Value} {d : Dk} (h : OwnDk W base v d) : CapP v := by
  obtain ⟨mid, x, p, rfl, _, _, _, us, hl, ho, _⟩ := h
  intro x' a n c e
  injection e with e
  simp at e
  obtain ⟨rfl, rfl⟩ := e
  rcases ho.2 with ⟨e, _⟩ | ⟨b, cap, cur, e, _, _, hc, _⟩
  · injection e with _ e2 e3; omega
  · injection e with _ e2 e3; omega
theorem take_getD {α : Type} (l : List α) (d : α) {L j : Nat} (h : j < L) : (l.take L).getD j d = l.getD j d := by
  rw [List.getD, List.getD, List.getElem?_take, if_pos h]
set_option maxRecDepth 100000 in
set_option maxHeartbeats 2000000 in
theorem implDo_back (x p : Value) (d : Dk) (w : World) (hX : Dx w x p d 5 0) (hcap : CapP (.agg #[x, p])) (L : Nat) (hL : d.2.length = L + 1) : Calls Try.prog 13 #[.agg #[x, p], dV 5 0] w fun e w' =>
    ∃ y, e = .returned (.tuple #[y, .bool (doV d 5 0).2]) ∧ OwnDk w' w.heap.size y (doV d 5 0).1 ∧ Below w.heap.size w w' := by
  rw [doV_back hX.desk (by omega)]
  obtain ⟨hx, hp, hb, _, _⟩ := hX
  obtain ⟨hd1, hd2, hd3⟩ := deskB_is.1 hb
  have hl := sideB_len hd2
  have hD := Do1.new w x p 5 0
  obtain ⟨W1, hW1⟩ : ∃ W1, ((w.alloc (.cells #[x, p] 26)).alloc (.cells #[.int .i64 5, .int .i64 0] 32)).alloc (.cells #[.slice none 0 0, .slice none 0 0] 26) = W1 := ⟨_, rfl⟩
  rw [hW1] at hD
  have hOK := implDeskOk (.agg #[x, p]) d W1 ⟨x, p, rfl, hx.below hD.below, hp.below hD.below⟩ ⟨by omega, by omega, fun j => by
    by_cases hj : j < d.2.length
    · have := sideB_len (hd1 (d.2.getD j []) (by rw [List.getD, List.getElem?_eq_getElem hj]; exact List.getElem_mem hj)); omega
    · rw [List.getD, List.getElem?_eq_none (by omega)]; simp⟩
  rw [hb] at hOK
  have q5 := fun V => equal_deed (k := 5) (n := 0) (by constructor <;> omega) (by constructor <;> omega) (k' := 5) (n' := 0) (by constructor <;> omega) (by constructor <;> omega) V
  have e5 : decide ((5 : Int) = 5 ∧ (0 : Int) = 0) = true := by decide
  rw [e5] at q5
  obtain ⟨row, past⟩ := d
  simp only at hd1 hd2 hd3 hl hx hp hL hOK ⊢
  obtain ⟨ap, cp, rfl, hrows⟩ := hp
  have hcp := hcap _ _ _ _ rfl
  obtain ⟨G, o, rfl, hG, hc⟩ := hrows (by omega)
  obtain ⟨ul, hul, hui⟩ := hc L (by omega)
  have hpst : pstV past = past.getD L [] := by unfold pstV; rw [hL]; rfl
  rw [hpst]
  have hsl := sideB_len (hd1 (past.getD L []) (by rw [List.getD, List.getElem?_eq_getElem (by omega)]; exact List.getElem_mem _))
  have hBk : ∀ V, Below w.heap.size w V → Calls Try.prog 37 #[ul, .slice (some ⟨G, o, none⟩) L cp] V fun e w' => ∃ y, e = .returned y ∧ OwnDk w' V.heap.size y (past.getD L [], past.take L) ∧ Below V.heap.size V w' := fun V hV => by
    have htl : (past.take L).length = L := by rw [List.length_take]; omega
    have h := deskOf_in ul (.slice (some ⟨G, o, none⟩) (past.take L).length cp) (past.getD L []) (past.take L) V (hui.below hV) hsl.1 hsl.2 ⟨_, cp, rfl, fun _ => ⟨G, o, rfl, Nat.lt_of_lt_of_le hG hV.size, fun j hj => by
      rw [htl] at hj
      rw [take_getD _ _ hj]
      obtain ⟨u, h1, h2⟩ := hc j (by omega)
      exact ⟨u, (hV.cell (p := ⟨G, o + j, none⟩) hG).trans h1, h2.below hV⟩⟩⟩ (by omega) (fun j hj => by
      rw [htl] at hj
      rw [take_getD _ _ hj]
      exact sideB_len (hd1 _ (by rw [List.getD, List.getElem?_eq_getElem (by omega)]; exact List.getElem_mem _)))
    rw [htl] at h
    exact h
  have hLt : past.length - 1 = L := by omega
  rw [hLt]
  rw [hL] at hW1 hOK hD ⊢
  obtain ⟨al, cl, rfl⟩ := hui.shape
  obtain ⟨ax, cx, rfl⟩ := hx.shape
  generalize (past.getD L [], past.take L) = D at *
  generalize (past.getD L []).length = ll at *
  obtain ⟨a0, a1, _, _⟩ := row_at hD.desk
  have hLi : (((L + 1 : Nat) : Int)) = (L : Int) + 1 := by omega
  have hLb : L ≤ 8 := by omega
  have hLc : L ≤ cp := by omega
  have hLg : (L : Int) ≥ 0 := by omega
  clear hcap hcp hc hui hrows hx hsl hd1 hd2 e5 hLt hb hl hL hd3
  unfold dV
  refine (callsIn_wide (n := 9)).1 ?_
  refine callsIn_of_wp Try.func13 rfl trivial ?_ rfl
  simp only [Try.ntmps13, List.size_toArray, List.length_cons, List.length_nil, Nat.reduceAdd, Nat.reduceSub, Array.replicate_succ, Array.replicate_zero, List.push_toArray, List.append_toArray, List.nil_append, List.cons_append]
  gi_wp2_with (refine ⟨trivial, ?_⟩; gi_at_call 9; go_loud (refine (callsIn_wide.2 hOK).mono ?_; clear hOK; rintro e W2 ⟨rfl, hB2⟩; have hD2 := hD.more hB2; obtain ⟨a0, a1, _, _⟩ := row_at hD2.desk; obtain ⟨c0, c1, _, _⟩ := row_at hD2.deed; clear hD hB2))
  refine wpIn_region_kinds 9 (by kernel_rfl) (by kernel_rfl) (by kernel_rfl) (by decide)
    (fun s => { tmps := #[.agg #[.slice ax row.length cx, .slice (some ⟨G, o, none⟩) (L + 1) cp], .agg #[.int .i64 5, .int .i64 0], .pointer (some ⟨w.heap.size, 0, none⟩), .pointer (some ⟨w.heap.size + 1, 0, none⟩), .pointer (some ⟨w.heap.size + 1 + 1, 0, none⟩), .bool false, .int .i64 L, undef, .agg #[.slice ax row.length cx, .slice (some ⟨G, o, none⟩) (L + 1) cp], .bool true, .bool false, undef, .pointer (some ⟨w.heap.size, 1, none⟩), .slice (some ⟨G, o, none⟩) (L + 1) cp, .int .i64 ((L : Int) + 1), .int .i64 L, .agg #[.int .i64 5, .int .i64 0], .agg #[.int .i64 5, .int .i64 0], .bool true, .bool true, .int .i64 L, .bool true, .bool true, s 0, s 1, s 2, s 3, s 4, s 5, s 6, s 7, s 8, undef, undef, undef, undef, undef, undef, undef, undef, undef, undef, undef, undef, undef, undef, undef, undef, undef, undef, undef, undef, undef, undef, undef, undef, undef, undef, undef, undef], defers := [] })
    [.val (.pointer (some ⟨w.heap.size, 1, none⟩)), .val (.slice (some ⟨G, o, none⟩) (L + 1) cp), .val (.int .i64 L), .val (.pointer (some ⟨G, o + L, none⟩)), .val (.slice al ll cl), .val (.pointer (some ⟨w.heap.size, 1, none⟩)), .val (.slice (some ⟨G, o, none⟩) (L + 1) cp), .val (.int .i64 L), .val (.slice (some ⟨G, o, none⟩) L cp)]
    ⟨fun _ => undef, rfl⟩ ?put ?step ?tail
  case put =>
    intro i o s v hi ho
    rcases (show i = 0 ∨ i = 1 ∨ i = 2 ∨ i = 3 ∨ i = 4 ∨ i = 5 ∨ i = 6 ∨ i = 7 ∨ i = 8 by omega) with rfl | rfl | rfl | rfl | rfl | rfl | rfl | rfl | rfl
    all_goals
      simp at ho
      subst ho
      simp [Act.put]
  case step =>
    rintro i oo s V hi ho hV hd Q' hQ
    rcases (show i = 0 ∨ i = 1 ∨ i = 2 ∨ i = 3 ∨ i = 4 ∨ i = 5 ∨ i = 6 ∨ i = 7 ∨ i = 8 by omega) with rfl | rfl | rfl | rfl | rfl | rfl | rfl | rfl | rfl
    all_goals
      simp at ho
      subst ho
      simp [Act.put] at hQ
      have hQ' := hide hQ
      clear hQ
    case inl =>
      clear hd hV
      gi_wp2
      all_goals first | exact hQ'.out _ _ (Below.refl _ _) rfl | (have hr := hQ'.out; (first | rw [e1, e2] at hr | rw [e1] at hr); exact hr _ _ (Below.refl _ _) rfl)
    case inr.inl =>
      have e1 : s 0 = .pointer (some ⟨w.heap.size, 1, none⟩) := hd 0 (by kernel_rfl)
      obtain ⟨a0, a1, _, _⟩ := row_at (hD2.more hV).desk
      clear hd hV
      gi_wp2
      all_goals first | exact hQ'.out _ _ (Below.refl _ _) rfl | (have hr := hQ'.out; (first | rw [e1, e2] at hr | rw [e1] at hr); exact hr _ _ (Below.refl _ _) rfl)
    case inr.inr.inl =>
      clear hd hV
      gi_wp2
      all_goals first | exact hQ'.out _ _ (Below.refl _ _) rfl | (have hr := hQ'.out; (first | rw [e1, e2] at hr | rw [e1] at hr); exact hr _ _ (Below.refl _ _) rfl)
    case inr.inr.inr.inl =>
      have e1 : s 1 = .slice (some ⟨G, o, none⟩) (L + 1) cp := hd 1 (by kernel_rfl)
      have e2 : s 2 = .int .i64 L := hd 2 (by kernel_rfl)
      clear hd hV
      gi_wp2
      all_goals first | exact hQ'.out _ _ (Below.refl _ _) rfl | (have hr := hQ'.out; (first | rw [e1, e2] at hr | rw [e1] at hr); exact hr _ _ (Below.refl _ _) rfl)
    case inr.inr.inr.inr.inl =>
      have e1 : s 3 = .pointer (some ⟨G, o + L, none⟩) := hd 3 (by kernel_rfl)
      have hcc := ((hD2.more hV).below.cell (p := ⟨G, o + L, none⟩) hG).trans hul
      clear hd hV
      gi_wp2
      all_goals first | exact hQ'.out _ _ (Below.refl _ _) rfl | (have hr := hQ'.out; (first | rw [e1, e2] at hr | rw [e1] at hr); exact hr _ _ (Below.refl _ _) rfl)
    case inr.inr.inr.inr.inr.inl =>
      clear hd hV
      gi_wp2
      all_goals first | exact hQ'.out _ _ (Below.refl _ _) rfl | (have hr := hQ'.out; (first | rw [e1, e2] at hr | rw [e1] at hr); exact hr _ _ (Below.refl _ _) rfl)
    case inr.inr.inr.inr.inr.inr.inl =>
      have e1 : s 5 = .pointer (some ⟨w.heap.size, 1, none⟩) := hd 5 (by kernel_rfl)
      obtain ⟨a0, a1, _, _⟩ := row_at (hD2.more hV).desk
      clear hd hV
      gi_wp2
      all_goals first | exact hQ'.out _ _ (Below.refl _ _) rfl | (have hr := hQ'.out; (first | rw [e1, e2] at hr | rw [e1] at hr); exact hr _ _ (Below.refl _ _) rfl)
    case inr.inr.inr.inr.inr.inr.inr.inl =>
      clear hd hV
      gi_wp2
      all_goals first | exact hQ'.out _ _ (Below.refl _ _) rfl | (have hr := hQ'.out; (first | rw [e1, e2] at hr | rw [e1] at hr); exact hr _ _ (Below.refl _ _) rfl)
    case inr.inr.inr.inr.inr.inr.inr.inr =>
      have e1 : s 6 = .slice (some ⟨G, o, none⟩) (L + 1) cp := hd 6 (by kernel_rfl)
      have e2 : s 7 = .int .i64 L := hd 7 (by kernel_rfl)
      clear hd hV
      gi_wp2
      all_goals first | exact hQ'.out _ _ (Below.refl _ _) rfl | (have hr := hQ'.out; (first | rw [e1, e2] at hr | rw [e1] at hr); exact hr _ _ (Below.refl _ _) rfl)
  case tail =>
    rintro s V hV hd
    have e4 : s 4 = .slice al ll cl := hd 4 (by omega)
    have e8 : s 8 = .slice (some ⟨G, o, none⟩) L cp := hd 8 (by omega)
    clear hd
    have hDV := hD2.more hV
    have hB := hBk V hDV.below
    simp only [List.drop_succ_cons, List.drop_zero]
    gi_wp2_with (refine ⟨trivial, ?_⟩; gi_at_call 37; go_loud (refine (callsIn_wide.2 hB).mono ?_; clear hB; rintro e W5 ⟨y, rfl, hy, hB5⟩; obtain ⟨y1, y2, y3, y4, rfl⟩ := hy.form; obtain ⟨hres, hown, hBl⟩ := hDV.result hy hB5; obtain ⟨r0, r1, g0, g1⟩ := row_at hres; have hres' := hide (desk_set hres (.slice y1 D.1.length y2) (.slice y3 D.2.length y4)); have hown' := hide hown; clear hy hB5 hown))
    exact bodyPost_ret (results_desk2 rfl _ _ (w.heap.size + 2) _ _ rfl hres'.out) rfl ⟨_, rfl, hown'.out, hBl⟩
end Go.Proofs.Ytimnhedjapakhaa
