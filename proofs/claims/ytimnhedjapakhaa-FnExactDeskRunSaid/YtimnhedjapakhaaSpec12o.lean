/-
  The model's DeskDo: the last row of before is put back.
-/
import Derived.Test.YtimnhedjapakhaaSpec12m
namespace Go.Proofs.Ytimnhedjapakhaa
open Go.RowKit Go.Shelf
attribute [local go_sem] Oper.semAt_some

theorem past_take {W : World} {G o L c : Nat} {rows : List (List Int)} (h : PastI W (.slice (some ⟨G, o, none⟩) (L + 1) c) rows) : PastI W (.slice (some ⟨G, o, none⟩) L c) (rows.take L) := by
  obtain ⟨a, c', e, hr⟩ := h
  injection e with e1 e2 e3
  subst e1
  have hl : (rows.take L).length = L := by rw [List.length_take]; omega
  refine ⟨some ⟨G, o, none⟩, c, by rw [hl], fun h0 => ?_⟩
  obtain ⟨G', o', e, hG, hc⟩ := hr (by omega)
  injection e with e
  injection e with e4 e5
  subst e4 e5
  refine ⟨G, o, rfl, hG, fun j hj => ?_⟩
  rw [hl] at hj
  obtain ⟨u, h1, h2⟩ := hc j (by omega)
  refine ⟨u, h1, ?_⟩
  rw [List.getD, List.getElem?_take, if_pos hj]
  exact h2
set_option maxRecDepth 100000 in
set_option maxHeartbeats 2000000 in
theorem specDo_back (x p : Value) (d : Dk) (k n : Int) (w : World) (hx : Ints w x d.1) (hp : PastI w p d.2) (hb : deskB d = true) (hk : Fits k) (hn : Fits n) (h5 : k = 5 ∧ n = 0) (L : Nat) (hL : d.2.length = L + 1) : Calls Try.prog 14 #[.agg #[x, p], dV k n] w fun e w' =>
    ∃ y, e = .returned (.tuple #[y, .bool (doV d k n).2]) ∧ DeskI w' y (doV d k n).1 ∧ CapN w.heap.size y ∧ Below w.heap.size w w' := by
  obtain ⟨rfl, rfl⟩ := h5
  rw [doV_back hb (by omega)]
  obtain ⟨hd1, hd2, hd3⟩ := deskB_is.1 hb
  have hl := sideB_len hd2
  have hD := Do1.new w x p 5 0
  obtain ⟨W1, hW1⟩ : ∃ W1, ((w.alloc (.cells #[x, p] 26)).alloc (.cells #[.int .i64 5, .int .i64 0] 32)).alloc (.cells #[.slice none 0 0, .slice none 0 0] 26) = W1 := ⟨_, rfl⟩
  rw [hW1] at hD
  have hOK := specDeskOk (.agg #[x, p]) d W1 ⟨x, p, rfl, hx.below hD.below, hp.below hD.below⟩ ⟨by omega, by omega, fun j => by
    by_cases hj : j < d.2.length
    · have := sideB_len (hd1 (d.2.getD j []) (by rw [List.getD, List.getElem?_eq_getElem hj]; exact List.getElem_mem hj)); omega
    · rw [List.getD, List.getElem?_eq_none (by omega)]; simp⟩
  rw [hb] at hOK
  have hCp := fun V (hV : Do1 w x p 5 0 V) => specCopy x p d V (hx.below hV.below) (hp.below hV.below) hb
  have hMd := fun V (hV : Do1 w x p 5 0 V) => specMade x d.1 5 0 V (hx.below hV.below) hd2 hk hn
  have q5 := fun V => equal_deed (k := 5) (n := 0) (by constructor <;> omega) (by constructor <;> omega) (k' := 5) (n' := 0) (by constructor <;> omega) (by constructor <;> omega) V
  have e5 : decide ((5 : Int) = 5 ∧ (0 : Int) = 0) = true := by decide
  rw [e5] at q5
  obtain ⟨row, past⟩ := d
  simp only at hd1 hd2 hd3 hl hx hp hCp hMd hOK ⊢
  have hpst : pstV past = past.getD L [] := by unfold pstV; rw [show past.length = L + 1 from hL]; rfl
  have hLt : past.length - 1 = L := by rw [show past.length = L + 1 from hL]; rfl
  rw [hpst, hLt]
  obtain ⟨R, hRR⟩ : ∃ R, past.getD L [] = R := ⟨_, rfl⟩
  rw [hRR]
  have hRh := hide hRR
  clear hRR
  have hL' : past.length = L + 1 := hL
  have hL0 : 0 < past.length := by omega
  have hLlt : L < past.length := by omega
  have hLb : L ≤ 8 := by omega
  have hhL := hide hL'
  clear e5 hpst hLt hd1 hd2 hMd
  obtain ⟨ap, cp, ep, _⟩ := id hp
  rw [hL'] at ep
  subst ep
  obtain ⟨ax, cx, rfl⟩ := hx.shape
  obtain ⟨a0, a1, _, _⟩ := row_at hD.desk
  unfold dV
  clear hL hL' hl hd3

  go_enter Try.func14, Try.ntmps14
  go_wp2_with (first
    | (go_at_call 10; go_loud (refine hOK.mono ?_; clear hOK; rintro e W2 ⟨rfl, hB2⟩; have hD2 := hD.more hB2; obtain ⟨a0, a1, _, _⟩ := row_at hD2.desk; clear hD hB2))
    | (go_at_call 41; go_loud (refine (hCp _ hD2).mono ?_; clear hCp; rintro e W3 ⟨y, q, rfl, hy, hq, hB3⟩; have hE := do2_new (d := (row, past)) hD2 hy hq hB3; obtain ⟨ay, cy, rfl⟩ := own_form hy; obtain ⟨gq, cq, eq0, hgq, hcq⟩ := hq.read hL0; obtain ⟨uL, hul, huL, _⟩ := hcq L hLlt; rw [hRh.out] at huL; obtain ⟨al, cl, rfl⟩ := huL.shape; rw [hhL.out] at eq0; subst eq0; have hcnb := hD2.below.size; have hcp0 := own_cap (Classical.choose_spec hq).2.1; have hcn0 := Nat.le_trans hcnb ((Classical.choose_spec hq).2.1.lt gq rfl).1; have hcp1 : L ≤ cq := (by omega); obtain ⟨a0, a1, _, _⟩ := row_at hE.one.desk; obtain ⟨c0, c1, _, _⟩ := row_at hE.one.deed; clear hD2 hB3 hy hq; have hba := (Below.refl _ W3).alloc (Nat.le_refl _) (.cells #[.slice ay row.length cy, .slice (some ⟨gq, 0, none⟩) (L + 1) cq] 26); have hul4 := (hba.cell (p := ⟨gq, L, none⟩) hgq).trans hul; have huL4 := huL.below hba; obtain ⟨W4, hW4⟩ : ∃ W4, W3.alloc (.cells #[.slice ay row.length cy, .slice (some ⟨gq, 0, none⟩) (L + 1) cq] 26) = W4 := ⟨_, rfl⟩; rw [hW4] at hE a0 a1 c0 c1 hul4 huL4; obtain ⟨e0, e1, f0, f1⟩ := row_at hE.out; obtain ⟨r0, r1, g0, g1⟩ := row_at hE.one.res; have hF : Fin12 w W3.heap.size _ _ (.slice al R.length cl) R _ past W4 := ⟨hE.one.below, hE.lt, hE.out, hE.one.res, hE.past, huL4⟩; have hF10 := hide ((hF.set0 (.slice al R.length cl)).set1 (.slice (some ⟨gq, 0, none⟩) L cq)); have hgb : ¬ gq = W3.heap.size := (Nat.ne_of_lt hgq); have hlt0 := hE.lt; clear hF hE hcq huL hul huL4 hba hcp0 hgq))
    | (go_at_call 42; go_loud (refine (hMd _ hE.one).mono ?_; clear hMd; rintro e W5 ⟨r, rfl, hr, hB5, hrf⟩; have hqb := do2_block hE; have hF := hE.more hB5; obtain ⟨a0, a1, _, _⟩ := row_at hF.one.desk; obtain ⟨ar, cr, rfl⟩ := hr.shape; obtain ⟨e0, e1, f0, f1⟩ := row_at hF.out; obtain ⟨r0, r1, g0, g1⟩ := row_at hF.one.res; clear hE hB5))
    | (go_at_call 42; fail))
  obtain ⟨hown, hBl⟩ := hF10.out.result (z := .slice (some ⟨gq, 0, none⟩) L cq) (fun _ h => past_take h)
  have hres := desk_set hF10.out.res (.slice al R.length cl) (.slice (some ⟨gq, 0, none⟩) L cq)
  exact bodyPost_ret (results_desk2 rfl _ _ (w.heap.size + 2) _ _ rfl hres) rfl ⟨_, rfl, hown, CapN.of (by omega) (fun g o t e => by injection e with e; injection e with e _; subst e; exact hcn0), hBl⟩
end Go.Proofs.Ytimnhedjapakhaa
