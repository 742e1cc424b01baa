/-
  The model's DeskDo: the row is another one.
-/
import Derived.Test.YtimnhedjapakhaaSpec12m
namespace Go.Proofs.Ytimnhedjapakhaa
open Go.RowKit Go.Shelf
attribute [local go_sem] Oper.semAt_some

set_option maxRecDepth 100000 in
set_option maxHeartbeats 2000000 in
theorem specDo_made (x p : Value) (d : Dk) (k n : Int) (w : World) (hx : Ints w x d.1) (hp : PastI w p d.2) (hb : deskB d = true) (hk : Fits k) (hn : Fits n) (h5 : ¬ (k = 5 ∧ n = 0)) (h0 : madeV d.1 k n ≠ []) (hM : madeV d.1 k n ≠ d.1) (h8 : d.2.length < 8) : Calls Try.prog 14 #[.agg #[x, p], dV k n] w fun e w' =>
    ∃ y, e = .returned (.tuple #[y, .bool (doV d k n).2]) ∧ DeskI w' y (doV d k n).1 ∧ CapN w.heap.size y ∧ Below w.heap.size w w' := by
  rw [doV_made hb (fun h => h5 ⟨h.1, h.2.1⟩) (fun h => h.elim h0 hM), show pastV d.2 d.1 = d.2 ++ [d.1] by unfold pastV; rw [if_pos h8]]
  obtain ⟨hd1, hd2, hd3⟩ := deskB_is.1 hb
  have hl := sideB_len hd2
  have hD := Do1.new w x p k n
  obtain ⟨W1, hW1⟩ : ∃ W1, ((w.alloc (.cells #[x, p] 26)).alloc (.cells #[.int .i64 k, .int .i64 n] 32)).alloc (.cells #[.slice none 0 0, .slice none 0 0] 26) = W1 := ⟨_, rfl⟩
  rw [hW1] at hD
  have hOK := specDeskOk (.agg #[x, p]) d W1 ⟨x, p, rfl, hx.below hD.below, hp.below hD.below⟩ ⟨by omega, by omega, fun j => by
    by_cases hj : j < d.2.length
    · have := sideB_len (hd1 (d.2.getD j []) (by rw [List.getD, List.getElem?_eq_getElem hj]; exact List.getElem_mem hj)); omega
    · rw [List.getD, List.getElem?_eq_none (by omega)]; simp⟩
  rw [hb] at hOK
  have hCp := fun V (hV : Do1 w x p k n V) => specCopy x p d V (hx.below hV.below) (hp.below hV.below) hb
  have hMd := fun V (hV : Do1 w x p k n V) => specMade x d.1 k n V (hx.below hV.below) hd2 hk hn
  have q5 := fun V => equal_deed hk hn (k' := 5) (n' := 0) (by constructor <;> omega) (by constructor <;> omega) V
  rw [decide_eq_false h5] at q5
  obtain ⟨row, past⟩ := d
  simp only at hd1 hd2 hd3 hl hx hp hCp hMd hOK ⊢
  have hml := sideB_len (made_side hd2 k n h0)
  have hEq := fun (V : World) (r : Value) (hV : Do1 w x p k n V) (hr : Ints V r (madeV row k n)) => specSame r x (madeV row k n) row V hr (hx.below hV.below) (by omega)
  rw [decide_eq_false hM] at hEq
  generalize madeV row k n = M at *
  have hrow : ¬ (M = []) := h0
  clear h0 hM h5 hd1
  obtain ⟨ap, cp, rfl, _⟩ := id hp
  obtain ⟨ax, cx, rfl⟩ := hx.shape
  obtain ⟨a0, a1, _, _⟩ := row_at hD.desk
  unfold dV at hMd ⊢

  go_enter Try.func14, Try.ntmps14
  go_wp2_with (first
    | (go_at_call 10; go_loud (refine hOK.mono ?_; clear hOK; rintro e W2 ⟨rfl, hB2⟩; have hD2 := hD.more hB2; obtain ⟨a0, a1, _, _⟩ := row_at hD2.desk; clear hD hB2))
    | (go_at_call 41; go_loud (refine (hCp _ hD2).mono ?_; clear hCp; rintro e W3 ⟨y, q, rfl, hy, hq, hB3⟩; have hE := do2_new (d := (row, past)) hD2 hy hq hB3; obtain ⟨ay, cy, rfl⟩ := own_form hy; obtain ⟨aq, cq, rfl⟩ := hq.form; obtain ⟨a0, a1, _, _⟩ := row_at hE.one.desk; obtain ⟨c0, c1, _, _⟩ := row_at hE.one.deed; clear hD2 hB3 hy hq; obtain ⟨W4, hW4⟩ : ∃ W4, W3.alloc (.cells #[.slice ay row.length cy, .slice aq past.length cq] 26) = W4 := ⟨_, rfl⟩; rw [hW4] at hE a0 a1 c0 c1; obtain ⟨e0, e1, f0, f1⟩ := row_at hE.out))
    | (go_at_call 42; go_loud (refine (hMd _ hE.one).mono ?_; clear hMd; rintro e W5 ⟨r, rfl, hr, hB5, hrf⟩; have hqb := do2_block hE; have hF := hE.more hB5; obtain ⟨a0, a1, _, _⟩ := row_at hF.one.desk; obtain ⟨ar, cr, rfl⟩ := hr.shape; obtain ⟨e0, e1, f0, f1⟩ := row_at hF.out; obtain ⟨r0, r1, g0, g1⟩ := row_at hF.one.res; clear hE hB5))
    | (go_at_call 43; go_loud (refine (hEq _ _ hF.one hr).mono ?_; clear hEq; rintro e W6 ⟨rfl, hB6⟩; have hr6 := hr.below hB6; have hG := hF.more hB6; obtain ⟨a0, a1, _, _⟩ := row_at hG.one.desk; obtain ⟨e0, e1, f0, f1⟩ := row_at hG.out; obtain ⟨r0, r1, g0, g1⟩ := row_at hG.one.res; obtain ⟨us, hul, huo, hur⟩ := hG.past; simp only at hul; have hq6 := (Boxed.new W6 23 (.slice ay row.length cy)).cell; have hb7 := (Below.refl _ W6).alloc (Nat.le_refl _) (.cells #[.slice ay row.length cy] 23); have huo7 := own_below huo hb7; have hG7 := hG.more hb7; have hr7 := hr6.below hb7; have hsz7 := hG7.one.size; have hlt7 := hG7.lt; obtain ⟨W7, hW7⟩ : ∃ W7, W6.alloc (.cells #[.slice ay row.length cy] 23) = W7 := ⟨_, rfl⟩; rw [hW7] at hq6 huo7 hG7 hr7 hsz7 hb7; have hur7 := fun j (hj : j < past.length) => own_below (hur j hj) hb7; clear hF hB6 hr))
    | (at_builtin; go_loud (refine append_slice12 rfl _ _ rfl rfl (w.heap.size + 3) _ us.length us rfl huo7 W6.heap.size rfl hq6 (by omega) (by omega) ?_); intro v8 w8 how8 hg8; go_loud (have hF8 := hG7.append hul huo7 hur7 how8 hg8 hr7 hrf hqb; obtain ⟨a8, c8, rfl⟩ := own_form how8; obtain ⟨k0, k1, k2, k3⟩ := row_at hF8.out; obtain ⟨s0, s1, t0, t1⟩ := row_at hF8.res; have hcap8 := own_cap how8; have hcn8 := (fun g h => (how8.lt g h).1); rw [hul] at hcap8 hF8 ⊢; have hF9 := hide hF8; clear hF8 how8 hg8 hG7 huo7 hur7 hur huo hG)))
  have hF10 := (hF9.out.set1 (.slice a8 (past.length + 1) c8)).set0 (.slice ar M.length cr)
  obtain ⟨hown, hBl⟩ := hF10.result (z := .slice a8 (past.length + 1) c8) (fun _ h => h)
  have hres := desk_set hF10.res (.slice ar M.length cr) (.slice a8 (past.length + 1) c8)
  exact bodyPost_ret (results_desk2 rfl _ _ (w.heap.size + 2) _ _ rfl hres) rfl ⟨_, rfl, hown, CapN.of hcap8 (fun g o t e => by subst e; have := hcn8 g rfl; omega), hBl⟩
end Go.Proofs.Ytimnhedjapakhaa
