/-
  The model's DeskDo: nothing that may be.
-/
import Derived.Test.YtimnhedjapakhaaSpec12m
namespace Go.Proofs.Ytimnhedjapakhaa
open Go.RowKit Go.Shelf
attribute [local go_sem] Oper.semAt_some

set_option maxRecDepth 100000 in
set_option maxHeartbeats 2000000 in
theorem specDo_empty (x p : Value) (d : Dk) (k n : Int) (w : World) (hx : Ints w x d.1) (hp : PastI w p d.2) (hb : deskB d = true) (hk : Fits k) (hn : Fits n) (h5 : ¬ (k = 5 ∧ n = 0)) (hM : madeV d.1 k n = []) : Calls Try.prog 14 #[.agg #[x, p], dV k n] w fun e w' =>
    ∃ y, e = .returned (.tuple #[y, .bool (doV d k n).2]) ∧ DeskI w' y (doV d k n).1 ∧ CapN w.heap.size y ∧ Below w.heap.size w w' := by
  rw [doV_same hb (fun h => h5 ⟨h.1, h.2.1⟩) (.inl hM)]
  obtain ⟨hd1, hd2, hd3⟩ := deskB_is.1 hb
  have hl := sideB_len hd2
  have hD := Do1.new w x p k n
  obtain ⟨W1, hW1⟩ : ∃ W1, ((w.alloc (.cells #[x, p] 26)).alloc (.cells #[.int .i64 k, .int .i64 n] 32)).alloc (.cells #[.slice none 0 0, .slice none 0 0] 26) = W1 := ⟨_, rfl⟩
  rw [hW1] at hD
  have hOK := specDeskOk (.agg #[x, p]) d W1 ⟨x, p, rfl, hx.below hD.below, hp.below hD.below⟩ ⟨by omega, by omega, fun j => by
    by_cases hj : j < d.2.length
    · have := sideB_len (hd1 (d.2.getD j []) (by rw [List.getD, List.getElem?_eq_getElem hj]; exact List.getElem_mem hj)); omega
    · rw [List.getD, List.getElem?_eq_none (by omega)]; simp⟩
  rw [hb] at hOK
  have hCp := fun V (hV : Do1 w x p k n V) => specCopy x p d V (hx.below hV.below) (hp.below hV.below) hb
  have hMd := fun V (hV : Do1 w x p k n V) => specMade x d.1 k n V (hx.below hV.below) hd2 hk hn
  have q5 := fun V => equal_deed hk hn (k' := 5) (n' := 0) (by constructor <;> omega) (by constructor <;> omega) V
  rw [decide_eq_false h5] at q5
  obtain ⟨row, past⟩ := d
  simp only at hd1 hd2 hd3 hl hx hp hCp hMd hOK ⊢
  rw [hM] at hMd
  clear hM h5
  obtain ⟨ap, cp, rfl, _⟩ := id hp
  obtain ⟨ax, cx, rfl⟩ := hx.shape
  obtain ⟨a0, a1, _, _⟩ := row_at hD.desk
  unfold dV at hMd ⊢

  go_enter Try.func14, Try.ntmps14
  go_wp2_with (first
    | (go_at_call 10; go_loud (refine hOK.mono ?_; clear hOK; rintro e W2 ⟨rfl, hB2⟩; have hD2 := hD.more hB2; obtain ⟨a0, a1, _, _⟩ := row_at hD2.desk; clear hD hB2))
    | (go_at_call 41; go_loud (refine (hCp _ hD2).mono ?_; clear hCp; rintro e W3 ⟨y, q, rfl, hy, hq, hB3⟩; have hE := do2_new (d := (row, past)) hD2 hy hq hB3; obtain ⟨ay, cy, rfl⟩ := own_form hy; obtain ⟨aq, cq, rfl⟩ := hq.form; obtain ⟨a0, a1, _, _⟩ := row_at hE.one.desk; obtain ⟨c0, c1, _, _⟩ := row_at hE.one.deed; clear hD2 hB3 hy hq; obtain ⟨W4, hW4⟩ : ∃ W4, W3.alloc (.cells #[.slice ay row.length cy, .slice aq past.length cq] 26) = W4 := ⟨_, rfl⟩; rw [hW4] at hE a0 a1 c0 c1; obtain ⟨e0, e1, f0, f1⟩ := row_at hE.out))
    | (go_at_call 42; go_loud (refine (hMd _ hE.one).mono ?_; clear hMd; rintro e W5 ⟨r, rfl, hr, hB5, hrf⟩; have hqb := do2_block hE; have hF := hE.more hB5; obtain ⟨a0, a1, _, _⟩ := row_at hF.one.desk; obtain ⟨ar, cr, rfl⟩ := hr.shape; obtain ⟨e0, e1, f0, f1⟩ := row_at hF.out; obtain ⟨r0, r1, g0, g1⟩ := row_at hF.one.res; clear hE hB5))
    | (go_at_call 43; fail))
  have hE2 := hF
  obtain ⟨hown, hBl⟩ := hE2.result
  have hres := hide (desk_set hE2.one.res (.slice ay row.length cy) (.slice aq past.length cq))
  have hcap : past.length ≤ cq := by obtain ⟨us, _, ho, _⟩ := hE2.past; exact own_cap ho
  have hcn : ∀ g o t, aq = some ⟨g, o, t⟩ → w.heap.size ≤ g := fun g o t e => by
    subst e
    obtain ⟨us, _, ho, _⟩ := hE2.past
    have := (ho.lt g rfl).1
    omega
  clear hE2
  exact bodyPost_ret (results_desk2 rfl _ _ (w.heap.size + 2) _ _ rfl hres.out) rfl ⟨_, rfl, hown, CapN.of hcap hcn, hBl⟩
end Go.Proofs.Ytimnhedjapakhaa
