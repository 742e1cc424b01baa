/-
  The model's DeskDo: no row of before.
-/
import Derived.Test.YtimnhedjapakhaaS12Z
namespace Go.Proofs.Ytimnhedjapakhaa
open Go.RowKit Go.Shelf
attribute [local go_sem] Oper.semAt_some

set_option maxRecDepth 100000 in
set_option maxHeartbeats 2000000 in
theorem specDo_none (x p : Value) (d : Dk) (k n : Int) (w : World) (hx : Ints w x d.1) (hp : PastI w p d.2) (hb : deskB d = true) (hk : Fits k) (hn : Fits n) (h5 : k = 5 ∧ n = 0) (h0 : d.2.length = 0) : Calls Try.prog 14 #[.agg #[x, p], dV k n] w fun e w' =>
    ∃ y, e = .returned (.tuple #[y, .bool (doV d k n).2]) ∧ DeskI w' y (doV d k n).1 ∧ (CapN w.heap.size y ∧ (d.2.length < 8 → PastO w' w.heap.size y (doV d k n).1.2)) ∧ Below w.heap.size w w' := by
  obtain ⟨rfl, rfl⟩ := h5
  rw [doV_same hb (by omega) (.inl rfl)]
  obtain ⟨hd1, hd2, hd3⟩ := deskB_is.1 hb
  have hl := sideB_len hd2
  have hD := Do1.new w x p 5 0
  obtain ⟨W1, hW1⟩ : ∃ W1, ((w.alloc (.cells #[x, p] 26)).alloc (.cells #[.int .i64 5, .int .i64 0] 32)).alloc (.cells #[.slice none 0 0, .slice none 0 0] 26) = W1 := ⟨_, rfl⟩
  rw [hW1] at hD
  have hOK := specDeskOk (.agg #[x, p]) d W1 ⟨x, p, rfl, hx.below hD.below, hp.below hD.below⟩ ⟨by omega, by omega, fun j => by
    by_cases hj : j < d.2.length
    · have := sideB_len (hd1 (d.2.getD j []) (by rw [List.getD, List.getElem?_eq_getElem hj]; exact List.getElem_mem hj)); omega
    · rw [List.getD, List.getElem?_eq_none (by omega)]; simp⟩
  rw [hb] at hOK
  have hCp := fun V (hV : Do1 w x p 5 0 V) => specCopy x p d V (hx.below hV.below) (hp.below hV.below) hb
  have hMd := fun V (hV : Do1 w x p 5 0 V) => specMade x d.1 5 0 V (hx.below hV.below) hd2 hk hn
  have q5 := fun V => equal_deed (k := 5) (n := 0) (by constructor <;> omega) (by constructor <;> omega) (k' := 5) (n' := 0) (by constructor <;> omega) (by constructor <;> omega) V
  have e5 : decide ((5 : Int) = 5 ∧ (0 : Int) = 0) = true := by decide
  rw [e5] at q5
  obtain ⟨row, past⟩ := d
  simp only at hd1 hd2 hd3 hl hx hp hCp hMd hOK ⊢
  have hM : madeV row 5 0 = [] := rfl
  rw [hM] at hMd
  obtain rfl : past = [] := List.length_eq_zero_iff.1 h0
  clear hM e5 h0
  obtain ⟨ap, cp, rfl, _⟩ := id hp
  obtain ⟨ax, cx, rfl⟩ := hx.shape
  obtain ⟨a0, a1, _, _⟩ := row_at hD.desk
  unfold dV at hMd ⊢
  simp only [List.length_nil] at hOK hW1 hD hMd hCp a0 a1 ⊢
  go_enter Try.func14, Try.ntmps14
  go_wp2_with (first
    | (go_at_call 10; go_loud (refine hOK.mono ?_; clear hOK; rintro e W2 ⟨rfl, hB2⟩; have hD2 := hD.more hB2; obtain ⟨a0, a1, _, _⟩ := row_at hD2.desk; clear hD hB2))
    | (go_at_call 41; go_loud (refine (hCp _ hD2).mono ?_; clear hCp; rintro e W3 ⟨y, q, rfl, hy, hq, hB3⟩; have hE := do2_new (d := (row, [])) hD2 hy hq hB3; obtain ⟨ay, cy, rfl⟩ := own_form hy; obtain ⟨aq, cq, eq0⟩ := hq.form; simp only [List.length_nil] at eq0; subst eq0; obtain ⟨a0, a1, _, _⟩ := row_at hE.one.desk; obtain ⟨c0, c1, _, _⟩ := row_at hE.one.deed; clear hD2 hB3 hy hq; obtain ⟨W4, hW4⟩ : ∃ W4, W3.alloc (.cells #[.slice ay row.length cy, .slice aq 0 cq] 26) = W4 := ⟨_, rfl⟩; rw [hW4] at hE a0 a1 c0 c1; obtain ⟨e0, e1, f0, f1⟩ := row_at hE.out))
    | (go_at_call 42; go_loud (refine (hMd _ hE.one).mono ?_; clear hMd; rintro e W5 ⟨r, rfl, hr, hB5, hrf⟩; have hqb := do2_block hE; have hrlo : ∀ g, r.ownBlock = some g → w.heap.size ≤ g := (fun g e => Nat.le_trans hE.one.below.size (hrf g e)); have hF := hE.more hB5; obtain ⟨a0, a1, _, _⟩ := row_at hF.one.desk; obtain ⟨ar, cr, rfl⟩ := hr.shape; obtain ⟨e0, e1, f0, f1⟩ := row_at hF.out; obtain ⟨r0, r1, g0, g1⟩ := row_at hF.one.res; clear hE hB5))
    | (go_at_call 43; fail))
  have hE2 := hF
  obtain ⟨hown, hBl, hpo, hap⟩ := hE2.result
  have hres := hide (desk_set hE2.one.res (.slice ay row.length cy) (.slice aq 0 cq))
  have hcap : 0 ≤ cq := by obtain ⟨us, _, ho, _⟩ := hE2.past; exact own_cap ho
  have hcn : ∀ g o t, aq = some ⟨g, o, t⟩ → w.heap.size ≤ g := fun g o t e => by
    subst e
    obtain ⟨us, _, ho, _⟩ := hE2.past
    have := (ho.lt g rfl).1
    omega
  clear hE2
  exact bodyPost_ret (results_desk2 rfl _ _ (w.heap.size + 2) _ _ rfl hres.out) rfl ⟨_, rfl, hown, ⟨CapN.of hcap hcn, fun _ => ⟨_, _, rfl, hpo, hap⟩⟩, hBl⟩
end Go.Proofs.Ytimnhedjapakhaa
/-
  The model's DeskDo: nothing that may be.
-/
namespace Go.Proofs.Ytimnhedjapakhaa
open Go.RowKit Go.Shelf
attribute [local go_sem] Oper.semAt_some

set_option maxRecDepth 100000 in
set_option maxHeartbeats 2000000 in
theorem specDo_empty (x p : Value) (d : Dk) (k n : Int) (w : World) (hx : Ints w x d.1) (hp : PastI w p d.2) (hb : deskB d = true) (hk : Fits k) (hn : Fits n) (h5 : ¬ (k = 5 ∧ n = 0)) (hM : madeV d.1 k n = []) : Calls Try.prog 14 #[.agg #[x, p], dV k n] w fun e w' =>
    ∃ y, e = .returned (.tuple #[y, .bool (doV d k n).2]) ∧ DeskI w' y (doV d k n).1 ∧ (CapN w.heap.size y ∧ (d.2.length < 8 → PastO w' w.heap.size y (doV d k n).1.2)) ∧ Below w.heap.size w w' := by
  rw [doV_same hb (fun h => h5 ⟨h.1, h.2.1⟩) (.inl hM)]
  obtain ⟨hd1, hd2, hd3⟩ := deskB_is.1 hb
  have hl := sideB_len hd2
  have hD := Do1.new w x p k n
  obtain ⟨W1, hW1⟩ : ∃ W1, ((w.alloc (.cells #[x, p] 26)).alloc (.cells #[.int .i64 k, .int .i64 n] 32)).alloc (.cells #[.slice none 0 0, .slice none 0 0] 26) = W1 := ⟨_, rfl⟩
  rw [hW1] at hD
  have hOK := specDeskOk (.agg #[x, p]) d W1 ⟨x, p, rfl, hx.below hD.below, hp.below hD.below⟩ ⟨by omega, by omega, fun j => by
    by_cases hj : j < d.2.length
    · have := sideB_len (hd1 (d.2.getD j []) (by rw [List.getD, List.getElem?_eq_getElem hj]; exact List.getElem_mem hj)); omega
    · rw [List.getD, List.getElem?_eq_none (by omega)]; simp⟩
  rw [hb] at hOK
  have hCp := fun V (hV : Do1 w x p k n V) => specCopy x p d V (hx.below hV.below) (hp.below hV.below) hb
  have hMd := fun V (hV : Do1 w x p k n V) => specMade x d.1 k n V (hx.below hV.below) hd2 hk hn
  have q5 := fun V => equal_deed hk hn (k' := 5) (n' := 0) (by constructor <;> omega) (by constructor <;> omega) V
  rw [decide_eq_false h5] at q5
  obtain ⟨row, past⟩ := d
  simp only at hd1 hd2 hd3 hl hx hp hCp hMd hOK ⊢
  rw [hM] at hMd
  clear hM h5
  obtain ⟨ap, cp, rfl, _⟩ := id hp
  obtain ⟨ax, cx, rfl⟩ := hx.shape
  obtain ⟨a0, a1, _, _⟩ := row_at hD.desk
  unfold dV at hMd ⊢

  go_enter Try.func14, Try.ntmps14
  go_wp2_with (first
    | (go_at_call 10; go_loud (refine hOK.mono ?_; clear hOK; rintro e W2 ⟨rfl, hB2⟩; have hD2 := hD.more hB2; obtain ⟨a0, a1, _, _⟩ := row_at hD2.desk; clear hD hB2))
    | (go_at_call 41; go_loud (refine (hCp _ hD2).mono ?_; clear hCp; rintro e W3 ⟨y, q, rfl, hy, hq, hB3⟩; have hE := do2_new (d := (row, past)) hD2 hy hq hB3; obtain ⟨ay, cy, rfl⟩ := own_form hy; obtain ⟨aq, cq, rfl⟩ := hq.form; obtain ⟨a0, a1, _, _⟩ := row_at hE.one.desk; obtain ⟨c0, c1, _, _⟩ := row_at hE.one.deed; clear hD2 hB3 hy hq; obtain ⟨W4, hW4⟩ : ∃ W4, W3.alloc (.cells #[.slice ay row.length cy, .slice aq past.length cq] 26) = W4 := ⟨_, rfl⟩; rw [hW4] at hE a0 a1 c0 c1; obtain ⟨e0, e1, f0, f1⟩ := row_at hE.out))
    | (go_at_call 42; go_loud (refine (hMd _ hE.one).mono ?_; clear hMd; rintro e W5 ⟨r, rfl, hr, hB5, hrf⟩; have hqb := do2_block hE; have hrlo : ∀ g, r.ownBlock = some g → w.heap.size ≤ g := (fun g e => Nat.le_trans hE.one.below.size (hrf g e)); have hF := hE.more hB5; obtain ⟨a0, a1, _, _⟩ := row_at hF.one.desk; obtain ⟨ar, cr, rfl⟩ := hr.shape; obtain ⟨e0, e1, f0, f1⟩ := row_at hF.out; obtain ⟨r0, r1, g0, g1⟩ := row_at hF.one.res; clear hE hB5))
    | (go_at_call 43; fail))
  have hE2 := hF
  obtain ⟨hown, hBl, hpo, hap⟩ := hE2.result
  have hres := hide (desk_set hE2.one.res (.slice ay row.length cy) (.slice aq past.length cq))
  have hcap : past.length ≤ cq := by obtain ⟨us, _, ho, _⟩ := hE2.past; exact own_cap ho
  have hcn : ∀ g o t, aq = some ⟨g, o, t⟩ → w.heap.size ≤ g := fun g o t e => by
    subst e
    obtain ⟨us, _, ho, _⟩ := hE2.past
    have := (ho.lt g rfl).1
    omega
  clear hE2
  exact bodyPost_ret (results_desk2 rfl _ _ (w.heap.size + 2) _ _ rfl hres.out) rfl ⟨_, rfl, hown, ⟨CapN.of hcap hcn, fun _ => ⟨_, _, rfl, hpo, hap⟩⟩, hBl⟩
end Go.Proofs.Ytimnhedjapakhaa
/-
  The model's DeskDo: the row stays the same.
-/
namespace Go.Proofs.Ytimnhedjapakhaa
open Go.RowKit Go.Shelf
attribute [local go_sem] Oper.semAt_some

set_option maxRecDepth 100000 in
set_option maxHeartbeats 2000000 in
theorem specDo_same (x p : Value) (d : Dk) (k n : Int) (w : World) (hx : Ints w x d.1) (hp : PastI w p d.2) (hb : deskB d = true) (hk : Fits k) (hn : Fits n) (h5 : ¬ (k = 5 ∧ n = 0)) (hM : madeV d.1 k n = d.1) : Calls Try.prog 14 #[.agg #[x, p], dV k n] w fun e w' =>
    ∃ y, e = .returned (.tuple #[y, .bool (doV d k n).2]) ∧ DeskI w' y (doV d k n).1 ∧ (CapN w.heap.size y ∧ (d.2.length < 8 → PastO w' w.heap.size y (doV d k n).1.2)) ∧ Below w.heap.size w w' := by
  rw [doV_same hb (fun h => h5 ⟨h.1, h.2.1⟩) (.inr hM)]
  obtain ⟨hd1, hd2, hd3⟩ := deskB_is.1 hb
  have hl := sideB_len hd2
  have hD := Do1.new w x p k n
  obtain ⟨W1, hW1⟩ : ∃ W1, ((w.alloc (.cells #[x, p] 26)).alloc (.cells #[.int .i64 k, .int .i64 n] 32)).alloc (.cells #[.slice none 0 0, .slice none 0 0] 26) = W1 := ⟨_, rfl⟩
  rw [hW1] at hD
  have hOK := specDeskOk (.agg #[x, p]) d W1 ⟨x, p, rfl, hx.below hD.below, hp.below hD.below⟩ ⟨by omega, by omega, fun j => by
    by_cases hj : j < d.2.length
    · have := sideB_len (hd1 (d.2.getD j []) (by rw [List.getD, List.getElem?_eq_getElem hj]; exact List.getElem_mem hj)); omega
    · rw [List.getD, List.getElem?_eq_none (by omega)]; simp⟩
  rw [hb] at hOK
  have hCp := fun V (hV : Do1 w x p k n V) => specCopy x p d V (hx.below hV.below) (hp.below hV.below) hb
  have hMd := fun V (hV : Do1 w x p k n V) => specMade x d.1 k n V (hx.below hV.below) hd2 hk hn
  have q5 := fun V => equal_deed hk hn (k' := 5) (n' := 0) (by constructor <;> omega) (by constructor <;> omega) V
  rw [decide_eq_false h5] at q5
  obtain ⟨row, past⟩ := d
  simp only at hd1 hd2 hd3 hl hx hp hCp hMd hOK ⊢
  rw [hM] at hMd
  have hEq := fun (V : World) (r : Value) (hV : Do1 w x p k n V) (hr : Ints V r row) => specSame r x row row V hr (hx.below hV.below) (by omega)
  rw [decide_eq_true (rfl : row = row)] at hEq
  have hrow : ¬ (row = []) := fun e => by rw [e] at hl; simp at hl
  clear hM h5
  obtain ⟨ap, cp, rfl, _⟩ := id hp
  obtain ⟨ax, cx, rfl⟩ := hx.shape
  obtain ⟨a0, a1, _, _⟩ := row_at hD.desk
  unfold dV at hMd ⊢

  go_enter Try.func14, Try.ntmps14
  go_wp2_with (first
    | (go_at_call 10; go_loud (refine hOK.mono ?_; clear hOK; rintro e W2 ⟨rfl, hB2⟩; have hD2 := hD.more hB2; obtain ⟨a0, a1, _, _⟩ := row_at hD2.desk; clear hD hB2))
    | (go_at_call 41; go_loud (refine (hCp _ hD2).mono ?_; clear hCp; rintro e W3 ⟨y, q, rfl, hy, hq, hB3⟩; have hE := do2_new (d := (row, past)) hD2 hy hq hB3; obtain ⟨ay, cy, rfl⟩ := own_form hy; obtain ⟨aq, cq, rfl⟩ := hq.form; obtain ⟨a0, a1, _, _⟩ := row_at hE.one.desk; obtain ⟨c0, c1, _, _⟩ := row_at hE.one.deed; clear hD2 hB3 hy hq; obtain ⟨W4, hW4⟩ : ∃ W4, W3.alloc (.cells #[.slice ay row.length cy, .slice aq past.length cq] 26) = W4 := ⟨_, rfl⟩; rw [hW4] at hE a0 a1 c0 c1; obtain ⟨e0, e1, f0, f1⟩ := row_at hE.out))
    | (go_at_call 42; go_loud (refine (hMd _ hE.one).mono ?_; clear hMd; rintro e W5 ⟨r, rfl, hr, hB5, hrf⟩; have hqb := do2_block hE; have hrlo : ∀ g, r.ownBlock = some g → w.heap.size ≤ g := (fun g e => Nat.le_trans hE.one.below.size (hrf g e)); have hF := hE.more hB5; obtain ⟨a0, a1, _, _⟩ := row_at hF.one.desk; obtain ⟨ar, cr, rfl⟩ := hr.shape; obtain ⟨e0, e1, f0, f1⟩ := row_at hF.out; obtain ⟨r0, r1, g0, g1⟩ := row_at hF.one.res; clear hE hB5))
    | (go_at_call 43; go_loud (refine (hEq _ _ hF.one hr).mono ?_; clear hEq; rintro e W6 ⟨rfl, hB6⟩; have hr6 := hr.below hB6; have hG := hF.more hB6; obtain ⟨a0, a1, _, _⟩ := row_at hG.one.desk; obtain ⟨e0, e1, f0, f1⟩ := row_at hG.out; obtain ⟨r0, r1, g0, g1⟩ := row_at hG.one.res; clear hF hB6 hr)))
  have hE2 := hG
  obtain ⟨hown, hBl, hpo, hap⟩ := hE2.result
  have hres := hide (desk_set hE2.one.res (.slice ay row.length cy) (.slice aq past.length cq))
  have hcap : past.length ≤ cq := by obtain ⟨us, _, ho, _⟩ := hE2.past; exact own_cap ho
  have hcn : ∀ g o t, aq = some ⟨g, o, t⟩ → w.heap.size ≤ g := fun g o t e => by
    subst e
    obtain ⟨us, _, ho, _⟩ := hE2.past
    have := (ho.lt g rfl).1
    omega
  clear hE2
  exact bodyPost_ret (results_desk2 rfl _ _ (w.heap.size + 2) _ _ rfl hres.out) rfl ⟨_, rfl, hown, ⟨CapN.of hcap hcn, fun _ => ⟨_, _, rfl, hpo, hap⟩⟩, hBl⟩
end Go.Proofs.Ytimnhedjapakhaa
/-
  The model's DeskDo: the row is another one.
-/
namespace Go.Proofs.Ytimnhedjapakhaa
open Go.RowKit Go.Shelf
attribute [local go_sem] Oper.semAt_some

set_option maxRecDepth 100000 in
set_option maxHeartbeats 2000000 in
theorem specDo_made (x p : Value) (d : Dk) (k n : Int) (w : World) (hx : Ints w x d.1) (hp : PastI w p d.2) (hb : deskB d = true) (hk : Fits k) (hn : Fits n) (h5 : ¬ (k = 5 ∧ n = 0)) (h0 : madeV d.1 k n ≠ []) (hM : madeV d.1 k n ≠ d.1) (h8 : d.2.length < 8) : Calls Try.prog 14 #[.agg #[x, p], dV k n] w fun e w' =>
    ∃ y, e = .returned (.tuple #[y, .bool (doV d k n).2]) ∧ DeskI w' y (doV d k n).1 ∧ (CapN w.heap.size y ∧ (d.2.length < 8 → PastO w' w.heap.size y (doV d k n).1.2)) ∧ Below w.heap.size w w' := by
  rw [doV_made hb (fun h => h5 ⟨h.1, h.2.1⟩) (fun h => h.elim h0 hM), show pastV d.2 d.1 = d.2 ++ [d.1] by unfold pastV; rw [if_pos h8]]
  obtain ⟨hd1, hd2, hd3⟩ := deskB_is.1 hb
  have hl := sideB_len hd2
  have hD := Do1.new w x p k n
  obtain ⟨W1, hW1⟩ : ∃ W1, ((w.alloc (.cells #[x, p] 26)).alloc (.cells #[.int .i64 k, .int .i64 n] 32)).alloc (.cells #[.slice none 0 0, .slice none 0 0] 26) = W1 := ⟨_, rfl⟩
  rw [hW1] at hD
  have hOK := specDeskOk (.agg #[x, p]) d W1 ⟨x, p, rfl, hx.below hD.below, hp.below hD.below⟩ ⟨by omega, by omega, fun j => by
    by_cases hj : j < d.2.length
    · have := sideB_len (hd1 (d.2.getD j []) (by rw [List.getD, List.getElem?_eq_getElem hj]; exact List.getElem_mem hj)); omega
    · rw [List.getD, List.getElem?_eq_none (by omega)]; simp⟩
  rw [hb] at hOK
  have hCp := fun V (hV : Do1 w x p k n V) => specCopy x p d V (hx.below hV.below) (hp.below hV.below) hb
  have hMd := fun V (hV : Do1 w x p k n V) => specMade x d.1 k n V (hx.below hV.below) hd2 hk hn
  have q5 := fun V => equal_deed hk hn (k' := 5) (n' := 0) (by constructor <;> omega) (by constructor <;> omega) V
  rw [decide_eq_false h5] at q5
  obtain ⟨row, past⟩ := d
  simp only at hd1 hd2 hd3 hl hx hp hCp hMd hOK ⊢
  have hml := sideB_len (made_side hd2 k n h0)
  have hEq := fun (V : World) (r : Value) (hV : Do1 w x p k n V) (hr : Ints V r (madeV row k n)) => specSame r x (madeV row k n) row V hr (hx.below hV.below) (by omega)
  rw [decide_eq_false hM] at hEq
  generalize madeV row k n = M at *
  have hrow : ¬ (M = []) := h0
  clear h0 hM h5 hd1
  obtain ⟨ap, cp, rfl, _⟩ := id hp
  obtain ⟨ax, cx, rfl⟩ := hx.shape
  obtain ⟨a0, a1, _, _⟩ := row_at hD.desk
  unfold dV at hMd ⊢

  go_enter Try.func14, Try.ntmps14
  go_wp2_with (first
    | (go_at_call 10; go_loud (refine hOK.mono ?_; clear hOK; rintro e W2 ⟨rfl, hB2⟩; have hD2 := hD.more hB2; obtain ⟨a0, a1, _, _⟩ := row_at hD2.desk; clear hD hB2))
    | (go_at_call 41; go_loud (refine (hCp _ hD2).mono ?_; clear hCp; rintro e W3 ⟨y, q, rfl, hy, hq, hB3⟩; have hE := do2_new (d := (row, past)) hD2 hy hq hB3; obtain ⟨ay, cy, rfl⟩ := own_form hy; obtain ⟨aq, cq, rfl⟩ := hq.form; obtain ⟨a0, a1, _, _⟩ := row_at hE.one.desk; obtain ⟨c0, c1, _, _⟩ := row_at hE.one.deed; clear hD2 hB3 hy hq; obtain ⟨W4, hW4⟩ : ∃ W4, W3.alloc (.cells #[.slice ay row.length cy, .slice aq past.length cq] 26) = W4 := ⟨_, rfl⟩; rw [hW4] at hE a0 a1 c0 c1; obtain ⟨e0, e1, f0, f1⟩ := row_at hE.out))
    | (go_at_call 42; go_loud (refine (hMd _ hE.one).mono ?_; clear hMd; rintro e W5 ⟨r, rfl, hr, hB5, hrf⟩; have hqb := do2_block hE; have hrlo : ∀ g, r.ownBlock = some g → w.heap.size ≤ g := (fun g e => Nat.le_trans hE.one.below.size (hrf g e)); have hF := hE.more hB5; obtain ⟨a0, a1, _, _⟩ := row_at hF.one.desk; obtain ⟨ar, cr, rfl⟩ := hr.shape; obtain ⟨e0, e1, f0, f1⟩ := row_at hF.out; obtain ⟨r0, r1, g0, g1⟩ := row_at hF.one.res; clear hE hB5))
    | (go_at_call 43; go_loud (refine (hEq _ _ hF.one hr).mono ?_; clear hEq; rintro e W6 ⟨rfl, hB6⟩; have hr6 := hr.below hB6; have hG := hF.more hB6; obtain ⟨a0, a1, _, _⟩ := row_at hG.one.desk; obtain ⟨e0, e1, f0, f1⟩ := row_at hG.out; obtain ⟨r0, r1, g0, g1⟩ := row_at hG.one.res; obtain ⟨us, hul, huo, hur⟩ := hG.past; simp only at hul; have hq6 := (Boxed.new W6 23 (.slice ay row.length cy)).cell; have hb7 := (Below.refl _ W6).alloc (Nat.le_refl _) (.cells #[.slice ay row.length cy] 23); have huo7 := own_below huo hb7; have hG7 := hG.more hb7; have hr7 := hr6.below hb7; have hsz7 := hG7.one.size; have hlt7 := hG7.lt; obtain ⟨W7, hW7⟩ : ∃ W7, W6.alloc (.cells #[.slice ay row.length cy] 23) = W7 := ⟨_, rfl⟩; rw [hW7] at hq6 huo7 hG7 hr7 hsz7 hb7; have hur7 := fun j (hj : j < past.length) => own_below (hur j hj) hb7; clear hF hB6 hr))
    | (at_builtin; go_loud (refine append_slice12 rfl _ _ rfl rfl (w.heap.size + 3) _ us.length us rfl huo7 W6.heap.size rfl hq6 (by omega) (by omega) ?_); intro v8 w8 how8 hg8; go_loud (have hF8 := hG7.append hul huo7 hur7 how8 hg8 hr7 hrf hqb; obtain ⟨a8, c8, rfl⟩ := own_form how8; obtain ⟨k0, k1, k2, k3⟩ := row_at hF8.out; obtain ⟨s0, s1, t0, t1⟩ := row_at hF8.res; have hcap8 := own_cap how8; have hcn8 := (fun g h => (how8.lt g h).1); rw [hul] at hcap8 hF8 ⊢; have hF9 := hide hF8; clear hF8 how8 hg8 hG7 huo7 hur7 hur huo hG)))
  have hF10 := (hF9.out.set1 (.slice a8 (past.length + 1) c8)).set0 (.slice ar M.length cr)
  obtain ⟨hown, hBl⟩ := hF10.result (z := .slice a8 (past.length + 1) c8) (fun _ h => h)
  have hpo := hF10.own2 (z := .slice a8 (past.length + 1) c8)
  have hres := desk_set hF10.res (.slice ar M.length cr) (.slice a8 (past.length + 1) c8)
  exact bodyPost_ret (results_desk2 rfl _ _ (w.heap.size + 2) _ _ rfl hres) rfl ⟨_, rfl, hown, ⟨CapN.of hcap8 (fun g o t e => by subst e; have := hcn8 g rfl; omega), fun _ => ⟨_, _, rfl, hpo, fun g e => ⟨hrlo g e, ints_ownSS hF10.ints (List.length_pos_iff.2 hrow) hF10.own (by simp) g e⟩⟩⟩, hBl⟩
end Go.Proofs.Ytimnhedjapakhaa
/-
  The model's DeskDo: the row is another one, and the first row of before is gone.
-/
namespace Go.Proofs.Ytimnhedjapakhaa
open Go.RowKit Go.Shelf
attribute [local go_sem] Oper.semAt_some

set_option maxRecDepth 100000 in
set_option maxHeartbeats 2000000 in
theorem specDo_full (x p : Value) (d : Dk) (k n : Int) (w : World) (hx : Ints w x d.1) (hp : PastI w p d.2) (hb : deskB d = true) (hk : Fits k) (hn : Fits n) (h5 : ¬ (k = 5 ∧ n = 0)) (h0 : madeV d.1 k n ≠ []) (hM : madeV d.1 k n ≠ d.1) (h8 : d.2.length = 8) : Calls Try.prog 14 #[.agg #[x, p], dV k n] w fun e w' =>
    ∃ y, e = .returned (.tuple #[y, .bool (doV d k n).2]) ∧ DeskI w' y (doV d k n).1 ∧ (CapN w.heap.size y ∧ (d.2.length < 8 → PastO w' w.heap.size y (doV d k n).1.2)) ∧ Below w.heap.size w w' := by
  rw [doV_made hb (fun h => h5 ⟨h.1, h.2.1⟩) (fun h => h.elim h0 hM), show pastV d.2 d.1 = (d.2 ++ [d.1]).tail by unfold pastV; rw [if_neg (by omega)]]
  obtain ⟨hd1, hd2, hd3⟩ := deskB_is.1 hb
  have hl := sideB_len hd2
  have hD := Do1.new w x p k n
  obtain ⟨W1, hW1⟩ : ∃ W1, ((w.alloc (.cells #[x, p] 26)).alloc (.cells #[.int .i64 k, .int .i64 n] 32)).alloc (.cells #[.slice none 0 0, .slice none 0 0] 26) = W1 := ⟨_, rfl⟩
  rw [hW1] at hD
  have hOK := specDeskOk (.agg #[x, p]) d W1 ⟨x, p, rfl, hx.below hD.below, hp.below hD.below⟩ ⟨by omega, by omega, fun j => by
    by_cases hj : j < d.2.length
    · have := sideB_len (hd1 (d.2.getD j []) (by rw [List.getD, List.getElem?_eq_getElem hj]; exact List.getElem_mem hj)); omega
    · rw [List.getD, List.getElem?_eq_none (by omega)]; simp⟩
  rw [hb] at hOK
  have hCp := fun V (hV : Do1 w x p k n V) => specCopy x p d V (hx.below hV.below) (hp.below hV.below) hb
  have hMd := fun V (hV : Do1 w x p k n V) => specMade x d.1 k n V (hx.below hV.below) hd2 hk hn
  have q5 := fun V => equal_deed hk hn (k' := 5) (n' := 0) (by constructor <;> omega) (by constructor <;> omega) V
  rw [decide_eq_false h5] at q5
  obtain ⟨row, past⟩ := d
  simp only at hd1 hd2 hd3 hl hx hp hCp hMd hOK ⊢
  have hml := sideB_len (made_side hd2 k n h0)
  have hEq := fun (V : World) (r : Value) (hV : Do1 w x p k n V) (hr : Ints V r (madeV row k n)) => specSame r x (madeV row k n) row V hr (hx.below hV.below) (by omega)
  rw [decide_eq_false hM] at hEq
  generalize madeV row k n = M at *
  have hrow : ¬ (M = []) := h0
  clear h0 hM h5 hd1
  have h8' : past.length = 8 := h8
  have hgt : (past.length : Int) + 1 > 8 := by omega
  have hgn : 8 ≤ past.length := by omega
  clear h8 h8'
  obtain ⟨ap, cp, rfl, _⟩ := id hp
  obtain ⟨ax, cx, rfl⟩ := hx.shape
  obtain ⟨a0, a1, _, _⟩ := row_at hD.desk
  unfold dV at hMd ⊢

  go_enter Try.func14, Try.ntmps14
  go_wp2_with (first
    | (go_at_call 10; go_loud (refine hOK.mono ?_; clear hOK; rintro e W2 ⟨rfl, hB2⟩; have hD2 := hD.more hB2; obtain ⟨a0, a1, _, _⟩ := row_at hD2.desk; clear hD hB2))
    | (go_at_call 41; go_loud (refine (hCp _ hD2).mono ?_; clear hCp; rintro e W3 ⟨y, q, rfl, hy, hq, hB3⟩; have hE := do2_new (d := (row, past)) hD2 hy hq hB3; obtain ⟨ay, cy, rfl⟩ := own_form hy; obtain ⟨aq, cq, rfl⟩ := hq.form; obtain ⟨a0, a1, _, _⟩ := row_at hE.one.desk; obtain ⟨c0, c1, _, _⟩ := row_at hE.one.deed; clear hD2 hB3 hy hq; obtain ⟨W4, hW4⟩ : ∃ W4, W3.alloc (.cells #[.slice ay row.length cy, .slice aq past.length cq] 26) = W4 := ⟨_, rfl⟩; rw [hW4] at hE a0 a1 c0 c1; obtain ⟨e0, e1, f0, f1⟩ := row_at hE.out))
    | (go_at_call 42; go_loud (refine (hMd _ hE.one).mono ?_; clear hMd; rintro e W5 ⟨r, rfl, hr, hB5, hrf⟩; have hqb := do2_block hE; have hrlo : ∀ g, r.ownBlock = some g → w.heap.size ≤ g := (fun g e => Nat.le_trans hE.one.below.size (hrf g e)); have hF := hE.more hB5; obtain ⟨a0, a1, _, _⟩ := row_at hF.one.desk; obtain ⟨ar, cr, rfl⟩ := hr.shape; obtain ⟨e0, e1, f0, f1⟩ := row_at hF.out; obtain ⟨r0, r1, g0, g1⟩ := row_at hF.one.res; clear hE hB5))
    | (go_at_call 43; go_loud (refine (hEq _ _ hF.one hr).mono ?_; clear hEq; rintro e W6 ⟨rfl, hB6⟩; have hr6 := hr.below hB6; have hG := hF.more hB6; obtain ⟨a0, a1, _, _⟩ := row_at hG.one.desk; obtain ⟨e0, e1, f0, f1⟩ := row_at hG.out; obtain ⟨r0, r1, g0, g1⟩ := row_at hG.one.res; obtain ⟨us, hul, huo, hur⟩ := hG.past; simp only at hul; have hq6 := (Boxed.new W6 23 (.slice ay row.length cy)).cell; have hb7 := (Below.refl _ W6).alloc (Nat.le_refl _) (.cells #[.slice ay row.length cy] 23); have huo7 := own_below huo hb7; have hG7 := hG.more hb7; have hr7 := hr6.below hb7; have hsz7 := hG7.one.size; have hlt7 := hG7.lt; obtain ⟨W7, hW7⟩ : ∃ W7, W6.alloc (.cells #[.slice ay row.length cy] 23) = W7 := ⟨_, rfl⟩; rw [hW7] at hq6 huo7 hG7 hr7 hsz7 hb7; have hur7 := fun j (hj : j < past.length) => own_below (hur j hj) hb7; clear hF hB6 hr))
    | (at_builtin; go_loud (refine append_slice12 rfl _ _ rfl rfl (w.heap.size + 3) _ us.length us rfl huo7 W6.heap.size rfl hq6 (by omega) (by omega) ?_); intro v8 w8 how8 hg8; go_loud (have hF8 := hG7.append hul huo7 hur7 how8 hg8 hr7 hrf hqb; obtain ⟨G8, c8, rfl⟩ := own_some how8 (Nat.succ_pos _); obtain ⟨k0, k1, k2, k3⟩ := row_at hF8.out; obtain ⟨s0, s1, t0, t1⟩ := row_at hF8.res; have hcap8 := own_cap how8; have hcn8 := (fun g h => (how8.lt g h).1); rw [hul] at hcap8 hF8 ⊢; have hc81 : ¬ c8 = 1 := (fun e => (by rw [e] at hcap8; omega)); have hF9 := hide hF8; clear hF8 how8 hg8 hG7 huo7 hur7 hur huo hG)))
  have hF10 := ((hF9.out.set1 (.slice (some ⟨G8, 0, none⟩) (past.length + 1) c8)).set1 (.slice (some ⟨G8, 1, none⟩) past.length (c8 - 1))).set0 (.slice ar M.length cr)
  obtain ⟨hown, hBl⟩ := hF10.result (z := .slice (some ⟨G8, 1, none⟩) past.length (c8 - 1)) (fun _ h => past_tail h)
  have hres := desk_set hF10.res (.slice ar M.length cr) (.slice (some ⟨G8, 1, none⟩) past.length (c8 - 1))
  exact bodyPost_ret (results_desk2 rfl _ _ (w.heap.size + 2) _ _ rfl hres) rfl ⟨_, rfl, hown, ⟨CapN.of (by omega) (fun g o t e => by injection e with e; injection e with e _; subst e; exact Nat.le_trans (Nat.le_add_right _ 3) (hcn8 G8 rfl)), fun h => absurd (show past.length < 8 from h) (by omega)⟩, hBl⟩
end Go.Proofs.Ytimnhedjapakhaa
/-
  The model's DeskDo: the last row of before is put back.
-/
namespace Go.Proofs.Ytimnhedjapakhaa
open Go.RowKit Go.Shelf
attribute [local go_sem] Oper.semAt_some

theorem past_take {W : World} {G o L c : Nat} {rows : List (List Int)} (h : PastI W (.slice (some ⟨G, o, none⟩) (L + 1) c) rows) : PastI W (.slice (some ⟨G, o, none⟩) L c) (rows.take L) := by
  obtain ⟨a, c', e, hr⟩ := h
  injection e with e1 e2 e3
  subst e1
  have hl : (rows.take L).length = L := by rw [List.length_take]; omega
  refine ⟨some ⟨G, o, none⟩, c, by rw [hl], fun h0 => ?_⟩
  obtain ⟨G', o', e, hG, hc⟩ := hr (by omega)
  injection e with e
  injection e with e4 e5
  subst e4 e5
  refine ⟨G, o, rfl, hG, fun j hj => ?_⟩
  rw [hl] at hj
  obtain ⟨u, h1, h2⟩ := hc j (by omega)
  refine ⟨u, h1, ?_⟩
  rw [List.getD, List.getElem?_take, if_pos hj]
  exact h2
set_option maxRecDepth 100000 in
set_option maxHeartbeats 2000000 in
theorem specDo_back (x p : Value) (d : Dk) (k n : Int) (w : World) (hx : Ints w x d.1) (hp : PastI w p d.2) (hb : deskB d = true) (hk : Fits k) (hn : Fits n) (h5 : k = 5 ∧ n = 0) (L : Nat) (hL : d.2.length = L + 1) : Calls Try.prog 14 #[.agg #[x, p], dV k n] w fun e w' =>
    ∃ y, e = .returned (.tuple #[y, .bool (doV d k n).2]) ∧ DeskI w' y (doV d k n).1 ∧ (CapN w.heap.size y ∧ (d.2.length < 8 → PastO w' w.heap.size y (doV d k n).1.2)) ∧ Below w.heap.size w w' := by
  obtain ⟨rfl, rfl⟩ := h5
  rw [doV_back hb (by omega)]
  obtain ⟨hd1, hd2, hd3⟩ := deskB_is.1 hb
  have hl := sideB_len hd2
  have hD := Do1.new w x p 5 0
  obtain ⟨W1, hW1⟩ : ∃ W1, ((w.alloc (.cells #[x, p] 26)).alloc (.cells #[.int .i64 5, .int .i64 0] 32)).alloc (.cells #[.slice none 0 0, .slice none 0 0] 26) = W1 := ⟨_, rfl⟩
  rw [hW1] at hD
  have hOK := specDeskOk (.agg #[x, p]) d W1 ⟨x, p, rfl, hx.below hD.below, hp.below hD.below⟩ ⟨by omega, by omega, fun j => by
    by_cases hj : j < d.2.length
    · have := sideB_len (hd1 (d.2.getD j []) (by rw [List.getD, List.getElem?_eq_getElem hj]; exact List.getElem_mem hj)); omega
    · rw [List.getD, List.getElem?_eq_none (by omega)]; simp⟩
  rw [hb] at hOK
  have hCp := fun V (hV : Do1 w x p 5 0 V) => specCopy x p d V (hx.below hV.below) (hp.below hV.below) hb
  have hMd := fun V (hV : Do1 w x p 5 0 V) => specMade x d.1 5 0 V (hx.below hV.below) hd2 hk hn
  have q5 := fun V => equal_deed (k := 5) (n := 0) (by constructor <;> omega) (by constructor <;> omega) (k' := 5) (n' := 0) (by constructor <;> omega) (by constructor <;> omega) V
  have e5 : decide ((5 : Int) = 5 ∧ (0 : Int) = 0) = true := by decide
  rw [e5] at q5
  obtain ⟨row, past⟩ := d
  simp only at hd1 hd2 hd3 hl hx hp hCp hMd hOK ⊢
  have hpst : pstV past = past.getD L [] := by unfold pstV; rw [show past.length = L + 1 from hL]; rfl
  have hLt : past.length - 1 = L := by rw [show past.length = L + 1 from hL]; rfl
  rw [hpst, hLt]
  obtain ⟨R, hRR⟩ : ∃ R, past.getD L [] = R := ⟨_, rfl⟩
  rw [hRR]
  have hRh := hide hRR
  have hR1 : 0 < R.length := by
    rw [← hRR]
    have hLl : L < past.length := by rw [show past.length = L + 1 from hL]; omega
    exact (sideB_len (hd1 (past.getD L []) (by rw [List.getD, List.getElem?_eq_getElem hLl]; exact List.getElem_mem hLl))).1
  clear hRR
  have hL' : past.length = L + 1 := hL
  have hL0 : 0 < past.length := by omega
  have hLlt : L < past.length := by omega
  have hLb : L ≤ 8 := by omega
  have hhL := hide hL'
  clear e5 hpst hLt hd1 hd2 hMd
  obtain ⟨ap, cp, ep, _⟩ := id hp
  rw [hL'] at ep
  subst ep
  obtain ⟨ax, cx, rfl⟩ := hx.shape
  obtain ⟨a0, a1, _, _⟩ := row_at hD.desk
  unfold dV
  clear hL hL' hl hd3

  go_enter Try.func14, Try.ntmps14
  go_wp2_with (first
    | (go_at_call 10; go_loud (refine hOK.mono ?_; clear hOK; rintro e W2 ⟨rfl, hB2⟩; have hD2 := hD.more hB2; obtain ⟨a0, a1, _, _⟩ := row_at hD2.desk; clear hD hB2))
    | (go_at_call 41; go_loud (refine (hCp _ hD2).mono ?_; clear hCp; rintro e W3 ⟨y, q, rfl, hy, hq, hB3⟩; have hE := do2_new (d := (row, past)) hD2 hy hq hB3; obtain ⟨ay, cy, rfl⟩ := own_form hy; obtain ⟨gq, cq, eq0, hgq, hcq⟩ := hq.read2 hL0; obtain ⟨uL, hul, huL, huo⟩ := hcq L hLlt; have hallo : ∀ g, uL.ownBlock = some g → w.heap.size ≤ g := (fun g e => Nat.le_trans hD2.below.size (huo.lt g e).1); clear huo; rw [hRh.out] at huL; obtain ⟨al, cl, rfl⟩ := huL.shape; rw [hhL.out] at eq0; subst eq0; have hcnb := hD2.below.size; have hcp0 := own_cap (Classical.choose_spec hq).2.1; have hcn0 := Nat.le_trans hcnb ((Classical.choose_spec hq).2.1.lt gq rfl).1; have hcp1 : L ≤ cq := (by omega); obtain ⟨a0, a1, _, _⟩ := row_at hE.one.desk; obtain ⟨c0, c1, _, _⟩ := row_at hE.one.deed; clear hD2 hB3 hy hq; have hba := (Below.refl _ W3).alloc (Nat.le_refl _) (.cells #[.slice ay row.length cy, .slice (some ⟨gq, 0, none⟩) (L + 1) cq] 26); have hul4 := (hba.cell (p := ⟨gq, L, none⟩) hgq).trans hul; have huL4 := huL.below hba; obtain ⟨W4, hW4⟩ : ∃ W4, W3.alloc (.cells #[.slice ay row.length cy, .slice (some ⟨gq, 0, none⟩) (L + 1) cq] 26) = W4 := ⟨_, rfl⟩; rw [hW4] at hE a0 a1 c0 c1 hul4 huL4; obtain ⟨e0, e1, f0, f1⟩ := row_at hE.out; obtain ⟨r0, r1, g0, g1⟩ := row_at hE.one.res; have hF : Fin12 w W3.heap.size _ _ (.slice al R.length cl) R _ past W4 := ⟨hE.one.below, hE.lt, hE.out, hE.one.res, hE.past, huL4⟩; have hF10 := hide ((hF.set0 (.slice al R.length cl)).set1 (.slice (some ⟨gq, 0, none⟩) L cq)); have hgb : ¬ gq = W3.heap.size := (Nat.ne_of_lt hgq); have hlt0 := hE.lt; clear hF hE hcq huL hul huL4 hba hcp0 hgq))
    | (go_at_call 42; go_loud (refine (hMd _ hE.one).mono ?_; clear hMd; rintro e W5 ⟨r, rfl, hr, hB5, hrf⟩; have hqb := do2_block hE; have hrlo : ∀ g, r.ownBlock = some g → w.heap.size ≤ g := (fun g e => Nat.le_trans hE.one.below.size (hrf g e)); have hF := hE.more hB5; obtain ⟨a0, a1, _, _⟩ := row_at hF.one.desk; obtain ⟨ar, cr, rfl⟩ := hr.shape; obtain ⟨e0, e1, f0, f1⟩ := row_at hF.out; obtain ⟨r0, r1, g0, g1⟩ := row_at hF.one.res; clear hE hB5))
    | (go_at_call 42; fail))
  obtain ⟨hown, hBl⟩ := hF10.out.result (z := .slice (some ⟨gq, 0, none⟩) L cq) (fun _ h => past_take h)
  have hpo := ownSS_take (hF10.out.own2 (z := .slice (some ⟨gq, 0, none⟩) L cq))
  have hres := desk_set hF10.out.res (.slice al R.length cl) (.slice (some ⟨gq, 0, none⟩) L cq)
  exact bodyPost_ret (results_desk2 rfl _ _ (w.heap.size + 2) _ _ rfl hres) rfl ⟨_, rfl, hown, ⟨CapN.of (by omega) (fun g o t e => by injection e with e; injection e with e _; subst e; exact hcn0), fun _ => ⟨_, _, rfl, hpo, fun g e1 => ⟨hallo g e1, fun e2 => ints_ownSS hF10.out.ints hR1 hF10.out.own (by omega) g e1 e2⟩⟩⟩, hBl⟩
end Go.Proofs.Ytimnhedjapakhaa
/-
  The model's DeskDo: the last row of before is put back; and at every desk and deed.
-/
namespace Go.Proofs.Ytimnhedjapakhaa
open Go.RowKit

theorem specDo (v : Value) (d : Dk) (k n : Int) (w : World) (hv : DeskI w v d) (hs : DkS d) (hk : Fits k) (hn : Fits n) : Calls Try.prog 14 #[v, dV k n] w fun e w' =>
    ∃ y, e = .returned (.tuple #[y, .bool (doV d k n).2]) ∧ DeskI w' y (doV d k n).1 ∧ (CapN w.heap.size y ∧ (d.2.length < 8 → PastO w' w.heap.size y (doV d k n).1.2)) ∧ Below w.heap.size w w' := by
  cases hb : deskB d with
  | false => exact specDo_no v d k n w hv hs hb
  | true =>
    obtain ⟨x, p, rfl, hx, hp⟩ := hv
    by_cases h5 : k = 5 ∧ n = 0
    · by_cases h0 : d.2.length = 0
      · exact specDo_none x p d k n w hx hp hb hk hn h5 h0
      · exact specDo_back x p d k n w hx hp hb hk hn h5 (d.2.length - 1) (by omega)
    · by_cases h0 : madeV d.1 k n = []
      · exact specDo_empty x p d k n w hx hp hb hk hn h5 h0
      · by_cases h1 : madeV d.1 k n = d.1
        · exact specDo_same x p d k n w hx hp hb hk hn h5 h1
        · have h8 := (deskB_is.1 hb).2.2
          by_cases h : d.2.length = 8
          · exact specDo_full x p d k n w hx hp hb hk hn h5 h0 h1 h
          · exact specDo_made x p d k n w hx hp hb hk hn h5 h0 h1 (by omega)
end Go.Proofs.Ytimnhedjapakhaa
