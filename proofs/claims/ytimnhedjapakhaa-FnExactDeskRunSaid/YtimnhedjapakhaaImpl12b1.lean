/-
  The program's DeskDo: no row of before.
-/
import Derived.Test.YtimnhedjapakhaaImpl12b
namespace Go.Proofs.Ytimnhedjapakhaa
open Go.RowKit Go.Shelf
attribute [local go_sem] Oper.semAt_some

set_option maxRecDepth 100000 in
set_option maxHeartbeats 2000000 in
theorem implDo_none (x p : Value) (d : Dk) (k n : Int) (w : World) (hX : Dx w x p d k n) (h5 : k = 5 ∧ n = 0) (h0 : d.2.length = 0) : Calls Try.prog 13 #[.agg #[x, p], dV k n] w fun e w' =>
    ∃ y, e = .returned (.tuple #[y, .bool (doV d k n).2]) ∧ OwnDk w' w.heap.size y (doV d k n).1 ∧ Below w.heap.size w w' := by
  obtain ⟨rfl, rfl⟩ := h5
  rw [doV_same hX.desk (by omega) (.inl rfl)]
  obtain ⟨hx, hp, hb, hAf, hKp⟩ := hX
  obtain ⟨hd1, hd2, hd3⟩ := deskB_is.1 hb
  have hl := sideB_len hd2
  have hD := Do1.new w x p 5 0
  obtain ⟨W1, hW1⟩ : ∃ W1, ((w.alloc (.cells #[x, p] 26)).alloc (.cells #[.int .i64 5, .int .i64 0] 32)).alloc (.cells #[.slice none 0 0, .slice none 0 0] 26) = W1 := ⟨_, rfl⟩
  rw [hW1] at hD
  have hOK := implDeskOk (.agg #[x, p]) d W1 ⟨x, p, rfl, hx.below hD.below, hp.below hD.below⟩ ⟨by omega, by omega, fun j => by
    by_cases hj : j < d.2.length
    · have := sideB_len (hd1 (d.2.getD j []) (by rw [List.getD, List.getElem?_eq_getElem hj]; exact List.getElem_mem hj)); omega
    · rw [List.getD, List.getElem?_eq_none (by omega)]; simp⟩
  rw [hb] at hOK
  have q5 := fun V => equal_deed (k := 5) (n := 0) (by constructor <;> omega) (by constructor <;> omega) (k' := 5) (n' := 0) (by constructor <;> omega) (by constructor <;> omega) V
  have e5 : decide ((5 : Int) = 5 ∧ (0 : Int) = 0) = true := by decide
  rw [e5] at q5
  obtain ⟨row, past⟩ := d
  simp only at *
  have hM : madeV row 5 0 = [] := rfl
  rw [hM] at hAf
  obtain rfl : past = [] := List.length_eq_zero_iff.1 h0
  clear hM e5 h0
  obtain ⟨ap, cp, rfl, _⟩ := id hp
  obtain ⟨ax, cx, rfl⟩ := hx.shape
  obtain ⟨a0, a1, _, _⟩ := row_at hD.desk
  unfold dV at hAf ⊢
  simp only [List.length_nil] at hOK hW1 hD hAf hKp a0 a1 ⊢
  go_enter Try.func13, Try.ntmps13
  go_wp2_with (first
    | (go_at_call 9; go_loud (refine hOK.mono ?_; clear hOK; rintro e W2 ⟨rfl, hB2⟩; have hD2 := hD.more hB2; obtain ⟨a0, a1, _, _⟩ := row_at hD2.desk; obtain ⟨c0, c1, _, _⟩ := row_at hD2.deed; clear hD hB2))
    | (go_at_call 38; refine (hAf _ hD2).mono ?_; clear hAf; go_loud (rintro e W3 ⟨r, rfl, hr, hB3⟩; have hD3 := hD2.more hB3; obtain ⟨a0, a1, _, _⟩ := row_at hD3.desk; obtain ⟨ar, cr, rfl⟩ := hr.shape; clear hD2 hB3))

    | (go_at_call 37; fail))
  go_at_call 37
  refine (hKp _ hD3).mono ?_
  rintro e W5 ⟨y, rfl, hy, hB5⟩
  obtain ⟨y1, y2, y3, y4, rfl⟩ := hy.form
  obtain ⟨hres, hown, hBl⟩ := hD3.result hy hB5
  obtain ⟨r0, r1, g0, g1⟩ := row_at hres
  have hres' := hide (desk_set hres (.slice y1 row.length y2) (.slice y3 0 y4))
  have hown' := hide hown
  clear hy hB5 hown
  go_wp2
  exact bodyPost_ret (results_desk2 rfl _ _ (w.heap.size + 2) _ _ rfl hres'.out) rfl ⟨_, rfl, hown'.out, hBl⟩
end Go.Proofs.Ytimnhedjapakhaa
