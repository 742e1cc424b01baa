/-
  The program's DeskDo: the row is another one.
-/
import Derived.Test.YtimnhedjapakhaaImpl12b
namespace Go.Proofs.Ytimnhedjapakhaa
open Go.RowKit Go.Shelf
attribute [local go_sem] Oper.semAt_some

set_option maxRecDepth 100000 in
set_option maxHeartbeats 2000000 in
theorem implDo_made (x p : Value) (d : Dk) (k n : Int) (w : World) (hX : Dx w x p d k n) (hk : Fits k) (hn : Fits n) (h5 : ¬ (k = 5 ∧ n = 0)) (h0 : madeV d.1 k n ≠ []) (hM : madeV d.1 k n ≠ d.1) : Calls Try.prog 13 #[.agg #[x, p], dV k n] w fun e w' =>
    ∃ y, e = .returned (.tuple #[y, .bool (doV d k n).2]) ∧ OwnDk w' w.heap.size y (doV d k n).1 ∧ Below w.heap.size w w' := by
  rw [doV_made hX.desk (fun h => h5 ⟨h.1, h.2.1⟩) (fun h => h.elim h0 hM), ← pastV_last (deskB_is.1 hX.desk).2.2]
  obtain ⟨hx, hp, hb, hAf, hKp⟩ := hX
  obtain ⟨hd1, hd2, hd3⟩ := deskB_is.1 hb
  have hl := sideB_len hd2
  have hD := Do1.new w x p k n
  obtain ⟨W1, hW1⟩ : ∃ W1, ((w.alloc (.cells #[x, p] 26)).alloc (.cells #[.int .i64 k, .int .i64 n] 32)).alloc (.cells #[.slice none 0 0, .slice none 0 0] 26) = W1 := ⟨_, rfl⟩
  rw [hW1] at hD
  have hOK := implDeskOk (.agg #[x, p]) d W1 ⟨x, p, rfl, hx.below hD.below, hp.below hD.below⟩ ⟨by omega, by omega, fun j => by
    by_cases hj : j < d.2.length
    · have := sideB_len (hd1 (d.2.getD j []) (by rw [List.getD, List.getElem?_eq_getElem hj]; exact List.getElem_mem hj)); omega
    · rw [List.getD, List.getElem?_eq_none (by omega)]; simp⟩
  rw [hb] at hOK
  have q5 := fun V => equal_deed hk hn (k' := 5) (n' := 0) (by constructor <;> omega) (by constructor <;> omega) V
  rw [decide_eq_false h5] at q5
  obtain ⟨row, past⟩ := d
  simp only at *
  have hms := made_side hd2 k n h0
  have hml := sideB_len hms
  have hEq := fun (V : World) (r : Value) (hV : Do1 w x p k n V) (hr : Ints V r (madeV row k n)) => equal_in r x (madeV row k n) row V hr (hx.below hV.below) (by omega)
  rw [decide_eq_false hM] at hEq
  generalize madeV row k n = M at *
  have hrow : ¬ (M = []) := h0
  have hlst := fun j (hj : j < (past ++ [row]).length) => (by
    by_cases e : j < past.length
    · rw [List.getD, List.getElem?_append_left e]
      have := sideB_len (hd1 (past.getD j []) (by rw [List.getD, List.getElem?_eq_getElem e]; exact List.getElem_mem e))
      rwa [List.getD] at this
    · have : j = past.length := by simp at hj; omega
      subst this
      rw [List.getD, List.getElem?_append_right (Nat.le_refl _), Nat.sub_self]
      exact hl : 1 ≤ ((past ++ [row]).getD j []).length ∧ ((past ++ [row]).getD j []).length ≤ 12)
  have hlst' := hide hlst
  have hpp := hide hp
  clear h0 hM h5 hms hKp hlst hd1
  obtain ⟨ap, cp, rfl, _⟩ := id hp
  obtain ⟨ax, cx, rfl⟩ := hx.shape
  obtain ⟨a0, a1, _, _⟩ := row_at hD.desk
  unfold dV at hAf ⊢

  go_enter Try.func13, Try.ntmps13
  go_wp2_with (first
    | (go_at_call 9; go_loud (refine hOK.mono ?_; clear hOK; rintro e W2 ⟨rfl, hB2⟩; have hD2 := hD.more hB2; obtain ⟨a0, a1, _, _⟩ := row_at hD2.desk; obtain ⟨c0, c1, _, _⟩ := row_at hD2.deed; clear hD hB2))
    | (go_at_call 38; refine (hAf _ hD2).mono ?_; clear hAf; go_loud (rintro e W3 ⟨r, rfl, hr, hB3⟩; have hD3 := hD2.more hB3; obtain ⟨a0, a1, _, _⟩ := row_at hD3.desk; obtain ⟨ar, cr, rfl⟩ := hr.shape; clear hD2 hB3))
    | (go_at_call 39; go_loud (refine (hEq _ _ hD3 hr).mono ?_; rintro e W4 ⟨rfl, hB4⟩; have hr4 := hr.below hB4; have hD4 := hD3.more hB4; obtain ⟨a0, a1, _, _⟩ := row_at hD4.desk; clear hD3 hB4 hr hEq))
    | (go_at_call 40; fail)
    | (go_at_call 37; fail))
  obtain ⟨b0, b1, b2⟩ := build_two W4 (.slice ax row.length cx) (.slice ap past.length cp)
  have hBb : Below W4.heap.size W4 ((W4.alloc (.cells #[.slice ax row.length cx] 23)).alloc (.cells #[.slice ap past.length cp, .slice (some ⟨W4.heap.size, 0, none⟩) 1 1] 24)) := ((Below.refl _ W4).alloc (Nat.le_refl _) _).alloc (by rw [World.size_alloc]; omega) _
  go_at_call 40
  generalize (W4.alloc (.cells #[.slice ax row.length cx] 23)).alloc (.cells #[.slice ap past.length cp, .slice (some ⟨W4.heap.size, 0, none⟩) 1 1] 24) = W5 at *
  have hD5 := hD4.more hBb
  refine (concat_in _ ap past.length cp _ (.slice ax row.length cx) past row W5 b0 b1 b2 (hx.below hD5.below) (hpp.out.below hD5.below) hd3).mono ?_
  rintro e W6 ⟨G, cc, rfl, hcc, hG1, hG2, hcells, hB6⟩
  have hD6 := hD5.more hB6
  have hr6 := (hr4.below hBb).below hB6
  have hlen : (past ++ [row]).length = past.length + 1 := by simp
  have hDO := deskOf_last (.slice ar M.length cr) M (past ++ [row]) G cc W6 hr6 hml.1 hml.2 (by omega) (by omega) hG2 (fun j hj => hcells j (by omega)) hlst'.out
  rw [hlen] at hDO
  clear hcells hB6 hG1 b0 b1 b2 hBb hD4 hD5 hr4 hr6
  go_wp2_with (go_at_call 37; refine hDO.mono ?_; clear hDO; go_loud (rintro e W7 ⟨y, rfl, hy, hB7⟩; obtain ⟨y1, y2, y3, y4, rfl⟩ := hy.form; obtain ⟨hres, hown, hBl⟩ := hD6.result hy hB7; obtain ⟨r0, r1, g0, g1⟩ := row_at hres; have hres' := hide (desk_set hres (.slice y1 M.length y2) (.slice y3 (lastR (past ++ [row])).length y4)); have hown' := hide hown; clear hy hB7 hown))
  exact bodyPost_ret (results_desk2 rfl _ _ (w.heap.size + 2) _ _ rfl hres'.out) rfl ⟨_, rfl, hown'.out, hBl⟩
end Go.Proofs.Ytimnhedjapakhaa
