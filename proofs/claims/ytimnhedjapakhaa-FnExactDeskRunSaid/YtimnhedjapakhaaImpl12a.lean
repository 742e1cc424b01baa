/-
  The program's slices.Equal, DeskOk and DeskNew.
-/
import Derived.Test.YtimnhedjapakhaaDesk12h
namespace Go.Proofs.Ytimnhedjapakhaa
open Go.RowKit Go.Shelf

set_option maxHeartbeats 1000000 in
theorem equal_in (v u : Value) (xs ys : List Int) (w : World) (hv : Ints w v xs) (hu : Ints w u ys) (hl : xs.length ≤ 1000000000) : Calls Try.prog 39 #[v, u] w fun e w' => e = .returned (.bool (decide (xs = ys))) ∧ Below w.heap.size w w' := by
  by_cases hll : xs.length = ys.length
  · by_cases h0 : xs.length = 0
    · have hr := hide (same_all hll (fun k hk => by omega))
      obtain ⟨a, c, rfl⟩ := hv.shape
      obtain ⟨a2, c2, rfl⟩ := hu.shape
      rw [← hll, h0]
      clear hv hu
      go_enter Try.func39, Try.ntmps39
      go_wp2
      refine wp_loop_rounds 1 ?_
      rw [rounds_succ]
      go_wp2
      go_ret
      exact ⟨ret_bool hr.out.symm, Below.refl _ _⟩
    · obtain ⟨g, c, rfl, hg, hc⟩ := hv.cells (by omega)
      obtain ⟨g2, c2, rfl, hg2, hc2⟩ := hu.cells (by omega)
      have hno := fun k => same_not (xs := xs) (ys := ys) (k := k)
      have hall := same_all hll
      rw [← hll] at hc2 ⊢
      generalize decide (xs = ys) = res at *
      generalize xs.length = n at *
      clear hv hu hll
      go_enter Try.func39, Try.ntmps39
      go_wp2
      go_loopw [13] (fun i wr => ∃ k : Nat, k ≤ n ∧ i = .int .i64 k ∧ Below w.heap.size w wr ∧ Hid (∀ i, i < k → xs.getD i 0 = ys.getD i 0)) (fun i _ => n - (intOf i).toNat)
      case atStart => exact ⟨0, by omega, rfl, Below.refl _ _, hide (fun i hi => by omega)⟩
      case round =>
        obtain ⟨k, hk, rfl, hB, hkk⟩ := hrel
        by_cases hlt : k < n
        · have hki : (k : Int) < (n : Int) := by omega
          have c1 := (hB.cell (p := ⟨g, k, none⟩) hg).trans (hc k hlt)
          have c3 := (hB.cell (p := ⟨g2, k, none⟩) hg2).trans (hc2 k hlt)
          by_cases he : xs.getD k 0 = ys.getD k 0
          · have hkk' : Hid (∀ i, i < k + 1 → xs.getD i 0 = ys.getD i 0) := hide (fun i hi => by
              by_cases e : i = k
              · subst e; exact he
              · exact hkk.out i (by omega))
            rw [← he] at c3
            clear hc hc2 hno hall hkk he
            generalize xs.getD k 0 = z at *
            go_wp2
            go_quiet (fail)
            go_wp2
            go_roundw
            case rel => exact ⟨k + 1, by omega, by go_num, ⟨hB.os, hB.tape, hB.output, hB.size, hB.block⟩, hkk'⟩
            case measure => simp [intOf]; omega
          · have hr := hide (hno k he)
            generalize xs.getD k 0 = z at *
            generalize ys.getD k 0 = y at *
            clear hc hc2 hno hall hkk
            go_wp2
            go_quiet (fail)
            go_wp2
            go_ret
            exact ⟨ret_bool hr.out.symm, ⟨hB.os, hB.tape, hB.output, hB.size, hB.block⟩⟩
        · obtain rfl : k = n := by omega
          have hr := hide (hall hkk.out)
          have hki : ¬ ((k : Nat) : Int) < (k : Int) := by omega
          clear hc hc2 hno hall hkk
          go_wp2
          go_ret
          exact ⟨ret_bool hr.out.symm, hB⟩
  · have hr : Hid (decide (xs = ys) = false) := hide (decide_eq_false fun e => hll (by rw [e]))
    obtain ⟨a, c, rfl⟩ := hv.shape
    obtain ⟨a2, c2, rfl⟩ := hu.shape
    generalize decide (xs = ys) = res at *
    have hb : ¬ ((xs.length : Int) = (ys.length : Int)) := by omega
    generalize xs.length = n at *
    generalize ys.length = m at *
    clear hv hu
    go_enter Try.func39, Try.ntmps39
    go_wp2
    go_ret
    exact ⟨ret_bool hr.out.symm, Below.refl _ _⟩

set_option maxHeartbeats 2000000 in
theorem implDeskOk (v : Value) (d : Dk) (w : World) (hv : DeskI w v d) (hs : DkS d) : Calls Try.prog 9 #[v] w fun e w' => e = .returned (.bool (deskB d)) ∧ Below w.heap.size w w' := by
  obtain ⟨x, p, rfl, hx, hp⟩ := hv
  have hB0 : Below w.heap.size w (w.alloc (.cells #[x, p] 26)) := (Below.refl _ w).alloc (Nat.le_refl _) _
  have hx0 := implSide x d.1 _ (hx.below hB0) (by have := hs.1; omega)
  have hp0 := hp.below hB0
  obtain ⟨d0, d1⟩ := desk_box (w := w) (x := x) (p := p) (t := 26)
  obtain ⟨a, c, rfl, hr⟩ := hp0
  have hno := fun k (hk : k < d.2.length) => deskB_no hk
  have hend := deskB_end (d := d)
  have hsm := hs.2.2
  have hn := hs.2.1
  obtain ⟨W0, hW0⟩ : ∃ W0, w.alloc (.cells #[x, .slice a d.2.length c] 26) = W0 := ⟨_, rfl⟩
  rw [hW0] at hB0 hx0 hr d0 d1
  have hbl : w.heap.size < W0.heap.size := by rw [← hW0]; simp
  have hrow : sideB d.1 = false → deskB d = false := fun h => by
    cases hd : deskB d with
    | false => rfl
    | true => have := (deskB_is.1 hd).2.1; rw [h] at this; cases this
  have hlong : ¬ d.2.length ≤ 8 → deskB d = false := fun h => by
    cases hd : deskB d with
    | false => rfl
    | true => exact absurd (deskB_is.1 hd).2.2 h
  generalize d.2.length = n at *
  generalize deskB d = res at *
  obtain ⟨row, past⟩ := d
  simp only at hr hno hend hsm hx0 hrow
  clear hx hp hs
  cases hsd : sideB row with
  | false =>
    rw [hsd] at hx0
    have hq := hide (hrow hsd)
    clear hno hend hr hrow hsm hlong
    go_enter Try.func9, Try.ntmps9
    go_wp2_with (go_at_call 33; refine hx0.mono ?_; clear hx0; rintro e w2 ⟨rfl, hB2⟩)
    go_ret
    exact ⟨ret_bool hq.out.symm, hB0.trans (hB2.mono hB0.size)⟩
  | true =>
    rw [hsd] at hx0
    by_cases h8 : n ≤ 8
    · have h8' : ¬ (n : Int) > 8 := by omega
      clear hlong hrow
      go_enter Try.func9, Try.ntmps9
      go_wp2_with (go_at_call 33; refine hx0.mono ?_; clear hx0; go_loud (rintro e w2 ⟨rfl, hB2⟩; have d1' := (hB2.cell (p := ⟨w.heap.size, 1, none⟩) hbl).trans d1))
      have hB3 : Below w.heap.size w w2 := hB0.trans (hB2.mono hB0.size)
      clear d0 d1 d1'
      go_loopw [18] (fun i wr => ∃ k : Nat, k ≤ n ∧ i = .int .i64 k ∧ Below w2.heap.size w2 wr ∧ Hid (∀ j, j < k → sideB (past.getD j []) = true)) (fun i _ => n - (intOf i).toNat)
      case atStart => exact ⟨0, by omega, rfl, Below.refl _ _, hide (fun i hi => by omega)⟩
      case round =>
        obtain ⟨k, hk, rfl, hBr, hall⟩ := hrel
        by_cases hlt : k < n
        · obtain ⟨G, o, rfl, hG, hc⟩ := hr (by omega)
          obtain ⟨u, huc, hu⟩ := hc k hlt
          have hki : (k : Int) < (n : Int) := by omega
          have huc' := (hBr.cell (p := ⟨G, o + k, none⟩) (Nat.lt_of_lt_of_le hG hB2.size)).trans ((hB2.cell (p := ⟨G, o + k, none⟩) hG).trans huc)
          have hS := implSide u (past.getD k []) wr ((hu.below hB2).below hBr) (by have := hsm k; omega)
          obtain ⟨ua, uc, rfl⟩ := hu.shape
          cases hsd2 : sideB (past.getD k []) with
          | false =>
            have hq := hide (hno k hlt hsd2)
            rw [hsd2] at hS
            clear hc hno hend hall hsd2 hr hu huc hsm
            go_wp2_with (go_at_call 33; refine hS.mono ?_; clear hS; rintro e w3 ⟨rfl, hB4⟩)
            go_ret
            exact ⟨ret_bool hq.out.symm, (hB3.trans (hBr.mono hB3.size)).trans (hB4.mono (Nat.le_trans hB3.size hBr.size))⟩
          | true =>
            have hall' : Hid (∀ i, i < k + 1 → sideB (past.getD i []) = true) := hide (fun i hi => by
              by_cases e : i = k
              · subst e; exact hsd2
              · exact hall.out i (by omega))
            rw [hsd2] at hS
            clear hc hno hend hall hsd2 hu huc hsm
            go_wp2_with (go_at_call 33; refine hS.mono ?_; clear hS; rintro e w3 ⟨rfl, hB4⟩)
            go_roundw
            case rel => exact ⟨k + 1, by omega, by go_num, hBr.trans (hB4.mono hBr.size), hall'⟩
            case measure => simp [intOf]; omega
        · obtain rfl : k = n := by omega
          have hq := hide (hend hall.out)
          have hki : ¬ ((k : Nat) : Int) < (k : Int) := by omega
          clear hr hno hend hall hlt hsm
          go_wp2
          go_ret
          refine ⟨ret_bool ?_, hB3.trans (hBr.mono hB3.size)⟩
          rw [hq.out, hsd, decide_eq_true h8]; rfl
    · have h8' : (n : Int) > 8 := by omega
      have hq := hide (hlong h8)
      clear hno hend hr hrow hsm hlong
      go_enter Try.func9, Try.ntmps9
      go_wp2_with (go_at_call 33; refine hx0.mono ?_; clear hx0; go_loud (rintro e w2 ⟨rfl, hB2⟩; have d1' := (hB2.cell (p := ⟨w.heap.size, 1, none⟩) hbl).trans d1))
      go_ret
      exact ⟨ret_bool hq.out.symm, hB0.trans (hB2.mono hB0.size)⟩

theorem OwnRows.old {W W' : World} {base b : Nat} {v : Value} {rows : List (List Int)} (h : OwnRows W base v rows) (hb : b < base) (hg : W.grownBy W' (some b)) : OwnRows W' base v rows := by
  obtain ⟨us, l, o, r, ne⟩ := h
  exact ⟨us, l, own_kept o hg (own_old o hb), fun j hj => own_kept (r j hj) hg (own_old (r j hj) hb), ne⟩
theorem OwnDk.form {W : World} {base : Nat} {v : Value} {d : Dk} (h : OwnDk W base v d) : ∃ a b c e, v = .agg #[.slice a d.1.length b, .slice c d.2.length e] := by
  obtain ⟨mid, x, p, rfl, h1, h2, h3, h4⟩ := h
  obtain ⟨c, e, rfl⟩ := h4.form
  rcases h3 with ⟨h0, a, b, rfl⟩ | ⟨g, cap, rfl, _⟩
  · exact ⟨a, b, c, e, by rw [h0]⟩
  · exact ⟨_, _, _, _, rfl⟩
theorem OwnDk.old {W W' : World} {base b : Nat} {v : Value} {d : Dk} (h : OwnDk W base v d) (hb : b < base) (hg : W.grownBy W' (some b)) : OwnDk W' base v d := by
  obtain ⟨mid, x, p, rfl, h1, h2, h3, h4⟩ := h
  exact ⟨mid, x, p, rfl, h1, Nat.le_trans h2 hg.size, h3.grown hg (fun k e => by injection e with e; omega), h4.old (by omega) hg⟩
theorem OwnDk.down {W : World} {base base' : Nat} {v : Value} {d : Dk} (h : OwnDk W base v d) (hb : base' ≤ base) : OwnDk W base' v d := by
  obtain ⟨mid, x, p, rfl, h1, h2, h3, h4⟩ := h
  refine ⟨mid, x, p, rfl, by omega, h2, ?_, h4⟩
  rcases h3 with h3 | ⟨g, c, e, h5, h6⟩
  · exact .inl h3
  · exact .inr ⟨g, c, e, by omega, h6⟩
theorem OwnDk.below {W W' : World} {base : Nat} {v : Value} {d : Dk} (h : OwnDk W base v d) (hB : Below W.heap.size W W') : OwnDk W' base v d := by
  obtain ⟨mid, x, p, rfl, h1, h2, h3, h4⟩ := h
  exact ⟨mid, x, p, rfl, h1, Nat.le_trans h2 hB.size, h3.below hB, h4.below hB⟩
/-- A desk that is laid into the result's block. -/
theorem OwnDk.result {W : World} {base base' b : Nat} {x p : Value} {d : Dk} (h : OwnDk W base (.agg #[x, p]) d) (hb : b < base) (hb' : base' ≤ base) : OwnDk ((W.setCell ⟨b, 0, .none⟩ x).setCell ⟨b, 1, .none⟩ p) base' (.agg #[x, p]) d :=
  ((h.old hb (grownBy_setAt W b 0 x)).old hb (grownBy_setAt _ b 1 p)).down hb'

end Go.Proofs.Ytimnhedjapakhaa
