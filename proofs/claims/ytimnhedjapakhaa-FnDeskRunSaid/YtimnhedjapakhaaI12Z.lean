/-
  The program's slices.Equal, DeskOk and DeskNew.
-/
import Derived.Test.YtimnhedjapakhaaD12Z
import Derived.Test.YtimnhedjapakhaaS12Z
namespace Go.Proofs.Ytimnhedjapakhaa
open Go.RowKit Go.Shelf

set_option maxHeartbeats 1000000 in
theorem equal_in (v u : Value) (xs ys : List Int) (w : World) (hv : Ints w v xs) (hu : Ints w u ys) (hl : xs.length ≤ 1000000000) : Calls Try.prog 39 #[v, u] w fun e w' => e = .returned (.bool (decide (xs = ys))) ∧ Below w.heap.size w w' := by
  by_cases hll : xs.length = ys.length
  · by_cases h0 : xs.length = 0
    · have hr := hide (same_all hll (fun k hk => by omega))
      obtain ⟨a, c, rfl⟩ := hv.shape
      obtain ⟨a2, c2, rfl⟩ := hu.shape
      rw [← hll, h0]
      clear hv hu
      go_enter Try.func39, Try.ntmps39
      go_wp2
      refine wp_loop_rounds 1 ?_
      rw [rounds_succ]
      go_wp2
      go_ret
      exact ⟨ret_bool hr.out.symm, Below.refl _ _⟩
    · obtain ⟨g, c, rfl, hg, hc⟩ := hv.cells (by omega)
      obtain ⟨g2, c2, rfl, hg2, hc2⟩ := hu.cells (by omega)
      have hno := fun k => same_not (xs := xs) (ys := ys) (k := k)
      have hall := same_all hll
      rw [← hll] at hc2 ⊢
      generalize decide (xs = ys) = res at *
      generalize xs.length = n at *
      clear hv hu hll
      go_enter Try.func39, Try.ntmps39
      go_wp2
      go_loopw [13] (fun i wr => ∃ k : Nat, k ≤ n ∧ i = .int .i64 k ∧ Below w.heap.size w wr ∧ Hid (∀ i, i < k → xs.getD i 0 = ys.getD i 0)) (fun i _ => n - (intOf i).toNat)
      case atStart => exact ⟨0, by omega, rfl, Below.refl _ _, hide (fun i hi => by omega)⟩
      case round =>
        obtain ⟨k, hk, rfl, hB, hkk⟩ := hrel
        by_cases hlt : k < n
        · have hki : (k : Int) < (n : Int) := by omega
          have c1 := (hB.cell (p := ⟨g, k, none⟩) hg).trans (hc k hlt)
          have c3 := (hB.cell (p := ⟨g2, k, none⟩) hg2).trans (hc2 k hlt)
          by_cases he : xs.getD k 0 = ys.getD k 0
          · have hkk' : Hid (∀ i, i < k + 1 → xs.getD i 0 = ys.getD i 0) := hide (fun i hi => by
              by_cases e : i = k
              · subst e; exact he
              · exact hkk.out i (by omega))
            rw [← he] at c3
            clear hc hc2 hno hall hkk he
            generalize xs.getD k 0 = z at *
            go_wp2
            go_quiet (fail)
            go_wp2
            go_roundw
            case rel => exact ⟨k + 1, by omega, by go_num, ⟨hB.os, hB.tape, hB.output, hB.size, hB.block⟩, hkk'⟩
            case measure => simp [intOf]; omega
          · have hr := hide (hno k he)
            generalize xs.getD k 0 = z at *
            generalize ys.getD k 0 = y at *
            clear hc hc2 hno hall hkk
            go_wp2
            go_quiet (fail)
            go_wp2
            go_ret
            exact ⟨ret_bool hr.out.symm, ⟨hB.os, hB.tape, hB.output, hB.size, hB.block⟩⟩
        · obtain rfl : k = n := by omega
          have hr := hide (hall hkk.out)
          have hki : ¬ ((k : Nat) : Int) < (k : Int) := by omega
          clear hc hc2 hno hall hkk
          go_wp2
          go_ret
          exact ⟨ret_bool hr.out.symm, hB⟩
  · have hr : Hid (decide (xs = ys) = false) := hide (decide_eq_false fun e => hll (by rw [e]))
    obtain ⟨a, c, rfl⟩ := hv.shape
    obtain ⟨a2, c2, rfl⟩ := hu.shape
    generalize decide (xs = ys) = res at *
    have hb : ¬ ((xs.length : Int) = (ys.length : Int)) := by omega
    generalize xs.length = n at *
    generalize ys.length = m at *
    clear hv hu
    go_enter Try.func39, Try.ntmps39
    go_wp2
    go_ret
    exact ⟨ret_bool hr.out.symm, Below.refl _ _⟩

set_option maxHeartbeats 2000000 in
theorem implDeskOk (v : Value) (d : Dk) (w : World) (hv : DeskI w v d) (hs : DkS d) : Calls Try.prog 9 #[v] w fun e w' => e = .returned (.bool (deskB d)) ∧ Below w.heap.size w w' := by
  obtain ⟨x, p, rfl, hx, hp⟩ := hv
  have hB0 : Below w.heap.size w (w.alloc (.cells #[x, p] 26)) := (Below.refl _ w).alloc (Nat.le_refl _) _
  have hx0 := implSide x d.1 _ (hx.below hB0) (by have := hs.1; omega)
  have hp0 := hp.below hB0
  obtain ⟨d0, d1⟩ := desk_box (w := w) (x := x) (p := p) (t := 26)
  obtain ⟨a, c, rfl, hr⟩ := hp0
  have hno := fun k (hk : k < d.2.length) => deskB_no hk
  have hend := deskB_end (d := d)
  have hsm := hs.2.2
  have hn := hs.2.1
  obtain ⟨W0, hW0⟩ : ∃ W0, w.alloc (.cells #[x, .slice a d.2.length c] 26) = W0 := ⟨_, rfl⟩
  rw [hW0] at hB0 hx0 hr d0 d1
  have hbl : w.heap.size < W0.heap.size := by rw [← hW0]; simp
  have hrow : sideB d.1 = false → deskB d = false := fun h => by
    cases hd : deskB d with
    | false => rfl
    | true => have := (deskB_is.1 hd).2.1; rw [h] at this; cases this
  have hlong : ¬ d.2.length ≤ 8 → deskB d = false := fun h => by
    cases hd : deskB d with
    | false => rfl
    | true => exact absurd (deskB_is.1 hd).2.2 h
  generalize d.2.length = n at *
  generalize deskB d = res at *
  obtain ⟨row, past⟩ := d
  simp only at hr hno hend hsm hx0 hrow
  clear hx hp hs
  cases hsd : sideB row with
  | false =>
    rw [hsd] at hx0
    have hq := hide (hrow hsd)
    clear hno hend hr hrow hsm hlong
    go_enter Try.func9, Try.ntmps9
    go_wp2_with (go_at_call 33; refine hx0.mono ?_; clear hx0; rintro e w2 ⟨rfl, hB2⟩)
    go_ret
    exact ⟨ret_bool hq.out.symm, hB0.trans (hB2.mono hB0.size)⟩
  | true =>
    rw [hsd] at hx0
    by_cases h8 : n ≤ 8
    · have h8' : ¬ (n : Int) > 8 := by omega
      clear hlong hrow
      go_enter Try.func9, Try.ntmps9
      go_wp2_with (go_at_call 33; refine hx0.mono ?_; clear hx0; go_loud (rintro e w2 ⟨rfl, hB2⟩; have d1' := (hB2.cell (p := ⟨w.heap.size, 1, none⟩) hbl).trans d1))
      have hB3 : Below w.heap.size w w2 := hB0.trans (hB2.mono hB0.size)
      clear d0 d1 d1'
      go_loopw [18] (fun i wr => ∃ k : Nat, k ≤ n ∧ i = .int .i64 k ∧ Below w2.heap.size w2 wr ∧ Hid (∀ j, j < k → sideB (past.getD j []) = true)) (fun i _ => n - (intOf i).toNat)
      case atStart => exact ⟨0, by omega, rfl, Below.refl _ _, hide (fun i hi => by omega)⟩
      case round =>
        obtain ⟨k, hk, rfl, hBr, hall⟩ := hrel
        by_cases hlt : k < n
        · obtain ⟨G, o, rfl, hG, hc⟩ := hr (by omega)
          obtain ⟨u, huc, hu⟩ := hc k hlt
          have hki : (k : Int) < (n : Int) := by omega
          have huc' := (hBr.cell (p := ⟨G, o + k, none⟩) (Nat.lt_of_lt_of_le hG hB2.size)).trans ((hB2.cell (p := ⟨G, o + k, none⟩) hG).trans huc)
          have hS := implSide u (past.getD k []) wr ((hu.below hB2).below hBr) (by have := hsm k; omega)
          obtain ⟨ua, uc, rfl⟩ := hu.shape
          cases hsd2 : sideB (past.getD k []) with
          | false =>
            have hq := hide (hno k hlt hsd2)
            rw [hsd2] at hS
            clear hc hno hend hall hsd2 hr hu huc hsm
            go_wp2_with (go_at_call 33; refine hS.mono ?_; clear hS; rintro e w3 ⟨rfl, hB4⟩)
            go_ret
            exact ⟨ret_bool hq.out.symm, (hB3.trans (hBr.mono hB3.size)).trans (hB4.mono (Nat.le_trans hB3.size hBr.size))⟩
          | true =>
            have hall' : Hid (∀ i, i < k + 1 → sideB (past.getD i []) = true) := hide (fun i hi => by
              by_cases e : i = k
              · subst e; exact hsd2
              · exact hall.out i (by omega))
            rw [hsd2] at hS
            clear hc hno hend hall hsd2 hu huc hsm
            go_wp2_with (go_at_call 33; refine hS.mono ?_; clear hS; rintro e w3 ⟨rfl, hB4⟩)
            go_roundw
            case rel => exact ⟨k + 1, by omega, by go_num, hBr.trans (hB4.mono hBr.size), hall'⟩
            case measure => simp [intOf]; omega
        · obtain rfl : k = n := by omega
          have hq := hide (hend hall.out)
          have hki : ¬ ((k : Nat) : Int) < (k : Int) := by omega
          clear hr hno hend hall hlt hsm
          go_wp2
          go_ret
          refine ⟨ret_bool ?_, hB3.trans (hBr.mono hB3.size)⟩
          rw [hq.out, hsd, decide_eq_true h8]; rfl
    · have h8' : (n : Int) > 8 := by omega
      have hq := hide (hlong h8)
      clear hno hend hr hrow hsm hlong
      go_enter Try.func9, Try.ntmps9
      go_wp2_with (go_at_call 33; refine hx0.mono ?_; clear hx0; go_loud (rintro e w2 ⟨rfl, hB2⟩; have d1' := (hB2.cell (p := ⟨w.heap.size, 1, none⟩) hbl).trans d1))
      go_ret
      exact ⟨ret_bool hq.out.symm, hB0.trans (hB2.mono hB0.size)⟩

theorem OwnRows.old {W W' : World} {base b : Nat} {v : Value} {rows : List (List Int)} (h : OwnRows W base v rows) (hb : b < base) (hg : W.grownBy W' (some b)) : OwnRows W' base v rows := by
  obtain ⟨us, l, o, r, ne⟩ := h
  exact ⟨us, l, own_kept o hg (own_old o hb), fun j hj => own_kept (r j hj) hg (own_old (r j hj) hb), ne⟩
theorem OwnDk.form {W : World} {base : Nat} {v : Value} {d : Dk} (h : OwnDk W base v d) : ∃ a b c e, v = .agg #[.slice a d.1.length b, .slice c d.2.length e] := by
  obtain ⟨mid, x, p, rfl, h1, h2, h3, h4⟩ := h
  obtain ⟨c, e, rfl⟩ := h4.form
  rcases h3 with ⟨h0, a, b, rfl⟩ | ⟨g, cap, rfl, _⟩
  · exact ⟨a, b, c, e, by rw [h0]⟩
  · exact ⟨_, _, _, _, rfl⟩
theorem OwnDk.old {W W' : World} {base b : Nat} {v : Value} {d : Dk} (h : OwnDk W base v d) (hb : b < base) (hg : W.grownBy W' (some b)) : OwnDk W' base v d := by
  obtain ⟨mid, x, p, rfl, h1, h2, h3, h4⟩ := h
  exact ⟨mid, x, p, rfl, h1, Nat.le_trans h2 hg.size, h3.grown hg (fun k e => by injection e with e; omega), h4.old (by omega) hg⟩
theorem OwnDk.down {W : World} {base base' : Nat} {v : Value} {d : Dk} (h : OwnDk W base v d) (hb : base' ≤ base) : OwnDk W base' v d := by
  obtain ⟨mid, x, p, rfl, h1, h2, h3, h4⟩ := h
  refine ⟨mid, x, p, rfl, by omega, h2, ?_, h4⟩
  rcases h3 with h3 | ⟨g, c, e, h5, h6⟩
  · exact .inl h3
  · exact .inr ⟨g, c, e, by omega, h6⟩
theorem OwnDk.below {W W' : World} {base : Nat} {v : Value} {d : Dk} (h : OwnDk W base v d) (hB : Below W.heap.size W W') : OwnDk W' base v d := by
  obtain ⟨mid, x, p, rfl, h1, h2, h3, h4⟩ := h
  exact ⟨mid, x, p, rfl, h1, Nat.le_trans h2 hB.size, h3.below hB, h4.below hB⟩
/-- A desk that is laid into the result's block. -/
theorem OwnDk.result {W : World} {base base' b : Nat} {x p : Value} {d : Dk} (h : OwnDk W base (.agg #[x, p]) d) (hb : b < base) (hb' : base' ≤ base) : OwnDk ((W.setCell ⟨b, 0, .none⟩ x).setCell ⟨b, 1, .none⟩ p) base' (.agg #[x, p]) d :=
  ((h.old hb (grownBy_setAt W b 0 x)).old hb (grownBy_setAt _ b 1 p)).down hb'

end Go.Proofs.Ytimnhedjapakhaa
/-
  The program's DeskDo where no row of before is put back.
-/
namespace Go.Proofs.Ytimnhedjapakhaa
open Go.RowKit Go.Shelf
attribute [local go_sem] Oper.semAt_some

/-- The last rows of before, out of rows that lie. -/
theorem deskOf_last (u : Value) (row : List Int) (past : List (List Int)) (G cp : Nat) (w : World) (hu : Ints w u row) (h1 : 1 ≤ row.length) (h2 : row.length ≤ 12) (hl : past.length ≤ 9) (hcp : past.length ≤ cp) (hG : G < w.heap.size) (hc : ∀ k, k < past.length → ∃ u, w.cell? ⟨G, 0 + k, none⟩ = some u ∧ Ints w u (past.getD k []))
    (hr : ∀ j, j < past.length → 1 ≤ (past.getD j []).length ∧ (past.getD j []).length ≤ 12) :
    Calls Try.prog 37 #[u, .slice (some ⟨G, 0, none⟩) past.length cp] w fun e w' => ∃ x, e = .returned x ∧ OwnDk w' w.heap.size x (row, lastR past) ∧ Below w.heap.size w w' := by
  by_cases h9 : past.length = 9
  · have h := deskOf_full u row past G 0 cp w hu h1 h2 h9 (by omega) hG (fun k hk => hc k (by omega)) hr
    have ht : past.tail = lastR past := by unfold lastR; rw [h9, show 9 - 8 = 1 from rfl, List.drop_one]
    rw [h9, ← ht]
    exact h
  · rw [lastR_le (by omega)]
    exact deskOf_in u _ row past w hu h1 h2 ⟨_, cp, rfl, fun _ => ⟨G, 0, rfl, hG, hc⟩⟩ (by omega) hr
theorem build_two (W : World) (x p : Value) : ((W.alloc (.cells #[x] 23)).alloc (.cells #[p, .slice (some ⟨W.heap.size, 0, none⟩) 1 1] 24)).cell? ⟨W.heap.size + 1, 0, none⟩ = some p ∧
    ((W.alloc (.cells #[x] 23)).alloc (.cells #[p, .slice (some ⟨W.heap.size, 0, none⟩) 1 1] 24)).cell? ⟨W.heap.size + 1, 1, none⟩ = some (.slice (some ⟨W.heap.size, 0, none⟩) 1 1) ∧
    ((W.alloc (.cells #[x] 23)).alloc (.cells #[p, .slice (some ⟨W.heap.size, 0, none⟩) 1 1] 24)).cell? ⟨W.heap.size, 0, none⟩ = some x := by
  have h1 := World.alloc_heap_new (W.alloc (.cells #[x] 23)) (.cells #[p, .slice (some ⟨W.heap.size, 0, none⟩) 1 1] 24)
  rw [World.size_alloc] at h1
  have h2 : ((W.alloc (.cells #[x] 23)).alloc (.cells #[p, .slice (some ⟨W.heap.size, 0, none⟩) 1 1] 24)).heap[W.heap.size]? = some (.cells #[x] 23 (0, 0)) := (Below.heap_alloc _ _ _ (by rw [World.size_alloc]; omega)).trans (World.alloc_heap_new W _)
  exact ⟨by unfold World.cell?; rw [h1]; rfl, by unfold World.cell?; rw [h1]; rfl, by unfold World.cell?; rw [h2]; rfl⟩

/-- What the walks of DeskDo know of the desk, and of the calls. -/
structure Dx (w : World) (x p : Value) (d : Dk) (k n : Int) : Prop where
  now : Ints w x d.1
  past : PastI w p d.2
  desk : deskB d = true
  after : ∀ V, Do1 w x p k n V → Calls Try.prog 38 #[x, dV k n] V fun e w' => ∃ r, e = .returned r ∧ Ints w' r (madeV d.1 k n) ∧ Below V.heap.size V w'
  keep : ∀ V, Do1 w x p k n V → Calls Try.prog 37 #[x, p] V fun e w' => ∃ y, e = .returned y ∧ OwnDk w' V.heap.size y d ∧ Below V.heap.size V w'
theorem Dx.new {w : World} {x p : Value} {d : Dk} (k n : Int) (hx : Ints w x d.1) (hp : PastI w p d.2) (hb : deskB d = true) : Dx w x p d k n := by
  obtain ⟨h1, h2, h3⟩ := deskB_is.1 hb
  have hl := sideB_len h2
  refine ⟨hx, hp, hb, fun V hV => rowAfter_in x d.1 k n V (hx.below hV.below) h2, fun V hV => ?_⟩
  exact deskOf_in x p d.1 d.2 V (hx.below hV.below) hl.1 hl.2 (hp.below hV.below) h3 (fun j hj => sideB_len (h1 _ (by rw [List.getD, List.getElem?_eq_getElem hj]; exact List.getElem_mem hj)))
/-- The result is laid into its block, and handed back. -/
theorem Do1.result {w : World} {x p y1 y2 : Value} {k n : Int} {d : Dk} {V W : World} (hD : Do1 w x p k n V) (h : OwnDk W V.heap.size (.agg #[y1, y2]) d) (hB : Below V.heap.size V W) :
    W.heap[w.heap.size + 2]? = some (.cells #[.slice .none 0 0, .slice .none 0 0] 26 (0, 0)) ∧ OwnDk ((W.setCell ⟨w.heap.size + 2, 0, .none⟩ y1).setCell ⟨w.heap.size + 2, 1, .none⟩ y2) w.heap.size (.agg #[y1, y2]) d ∧ Below w.heap.size w ((W.setCell ⟨w.heap.size + 2, 0, .none⟩ y1).setCell ⟨w.heap.size + 2, 1, .none⟩ y2) := by
  have hs := hD.size
  refine ⟨(hB.block _ (by omega)).trans hD.res, h.result (by omega) (by omega), ?_⟩
  exact ((hD.below.trans (hB.mono hD.below.size)).setCell (p := ⟨w.heap.size + 2, 0, .none⟩) (by show w.heap.size ≤ w.heap.size + 2; omega) _).setCell (p := ⟨w.heap.size + 2, 1, .none⟩) (by show w.heap.size ≤ w.heap.size + 2; omega) _

set_option maxRecDepth 100000 in
set_option maxHeartbeats 2000000 in
theorem implDo_no (v : Value) (d : Dk) (k n : Int) (w : World) (hv : DeskI w v d) (hs : DkS d) (hb : deskB d = false) : Calls Try.prog 13 #[v, dV k n] w fun e w' =>
    ∃ x, e = .returned (.tuple #[x, .bool (doV d k n).2]) ∧ OwnDk w' w.heap.size x (doV d k n).1 ∧ Below w.heap.size w w' := by
  obtain ⟨x, p, rfl, hx, hp⟩ := hv
  have hD := Do1.new w x p k n
  obtain ⟨W1, hW1⟩ : ∃ W1, ((w.alloc (.cells #[x, p] 26)).alloc (.cells #[.int .i64 k, .int .i64 n] 32)).alloc (.cells #[.slice none 0 0, .slice none 0 0] 26) = W1 := ⟨_, rfl⟩
  rw [hW1] at hD
  have hOK := implDeskOk (.agg #[x, p]) d W1 ⟨x, p, rfl, hx.below hD.below, hp.below hD.below⟩ hs
  rw [hb] at hOK
  rw [doV_no hb]
  obtain ⟨a0, a1, _, _⟩ := row_at hD.desk
  unfold dV
  clear hx hp hs hb
  go_enter Try.func13, Try.ntmps13
  go_wp2_with (go_at_call 9; go_loud (refine hOK.mono ?_; clear hOK; rintro e W2 ⟨rfl, hB2⟩; have hD2 := hD.more hB2; obtain ⟨r0, r1, g0, g1⟩ := row_at hD2.res))
  have hs2 := hD2.size
  obtain ⟨h1, h2, h3⟩ := hD2.result (OwnDk.none W2 W2.heap.size (Nat.le_refl _)) (Below.refl _ _)
  exact bodyPost_ret (results_desk2 rfl _ _ (w.heap.size + 2) _ _ rfl (desk_set h1 _ _)) rfl ⟨_, rfl, h2, h3⟩
end Go.Proofs.Ytimnhedjapakhaa
/-
  The program's DeskDo: no row of before.
-/
namespace Go.Proofs.Ytimnhedjapakhaa
open Go.RowKit Go.Shelf
attribute [local go_sem] Oper.semAt_some

set_option maxRecDepth 100000 in
set_option maxHeartbeats 2000000 in
theorem implDo_none (x p : Value) (d : Dk) (k n : Int) (w : World) (hX : Dx w x p d k n) (h5 : k = 5 ∧ n = 0) (h0 : d.2.length = 0) : Calls Try.prog 13 #[.agg #[x, p], dV k n] w fun e w' =>
    ∃ y, e = .returned (.tuple #[y, .bool (doV d k n).2]) ∧ OwnDk w' w.heap.size y (doV d k n).1 ∧ Below w.heap.size w w' := by
  obtain ⟨rfl, rfl⟩ := h5
  rw [doV_same hX.desk (by omega) (.inl rfl)]
  obtain ⟨hx, hp, hb, hAf, hKp⟩ := hX
  obtain ⟨hd1, hd2, hd3⟩ := deskB_is.1 hb
  have hl := sideB_len hd2
  have hD := Do1.new w x p 5 0
  obtain ⟨W1, hW1⟩ : ∃ W1, ((w.alloc (.cells #[x, p] 26)).alloc (.cells #[.int .i64 5, .int .i64 0] 32)).alloc (.cells #[.slice none 0 0, .slice none 0 0] 26) = W1 := ⟨_, rfl⟩
  rw [hW1] at hD
  have hOK := implDeskOk (.agg #[x, p]) d W1 ⟨x, p, rfl, hx.below hD.below, hp.below hD.below⟩ ⟨by omega, by omega, fun j => by
    by_cases hj : j < d.2.length
    · have := sideB_len (hd1 (d.2.getD j []) (by rw [List.getD, List.getElem?_eq_getElem hj]; exact List.getElem_mem hj)); omega
    · rw [List.getD, List.getElem?_eq_none (by omega)]; simp⟩
  rw [hb] at hOK
  have q5 := fun V => equal_deed (k := 5) (n := 0) (by constructor <;> omega) (by constructor <;> omega) (k' := 5) (n' := 0) (by constructor <;> omega) (by constructor <;> omega) V
  have e5 : decide ((5 : Int) = 5 ∧ (0 : Int) = 0) = true := by decide
  rw [e5] at q5
  obtain ⟨row, past⟩ := d
  simp only at *
  have hM : madeV row 5 0 = [] := rfl
  rw [hM] at hAf
  obtain rfl : past = [] := List.length_eq_zero_iff.1 h0
  clear hM e5 h0
  obtain ⟨ap, cp, rfl, _⟩ := id hp
  obtain ⟨ax, cx, rfl⟩ := hx.shape
  obtain ⟨a0, a1, _, _⟩ := row_at hD.desk
  unfold dV at hAf ⊢
  simp only [List.length_nil] at hOK hW1 hD hAf hKp a0 a1 ⊢
  go_enter Try.func13, Try.ntmps13
  go_wp2_with (first
    | (go_at_call 9; go_loud (refine hOK.mono ?_; clear hOK; rintro e W2 ⟨rfl, hB2⟩; have hD2 := hD.more hB2; obtain ⟨a0, a1, _, _⟩ := row_at hD2.desk; obtain ⟨c0, c1, _, _⟩ := row_at hD2.deed; clear hD hB2))
    | (go_at_call 38; refine (hAf _ hD2).mono ?_; clear hAf; go_loud (rintro e W3 ⟨r, rfl, hr, hB3⟩; have hD3 := hD2.more hB3; obtain ⟨a0, a1, _, _⟩ := row_at hD3.desk; obtain ⟨ar, cr, rfl⟩ := hr.shape; clear hD2 hB3))

    | (go_at_call 37; fail))
  go_at_call 37
  refine (hKp _ hD3).mono ?_
  rintro e W5 ⟨y, rfl, hy, hB5⟩
  obtain ⟨y1, y2, y3, y4, rfl⟩ := hy.form
  obtain ⟨hres, hown, hBl⟩ := hD3.result hy hB5
  obtain ⟨r0, r1, g0, g1⟩ := row_at hres
  have hres' := hide (desk_set hres (.slice y1 row.length y2) (.slice y3 0 y4))
  have hown' := hide hown
  clear hy hB5 hown
  go_wp2
  exact bodyPost_ret (results_desk2 rfl _ _ (w.heap.size + 2) _ _ rfl hres'.out) rfl ⟨_, rfl, hown'.out, hBl⟩
end Go.Proofs.Ytimnhedjapakhaa
/-
  The program's DeskDo: nothing that may be.
-/
namespace Go.Proofs.Ytimnhedjapakhaa
open Go.RowKit Go.Shelf
attribute [local go_sem] Oper.semAt_some

set_option maxRecDepth 100000 in
set_option maxHeartbeats 2000000 in
theorem implDo_empty (x p : Value) (d : Dk) (k n : Int) (w : World) (hX : Dx w x p d k n) (hk : Fits k) (hn : Fits n) (h5 : ¬ (k = 5 ∧ n = 0)) (hM : madeV d.1 k n = []) : Calls Try.prog 13 #[.agg #[x, p], dV k n] w fun e w' =>
    ∃ y, e = .returned (.tuple #[y, .bool (doV d k n).2]) ∧ OwnDk w' w.heap.size y (doV d k n).1 ∧ Below w.heap.size w w' := by
  rw [doV_same hX.desk (fun h => h5 ⟨h.1, h.2.1⟩) (.inl hM)]
  obtain ⟨hx, hp, hb, hAf, hKp⟩ := hX
  obtain ⟨hd1, hd2, hd3⟩ := deskB_is.1 hb
  have hl := sideB_len hd2
  have hD := Do1.new w x p k n
  obtain ⟨W1, hW1⟩ : ∃ W1, ((w.alloc (.cells #[x, p] 26)).alloc (.cells #[.int .i64 k, .int .i64 n] 32)).alloc (.cells #[.slice none 0 0, .slice none 0 0] 26) = W1 := ⟨_, rfl⟩
  rw [hW1] at hD
  have hOK := implDeskOk (.agg #[x, p]) d W1 ⟨x, p, rfl, hx.below hD.below, hp.below hD.below⟩ ⟨by omega, by omega, fun j => by
    by_cases hj : j < d.2.length
    · have := sideB_len (hd1 (d.2.getD j []) (by rw [List.getD, List.getElem?_eq_getElem hj]; exact List.getElem_mem hj)); omega
    · rw [List.getD, List.getElem?_eq_none (by omega)]; simp⟩
  rw [hb] at hOK
  have q5 := fun V => equal_deed hk hn (k' := 5) (n' := 0) (by constructor <;> omega) (by constructor <;> omega) V
  rw [decide_eq_false h5] at q5
  obtain ⟨row, past⟩ := d
  simp only at *
  rw [hM] at hAf
  clear hM h5
  obtain ⟨ap, cp, rfl, _⟩ := id hp
  obtain ⟨ax, cx, rfl⟩ := hx.shape
  obtain ⟨a0, a1, _, _⟩ := row_at hD.desk
  unfold dV at hAf ⊢

  go_enter Try.func13, Try.ntmps13
  go_wp2_with (first
    | (go_at_call 9; go_loud (refine hOK.mono ?_; clear hOK; rintro e W2 ⟨rfl, hB2⟩; have hD2 := hD.more hB2; obtain ⟨a0, a1, _, _⟩ := row_at hD2.desk; obtain ⟨c0, c1, _, _⟩ := row_at hD2.deed; clear hD hB2))
    | (go_at_call 38; refine (hAf _ hD2).mono ?_; clear hAf; go_loud (rintro e W3 ⟨r, rfl, hr, hB3⟩; have hD3 := hD2.more hB3; obtain ⟨a0, a1, _, _⟩ := row_at hD3.desk; obtain ⟨ar, cr, rfl⟩ := hr.shape; clear hD2 hB3))

    | (go_at_call 37; fail))
  all_goals
    go_at_call 37
    refine (hKp _ hD3).mono ?_
    rintro e W5 ⟨y, rfl, hy, hB5⟩
    obtain ⟨y1, y2, y3, y4, rfl⟩ := hy.form
    obtain ⟨hres, hown, hBl⟩ := hD3.result hy hB5
    obtain ⟨r0, r1, g0, g1⟩ := row_at hres
    have hres' := hide (desk_set hres (.slice y1 row.length y2) (.slice y3 past.length y4))
    have hown' := hide hown
    clear hy hB5 hown
    go_wp2
    exact bodyPost_ret (results_desk2 rfl _ _ (w.heap.size + 2) _ _ rfl hres'.out) rfl ⟨_, rfl, hown'.out, hBl⟩
end Go.Proofs.Ytimnhedjapakhaa
/-
  The program's DeskDo: the row stays the same.
-/
namespace Go.Proofs.Ytimnhedjapakhaa
open Go.RowKit Go.Shelf
attribute [local go_sem] Oper.semAt_some

set_option maxRecDepth 100000 in
set_option maxHeartbeats 2000000 in
theorem implDo_same (x p : Value) (d : Dk) (k n : Int) (w : World) (hX : Dx w x p d k n) (hk : Fits k) (hn : Fits n) (h5 : ¬ (k = 5 ∧ n = 0)) (hM : madeV d.1 k n = d.1) : Calls Try.prog 13 #[.agg #[x, p], dV k n] w fun e w' =>
    ∃ y, e = .returned (.tuple #[y, .bool (doV d k n).2]) ∧ OwnDk w' w.heap.size y (doV d k n).1 ∧ Below w.heap.size w w' := by
  rw [doV_same hX.desk (fun h => h5 ⟨h.1, h.2.1⟩) (.inr hM)]
  obtain ⟨hx, hp, hb, hAf, hKp⟩ := hX
  obtain ⟨hd1, hd2, hd3⟩ := deskB_is.1 hb
  have hl := sideB_len hd2
  have hD := Do1.new w x p k n
  obtain ⟨W1, hW1⟩ : ∃ W1, ((w.alloc (.cells #[x, p] 26)).alloc (.cells #[.int .i64 k, .int .i64 n] 32)).alloc (.cells #[.slice none 0 0, .slice none 0 0] 26) = W1 := ⟨_, rfl⟩
  rw [hW1] at hD
  have hOK := implDeskOk (.agg #[x, p]) d W1 ⟨x, p, rfl, hx.below hD.below, hp.below hD.below⟩ ⟨by omega, by omega, fun j => by
    by_cases hj : j < d.2.length
    · have := sideB_len (hd1 (d.2.getD j []) (by rw [List.getD, List.getElem?_eq_getElem hj]; exact List.getElem_mem hj)); omega
    · rw [List.getD, List.getElem?_eq_none (by omega)]; simp⟩
  rw [hb] at hOK
  have q5 := fun V => equal_deed hk hn (k' := 5) (n' := 0) (by constructor <;> omega) (by constructor <;> omega) V
  rw [decide_eq_false h5] at q5
  obtain ⟨row, past⟩ := d
  simp only at *
  rw [hM] at hAf
  have hEq := fun (V : World) (r : Value) (hV : Do1 w x p k n V) (hr : Ints V r row) => equal_in r x row row V hr (hx.below hV.below) (by omega)
  rw [decide_eq_true (rfl : row = row)] at hEq
  have hrow : ¬ (row = []) := fun e => by rw [e] at hl; simp at hl
  clear hM h5
  obtain ⟨ap, cp, rfl, _⟩ := id hp
  obtain ⟨ax, cx, rfl⟩ := hx.shape
  obtain ⟨a0, a1, _, _⟩ := row_at hD.desk
  unfold dV at hAf ⊢

  go_enter Try.func13, Try.ntmps13
  go_wp2_with (first
    | (go_at_call 9; go_loud (refine hOK.mono ?_; clear hOK; rintro e W2 ⟨rfl, hB2⟩; have hD2 := hD.more hB2; obtain ⟨a0, a1, _, _⟩ := row_at hD2.desk; obtain ⟨c0, c1, _, _⟩ := row_at hD2.deed; clear hD hB2))
    | (go_at_call 38; refine (hAf _ hD2).mono ?_; clear hAf; go_loud (rintro e W3 ⟨r, rfl, hr, hB3⟩; have hD3 := hD2.more hB3; obtain ⟨a0, a1, _, _⟩ := row_at hD3.desk; obtain ⟨ar, cr, rfl⟩ := hr.shape; clear hD2 hB3))
    | (go_at_call 39; go_loud (refine (hEq _ _ hD3 hr).mono ?_; rintro e W4 ⟨rfl, hB4⟩; have hD4 := hD3.more hB4; obtain ⟨a0, a1, _, _⟩ := row_at hD4.desk; clear hD3 hB4))
    | (go_at_call 37; fail))
  all_goals
    go_at_call 37
    refine (hKp _ hD4).mono ?_
    rintro e W5 ⟨y, rfl, hy, hB5⟩
    obtain ⟨y1, y2, y3, y4, rfl⟩ := hy.form
    obtain ⟨hres, hown, hBl⟩ := hD4.result hy hB5
    obtain ⟨r0, r1, g0, g1⟩ := row_at hres
    have hres' := hide (desk_set hres (.slice y1 row.length y2) (.slice y3 past.length y4))
    have hown' := hide hown
    clear hy hB5 hown
    go_wp2
    exact bodyPost_ret (results_desk2 rfl _ _ (w.heap.size + 2) _ _ rfl hres'.out) rfl ⟨_, rfl, hown'.out, hBl⟩
end Go.Proofs.Ytimnhedjapakhaa
/-
  The program's DeskDo: the row is another one.
-/
namespace Go.Proofs.Ytimnhedjapakhaa
open Go.RowKit Go.Shelf
attribute [local go_sem] Oper.semAt_some

set_option maxRecDepth 100000 in
set_option maxHeartbeats 2000000 in
theorem implDo_made (x p : Value) (d : Dk) (k n : Int) (w : World) (hX : Dx w x p d k n) (hk : Fits k) (hn : Fits n) (h5 : ¬ (k = 5 ∧ n = 0)) (h0 : madeV d.1 k n ≠ []) (hM : madeV d.1 k n ≠ d.1) : Calls Try.prog 13 #[.agg #[x, p], dV k n] w fun e w' =>
    ∃ y, e = .returned (.tuple #[y, .bool (doV d k n).2]) ∧ OwnDk w' w.heap.size y (doV d k n).1 ∧ Below w.heap.size w w' := by
  rw [doV_made hX.desk (fun h => h5 ⟨h.1, h.2.1⟩) (fun h => h.elim h0 hM), ← pastV_last (deskB_is.1 hX.desk).2.2]
  obtain ⟨hx, hp, hb, hAf, hKp⟩ := hX
  obtain ⟨hd1, hd2, hd3⟩ := deskB_is.1 hb
  have hl := sideB_len hd2
  have hD := Do1.new w x p k n
  obtain ⟨W1, hW1⟩ : ∃ W1, ((w.alloc (.cells #[x, p] 26)).alloc (.cells #[.int .i64 k, .int .i64 n] 32)).alloc (.cells #[.slice none 0 0, .slice none 0 0] 26) = W1 := ⟨_, rfl⟩
  rw [hW1] at hD
  have hOK := implDeskOk (.agg #[x, p]) d W1 ⟨x, p, rfl, hx.below hD.below, hp.below hD.below⟩ ⟨by omega, by omega, fun j => by
    by_cases hj : j < d.2.length
    · have := sideB_len (hd1 (d.2.getD j []) (by rw [List.getD, List.getElem?_eq_getElem hj]; exact List.getElem_mem hj)); omega
    · rw [List.getD, List.getElem?_eq_none (by omega)]; simp⟩
  rw [hb] at hOK
  have q5 := fun V => equal_deed hk hn (k' := 5) (n' := 0) (by constructor <;> omega) (by constructor <;> omega) V
  rw [decide_eq_false h5] at q5
  obtain ⟨row, past⟩ := d
  simp only at *
  have hms := made_side hd2 k n h0
  have hml := sideB_len hms
  have hEq := fun (V : World) (r : Value) (hV : Do1 w x p k n V) (hr : Ints V r (madeV row k n)) => equal_in r x (madeV row k n) row V hr (hx.below hV.below) (by omega)
  rw [decide_eq_false hM] at hEq
  generalize madeV row k n = M at *
  have hrow : ¬ (M = []) := h0
  have hlst := fun j (hj : j < (past ++ [row]).length) => (by
    by_cases e : j < past.length
    · rw [List.getD, List.getElem?_append_left e]
      have := sideB_len (hd1 (past.getD j []) (by rw [List.getD, List.getElem?_eq_getElem e]; exact List.getElem_mem e))
      rwa [List.getD] at this
    · have : j = past.length := by simp at hj; omega
      subst this
      rw [List.getD, List.getElem?_append_right (Nat.le_refl _), Nat.sub_self]
      exact hl : 1 ≤ ((past ++ [row]).getD j []).length ∧ ((past ++ [row]).getD j []).length ≤ 12)
  have hlst' := hide hlst
  have hpp := hide hp
  clear h0 hM h5 hms hKp hlst hd1
  obtain ⟨ap, cp, rfl, _⟩ := id hp
  obtain ⟨ax, cx, rfl⟩ := hx.shape
  obtain ⟨a0, a1, _, _⟩ := row_at hD.desk
  unfold dV at hAf ⊢

  go_enter Try.func13, Try.ntmps13
  go_wp2_with (first
    | (go_at_call 9; go_loud (refine hOK.mono ?_; clear hOK; rintro e W2 ⟨rfl, hB2⟩; have hD2 := hD.more hB2; obtain ⟨a0, a1, _, _⟩ := row_at hD2.desk; obtain ⟨c0, c1, _, _⟩ := row_at hD2.deed; clear hD hB2))
    | (go_at_call 38; refine (hAf _ hD2).mono ?_; clear hAf; go_loud (rintro e W3 ⟨r, rfl, hr, hB3⟩; have hD3 := hD2.more hB3; obtain ⟨a0, a1, _, _⟩ := row_at hD3.desk; obtain ⟨ar, cr, rfl⟩ := hr.shape; clear hD2 hB3))
    | (go_at_call 39; go_loud (refine (hEq _ _ hD3 hr).mono ?_; rintro e W4 ⟨rfl, hB4⟩; have hr4 := hr.below hB4; have hD4 := hD3.more hB4; obtain ⟨a0, a1, _, _⟩ := row_at hD4.desk; clear hD3 hB4 hr hEq))
    | (go_at_call 40; fail)
    | (go_at_call 37; fail))
  obtain ⟨b0, b1, b2⟩ := build_two W4 (.slice ax row.length cx) (.slice ap past.length cp)
  have hBb : Below W4.heap.size W4 ((W4.alloc (.cells #[.slice ax row.length cx] 23)).alloc (.cells #[.slice ap past.length cp, .slice (some ⟨W4.heap.size, 0, none⟩) 1 1] 24)) := ((Below.refl _ W4).alloc (Nat.le_refl _) _).alloc (by rw [World.size_alloc]; omega) _
  go_at_call 40
  generalize (W4.alloc (.cells #[.slice ax row.length cx] 23)).alloc (.cells #[.slice ap past.length cp, .slice (some ⟨W4.heap.size, 0, none⟩) 1 1] 24) = W5 at *
  have hD5 := hD4.more hBb
  refine (concat_in _ ap past.length cp _ (.slice ax row.length cx) past row W5 b0 b1 b2 (hx.below hD5.below) (hpp.out.below hD5.below) hd3).mono ?_
  rintro e W6 ⟨G, cc, rfl, hcc, hG1, hG2, hcells, hB6⟩
  have hD6 := hD5.more hB6
  have hr6 := (hr4.below hBb).below hB6
  have hlen : (past ++ [row]).length = past.length + 1 := by simp
  have hDO := deskOf_last (.slice ar M.length cr) M (past ++ [row]) G cc W6 hr6 hml.1 hml.2 (by omega) (by omega) hG2 (fun j hj => hcells j (by omega)) hlst'.out
  rw [hlen] at hDO
  clear hcells hB6 hG1 b0 b1 b2 hBb hD4 hD5 hr4 hr6
  go_wp2_with (go_at_call 37; refine hDO.mono ?_; clear hDO; go_loud (rintro e W7 ⟨y, rfl, hy, hB7⟩; obtain ⟨y1, y2, y3, y4, rfl⟩ := hy.form; obtain ⟨hres, hown, hBl⟩ := hD6.result hy hB7; obtain ⟨r0, r1, g0, g1⟩ := row_at hres; have hres' := hide (desk_set hres (.slice y1 M.length y2) (.slice y3 (lastR (past ++ [row])).length y4)); have hown' := hide hown; clear hy hB7 hown))
  exact bodyPost_ret (results_desk2 rfl _ _ (w.heap.size + 2) _ _ rfl hres'.out) rfl ⟨_, rfl, hown'.out, hBl⟩
end Go.Proofs.Ytimnhedjapakhaa
/-
  The program's DeskDo: the last row of before is put back.
-/
namespace Go.Proofs.Ytimnhedjapakhaa
open Go.RowKit Go.Shelf
attribute [local go_sem] Oper.semAt_some

theorem OwnDk.cap {W : World} {base : Nat} {v : Value} {d : Dk} (h : OwnDk W base v d) : CapP v := by
  obtain ⟨mid, x, p, rfl, _, _, _, us, hl, ho, _⟩ := h
  intro x' a n c e
  injection e with e
  simp at e
  obtain ⟨rfl, rfl⟩ := e
  rcases ho.2 with ⟨e, _⟩ | ⟨b, cap, cur, e, _, _, hc, _⟩
  · injection e with _ e2 e3; omega
  · injection e with _ e2 e3; omega
theorem take_getD {α : Type} (l : List α) (d : α) {L j : Nat} (h : j < L) : (l.take L).getD j d = l.getD j d := by
  rw [List.getD, List.getD, List.getElem?_take, if_pos h]
set_option maxRecDepth 100000 in
set_option maxHeartbeats 2000000 in
theorem implDo_back (x p : Value) (d : Dk) (w : World) (hX : Dx w x p d 5 0) (hcap : CapP (.agg #[x, p])) (L : Nat) (hL : d.2.length = L + 1) : Calls Try.prog 13 #[.agg #[x, p], dV 5 0] w fun e w' =>
    ∃ y, e = .returned (.tuple #[y, .bool (doV d 5 0).2]) ∧ OwnDk w' w.heap.size y (doV d 5 0).1 ∧ Below w.heap.size w w' := by
  rw [doV_back hX.desk (by omega)]
  obtain ⟨hx, hp, hb, _, _⟩ := hX
  obtain ⟨hd1, hd2, hd3⟩ := deskB_is.1 hb
  have hl := sideB_len hd2
  have hD := Do1.new w x p 5 0
  obtain ⟨W1, hW1⟩ : ∃ W1, ((w.alloc (.cells #[x, p] 26)).alloc (.cells #[.int .i64 5, .int .i64 0] 32)).alloc (.cells #[.slice none 0 0, .slice none 0 0] 26) = W1 := ⟨_, rfl⟩
  rw [hW1] at hD
  have hOK := implDeskOk (.agg #[x, p]) d W1 ⟨x, p, rfl, hx.below hD.below, hp.below hD.below⟩ ⟨by omega, by omega, fun j => by
    by_cases hj : j < d.2.length
    · have := sideB_len (hd1 (d.2.getD j []) (by rw [List.getD, List.getElem?_eq_getElem hj]; exact List.getElem_mem hj)); omega
    · rw [List.getD, List.getElem?_eq_none (by omega)]; simp⟩
  rw [hb] at hOK
  have q5 := fun V => equal_deed (k := 5) (n := 0) (by constructor <;> omega) (by constructor <;> omega) (k' := 5) (n' := 0) (by constructor <;> omega) (by constructor <;> omega) V
  have e5 : decide ((5 : Int) = 5 ∧ (0 : Int) = 0) = true := by decide
  rw [e5] at q5
  obtain ⟨row, past⟩ := d
  simp only at hd1 hd2 hd3 hl hx hp hL hOK ⊢
  obtain ⟨ap, cp, rfl, hrows⟩ := hp
  have hcp := hcap _ _ _ _ rfl
  obtain ⟨G, o, rfl, hG, hc⟩ := hrows (by omega)
  obtain ⟨ul, hul, hui⟩ := hc L (by omega)
  have hpst : pstV past = past.getD L [] := by unfold pstV; rw [hL]; rfl
  rw [hpst]
  have hsl := sideB_len (hd1 (past.getD L []) (by rw [List.getD, List.getElem?_eq_getElem (by omega)]; exact List.getElem_mem _))
  have hBk : ∀ V, Below w.heap.size w V → Calls Try.prog 37 #[ul, .slice (some ⟨G, o, none⟩) L cp] V fun e w' => ∃ y, e = .returned y ∧ OwnDk w' V.heap.size y (past.getD L [], past.take L) ∧ Below V.heap.size V w' := fun V hV => by
    have htl : (past.take L).length = L := by rw [List.length_take]; omega
    have h := deskOf_in ul (.slice (some ⟨G, o, none⟩) (past.take L).length cp) (past.getD L []) (past.take L) V (hui.below hV) hsl.1 hsl.2 ⟨_, cp, rfl, fun _ => ⟨G, o, rfl, Nat.lt_of_lt_of_le hG hV.size, fun j hj => by
      rw [htl] at hj
      rw [take_getD _ _ hj]
      obtain ⟨u, h1, h2⟩ := hc j (by omega)
      exact ⟨u, (hV.cell (p := ⟨G, o + j, none⟩) hG).trans h1, h2.below hV⟩⟩⟩ (by omega) (fun j hj => by
      rw [htl] at hj
      rw [take_getD _ _ hj]
      exact sideB_len (hd1 _ (by rw [List.getD, List.getElem?_eq_getElem (by omega)]; exact List.getElem_mem _)))
    rw [htl] at h
    exact h
  have hLt : past.length - 1 = L := by omega
  rw [hLt]
  rw [hL] at hW1 hOK hD ⊢
  obtain ⟨al, cl, rfl⟩ := hui.shape
  obtain ⟨ax, cx, rfl⟩ := hx.shape
  generalize (past.getD L [], past.take L) = D at *
  generalize (past.getD L []).length = ll at *
  obtain ⟨a0, a1, _, _⟩ := row_at hD.desk
  have hLi : (((L + 1 : Nat) : Int)) = (L : Int) + 1 := by omega
  have hLb : L ≤ 8 := by omega
  have hLc : L ≤ cp := by omega
  have hLg : (L : Int) ≥ 0 := by omega
  clear hcap hcp hc hui hrows hx hsl hd1 hd2 e5 hLt hb hl hL hd3
  unfold dV
  refine (callsIn_wide (n := 9)).1 ?_
  refine callsIn_of_wp Try.func13 rfl trivial ?_ rfl
  simp only [Try.ntmps13, List.size_toArray, List.length_cons, List.length_nil, Nat.reduceAdd, Nat.reduceSub, Array.replicate_succ, Array.replicate_zero, List.push_toArray, List.append_toArray, List.nil_append, List.cons_append]
  gi_wp2_with (refine ⟨trivial, ?_⟩; gi_at_call 9; go_loud (refine (callsIn_wide.2 hOK).mono ?_; clear hOK; rintro e W2 ⟨rfl, hB2⟩; have hD2 := hD.more hB2; obtain ⟨a0, a1, _, _⟩ := row_at hD2.desk; obtain ⟨c0, c1, _, _⟩ := row_at hD2.deed; clear hD hB2))
  refine wpIn_region_kinds 9 (by kernel_rfl) (by kernel_rfl) (by kernel_rfl) (by decide)
    (fun s => { tmps := #[.agg #[.slice ax row.length cx, .slice (some ⟨G, o, none⟩) (L + 1) cp], .agg #[.int .i64 5, .int .i64 0], .pointer (some ⟨w.heap.size, 0, none⟩), .pointer (some ⟨w.heap.size + 1, 0, none⟩), .pointer (some ⟨w.heap.size + 1 + 1, 0, none⟩), .bool false, .int .i64 L, undef, .agg #[.slice ax row.length cx, .slice (some ⟨G, o, none⟩) (L + 1) cp], .bool true, .bool false, undef, .pointer (some ⟨w.heap.size, 1, none⟩), .slice (some ⟨G, o, none⟩) (L + 1) cp, .int .i64 ((L : Int) + 1), .int .i64 L, .agg #[.int .i64 5, .int .i64 0], .agg #[.int .i64 5, .int .i64 0], .bool true, .bool true, .int .i64 L, .bool true, .bool true, s 0, s 1, s 2, s 3, s 4, s 5, s 6, s 7, s 8, undef, undef, undef, undef, undef, undef, undef, undef, undef, undef, undef, undef, undef, undef, undef, undef, undef, undef, undef, undef, undef, undef, undef, undef, undef, undef, undef, undef], defers := [] })
    [.val (.pointer (some ⟨w.heap.size, 1, none⟩)), .val (.slice (some ⟨G, o, none⟩) (L + 1) cp), .val (.int .i64 L), .val (.pointer (some ⟨G, o + L, none⟩)), .val (.slice al ll cl), .val (.pointer (some ⟨w.heap.size, 1, none⟩)), .val (.slice (some ⟨G, o, none⟩) (L + 1) cp), .val (.int .i64 L), .val (.slice (some ⟨G, o, none⟩) L cp)]
    ⟨fun _ => undef, rfl⟩ ?put ?step ?tail
  case put =>
    intro i o s v hi ho
    rcases (show i = 0 ∨ i = 1 ∨ i = 2 ∨ i = 3 ∨ i = 4 ∨ i = 5 ∨ i = 6 ∨ i = 7 ∨ i = 8 by omega) with rfl | rfl | rfl | rfl | rfl | rfl | rfl | rfl | rfl
    all_goals
      simp at ho
      subst ho
      simp [Act.put]
  case step =>
    rintro i oo s V hi ho hV hd Q' hQ
    rcases (show i = 0 ∨ i = 1 ∨ i = 2 ∨ i = 3 ∨ i = 4 ∨ i = 5 ∨ i = 6 ∨ i = 7 ∨ i = 8 by omega) with rfl | rfl | rfl | rfl | rfl | rfl | rfl | rfl | rfl
    all_goals
      simp at ho
      subst ho
      simp [Act.put] at hQ
      have hQ' := hide hQ
      clear hQ
    case inl =>
      clear hd hV
      gi_wp2
      all_goals first | exact hQ'.out _ _ (Below.refl _ _) rfl | (have hr := hQ'.out; (first | rw [e1, e2] at hr | rw [e1] at hr); exact hr _ _ (Below.refl _ _) rfl)
    case inr.inl =>
      have e1 : s 0 = .pointer (some ⟨w.heap.size, 1, none⟩) := hd 0 (by kernel_rfl)
      obtain ⟨a0, a1, _, _⟩ := row_at (hD2.more hV).desk
      clear hd hV
      gi_wp2
      all_goals first | exact hQ'.out _ _ (Below.refl _ _) rfl | (have hr := hQ'.out; (first | rw [e1, e2] at hr | rw [e1] at hr); exact hr _ _ (Below.refl _ _) rfl)
    case inr.inr.inl =>
      clear hd hV
      gi_wp2
      all_goals first | exact hQ'.out _ _ (Below.refl _ _) rfl | (have hr := hQ'.out; (first | rw [e1, e2] at hr | rw [e1] at hr); exact hr _ _ (Below.refl _ _) rfl)
    case inr.inr.inr.inl =>
      have e1 : s 1 = .slice (some ⟨G, o, none⟩) (L + 1) cp := hd 1 (by kernel_rfl)
      have e2 : s 2 = .int .i64 L := hd 2 (by kernel_rfl)
      clear hd hV
      gi_wp2
      all_goals first | exact hQ'.out _ _ (Below.refl _ _) rfl | (have hr := hQ'.out; (first | rw [e1, e2] at hr | rw [e1] at hr); exact hr _ _ (Below.refl _ _) rfl)
    case inr.inr.inr.inr.inl =>
      have e1 : s 3 = .pointer (some ⟨G, o + L, none⟩) := hd 3 (by kernel_rfl)
      have hcc := ((hD2.more hV).below.cell (p := ⟨G, o + L, none⟩) hG).trans hul
      clear hd hV
      gi_wp2
      all_goals first | exact hQ'.out _ _ (Below.refl _ _) rfl | (have hr := hQ'.out; (first | rw [e1, e2] at hr | rw [e1] at hr); exact hr _ _ (Below.refl _ _) rfl)
    case inr.inr.inr.inr.inr.inl =>
      clear hd hV
      gi_wp2
      all_goals first | exact hQ'.out _ _ (Below.refl _ _) rfl | (have hr := hQ'.out; (first | rw [e1, e2] at hr | rw [e1] at hr); exact hr _ _ (Below.refl _ _) rfl)
    case inr.inr.inr.inr.inr.inr.inl =>
      have e1 : s 5 = .pointer (some ⟨w.heap.size, 1, none⟩) := hd 5 (by kernel_rfl)
      obtain ⟨a0, a1, _, _⟩ := row_at (hD2.more hV).desk
      clear hd hV
      gi_wp2
      all_goals first | exact hQ'.out _ _ (Below.refl _ _) rfl | (have hr := hQ'.out; (first | rw [e1, e2] at hr | rw [e1] at hr); exact hr _ _ (Below.refl _ _) rfl)
    case inr.inr.inr.inr.inr.inr.inr.inl =>
      clear hd hV
      gi_wp2
      all_goals first | exact hQ'.out _ _ (Below.refl _ _) rfl | (have hr := hQ'.out; (first | rw [e1, e2] at hr | rw [e1] at hr); exact hr _ _ (Below.refl _ _) rfl)
    case inr.inr.inr.inr.inr.inr.inr.inr =>
      have e1 : s 6 = .slice (some ⟨G, o, none⟩) (L + 1) cp := hd 6 (by kernel_rfl)
      have e2 : s 7 = .int .i64 L := hd 7 (by kernel_rfl)
      clear hd hV
      gi_wp2
      all_goals first | exact hQ'.out _ _ (Below.refl _ _) rfl | (have hr := hQ'.out; (first | rw [e1, e2] at hr | rw [e1] at hr); exact hr _ _ (Below.refl _ _) rfl)
  case tail =>
    rintro s V hV hd
    have e4 : s 4 = .slice al ll cl := hd 4 (by omega)
    have e8 : s 8 = .slice (some ⟨G, o, none⟩) L cp := hd 8 (by omega)
    clear hd
    have hDV := hD2.more hV
    have hB := hBk V hDV.below
    simp only [List.drop_succ_cons, List.drop_zero]
    gi_wp2_with (refine ⟨trivial, ?_⟩; gi_at_call 37; go_loud (refine (callsIn_wide.2 hB).mono ?_; clear hB; rintro e W5 ⟨y, rfl, hy, hB5⟩; obtain ⟨y1, y2, y3, y4, rfl⟩ := hy.form; obtain ⟨hres, hown, hBl⟩ := hDV.result hy hB5; obtain ⟨r0, r1, g0, g1⟩ := row_at hres; have hres' := hide (desk_set hres (.slice y1 D.1.length y2) (.slice y3 D.2.length y4)); have hown' := hide hown; clear hy hB5 hown))
    exact bodyPost_ret (results_desk2 rfl _ _ (w.heap.size + 2) _ _ rfl hres'.out) rfl ⟨_, rfl, hown'.out, hBl⟩
end Go.Proofs.Ytimnhedjapakhaa
/-
  The program's DeskDo at every desk and deed.
-/
namespace Go.Proofs.Ytimnhedjapakhaa
open Go.RowKit

theorem implDo (v : Value) (d : Dk) (k n : Int) (w : World) (hv : DeskI w v d) (hcap : CapP v) (hs : DkS d) (hk : Fits k) (hn : Fits n) : Calls Try.prog 13 #[v, dV k n] w fun e w' =>
    ∃ y, e = .returned (.tuple #[y, .bool (doV d k n).2]) ∧ OwnDk w' w.heap.size y (doV d k n).1 ∧ Below w.heap.size w w' := by
  cases hb : deskB d with
  | false => exact implDo_no v d k n w hv hs hb
  | true =>
    obtain ⟨x, p, rfl, hx, hp⟩ := hv
    have hX := Dx.new k n hx hp hb
    by_cases h5 : k = 5 ∧ n = 0
    · by_cases h0 : d.2.length = 0
      · exact implDo_none x p d k n w hX h5 h0
      · obtain ⟨rfl, rfl⟩ := h5
        exact implDo_back x p d w hX hcap (d.2.length - 1) (by omega)
    · by_cases h0 : madeV d.1 k n = []
      · exact implDo_empty x p d k n w hX hk hn h5 h0
      · by_cases h1 : madeV d.1 k n = d.1
        · exact implDo_same x p d k n w hX hk hn h5 h1
        · exact implDo_made x p d k n w hX hk hn h5 h0 h1
end Go.Proofs.Ytimnhedjapakhaa
