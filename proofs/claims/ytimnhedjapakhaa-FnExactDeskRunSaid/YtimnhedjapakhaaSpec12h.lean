/-
  Desks that lie in memory; the model's DeskOk.
-/
import Derived.Test.YtimnhedjapakhaaSpecZ
import Derived.Test.YtimnhedjapakhaaMathZ
namespace Go.Proofs.Ytimnhedjapakhaa
open Go.RowKit

/-- A slice of rows, as it reads; it may begin inside its block. -/
def PastI (W : World) (v : Value) (rows : List (List Int)) : Prop :=
  ∃ a c, v = .slice a rows.length c ∧ (0 < rows.length → ∃ G o, a = some ⟨G, o, none⟩ ∧ G < W.heap.size ∧ ∀ j, j < rows.length → ∃ u, W.cell? ⟨G, o + j, none⟩ = some u ∧ Ints W u (rows.getD j []))
theorem PastI.below {W W' : World} {v : Value} {rows : List (List Int)} (h : PastI W v rows) (hb : Below W.heap.size W W') : PastI W' v rows := by
  obtain ⟨a, c, rfl, h⟩ := h
  refine ⟨a, c, rfl, fun h0 => ?_⟩
  obtain ⟨G, o, rfl, hG, hr⟩ := h h0
  refine ⟨G, o, rfl, Nat.lt_of_lt_of_le hG hb.size, fun j hj => ?_⟩
  obtain ⟨u, h1, h2⟩ := hr j hj
  exact ⟨u, (hb.cell (p := ⟨G, o + j, none⟩) hG).trans h1, h2.below hb⟩
theorem RowsI.past {W : World} {v : Value} {rows : List (List Int)} (h : RowsI W v rows) : PastI W v rows := by
  obtain ⟨a, c, rfl, h⟩ := h
  refine ⟨a, c, rfl, fun h0 => ?_⟩
  obtain ⟨G, rfl, hG, hr⟩ := h h0
  exact ⟨G, 0, rfl, hG, fun j hj => by rw [Nat.zero_add]; exact hr j hj⟩
/-- A desk, as it reads. -/
def DeskI (W : World) (v : Value) (d : Dk) : Prop := ∃ x p, v = .agg #[x, p] ∧ Ints W x d.1 ∧ PastI W p d.2
theorem DeskI.below {W W' : World} {v : Value} {d : Dk} (h : DeskI W v d) (hb : Below W.heap.size W W') : DeskI W' v d := by
  obtain ⟨x, p, rfl, h1, h2⟩ := h
  exact ⟨x, p, rfl, h1.below hb, h2.below hb⟩
/-- A desk whose lists are not too long for the walks. -/
def DkS (d : Dk) : Prop := d.1.length ≤ 2000000 ∧ d.2.length ≤ 2000000 ∧ ∀ j, (d.2.getD j []).length ≤ 2000000
theorem deskB_no {d : Dk} {k : Nat} (hk : k < d.2.length) (h : sideB (d.2.getD k []) = false) : deskB d = false := by
  cases hd : deskB d with
  | false => rfl
  | true =>
    have := (deskB_is.1 hd).1 (d.2.getD k []) (by rw [List.getD, List.getElem?_eq_getElem hk]; exact List.getElem_mem hk)
    rw [h] at this; cases this
theorem deskB_end {d : Dk} (h : ∀ k, k < d.2.length → sideB (d.2.getD k []) = true) : deskB d = (sideB d.1 && decide (d.2.length ≤ 8)) := by
  unfold deskB
  have : d.2.all sideB = true := List.all_eq_true.2 fun r hr => by
    obtain ⟨k, hk, rfl⟩ := List.getElem_of_mem hr
    have := h k hk
    rwa [List.getD, List.getElem?_eq_getElem hk] at this
  rw [this, Bool.true_and]

theorem desk_box {w : World} {x p : Value} {t : TypeId} : (w.alloc (.cells #[x, p] t)).cell? ⟨w.heap.size, 0, none⟩ = some x ∧ (w.alloc (.cells #[x, p] t)).cell? ⟨w.heap.size, 1, none⟩ = some p := by
  have hb := World.alloc_heap_new w (.cells #[x, p] t)
  exact ⟨by unfold World.cell?; rw [hb]; rfl, by unfold World.cell?; rw [hb]; rfl⟩
set_option maxHeartbeats 1000000 in
theorem specDeskOk (v : Value) (d : Dk) (w : World) (hv : DeskI w v d) (hs : DkS d) : Calls Try.prog 10 #[v] w fun e w' => e = .returned (.bool (deskB d)) ∧ Below w.heap.size w w' := by
  obtain ⟨x, p, rfl, hx, hp⟩ := hv
  have hB0 : Below w.heap.size w (w.alloc (.cells #[x, p] 26)) := (Below.refl _ w).alloc (Nat.le_refl _) _
  have hx0 := specSide x d.1 _ (hx.below hB0) (by have := hs.1; omega)
  have hp0 := hp.below hB0
  obtain ⟨d0, d1⟩ := desk_box (w := w) (x := x) (p := p) (t := 26)
  obtain ⟨a, c, rfl, hr⟩ := hp0
  have hno := fun k (hk : k < d.2.length) => deskB_no hk
  have hend := deskB_end (d := d)
  have hsm := hs.2.2
  have hn := hs.2.1
  obtain ⟨W0, hW0⟩ : ∃ W0, w.alloc (.cells #[x, .slice a d.2.length c] 26) = W0 := ⟨_, rfl⟩
  rw [hW0] at hB0 hx0 hr d0 d1
  generalize d.2.length = n at *
  generalize deskB d = res at *
  obtain ⟨row, past⟩ := d
  simp only at hr hno hend hsm hx0
  clear hx hp hs
  by_cases h0 : 0 < n
  · obtain ⟨G, o, rfl, hG, hc⟩ := hr h0
    clear hr
    go_enter Try.func10, Try.ntmps10
    go_wp2
    try rw [hW0]
    clear hW0
    go_loop [3] (fun i => ∃ k : Nat, k ≤ n ∧ i = .int .i64 k ∧ Hid (∀ j, j < k → sideB (past.getD j []) = true)) (fun i => n - (intOf i).toNat)
    case atStart => exact ⟨0, by omega, rfl, hide (fun i hi => by omega)⟩
    case round =>
      obtain ⟨k, hk, rfl, hall⟩ := hrel
      by_cases hlt : k < n
      · obtain ⟨u, huc, hu⟩ := hc k hlt
        have hki : (k : Int) < (n : Int) := by omega
        have hS := specSide u (past.getD k []) W0 hu (by have := hsm k; omega)
        cases hsd : sideB (past.getD k []) with
        | false =>
          have hr := hide (hno k hlt hsd)
          rw [hsd] at hS
          clear hc hno hend hall hx0 hsd
          go_wp2_with (go_at_call 34; refine hS.mono ?_; clear hS; rintro e w' ⟨rfl, rfl⟩)
          go_ret
          exact ⟨ret_bool hr.out.symm, hB0⟩
        | true =>
          have hall' : Hid (∀ i, i < k + 1 → sideB (past.getD i []) = true) := hide (fun i hi => by
            by_cases e : i = k
            · subst e; exact hsd
            · exact hall.out i (by omega))
          rw [hsd] at hS
          clear hc hno hend hall hx0 hsd
          go_wp2_with (go_at_call 34; refine hS.mono ?_; clear hS; rintro e w' ⟨rfl, rfl⟩)
          go_round
          case rel => exact ⟨k + 1, by omega, by go_num, hall'⟩
          case measure => simp [intOf]; omega
      · obtain rfl : k = n := by omega
        have hr := hide (hend hall.out)
        have hki : ¬ ((k : Nat) : Int) < (k : Int) := by omega
        clear hc hno hend hall hlt
        cases hsd : sideB row with
        | false =>
          rw [hsd] at hx0 hr
          go_wp2_with (go_at_call 34; refine hx0.mono ?_; clear hx0; rintro e w' ⟨rfl, rfl⟩)
          go_ret
          exact ⟨ret_bool hr.out.symm, hB0⟩
        | true =>
          rw [hsd] at hx0 hr
          go_wp2_with (go_at_call 34; refine hx0.mono ?_; clear hx0; rintro e w' ⟨rfl, rfl⟩)
          go_ret
          refine ⟨ret_bool ?_, hB0⟩
          rw [hr.out]
          by_cases h8 : k ≤ 8
          · rw [decide_eq_true h8, decide_eq_true (by omega)]; rfl
          · rw [decide_eq_false h8, decide_eq_false (by omega)]; rfl
  · obtain rfl : n = 0 := by omega
    have hr := hide (hend (fun k hk => absurd hk (Nat.not_lt_zero k)))
    clear hno hend
    cases hsd : sideB row with
    | false =>
      rw [hsd] at hx0 hr
      go_enter Try.func10, Try.ntmps10
      go_wp2
      try rw [hW0]
      refine wp_loop_rounds 1 ?_
      rw [rounds_succ]
      go_wp2_with (go_at_call 34; refine hx0.mono ?_; clear hx0; rintro e w' ⟨rfl, rfl⟩)
      go_ret
      exact ⟨ret_bool hr.out.symm, hB0⟩
    | true =>
      rw [hsd] at hx0 hr
      go_enter Try.func10, Try.ntmps10
      go_wp2
      try rw [hW0]
      refine wp_loop_rounds 1 ?_
      rw [rounds_succ]
      go_wp2_with (go_at_call 34; refine hx0.mono ?_; clear hx0; rintro e w' ⟨rfl, rfl⟩)
      go_ret
      exact ⟨ret_bool (by rw [hr.out]; rfl), hB0⟩
end Go.Proofs.Ytimnhedjapakhaa
