/-
  The laws' helpers over desks that came in: szDesk, toDesk.
-/
import Derived.Test.YtimnhedjapakhaaLawKit4
import Derived.Test.YtimnhedjapakhaaSpec12l
namespace Go.Proofs.Ytimnhedjapakhaa
open Go.RowKit

/-- A slice of rows that came in, in the world in which the law began. -/
def ArgP (W0 : World) (v : Value) (rows : List (List Int)) : Prop :=
  ∃ a c, v = .slice a rows.length c ∧ (0 < rows.length → ∃ G o, a = some ⟨G, o, none⟩ ∧ G < W0.heap.size ∧ ∀ j, j < rows.length → ∃ u, W0.cell? ⟨G, o + j, none⟩ = some u ∧ ArgI W0 u (rows.getD j []))
/-- A desk that came in. -/
def ArgD (W0 : World) (v : Value) (d : Dk) : Prop := ∃ x p, v = .agg #[x, p] ∧ ArgI W0 x d.1 ∧ ArgP W0 p d.2
theorem ArgI.form {W : World} {v : Value} {xs : List Int} (h : ArgI W v xs) : ∃ a c, v = .slice a xs.length c := by
  rcases h with ⟨a, c, rfl, rfl⟩ | ⟨b, o, c, rfl, _⟩
  · exact ⟨a, c, rfl⟩
  · exact ⟨_, c, rfl⟩

theorem szI_in (a : Option Addr) (n c m : Nat) (w : World) (hn : n ≤ 9223372036854775807) (hm : m ≤ 1048576) : Calls Try.prog 50 #[.slice a n c, .int .i64 m] w fun e w' => e = .returned (.int .i64 (if n ≤ m then ((m - n : Nat) : Int) else -1)) ∧ w = w' := by
  by_cases h : n ≤ m
  · rw [if_pos h]
    have h1 : (m : Int) - (n : Int) = ((m - n : Nat) : Int) := by omega
    have h2 : ¬ ((m - n : Nat) : Int) < 0 := by omega
    have h3 : m - n ≤ 1048576 := by omega
    generalize m - n = q at *
    go_enter Try.func50, Try.ntmps50
    go_wp2
    go_ret
    exact ⟨rfl, rfl⟩
  · rw [if_neg h]
    have h2 : (m : Int) - (n : Int) < 0 := by omega
    go_enter Try.func50, Try.ntmps50
    go_wp2
    go_ret
    exact ⟨rfl, rfl⟩

set_option maxHeartbeats 1000000 in
theorem szSS_in (v : Value) (rows : List (List Int)) (m : Nat) (w : World) (hv : ArgP w v rows) (hn : rows.length ≤ 9223372036854775807) (hln : ∀ j, (rows.getD j []).length ≤ 9223372036854775807) (hm : m ≤ 1048576) : Calls Try.prog 51 #[v, .int .i64 m] w fun e w' =>
    (e = .returned (.int .i64 (-1)) ∨ ∃ q : Nat, e = .returned (.int .i64 q) ∧ rows.length + accN (fun j => (rows.getD j []).length) rows.length + q = m) ∧ w = w' := by
  obtain ⟨a, c, rfl, hr⟩ := hv
  have hacc : ∀ k, accN (fun j => (rows.getD j []).length) (k + 1) = accN (fun j => (rows.getD j []).length) k + (rows.getD k []).length := fun k => rfl
  have hacc0 : accN (fun j => (rows.getD j []).length) 0 = 0 := rfl
  generalize accN (fun j => (rows.getD j []).length) = A at *
  obtain ⟨n, hN⟩ : ∃ n, rows.length = n := ⟨_, rfl⟩
  rw [hN] at hr hn ⊢
  clear hN
  by_cases h : n ≤ m
  · have h1 : (m : Int) - (n : Int) = ((m - n : Nat) : Int) := by omega
    have h2 : ¬ ((m - n : Nat) : Int) < 0 := by omega
    have h3 : m - n ≤ 1048576 := by omega
    have h0 : n + A 0 + (m - n) = m := by omega
    generalize m - n = q0 at *
    clear h
    go_enter Try.func51, Try.ntmps51
    go_wp2
    go_loop [1, 5] (fun l i => ∃ k q : Nat, k ≤ n ∧ i = .int .i64 k ∧ l = .int .i64 q ∧ n + A k + q = m) (fun _ i => n - (intOf i).toNat)
    case atStart => exact ⟨0, q0, by omega, rfl, rfl, h0⟩
    case round =>
      clear h0 h1 h2 h3
      obtain ⟨k, q, hk, rfl, rfl, hs⟩ := hrel
      by_cases hlt : k < n
      · obtain ⟨G, o, rfl, hG, hc⟩ := hr (by omega)
        obtain ⟨u, huc, hu⟩ := hc k hlt
        obtain ⟨ua, uc, rfl⟩ := hu.form
        have hki : (k : Int) < (n : Int) := by omega
        have hS := szI_in ua (rows.getD k []).length uc q w (hln k) (by omega)
        have hak := hide (hacc k)
        clear hc hu hr hacc
        generalize (rows.getD k []).length = l at *
        by_cases hq : l ≤ q
        · rw [if_pos hq] at hS
          have h4 : ¬ ((q - l : Nat) : Int) < 0 := by omega
          have h5 := hide (show n + (A k + l) + (q - l) = m by omega)
          generalize q - l = r at *
          clear hq hs
          go_wp2_with (go_at_call 50; refine hS.mono ?_; clear hS; rintro e w' ⟨rfl, rfl⟩)
          go_round
          case rel => exact ⟨k + 1, r, by omega, by go_num, rfl, by rw [hak.out]; exact h5.out⟩
          case measure => simp [intOf]; omega
        · rw [if_neg hq] at hS
          clear hq hs
          go_wp2_with (go_at_call 50; refine hS.mono ?_; clear hS; rintro e w' ⟨rfl, rfl⟩)
          go_ret
          exact ⟨.inl rfl, rfl⟩
      · obtain rfl : k = n := by omega
        have hki : ¬ ((k : Nat) : Int) < (k : Int) := by omega
        clear hr hacc hlt
        go_wp2
        go_ret
        exact ⟨.inr ⟨q, rfl, hs⟩, rfl⟩
  · have h2 : (m : Int) - (n : Int) < 0 := by omega
    go_enter Try.func51, Try.ntmps51
    go_wp2
    go_ret
    exact ⟨.inl rfl, rfl⟩

set_option maxHeartbeats 1000000 in
theorem szDesk_in (v : Value) (d : Dk) (m : Nat) (w : World) (hv : ArgD w v d) (hn1 : d.1.length ≤ 9223372036854775807) (hn : d.2.length ≤ 9223372036854775807) (hln : ∀ j, (d.2.getD j []).length ≤ 9223372036854775807) (hm : m ≤ 1048576) : Calls Try.prog 21 #[v, .int .i64 m] w fun e w' =>
    (e = .returned (.int .i64 (-1)) ∨ ∃ q : Nat, e = .returned (.int .i64 q) ∧ d.1.length + (d.2.length + accN (fun j => (d.2.getD j []).length) d.2.length) + q = m) ∧ Below w.heap.size w w' := by
  obtain ⟨x, p, rfl, hx, hp⟩ := hv
  have hB := (Below.refl _ w).alloc (Nat.le_refl _) (.cells #[x, p] 44)
  have k0 := World.alloc_heap_new w (.cells #[x, p] 44)
  obtain ⟨xa, xc, rfl⟩ := hx.form
  obtain ⟨W1, hW1⟩ : ∃ W1, w.alloc (.cells #[.slice xa d.1.length xc, p] 44) = W1 := ⟨_, rfl⟩
  rw [hW1] at hB k0
  have hI := szI_in xa d.1.length xc m W1 hn1 hm
  have hp1 : ArgP W1 p d.2 := by
    obtain ⟨a, c, e, h⟩ := hp
    refine ⟨a, c, e, fun h0 => ?_⟩
    obtain ⟨G, o, e1, hG, hc⟩ := h h0
    refine ⟨G, o, e1, Nat.lt_of_lt_of_le hG hB.size, fun j hj => ?_⟩
    obtain ⟨u, h1, h2⟩ := hc j hj
    refine ⟨u, (hB.cell (p := ⟨G, o + j, none⟩) hG).trans h1, ?_⟩
    rcases h2 with h2 | ⟨b, of, cap, e2, hb, hcc⟩
    · exact .inl h2
    · exact .inr ⟨b, of, cap, e2, Nat.lt_of_lt_of_le hb hB.size, fun i hi => (hB.cell (p := ⟨b, of + i, none⟩) hb).trans (hcc i hi)⟩
  have hS := fun q (hq : q ≤ 1048576) => szSS_in p d.2 q W1 hp1 hn hln hq
  obtain ⟨pa, pc, rfl, _⟩ := hp
  obtain ⟨c0, c1, _, _⟩ := row_at k0
  generalize d.2.length + accN (fun j => (d.2.getD j []).length) d.2.length = A at *
  generalize d.1.length = n at *
  by_cases h : n ≤ m
  · rw [if_pos h] at hI
    have h2 : ¬ ((m - n : Nat) : Int) < 0 := by omega
    have hS1 := hS (m - n) (by omega)
    have h5 : n + (m - n) = m := by omega
    generalize m - n = r at *
    clear hS h hp1
    go_enter Try.func21, Try.ntmps21
    go_wp2_with (first
      | (go_at_call 50; go_loud (refine hI.mono ?_; clear hI; rintro e w2 ⟨rfl, rfl⟩))
      | (go_at_call 51; fail))
    go_at_call 51
    refine hS1.mono ?_
    rintro e w2 ⟨rfl | ⟨q, rfl, hq⟩, rfl⟩
    · go_wp2
      go_ret
      exact ⟨.inl rfl, hB⟩
    · have h6 : ¬ (q : Int) < 0 := by omega
      have hq' := hide (show n + A + q = m by omega)
      clear hq h5
      go_wp2
      go_ret
      exact ⟨.inr ⟨q, rfl, hq'.out⟩, hB⟩
  · rw [if_neg h] at hI
    clear hS h hp1
    go_enter Try.func21, Try.ntmps21
    go_wp2_with (go_at_call 50; go_loud (refine hI.mono ?_; clear hI; rintro e w2 ⟨rfl, rfl⟩))
    go_ret
    exact ⟨.inl rfl, hB⟩
end Go.Proofs.Ytimnhedjapakhaa
