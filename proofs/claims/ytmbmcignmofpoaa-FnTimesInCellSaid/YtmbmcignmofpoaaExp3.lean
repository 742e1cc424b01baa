/-
  exponentsOf of the program: for each of the six primes how often it divides the number.
-/
import Derived.Test.YtmbmcignmofpoaaSorted3
import Derived.Test.YtmbmcignmofpoaaRowAt
import Derived.Deep.LoopGhost
import Derived.Maps.AppendAt
namespace Go.Proofs.Ytmbmcignmofpoaa
open Go.RowKit Go.Maps Go.Sort Go.Shelf

/-- The six primes by their place. -/
def tab6 (j : Nat) : Nat := sixth.getD j 2
theorem tab6_prm {j : Nat} (h : j < 6) : prm (tab6 j) := by
  match j, h with
  | 0, _ => decide
  | 1, _ => decide
  | 2, _ => decide
  | 3, _ => decide
  | 4, _ => decide
  | 5, _ => decide
theorem tab6_ne {i j : Nat} (hi : i < 6) (hj : j < 6) (h : i ≠ j) : tab6 i ≠ tab6 j := by
  have : ∀ i, i < 6 → ∀ j, j < 6 → i ≠ j → tab6 i ≠ tab6 j := by
    have : (List.range 6).all (fun i => (List.range 6).all fun j => i == j || !(tab6 i == tab6 j)) = true := by decide
    intro i hi j hj h
    have h1 := List.all_eq_true.1 (List.all_eq_true.1 this i (List.mem_range.2 hi)) j (List.mem_range.2 hj)
    simpa [h] using h1
  exact this i hi j hj h
theorem tab6_all {q : Nat} (h : prm q) : ∃ j, j < 6 ∧ tab6 j = q := by
  unfold prm at h
  rcases h with rfl | rfl | rfl | rfl | rfl | rfl
  · exact ⟨0, by omega, rfl⟩
  · exact ⟨1, by omega, rfl⟩
  · exact ⟨2, by omega, rfl⟩
  · exact ⟨3, by omega, rfl⟩
  · exact ⟨4, by omega, rfl⟩
  · exact ⟨5, by omega, rfl⟩
theorem exp0_keys : (intKeys exp0).mergeSort (fun x y => decide (x ≤ y)) = [2, 3, 5, 7, 11, 13] := by
  rw [exp0_eq]
  exact List.mergeSort_of_pairwise (by decide)
theorem exp0_size : Maps.size exp0 = 6 := by rw [exp0_eq]; rfl

/-- Sorted keys of the exponents of 1: the six primes, in a row of one's own. -/
theorem six_row {w : World} {base n : Nat} {v : Value} {ss : List Int} (hp : ss.Perm (intKeys exp0)) (h : w.ownsRow base 3 1 v n ((ss.mergeSort (fun x y => decide (x ≤ y))).map encZ)) :
    ∃ g cap, v = .slice (some ⟨g, 0, none⟩) 6 cap ∧ base ≤ g ∧ g < w.heap.size ∧ ∀ j, j < 6 → w.cell? ⟨g, j, none⟩ = some (.int .i64 (tab6 j)) := by
  rw [mergeSort_of_perm_i hp, exp0_keys] at h
  obtain rfl : 6 = n := by have := h.1; simpa using this
  obtain ⟨g, cap, rfl, h1, h2, _, hc⟩ := owns_open h (by omega)
  refine ⟨g, cap, rfl, h1, h2, fun j hj => ?_⟩
  match j, hj with
  | 0, _ => exact hc 0 _ rfl
  | 1, _ => exact hc 1 _ rfl
  | 2, _ => exact hc 2 _ rfl
  | 3, _ => exact hc 3 _ rfl
  | 4, _ => exact hc 4 _ rfl
  | 5, _ => exact hc 5 _ rfl

/-- What the map holds when k primes are done. -/
def Told (D : DataW Unit) (N k : Nat) : Prop := (∀ j, j < 6 → D.atKey (litI (tab6 j)) (datI 0) = datI (if j < k then (val (tab6 j) N : Nat) else 0)) ∧ IsMap D
/-- The primes that are still to be told divide m as often as N. -/
def Rest (m N k : Nat) : Prop := ∀ j, j < 6 → k ≤ j → val (tab6 j) m = val (tab6 j) N
/-- Within prime k: t times told. -/
def Told1 (D : DataW Unit) (N k t : Nat) : Prop := (∀ j, j < 6 → D.atKey (litI (tab6 j)) (datI 0) = datI (if j < k then (val (tab6 j) N : Nat) else if j = k then (t : Int) else 0)) ∧ IsMap D
def Rest1 (m N k t : Nat) : Prop := (∀ j, j < 6 → k < j → val (tab6 j) m = val (tab6 j) N) ∧ t + val (tab6 k) m = val (tab6 k) N

theorem told_start (N : Nat) : Told exp0 N 0 := ⟨fun j hj => by rw [exp0_at]; simp, ⟨_, rfl⟩⟩
theorem rest_start (N : Nat) : Rest N N 0 := fun _ _ _ => rfl
theorem told_in {D : DataW Unit} {N k : Nat} (h : Told D N k) : Told1 D N k 0 := ⟨fun j hj => by
  rw [h.1 j hj]
  by_cases h1 : j < k
  · rw [if_pos h1, if_pos h1]
  · rw [if_neg h1, if_neg h1]; simp, h.2⟩
theorem rest_in {m N k : Nat} (hk : k < 6) (h : Rest m N k) : Rest1 m N k 0 := ⟨fun j hj hkj => h j hj (by omega), by rw [h k hk (Nat.le_refl _)]; omega⟩
theorem told_step {D : DataW Unit} {N k t : Nat} (hk : k < 6) (h : Told1 D N k t) : Told1 (D.put (litI (tab6 k)) (datI ((t : Int) + 1))) N k (t + 1) := by
  refine ⟨fun j hj => ?_, h.2.put _ _⟩
  by_cases e : j = k
  · subst e; rw [atKey_put_same h.2 (key_is _), if_neg (by omega), if_pos rfl]; rfl
  · rw [atKey_put_other (key_ne (fun h => tab6_ne hj hk e (by omega))), h.1 j hj]
    by_cases h1 : j < k
    · rw [if_pos h1, if_pos h1]
    · rw [if_neg h1, if_neg h1, if_neg e, if_neg e]
theorem rest_step {m N k t : Nat} (hk : k < 6) (hm : 0 < m) (hz : m % tab6 k = 0) (h : Rest1 m N k t) : Rest1 (m / tab6 k) N k (t + 1) := by
  refine ⟨fun j hj hkj => ?_, ?_⟩
  · rw [val_apart (tab6_prm hk) (tab6_prm hj) (tab6_ne hk hj (by omega)) hm hz, h.1 j hj hkj]
  · have h1 := h.2
    rw [val_yes (prm_two (tab6_prm hk)).1 hm hz] at h1
    omega
theorem told_out {D : DataW Unit} {m N k t : Nat} (hz : m % tab6 k ≠ 0) (h : Told1 D N k t) (hr : Rest1 m N k t) : Told D N (k + 1) := by
  refine ⟨fun j hj => ?_, h.2⟩
  rw [h.1 j hj]
  have h1 := hr.2
  rw [val_no hz] at h1
  by_cases h2 : j < k
  · rw [if_pos h2, if_pos (by omega)]
  · by_cases e : j = k
    · subst e; rw [if_neg h2, if_pos rfl, if_pos (by omega)]; exact congrArg datI (by omega)
    · rw [if_neg h2, if_neg e, if_neg (by omega)]
theorem rest_out {m N k t : Nat} (hr : Rest1 m N k t) : Rest m N (k + 1) := fun j hj hkj => hr.1 j hj (by omega)

/-- What exponentsOf hands back. -/
def Exps (N : Nat) (w : World) (e : Ending) (w' : World) : Prop :=
  ∃ (b c : Nat) (D : DataW Unit), e = .returned (.map (some b)) ∧ OwnM w' b c D ∧ Told D N 6 ∧ Below w.heap.size w w'

set_option maxRecDepth 100000 in
set_option maxHeartbeats 2000000 in
theorem expOf (N : Nat) (h0 : 0 < N) (hN : N ≤ 1000000000000000000) (w : World) : Calls Try.prog 38 #[.int .i64 N] w (Exps N w) := by
  go_enter Try.func38, Try.ntmps38
  go_wp2_with fail
  go_at_call 35
  refine (noExp _).mono ?_
  rintro e w1 ⟨rfl, hown, hB⟩
  go_wp2_with fail
  go_at_call 50
  refine (keys_call _ _).mono ?_
  rintro e w' ⟨rfl, rfl⟩
  go_wp2_with fail
  go_at_call 49
  refine (sorted_call _ 6 exp0 w1 hown (by rw [exp0_size]; decide) (by rw [exp0_size]; decide)).mono ?_
  rintro e w2 ⟨v, ss, rfl, hS, hrow, hB2⟩
  obtain ⟨g, cap, rfl, hg1, hg2, hcells⟩ := six_row hS hrow
  have hbl := hown.lt
  have hown2 : OwnM w2 w.heap.size 6 exp0 := by
    obtain ⟨es, clock, hb, Ft, hs, hD⟩ := hown.alloc (.cells #[.map (some w.heap.size)] 39)
    exact ⟨es, clock, (hB2.block _ (by simp; omega)).trans hb, Ft, hs, hD⟩
  have hBw : Below w.heap.size w w2 := (hB.alloc hB.size _).trans (hB2.mono (by simp; omega))
  clear hB hB2 hown hS hrow
  have hbg : w.heap.size ≠ g := by omega
  go_wp2
  go_loopg [0, 11] 6 (fun gk nn ii wr => ∃ (k m c : Nat) (D : DataW Unit), k ≤ 6 ∧ gk = 6 - k ∧ ii = .int .i64 k ∧ nn = .int .i64 m ∧ 0 < m ∧ c + m ≤ N + 6 ∧ OwnM wr w.heap.size c D ∧ Told D N k ∧ Rest m N k ∧ w2.grownBy wr (some w.heap.size))
  case atStart => exact ⟨0, N, 6, exp0, by omega, rfl, rfl, rfl, h0, by omega, hown2, told_start N, rest_start N, grownBy_refl _ _⟩
  case round =>
    clear hown2
    obtain ⟨k, m, c, D, hk, rfl, rfl, rfl, hm0, hcm, hown, hD, hR, hg⟩ := hrel
    by_cases hlt : k < 6
    · have hck : wr.cell? ⟨g, k, none⟩ = some (.int .i64 (tab6 k)) := hg.cell (hcells k hlt) (fun e => hbg (by injection e with e; exact e.symm))
      have hpr := prm_two (tab6_prm hlt)
      have hT := told_in hD
      have hR1 := rest_in hlt hR
      clear hD hR
      obtain ⟨p, hp⟩ : ∃ p, tab6 k = p := ⟨_, rfl⟩
      have hp' := hide hp
      rw [hp] at hck hpr
      clear hp
      have hki : (k : Int) < 6 := by omega
      go_wp2
      obtain ⟨wo, hwo⟩ : ∃ wo, wr = wo := ⟨_, rfl⟩
      go_loopg [0] m (fun gm nn wi => ∃ (m' t c' : Nat) (D' : DataW Unit), m' = gm ∧ nn = .int .i64 m' ∧ 0 < m' ∧ c' + m' ≤ N + 6 ∧ OwnM wi w.heap.size c' D' ∧ Told1 D' N k t ∧ Rest1 m' N k t ∧ w2.grownBy wi (some w.heap.size))
      case atStart => exact ⟨m, 0, c, D, rfl, rfl, hm0, hcm, hown, hT, hR1, hg⟩
      case round =>
        clear hown hT hR1 hg hck hwo hm0 hcm
        obtain ⟨m', t, c', D', rfl, rfl, hm0, hcm, hown, hT, hR1, hg⟩ := hrel
        have hq1 := tmod_n m' p
        have hq2 := tdiv_n m' p
        have hb0 : ((p : Int) == 0) = false := by simp; omega
        by_cases hz : m' % p = 0
        · have hwf := fits_wf (p := (p : Int)) (by unfold Fits; omega)
          obtain ⟨x, hl, hat⟩ := hown.look p hwf
          have hx : x = (t : Int) := by
            have h1 := hT.1 k hlt
            rw [hp'.out, if_neg (by omega), if_pos rfl, hat] at h1
            injection h1 with h1
            injection h1
          subst hx
          clear hat
          have htN : t + 1 ≤ N := by
            have h1 := hR1.2
            have h2 := val_lt (prm_two (tab6_prm hlt)).1 h0
            rw [val_yes (prm_two (tab6_prm hlt)).1 hm0 (by rw [hp'.out]; exact hz)] at h1
            omega
          obtain ⟨wu, hu, hown', hg'⟩ := hown.update (by omega) p ((t : Int) + 1) hwf (fits_wf (by unfold Fits; omega))
          have hT' := told_step hlt hT
          have hR' := rest_step hlt hm0 (by rw [hp'.out]; exact hz) hR1
          rw [hp'.out] at hT' hR'
          have hd0 := div_pos_of_mod hm0 hz
          have hdl := Nat.div_lt_self hm0 hpr.1
          have hgg := hg.trans hg'
          rw [hz] at hq1
          clear hT hR1 hz hown hwf hg hg'
          generalize m' / p = q at *
          have hw2 : IntKind.i64.wrap (q : Int) = q := IntWalk.i64_in _ (by omega)
          go_wp2
          go_roundg q
          case measure => exact hdl
          case rel => exact ⟨q, t + 1, c' + 1, _, rfl, rfl, hd0, by omega, hown', hT', hR', hgg⟩
        · have hT' := told_out (by rw [hp'.out]; exact hz) hT hR1
          have hR' := rest_out hR1
          have hr := Nat.mod_lt m' (show 0 < p by omega)
          have hz' : ¬ (((m' % p : Nat) : Int) = 0) := by omega
          have hz2 : (((m' % p : Nat) : Int) == 0) = false := by rw [beq_eq_false_iff_ne]; exact hz'
          clear hT hR1 hz hq2
          generalize m' % p = r at *
          have hw1 : IntKind.i64.wrap (r : Int) = r := IntWalk.i64_in _ (by omega)
          go_wp2
          go_roundg (6 - (k + 1))
          case measure => omega
          case rel => exact ⟨k + 1, m', c', D', by omega, rfl, by go_num, rfl, hm0, hcm, hown, hT', hR', hg⟩
    · obtain rfl : k = 6 := by omega
      go_wp2
      go_ret
      exact ⟨_, _, _, rfl, hown, hD, hBw.grown hg hBw.size (fun j hj => by cases hj; exact Nat.le_refl _)⟩
end Go.Proofs.Ytmbmcignmofpoaa
