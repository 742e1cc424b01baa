/-
  The model's PrimeOk, TimesIn, TimesInAll, TimesInCell and MostIn: for every argument what they hand back.
-/
import Derived.Test.YtlkcdcmmcjkedaaBase
import Derived.Test.YtlkcdcmmcjkedaaVals3
import Derived.BigQuiet
namespace Go.Proofs.Ytlkcdcmmcjkedaa
open Go.RowKit

theorem prime_tab : (List.range 17).all (fun p => prmI (p : Nat) == (decide (2 ≤ p) && (List.range p).all fun d => decide (d < 2) || !(p % d == 0))) = true := by decide
theorem prime_no {p d : Nat} (hp : p ≤ 16) (hd : 2 ≤ d) (hdp : d < p) (h : p % d = 0) : prmI p = false := by
  have h1 := List.all_eq_true.1 prime_tab p (List.mem_range.2 (by omega))
  rw [beq_iff_eq] at h1
  rw [h1, Bool.and_eq_false_iff]
  right
  rw [List.all_eq_false]
  exact ⟨d, List.mem_range.2 hdp, by simp [h]; omega⟩
theorem prime_yes {p : Nat} (hp : p ≤ 16) (h2 : 2 ≤ p) (h : ∀ d, 2 ≤ d → d < p → p % d ≠ 0) : prmI p = true := by
  have h1 := List.all_eq_true.1 prime_tab p (List.mem_range.2 (by omega))
  rw [beq_iff_eq] at h1
  rw [h1, Bool.and_eq_true]
  refine ⟨by simpa using h2, List.all_eq_true.2 fun d hd => ?_⟩
  have hd' := List.mem_range.1 hd
  by_cases e : 2 ≤ d
  · have := h d e hd'; simp [this]
  · simp; omega

set_option maxHeartbeats 400000 in
theorem specPrime (p : Int) (w : World) : Calls Try.prog 55 #[.int .i64 p] w fun e w' => e = .returned (.bool (prmI p)) ∧ w = w' := by
  by_cases h1 : p < 2
  · have hv := hide (show prmI p = false by unfold prmI; simp; omega)
    go_enter Try.func55, Try.ntmps55
    go_wp2
    refine wp_loop_rounds 1 ?_
    rw [rounds_succ]
    go_wp2_with (go_at_call 61; refine (l1In_f _ _ _ _ (by omega)).mono ?_; rintro e w' ⟨rfl, rfl⟩)
    go_ret
    exact ⟨by rw [hv.out]; rfl, rfl⟩
  · by_cases h2 : 16 < p
    · have hv := hide (show prmI p = false by unfold prmI; simp; omega)
      have h3 : ¬ p ≤ 16 := by omega
      have h4 : (2 : Int) < p := by omega
      go_enter Try.func55, Try.ntmps55
      go_wp2
      refine wp_loop_rounds 1 ?_
      rw [rounds_succ]
      go_wp2_with (go_at_call 61; refine (l1In_f _ _ _ _ (by omega)).mono ?_; rintro e w' ⟨rfl, rfl⟩)
      go_ret
      exact ⟨by rw [hv.out]; rfl, rfl⟩
    · obtain ⟨P, rfl⟩ : ∃ N : Nat, p = N := ⟨p.toNat, by omega⟩
      have hP : P ≤ 16 := by omega
      have hP2 : 2 ≤ P := by omega
      have hPi : (P : Int) ≤ 16 := by omega
      clear h1 h2
      go_enter Try.func55, Try.ntmps55
      go_wp2
      go_loop [3] (fun d => ∃ D : Nat, d = .int .i64 D ∧ 2 ≤ D ∧ D ≤ P ∧ Hid (∀ j, 2 ≤ j → j < D → P % j ≠ 0)) (fun d => P - (intOf d).toNat)
      case atStart => exact ⟨2, rfl, by omega, by omega, hide (fun j h1 h2 => by omega)⟩
      case round =>
        obtain ⟨D, rfl, hD2, hDP, hno⟩ := hrel
        by_cases hlt : D < P
        · have hq1 := tmod_n P D
          have hb0 : ((D : Int) == 0) = false := by simp; omega
          have hr := Nat.mod_lt P (show 0 < D by omega)
          by_cases hz : P % D = 0
          · have hv := hide (prime_no hP hD2 hlt hz)
            rw [hz] at hq1
            clear hr
            go_wp2
            go_ret
            exact ⟨by rw [hv.out]; rfl, rfl⟩
          · have hno' : Hid (∀ j, 2 ≤ j → j < D + 1 → P % j ≠ 0) := hide (fun j h1 h2 => by
              by_cases e : j = D
              · subst e; exact hz
              · exact hno.out j h1 (by omega))
            have hz' : ¬ (((P % D : Nat) : Int) = 0) := by omega
            have hz2 : (((P % D : Nat) : Int) == 0) = false := by rw [beq_eq_false_iff_ne]; exact hz'
            generalize P % D = r at *
            have hw1 : IntKind.i64.wrap (r : Int) = r := IntWalk.i64_in _ (by omega)
            go_wp2
            go_round
            case rel => exact ⟨D + 1, by go_num, by omega, by omega, hno'⟩
            case measure => simp [intOf]; omega
        · obtain rfl : D = P := by omega
          have hv := hide (prime_yes hP hP2 hno.out)
          go_wp2_with (go_at_call 61; refine (l1In_t _ _ _ _ (by omega) (by omega)).mono ?_; rintro e w' ⟨rfl, rfl⟩)
          go_ret
          exact ⟨by rw [hv.out]; rfl, rfl⟩

/-- Prime or not, as a result that the walk knows. -/
theorem specPrime_is {p : Int} {b : Bool} (h : prmI p = b) (w : World) : Calls Try.prog 55 #[.int .i64 p] w fun e w' => e = .returned (.bool b) ∧ w = w' := h ▸ specPrime p w

end Go.Proofs.Ytlkcdcmmcjkedaa
