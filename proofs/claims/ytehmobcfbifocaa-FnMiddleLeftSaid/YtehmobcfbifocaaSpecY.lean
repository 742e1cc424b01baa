/-
  Primes up to 43: the model's l7Prime and the program's primeFrom.
-/
import Derived.Test.YtehmobcfbifocaaSpec7
import Derived.Test.YtehmobcfbifocaaImpl7b
namespace Go.Proofs.Ytehmobcfbifocaa
open Go.RowKit

/-- No number from 2 up to it divides it. -/
def isP (n : Nat) : Bool := (List.range n).all fun d => decide (d < 2) || !(n % d == 0)
theorem isP_no {P d : Nat} (hd : 2 ≤ d) (hdp : d < P) (h : P % d = 0) : isP P = false := by
  unfold isP
  rw [List.all_eq_false]
  exact ⟨d, List.mem_range.2 hdp, by simp [h]; omega⟩
theorem isP_yes {P : Nat} (h : ∀ d, 2 ≤ d → d < P → P % d ≠ 0) : isP P = true := by
  refine List.all_eq_true.2 fun d hd => ?_
  have hd' := List.mem_range.1 hd
  by_cases e : 2 ≤ d
  · have := h d e hd'; simp [this]
  · simp; omega
theorem root_tab : (List.range 44).all (fun p => isP p || (List.range 7).any fun d => decide (2 ≤ d) && decide (d * d ≤ p) && (p % d == 0)) = true := by decide
theorem isP_root {P : Nat} (hP : P ≤ 43) (h : ∀ d, 2 ≤ d → d * d ≤ P → P % d ≠ 0) : isP P = true := by
  have h1 := List.all_eq_true.1 root_tab P (List.mem_range.2 (by omega))
  rw [Bool.or_eq_true] at h1
  rcases h1 with h1 | h1
  · exact h1
  · obtain ⟨d, _, hd⟩ := List.any_eq_true.1 h1
    simp only [Bool.and_eq_true, decide_eq_true_eq, beq_iff_eq] at hd
    exact absurd hd.2 (h d hd.1.1 hd.1.2)

set_option maxHeartbeats 400000 in
theorem specL7 (P : Nat) (h2 : 2 ≤ P) (hP : P ≤ 43) (w : World) : Calls Try.prog 38 #[.int .i64 P] w fun e w' => e = .returned (.bool (isP P)) ∧ w = w' := by
  go_enter Try.func38, Try.ntmps38
  go_wp2
  go_loop [3] (fun d => ∃ D : Nat, d = .int .i64 D ∧ 2 ≤ D ∧ D ≤ 7 ∧ Hid (∀ j, 2 ≤ j → j < D → P % j ≠ 0)) (fun d => 7 - (intOf d).toNat)
  case atStart => exact ⟨2, rfl, by omega, by omega, hide (fun j h1 h2 => by omega)⟩
  case round =>
    obtain ⟨D, rfl, hD2, hD7, hno⟩ := hrel
    obtain ⟨E, hE⟩ : ∃ E, D * D = E := ⟨_, rfl⟩
    have hE1 : E ≤ 49 := by rw [← hE]; exact Nat.mul_le_mul hD7 hD7
    have hE2 : 2 * D ≤ E := by rw [← hE]; exact Nat.mul_le_mul hD2 (Nat.le_refl D)
    have hw0 : IntKind.i64.wrap ((D : Int) * D) = (E : Nat) := by
      have : (D : Int) * D = (E : Nat) := by rw [← hE, Int.natCast_mul]
      rw [this]
      exact IntWalk.i64_in _ (by omega)
    have hEh := hide hE
    clear hE
    by_cases hlt : E ≤ P
    · have hlt' : (E : Int) ≤ P := by omega
      have h6 : D ≤ 6 := by
        rcases Nat.lt_or_ge D 7 with h | h
        · omega
        · have := Nat.mul_le_mul h h
          rw [hEh.out] at this
          omega
      have hq1 := tmod_n7 P D
      have hb0 : ((D : Int) == 0) = false := by simp; omega
      have hr := Nat.mod_lt P (show 0 < D by omega)
      by_cases hz : P % D = 0
      · have hv := hide (isP_no hD2 (show D < P by omega) hz)
        rw [hz] at hq1
        clear hr
        go_wp2
        go_ret
        exact ⟨by rw [hv.out]; rfl, rfl⟩
      · have hno' : Hid (∀ j, 2 ≤ j → j < D + 1 → P % j ≠ 0) := hide (fun j h1 h2 => by
          by_cases e : j = D
          · subst e; exact hz
          · exact hno.out j h1 (by omega))
        have hz' : ¬ (((P % D : Nat) : Int) = 0) := by omega
        have hz2 : (((P % D : Nat) : Int) == 0) = false := by rw [beq_eq_false_iff_ne]; exact hz'
        generalize P % D = r at *
        have hw1 : IntKind.i64.wrap (r : Int) = r := IntWalk.i64_in _ (by omega)
        go_wp2
        go_round
        case rel => exact ⟨D + 1, by go_num, by omega, by omega, hno'⟩
        case measure => simp [intOf]; omega
    · have hlt' : ¬ (E : Int) ≤ P := by omega
      have hv := hide (isP_root hP (fun d hd hdd => hno.out d hd (by
        rcases Nat.lt_or_ge d D with h | h
        · exact h
        · have := Nat.mul_le_mul h h
          rw [hEh.out] at this
          omega)))
      have h1 : (1 : Int) < P := by omega
      go_wp2
      go_ret
      exact ⟨by rw [hv.out]; rfl, rfl⟩

def fromV (n : Int) (lo hi : Nat) : Bool := decide ((lo : Int) ≤ n ∧ n ≤ hi) && isP n.toNat
set_option maxHeartbeats 400000 in
theorem implFrom (n : Int) (lo hi : Nat) (hlo : 2 ≤ lo) (hhi : hi ≤ 43) (w : World) : Calls Try.prog 37 #[.int .i64 n, .int .i64 lo, .int .i64 hi] w fun e w' =>
    e = .returned (.bool (fromV n lo hi)) ∧ w = w' := by
  by_cases h1 : n < lo
  · have hv := hide (show fromV n lo hi = false by unfold fromV; rw [decide_eq_false (by omega)]; rfl)
    go_enter Try.func37, Try.ntmps37
    go_wp2
    go_ret
    exact ⟨by rw [hv.out]; rfl, rfl⟩
  · by_cases h2 : (hi : Int) < n
    · have hv := hide (show fromV n lo hi = false by unfold fromV; rw [decide_eq_false (by omega)]; rfl)
      go_enter Try.func37, Try.ntmps37
      go_wp2
      go_ret
      exact ⟨by rw [hv.out]; rfl, rfl⟩
    · obtain ⟨P, rfl⟩ : ∃ N : Nat, n = N := ⟨n.toNat, by omega⟩
      have hP : P ≤ 43 := by omega
      have hP2 : 2 ≤ P := by omega
      have hv0 : Hid (fromV (P : Nat) lo hi = isP P) := hide (by unfold fromV; rw [decide_eq_true ⟨by omega, by omega⟩, Int.toNat_natCast]; rfl)
      go_enter Try.func37, Try.ntmps37
      go_wp2
      go_loop [7] (fun d => ∃ D : Nat, d = .int .i64 D ∧ 2 ≤ D ∧ D ≤ P ∧ Hid (∀ j, 2 ≤ j → j < D → P % j ≠ 0)) (fun d => P - (intOf d).toNat)
      case atStart => exact ⟨2, rfl, by omega, by omega, hide (fun j h1 h2 => by omega)⟩
      case round =>
        obtain ⟨D, rfl, hD2, hDP, hno⟩ := hrel
        by_cases hlt : D < P
        · have hq1 := tmod_n7 P D
          have hb0 : ((D : Int) == 0) = false := by simp; omega
          have hr := Nat.mod_lt P (show 0 < D by omega)
          by_cases hz : P % D = 0
          · have hv := hide (isP_no hD2 hlt hz)
            rw [hz] at hq1
            clear hr
            go_wp2
            go_ret
            exact ⟨by rw [hv0.out, hv.out]; rfl, rfl⟩
          · have hno' : Hid (∀ j, 2 ≤ j → j < D + 1 → P % j ≠ 0) := hide (fun j h1 h2 => by
              by_cases e : j = D
              · subst e; exact hz
              · exact hno.out j h1 (by omega))
            have hz' : ¬ (((P % D : Nat) : Int) = 0) := by omega
            have hz2 : (((P % D : Nat) : Int) == 0) = false := by rw [beq_eq_false_iff_ne]; exact hz'
            generalize P % D = r at *
            have hw1 : IntKind.i64.wrap (r : Int) = r := IntWalk.i64_in _ (by omega)
            go_wp2
            go_round
            case rel => exact ⟨D + 1, by go_num, by omega, by omega, hno'⟩
            case measure => simp [intOf]; omega
        · obtain rfl : D = P := by omega
          have hv := hide (isP_yes hno.out)
          go_wp2
          go_ret
          exact ⟨by rw [hv0.out, hv.out]; rfl, rfl⟩
end Go.Proofs.Ytehmobcfbifocaa
/-
  The model's MiddleLeft, TwiceLeft, BetweenOk and StretchedOk: for every argument what they hand back.
-/
namespace Go.Proofs.Ytehmobcfbifocaa
open Go.RowKit

def middleLV (n : Int) : Int := if 1 ≤ n ∧ n ≤ 150 then cellLV (2 * n) n 4 else -1
def twiceOk (p : Int) : Bool := decide (2 ≤ p ∧ p ≤ 43) && isP p.toNat
def twiceLV (p : Int) : Int := if twiceOk p = true then cellLV (2 * p) p (p * p * p) else -1
def betweenV (row : Int) : Bool := decide (2 ≤ row ∧ row ≤ 300) && (List.range row.toNat).all fun k => decide (k < 1) || cellLV row (k : Nat) row == 0
def stretchIn (row place p : Int) : Bool := decide (3 ≤ p ∧ p ≤ 17) && isP p.toNat && (decide (0 ≤ row ∧ row ≤ 16) && decide (0 ≤ place ∧ place ≤ row))
def stretchV (row place p : Int) : Bool := stretchIn row place p && decide (cellLV (row * p) (place * p) (p * p) = cellLV row place (p * p))

theorem specCellIs {row place by' z : Int} (h : cellLV row place by' = z) (v : World) : Calls Try.prog 15 #[.int .i64 row, .int .i64 place, .int .i64 by'] v fun e v' => e = .returned (.int .i64 z) ∧ Below v.heap.size v v' := h ▸ specCell row place by' v
theorem specL7Is {P : Nat} {b : Bool} (h2 : 2 ≤ P) (hP : P ≤ 43) (h : isP P = b) (w : World) : Calls Try.prog 38 #[.int .i64 P] w fun e w' => e = .returned (.bool b) ∧ w = w' := h ▸ specL7 P h2 hP w

set_option maxHeartbeats 400000 in
theorem specMiddle (n : Int) (w : World) : Calls Try.prog 29 #[.int .i64 n] w fun e w' => e = .returned (.int .i64 (middleLV n)) ∧ Below w.heap.size w w' := by
  by_cases h : 1 ≤ n ∧ n ≤ 150
  · obtain ⟨z, hz⟩ : ∃ z, cellLV (2 * n) n 4 = z := ⟨_, rfl⟩
    have hC := fun w => specCellIs hz w
    have hv := hide (show middleLV n = z by unfold middleLV; rw [if_pos h, hz])
    have hw1 : IntKind.i64.wrap (2 * n) = 2 * n := IntWalk.i64_in _ (by omega)
    clear hz
    go_enter Try.func29, Try.ntmps29
    go_wp2_with (first | (go_at_call 34; refine (l1In_t _ _ _ _ (by omega) (by omega)).mono ?_; rintro e w' ⟨rfl, rfl⟩) | (go_at_call 15; refine (hC _).mono ?_; rintro e w' ⟨rfl, hB⟩))
    go_ret
    exact ⟨by rw [hv.out]; rfl, hB⟩
  · have hv := hide (show middleLV n = -1 by unfold middleLV; rw [if_neg h])
    go_enter Try.func29, Try.ntmps29
    go_wp2_with (go_at_call 34; refine (l1In_f _ _ _ _ (by omega)).mono ?_; rintro e w' ⟨rfl, rfl⟩)
    go_ret
    exact ⟨by rw [hv.out]; rfl, Below.refl _ _⟩

set_option maxHeartbeats 400000 in
theorem specTwice (p : Int) (w : World) : Calls Try.prog 20 #[.int .i64 p] w fun e w' => e = .returned (.tuple #[.int .i64 (twiceLV p), .bool (twiceOk p)]) ∧ Below w.heap.size w w' := by
  by_cases h : 2 ≤ p ∧ p ≤ 43
  · obtain ⟨P, rfl⟩ : ∃ N : Nat, p = N := ⟨p.toNat, by omega⟩
    have hP2 : 2 ≤ P := by omega
    have hP : P ≤ 43 := by omega
    cases hp : isP P with
    | false =>
      have hL := fun w => specL7Is hP2 hP hp w
      have hv0 : twiceOk (P : Nat) = false := by unfold twiceOk; rw [Int.toNat_natCast, hp, Bool.and_false]
      have hv := hide (show twiceLV (P : Nat) = -1 by unfold twiceLV; rw [hv0]; rfl)
      replace hv0 := hide hv0
      clear hp
      go_enter Try.func20, Try.ntmps20
      go_wp2_with (first | (go_at_call 34; refine (l1In_t _ _ _ _ (by omega) (by omega)).mono ?_; rintro e w' ⟨rfl, rfl⟩) | (go_at_call 38; refine (hL _).mono ?_; rintro e w' ⟨rfl, rfl⟩))
      go_ret2
      exact ⟨by rw [hv.out, hv0.out]; rfl, Below.refl _ _⟩
    | true =>
      have hL := fun w => specL7Is hP2 hP hp w
      obtain ⟨Q, hQ⟩ : ∃ Q : Nat, P * P = Q := ⟨_, rfl⟩
      obtain ⟨R, hR⟩ : ∃ Q : Nat, P * P * P = Q := ⟨_, rfl⟩
      have hQ1 : Q ≤ 1849 := by rw [← hQ]; exact Nat.mul_le_mul hP hP
      have hR1 : R ≤ 79507 := by rw [← hR, hQ]; exact Nat.mul_le_mul hQ1 hP
      have hw2 : IntKind.i64.wrap ((P : Int) * P) = (Q : Nat) := by rw [← Int.natCast_mul, hQ]; exact IntWalk.i64_in _ (by omega)
      have hw3 : IntKind.i64.wrap ((Q : Int) * P) = (R : Nat) := by rw [← Int.natCast_mul, ← hQ, hR]; exact IntWalk.i64_in _ (by omega)
      have hw1 : IntKind.i64.wrap (2 * (P : Int)) = 2 * (P : Int) := IntWalk.i64_in _ (by omega)
      obtain ⟨z, hz⟩ : ∃ z, cellLV (2 * (P : Nat)) (P : Nat) (R : Nat) = z := ⟨_, rfl⟩
      have hC := fun w => specCellIs hz w
      have hv0 : twiceOk (P : Nat) = true := by unfold twiceOk; rw [Int.toNat_natCast, hp, Bool.and_true, decide_eq_true h]
      have hv := hide (show twiceLV (P : Nat) = z by unfold twiceLV; rw [if_pos hv0, ← hz, ← hR, Int.natCast_mul, Int.natCast_mul])
      replace hv0 := hide hv0
      clear hp hz hQ hR
      go_enter Try.func20, Try.ntmps20
      go_wp2_with (first | (go_at_call 34; refine (l1In_t _ _ _ _ (by omega) (by omega)).mono ?_; rintro e w' ⟨rfl, rfl⟩) | (go_at_call 38; refine (hL _).mono ?_; rintro e w' ⟨rfl, rfl⟩) | (go_at_call 15; refine (hC _).mono ?_; rintro e w' ⟨rfl, hB⟩))
      go_ret2
      exact ⟨by rw [hv.out, hv0.out]; rfl, hB⟩
  · have hv0 : twiceOk p = false := by unfold twiceOk; rw [decide_eq_false h]; rfl
    have hv := hide (show twiceLV p = -1 by unfold twiceLV; rw [hv0]; rfl)
    replace hv0 := hide hv0
    go_enter Try.func20, Try.ntmps20
    go_wp2_with (go_at_call 34; refine (l1In_f _ _ _ _ (by omega)).mono ?_; rintro e w' ⟨rfl, rfl⟩)
    go_ret2
    exact ⟨by rw [hv.out, hv0.out]; rfl, Below.refl _ _⟩

set_option maxHeartbeats 400000 in
theorem specBetween (row : Int) (w : World) : Calls Try.prog 23 #[.int .i64 row] w fun e w' => e = .returned (.bool (betweenV row)) ∧ Below w.heap.size w w' := by
  by_cases h1 : row < 2
  · have hv := hide (show betweenV row = false by unfold betweenV; rw [decide_eq_false (by omega)]; rfl)
    have h2 : ¬ 1 < row := by omega
    go_enter Try.func23, Try.ntmps23
    go_wp2
    refine wp_loop_rounds 1 ?_
    rw [rounds_succ]
    go_wp2_with (go_at_call 34; refine (l1In_f _ _ _ _ (by omega)).mono ?_; rintro e w' ⟨rfl, rfl⟩)
    go_ret
    exact ⟨by rw [hv.out]; rfl, Below.refl _ _⟩
  · by_cases h3 : 300 < row
    · have hv := hide (show betweenV row = false by unfold betweenV; rw [decide_eq_false (by omega)]; rfl)
      have h2 : 1 < row := by omega
      have h4 : ¬ row ≤ 300 := by omega
      go_enter Try.func23, Try.ntmps23
      go_wp2
      refine wp_loop_rounds 1 ?_
      rw [rounds_succ]
      go_wp2_with (go_at_call 34; refine (l1In_f _ _ _ _ (by omega)).mono ?_; rintro e w' ⟨rfl, rfl⟩)
      go_ret
      exact ⟨by rw [hv.out]; rfl, Below.refl _ _⟩
    · obtain ⟨R, rfl⟩ : ∃ N : Nat, row = N := ⟨row.toNat, by omega⟩
      have hR : 2 ≤ R := by omega
      have hR3 : R ≤ 300 := by omega
      have hR4 : (R : Int) ≤ 300 := by omega
      clear h1 h3
      have no : ∀ k : Nat, 1 ≤ k → k < R → cellLV (R : Nat) (k : Nat) (R : Nat) ≠ 0 → betweenV (R : Nat) = false := fun k h1 h2 h3 => by
        unfold betweenV
        rw [Int.toNat_natCast, Bool.and_eq_false_iff]
        right
        rw [List.all_eq_false]
        exact ⟨k, List.mem_range.2 h2, by simp [h3]; omega⟩
      have yes : (∀ k : Nat, 1 ≤ k → k < R → cellLV (R : Nat) (k : Nat) (R : Nat) = 0) → betweenV (R : Nat) = true := fun h => by
        unfold betweenV
        rw [Int.toNat_natCast, decide_eq_true ⟨by omega, by omega⟩, Bool.true_and]
        refine List.all_eq_true.2 fun k hk => ?_
        have hk' := List.mem_range.1 hk
        by_cases e : k < 1
        · simp [e]
        · simp [h k (by omega) hk']
      have no' := hide no
      have yes' := hide yes
      clear no yes
      go_enter Try.func23, Try.ntmps23
      go_wp2
      go_loopw [3] (fun k wr => ∃ K : Nat, k = .int .i64 K ∧ 1 ≤ K ∧ K ≤ R ∧ Hid (∀ j : Nat, 1 ≤ j → j < K → cellLV (R : Nat) (j : Nat) (R : Nat) = 0) ∧ Below w.heap.size w wr) (fun k _ => R - (intOf k).toNat)
      case atStart => exact ⟨1, rfl, by omega, by omega, hide (fun j h1 h2 => by omega), Below.refl _ _⟩
      case round =>
        obtain ⟨K, rfl, hK1, hKR, hall, hB⟩ := hrel
        by_cases hlt : K < R
        · obtain ⟨z, hz⟩ : ∃ z, cellLV (R : Nat) (K : Nat) (R : Nat) = z := ⟨_, rfl⟩
          have hC := fun w => specCellIs hz w
          by_cases hz0 : z = 0
          · subst hz0
            have hall' : Hid (∀ j : Nat, 1 ≤ j → j < K + 1 → cellLV (R : Nat) (j : Nat) (R : Nat) = 0) := hide (fun j h1 h2 => by
              by_cases e : j = K
              · subst e; exact hz
              · exact hall.out j h1 (by omega))
            clear hz hall
            go_wp2_with (go_at_call 15; refine (hC _).mono ?_; rintro e w' ⟨rfl, hB2⟩)
            go_roundw
            case rel => exact ⟨K + 1, by go_num, by omega, by omega, hall', hB.trans (hB2.mono hB.size)⟩
            case measure => simp [intOf]; omega
          · have hv := hide (no'.out K hK1 hlt (by rw [hz]; exact hz0))
            have hzb : (z == 0) = false := by simpa using hz0
            clear hz
            go_wp2_with (go_at_call 15; refine (hC _).mono ?_; rintro e w' ⟨rfl, hB2⟩)
            go_ret
            exact ⟨by rw [hv.out]; rfl, hB.trans (hB2.mono hB.size)⟩
        · obtain rfl : K = R := by omega
          have hv := hide (yes'.out hall.out)
          go_wp2_with (go_at_call 34; refine (l1In_t _ _ _ _ (by omega) (by omega)).mono ?_; rintro e w' ⟨rfl, rfl⟩)
          go_ret
          exact ⟨by rw [hv.out]; rfl, hB⟩

set_option maxHeartbeats 800000 in
theorem specStretched (row place p : Int) (w : World) : Calls Try.prog 26 #[.int .i64 row, .int .i64 place, .int .i64 p] w fun e w' => e = .returned (.bool (stretchV row place p)) ∧ Below w.heap.size w w' := by
  have bad : stretchIn row place p = false → Hid (stretchV row place p = false) := fun h => hide (by unfold stretchV; rw [h]; rfl)
  by_cases hp : 3 ≤ p ∧ p ≤ 17
  · obtain ⟨P, rfl⟩ : ∃ N : Nat, p = N := ⟨p.toNat, by omega⟩
    have hP2 : 2 ≤ P := by omega
    have hP : P ≤ 43 := by omega
    have hP17 : P ≤ 17 := by omega
    cases hpr : isP P with
    | false =>
      have hL := fun w => specL7Is hP2 hP hpr w
      have hv := bad (by unfold stretchIn; rw [Int.toNat_natCast, hpr, Bool.and_false]; rfl)
      clear bad hpr
      go_enter Try.func26, Try.ntmps26
      go_wp2_with (first | (go_at_call 34; refine (l1In_t _ _ _ _ (by omega) (by omega)).mono ?_; rintro e w' ⟨rfl, rfl⟩) | (go_at_call 34; refine (l1In_f _ _ _ _ (by omega)).mono ?_; rintro e w' ⟨rfl, rfl⟩) | (go_at_call 38; refine (hL _).mono ?_; rintro e w' ⟨rfl, rfl⟩))
      go_ret
      exact ⟨by rw [hv.out]; rfl, Below.refl _ _⟩
    | true =>
      have hL := fun w => specL7Is hP2 hP hpr w
      by_cases hr : 0 ≤ row ∧ row ≤ 16
      · by_cases hk : 0 ≤ place ∧ place ≤ row
        · obtain ⟨R, rfl⟩ : ∃ N : Nat, row = N := ⟨row.toNat, by omega⟩
          obtain ⟨K, rfl⟩ : ∃ N : Nat, place = N := ⟨place.toNat, by omega⟩
          obtain ⟨X, hX⟩ : ∃ Q : Nat, R * P = Q := ⟨_, rfl⟩
          obtain ⟨Y, hY⟩ : ∃ Q : Nat, K * P = Q := ⟨_, rfl⟩
          obtain ⟨Q, hQ⟩ : ∃ Q : Nat, P * P = Q := ⟨_, rfl⟩
          have hX1 : X ≤ 16 * 17 := by rw [← hX]; exact Nat.mul_le_mul (by omega) hP17
          have hY1 : Y ≤ 16 * 17 := by rw [← hY]; exact Nat.mul_le_mul (by omega) hP17
          have hQ1 : Q ≤ 17 * 17 := by rw [← hQ]; exact Nat.mul_le_mul hP17 hP17
          have hw1 : IntKind.i64.wrap ((R : Int) * P) = (X : Nat) := by rw [← Int.natCast_mul, hX]; exact IntWalk.i64_in _ (by omega)
          have hw2 : IntKind.i64.wrap ((K : Int) * P) = (Y : Nat) := by rw [← Int.natCast_mul, hY]; exact IntWalk.i64_in _ (by omega)
          have hw3 : IntKind.i64.wrap ((P : Int) * P) = (Q : Nat) := by rw [← Int.natCast_mul, hQ]; exact IntWalk.i64_in _ (by omega)
          obtain ⟨z1, hz1⟩ : ∃ z, cellLV (X : Nat) (Y : Nat) (Q : Nat) = z := ⟨_, rfl⟩
          obtain ⟨z2, hz2⟩ : ∃ z, cellLV (R : Nat) (K : Nat) (Q : Nat) = z := ⟨_, rfl⟩
          have hC1 := fun w => specCellIs hz1 w
          have hC2 := fun w => specCellIs hz2 w
          have hv := hide (show stretchV (R : Nat) (K : Nat) (P : Nat) = decide (z1 = z2) by
            have hin : stretchIn (R : Nat) (K : Nat) (P : Nat) = true := by
              unfold stretchIn
              rw [Int.toNat_natCast, hpr, decide_eq_true hp, decide_eq_true hr, decide_eq_true hk]
              rfl
            unfold stretchV
            rw [hin, Bool.true_and, ← hz1, ← hz2, ← hX, ← hY, ← hQ, Int.natCast_mul, Int.natCast_mul, Int.natCast_mul])
          clear bad hz1 hz2 hX hY hQ hpr
          go_enter Try.func26, Try.ntmps26
          go_wp2_with (first | (go_at_call 34; refine (l1In_t _ _ _ _ (by omega) (by omega)).mono ?_; rintro e w' ⟨rfl, rfl⟩) | (go_at_call 34; refine (l1In_f _ _ _ _ (by omega)).mono ?_; rintro e w' ⟨rfl, rfl⟩) | (go_at_call 38; refine (hL _).mono ?_; rintro e w' ⟨rfl, rfl⟩))
          go_at_call 15
          refine (hC1 _).mono ?_
          rintro e w1 ⟨rfl, hB1⟩
          go_wp2_with fail
          go_at_call 15
          refine (hC2 _).mono ?_
          rintro e w2 ⟨rfl, hB2⟩
          go_wp2
          go_ret
          exact ⟨by rw [hv.out]; rfl, hB1.trans (hB2.mono hB1.size)⟩
        · have hv := bad (by unfold stretchIn; rw [decide_eq_false hk, Bool.and_false, Bool.and_false])
          clear bad hpr
          go_enter Try.func26, Try.ntmps26
          go_wp2_with (first | (go_at_call 34; refine (l1In_t _ _ _ _ (by omega) (by omega)).mono ?_; rintro e w' ⟨rfl, rfl⟩) | (go_at_call 34; refine (l1In_f _ _ _ _ (by omega)).mono ?_; rintro e w' ⟨rfl, rfl⟩) | (go_at_call 38; refine (hL _).mono ?_; rintro e w' ⟨rfl, rfl⟩))
          go_ret
          exact ⟨by rw [hv.out]; rfl, Below.refl _ _⟩
      · have hv := bad (by unfold stretchIn; rw [decide_eq_false hr, Bool.false_and, Bool.and_false])
        clear bad hpr
        go_enter Try.func26, Try.ntmps26
        go_wp2_with (first | (go_at_call 34; refine (l1In_t _ _ _ _ (by omega) (by omega)).mono ?_; rintro e w' ⟨rfl, rfl⟩) | (go_at_call 34; refine (l1In_f _ _ _ _ (by omega)).mono ?_; rintro e w' ⟨rfl, rfl⟩) | (go_at_call 38; refine (hL _).mono ?_; rintro e w' ⟨rfl, rfl⟩))
        go_ret
        exact ⟨by rw [hv.out]; rfl, Below.refl _ _⟩
  · have hv := bad (by unfold stretchIn; rw [decide_eq_false hp]; rfl)
    clear bad
    go_enter Try.func26, Try.ntmps26
    go_wp2_with (go_at_call 34; refine (l1In_f _ _ _ _ (by omega)).mono ?_; rintro e w' ⟨rfl, rfl⟩)
    go_ret
    exact ⟨by rw [hv.out]; rfl, Below.refl _ _⟩
end Go.Proofs.Ytehmobcfbifocaa
