/-
  The model's TriangleOk and GapOk: for every argument what they hand back.
-/
import Derived.Test.YtjghhmgnbcabdaaSpec4
import Derived.Test.YtjghhmgnbcabdaaVals6
namespace Go.Proofs.Ytjghhmgnbcabdaa
open Go.RowKit

set_option maxHeartbeats 1000000 in
theorem specTriangle (row place rows times p : Int) (w : World) : Calls Try.prog 22 #[.int .i64 row, .int .i64 place, .int .i64 rows, .int .i64 times, .int .i64 p] w fun e w' => e = .returned (.bool (triV row place rows times p)) ∧ Below w.heap.size w w' := by
  by_cases hbad : badT row place rows times p
  · rw [triV_bad hbad]
    unfold badT at hbad
    cases hpr : prmI p with
    | false =>
      have hP := fun w => specPrime_is hpr w
      clear hpr hbad
      go_enter Try.func22, Try.ntmps22
      go_wp2_with (go_at_call 23; refine (hP _).mono ?_; rintro e w' ⟨rfl, rfl⟩)
      go_ret
      exact ⟨rfl, Below.refl _ _⟩
    | true =>
      have hP := fun w => specPrime_is hpr w
      obtain ⟨P, rfl, hp⟩ := prmI_t hpr
      have hp2 := prm_two hp
      replace hbad := hbad.resolve_left (by rw [hpr]; simp)
      clear hpr
      rcases (show (rows < 1 ∨ 64 < rows) ∨ (¬ (rows < 1 ∨ 64 < rows) ∧ (times < 0 ∨ (P : Int) - 1 < times)) ∨ (¬ (rows < 1 ∨ 64 < rows) ∧ ¬ (times < 0 ∨ (P : Int) - 1 < times) ∧ (row < 0 ∨ 100000 < row)) ∨ (¬ (rows < 1 ∨ 64 < rows) ∧ ¬ (times < 0 ∨ (P : Int) - 1 < times) ∧ ¬ (row < 0 ∨ 100000 < row) ∧ (place < 0 ∨ row < place)) by omega) with h | h | h | h
      all_goals
        clear hbad
        go_enter Try.func22, Try.ntmps22
        go_wp2_with (first | (go_at_call 23; refine (hP _).mono ?_; rintro e w' ⟨rfl, rfl⟩) | (go_at_call 33; refine (l1In_t _ _ _ _ (by omega) (by omega)).mono ?_; rintro e w' ⟨rfl, rfl⟩) | (go_at_call 33; refine (l1In_f _ _ _ _ (by omega)).mono ?_; rintro e w' ⟨rfl, rfl⟩))
        go_ret
        exact ⟨rfl, Below.refl _ _⟩
  · obtain ⟨N, K, R, T, P, rfl, rfl, rfl, rfl, rfl, hN, hK, hR1, hR, hT, hp⟩ := badT_nat hbad
    rw [triV_nat hN hK hR1 hR hT hp]
    have hP := fun w => specPrime_is (prmI_ok hp) w
    have hp2 := (prm_two hp).1
    have hp13 := (prm_two hp).2
    have hP0 : ((P : Int) == 0) = false := by simp; omega
    obtain ⟨S, hS⟩ : ∃ S, triOk P N K T R = S := ⟨_, rfl⟩
    rw [hS]
    have hS' := hide hS
    clear hbad hS
    go_enter Try.func22, Try.ntmps22
    go_wp2_with (first | (go_at_call 23; refine (hP _).mono ?_; rintro e w' ⟨rfl, rfl⟩) | (go_at_call 33; refine (l1In_t _ _ _ _ (by omega) (by omega)).mono ?_; rintro e w' ⟨rfl, rfl⟩))
    clear hP
    go_loopw [11] (fun i wr => ∃ n : Nat, n ≤ R ∧ i = .int .i64 n ∧ Hid (∀ m, m < n → ∀ k, k < m + 1 → leftN P (N + m) (K + k) = T * leftN P m k % P) ∧ Below w.heap.size w wr) (fun i _ => R - (intOf i).toNat)
    case atStart => exact ⟨0, Nat.zero_le _, rfl, hide (fun m hm => by omega), Below.refl _ _⟩
    case round =>
      obtain ⟨n, hn, rfl, hall, hB⟩ := hrel
      by_cases hlt : n < R
      · have hni : (n : Int) < (R : Int) := by omega
        go_wp2
        go_loopw [12] (fun i wi => ∃ k : Nat, k ≤ n + 1 ∧ i = .int .i64 k ∧ Hid (∀ j, j < k → leftN P (N + n) (K + j) = T * leftN P n j % P) ∧ Below w.heap.size w wi) (fun i _ => n + 1 - (intOf i).toNat)
        case atStart => exact ⟨0, Nat.zero_le _, rfl, hide (fun m hm => by omega), hB⟩
        case round =>
          clear hB
          obtain ⟨k, hk, rfl, hrow, hB⟩ := hrel
          by_cases hkn : k < n + 1
          · have hki : (k : Int) ≤ (n : Int) := by omega
            have hL1 := fun w => specLeft (N + n : Nat) (K + k : Nat) P w
            have hL2 := fun w => specLeft n k P w
            rw [leftV_nat (by omega) (by omega) hp] at hL1 hL2
            have hx : bin (N + n) (K + k) % P = leftN P (N + n) (K + k) := rfl
            have hy : bin n k % P = leftN P n k := rfl
            have hx2 := leftN_prime hp (N + n) (K + k)
            have hy2 := leftN_prime hp n k
            rw [hx] at hL1
            rw [hy] at hL2
            clear hx hy
            obtain ⟨x, hx⟩ : ∃ x, leftN P (N + n) (K + k) = x := ⟨_, rfl⟩
            obtain ⟨y, hy⟩ : ∃ y, leftN P n k = y := ⟨_, rfl⟩
            rw [hx] at hL1 hx2
            rw [hy] at hL2 hy2
            obtain ⟨D, hD⟩ : ∃ D, T * y = D := ⟨_, rfl⟩
            have hDi : (T : Int) * (y : Int) = (D : Int) := by rw [← hD]; simp
            have hDl : D ≤ 13 * 13 := by rw [← hD]; exact Nat.mul_le_mul (by omega) (by omega)
            have hq := tmod_n D P
            have hql := Nat.mod_lt D (show 0 < P by omega)
            have hiff : (leftN P (N + n) (K + k) = T * leftN P n k % P) ↔ x = D % P := by rw [hx, hy, hD]
            generalize D % P = E at *
            have hiff' := hide hiff
            have c1 : ((N + n : Nat) : Int) = (N : Int) + n := by simp
            have c2 : ((K + k : Nat) : Int) = (K : Int) + k := by simp
            rw [c1, c2] at hL1
            clear hx hy hD hiff c1 c2
            have hw1 : IntKind.i64.wrap (D : Int) = D := IntWalk.i64_in _ (by omega)
            have hw2 : IntKind.i64.wrap (E : Int) = E := IntWalk.i64_in _ (by omega)
            by_cases hxe : x = E
            · subst hxe
              have hrow' : Hid (∀ j, j < k + 1 → leftN P (N + n) (K + j) = T * leftN P n j % P) := hide (fun j hj => by
                by_cases e : j = k
                · subst e; exact hiff'.out.2 rfl
                · exact hrow.out j (by omega))
              clear hrow
              go_wp2_with (first | (go_at_call 34; (with_reducible refine (hL1 _).mono ?_); rintro e w' ⟨rfl, hB'⟩; replace hB := hB.trans (hB'.mono hB.size); clear hB') | (go_at_call 34; (with_reducible refine (hL2 _).mono ?_); rintro e w' ⟨rfl, hB'⟩; replace hB := hB.trans (hB'.mono hB.size); clear hB'))
              go_roundw
              case rel => exact ⟨k + 1, by omega, by go_num, hrow', hB⟩
              case measure => simp [intOf]; omega
            · have hxi : ((x : Int) == (E : Int)) = false := by rw [beq_eq_false_iff_ne]; omega
              have hxi2 : ((x : Int) != (E : Int)) = true := by simp [bne, hxi]
              obtain rfl : S = false := by
                rw [← hS'.out]
                unfold triOk
                rw [decide_eq_false_iff_not]
                exact fun h => hxe (hiff'.out.1 (h n hlt k hkn))
              clear hrow
              go_wp2_with (first | (go_at_call 34; (with_reducible refine (hL1 _).mono ?_); rintro e w' ⟨rfl, hB'⟩; replace hB := hB.trans (hB'.mono hB.size); clear hB') | (go_at_call 34; (with_reducible refine (hL2 _).mono ?_); rintro e w' ⟨rfl, hB'⟩; replace hB := hB.trans (hB'.mono hB.size); clear hB'))
              go_ret
              exact ⟨rfl, hB⟩
          · obtain rfl : k = n + 1 := by omega
            have hki : ¬ (n : Int) + 1 ≤ (n : Int) := by omega
            have hall' : Hid (∀ m, m < n + 1 → ∀ k, k < m + 1 → leftN P (N + m) (K + k) = T * leftN P m k % P) := hide (fun m hm j hjm => by
              by_cases e : m = n
              · subst e; exact hrow.out j hjm
              · exact hall.out m (by omega) j hjm)
            clear hrow
            go_wp2
            go_roundw
            case rel => exact ⟨n + 1, by omega, by go_num, hall', hB⟩
            case measure => simp [intOf]; omega
      · obtain rfl : n = R := by omega
        obtain rfl : S = true := by
          rw [← hS'.out]
          unfold triOk
          rw [decide_eq_true_eq]
          exact hall.out
        go_wp2
        go_ret
        exact ⟨rfl, hB⟩

set_option maxHeartbeats 1000000 in
theorem specGap (row place rows p : Int) (w : World) : Calls Try.prog 27 #[.int .i64 row, .int .i64 place, .int .i64 rows, .int .i64 p] w fun e w' => e = .returned (.bool (gapV row place rows p)) ∧ Below w.heap.size w w' := by
  by_cases hbad : badG row place rows p
  · rw [gapV_bad hbad]
    unfold badG at hbad
    cases hpr : prmI p with
    | false =>
      have hP := fun w => specPrime_is hpr w
      clear hpr hbad
      go_enter Try.func27, Try.ntmps27
      go_wp2_with (go_at_call 23; refine (hP _).mono ?_; rintro e w' ⟨rfl, rfl⟩)
      go_ret
      exact ⟨rfl, Below.refl _ _⟩
    | true =>
      have hP := fun w => specPrime_is hpr w
      replace hbad := hbad.resolve_left (by rw [hpr]; simp)
      clear hpr
      rcases (show (rows < 1 ∨ 64 < rows) ∨ (¬ (rows < 1 ∨ 64 < rows) ∧ (row < 0 ∨ 100000 < row)) ∨ (¬ (rows < 1 ∨ 64 < rows) ∧ ¬ (row < 0 ∨ 100000 < row) ∧ (place < 0 ∨ row < place)) by omega) with h | h | h
      all_goals
        clear hbad
        go_enter Try.func27, Try.ntmps27
        go_wp2_with (first | (go_at_call 23; refine (hP _).mono ?_; rintro e w' ⟨rfl, rfl⟩) | (go_at_call 33; refine (l1In_t _ _ _ _ (by omega) (by omega)).mono ?_; rintro e w' ⟨rfl, rfl⟩) | (go_at_call 33; refine (l1In_f _ _ _ _ (by omega)).mono ?_; rintro e w' ⟨rfl, rfl⟩))
        go_ret
        exact ⟨rfl, Below.refl _ _⟩
  · obtain ⟨N, K, R, P, rfl, rfl, rfl, rfl, hN, hK, hR1, hR, hp⟩ := badG_nat hbad
    rw [gapV_nat hN hK hR1 hR hp]
    have hP := fun w => specPrime_is (prmI_ok hp) w
    obtain ⟨S, hS⟩ : ∃ S, gapOk P N K R = S := ⟨_, rfl⟩
    rw [hS]
    have hS' := hide hS
    clear hbad hS
    go_enter Try.func27, Try.ntmps27
    go_wp2_with (first | (go_at_call 23; refine (hP _).mono ?_; rintro e w' ⟨rfl, rfl⟩) | (go_at_call 33; refine (l1In_t _ _ _ _ (by omega) (by omega)).mono ?_; rintro e w' ⟨rfl, rfl⟩))
    clear hP
    go_loopw [9] (fun i wr => ∃ n : Nat, n ≤ R ∧ i = .int .i64 n ∧ Hid (∀ m, m < n → ∀ k, k < R → m ≤ k → leftN P (N + m) (K + k) = 0) ∧ Below w.heap.size w wr) (fun i _ => R - (intOf i).toNat)
    case atStart => exact ⟨0, Nat.zero_le _, rfl, hide (fun m hm => by omega), Below.refl _ _⟩
    case round =>
      obtain ⟨n, hn, rfl, hall, hB⟩ := hrel
      by_cases hlt : n < R
      · have hni : (n : Int) < (R : Int) := by omega
        go_wp2
        go_loopw [10] (fun i wi => ∃ k : Nat, n ≤ k ∧ k ≤ R ∧ i = .int .i64 k ∧ Hid (∀ j, j < k → n ≤ j → leftN P (N + n) (K + j) = 0) ∧ Below w.heap.size w wi) (fun i _ => R - (intOf i).toNat)
        case atStart => exact ⟨n, Nat.le_refl _, hn, rfl, hide (fun j hj hnj => by omega), hB⟩
        case round =>
          clear hB
          obtain ⟨k, hnk, hk, rfl, hrow, hB⟩ := hrel
          by_cases hkn : k < R
          · have hki : (k : Int) < (R : Int) := by omega
            have hL1 := fun w => specLeft (N + n : Nat) (K + k : Nat) P w
            rw [leftV_nat (by omega) (by omega) hp] at hL1
            have hx : bin (N + n) (K + k) % P = leftN P (N + n) (K + k) := rfl
            rw [hx] at hL1
            clear hx
            obtain ⟨x, hx⟩ : ∃ x, leftN P (N + n) (K + k) = x := ⟨_, rfl⟩
            rw [hx] at hL1
            have hx' := hide hx
            have c1 : ((N + n : Nat) : Int) = (N : Int) + n := by simp
            have c2 : ((K + k : Nat) : Int) = (K : Int) + k := by simp
            rw [c1, c2] at hL1
            clear hx c1 c2
            by_cases hxe : x = 0
            · subst hxe
              have hrow' : Hid (∀ j, j < k + 1 → n ≤ j → leftN P (N + n) (K + j) = 0) := hide (fun j hj hnj => by
                by_cases e : j = k
                · subst e; exact hx'.out
                · exact hrow.out j (by omega) hnj)
              clear hrow
              go_wp2_with (go_at_call 34; (with_reducible refine (hL1 _).mono ?_); rintro e w' ⟨rfl, hB'⟩; replace hB := hB.trans (hB'.mono hB.size); clear hB')
              go_roundw
              case rel => exact ⟨k + 1, by omega, by omega, by go_num, hrow', hB⟩
              case measure => simp [intOf]; omega
            · have hxi : ((x : Int) == 0) = false := by rw [beq_eq_false_iff_ne]; omega
              have hxi2 : ((x : Int) != 0) = true := by simp [bne, hxi]
              obtain rfl : S = false := by
                rw [← hS'.out]
                unfold gapOk
                rw [decide_eq_false_iff_not]
                exact fun h => hxe (hx'.out.symm.trans (h n hlt k hkn hnk))
              clear hrow
              go_wp2_with (go_at_call 34; (with_reducible refine (hL1 _).mono ?_); rintro e w' ⟨rfl, hB'⟩; replace hB := hB.trans (hB'.mono hB.size); clear hB')
              go_ret
              exact ⟨rfl, hB⟩
          · obtain rfl : k = R := by omega
            have hall' : Hid (∀ m, m < n + 1 → ∀ j, j < k → m ≤ j → leftN P (N + m) (K + j) = 0) := hide (fun m hm j hj hmj => by
              by_cases e : m = n
              · subst e; exact hrow.out j hj hmj
              · exact hall.out m (by omega) j hj hmj)
            clear hrow
            go_wp2
            go_roundw
            case rel => exact ⟨n + 1, by omega, by go_num, hall', hB⟩
            case measure => simp [intOf]; omega
      · obtain rfl : n = R := by omega
        obtain rfl : S = true := by
          rw [← hS'.out]
          unfold gapOk
          rw [decide_eq_true_eq]
          exact hall.out
        go_wp2
        go_ret
        exact ⟨rfl, hB⟩
end Go.Proofs.Ytjghhmgnbcabdaa
