/-
  The model's MarkAt and PictureOf: for every argument what they hand back.
-/
import Derived.Test.YtjghhmgnbcabdaaSpec4
import Derived.Test.YtjghhmgnbcabdaaVals6
namespace Go.Proofs.Ytjghhmgnbcabdaa
open Go.RowKit

theorem mark_cut {l : Nat} (h : l < 13) : ByteArray.extract { data := #[46, 49, 50, 51, 52, 53, 54, 55, 56, 57, 97, 98, 99] } l (l + 1) = str [markB l] := by
  have e : ({ data := #[46, 49, 50, 51, 52, 53, 54, 55, 56, 57, 97, 98, 99] } : ByteArray) = str [46, 49, 50, 51, 52, 53, 54, 55, 56, 57, 97, 98, 99] := by unfold str; rfl
  rw [e, str_cut, Nat.add_sub_cancel_left]
  rcases (show l = 0 ∨ l = 1 ∨ l = 2 ∨ l = 3 ∨ l = 4 ∨ l = 5 ∨ l = 6 ∨ l = 7 ∨ l = 8 ∨ l = 9 ∨ l = 10 ∨ l = 11 ∨ l = 12 by omega) with rfl | rfl | rfl | rfl | rfl | rfl | rfl | rfl | rfl | rfl | rfl | rfl | rfl
  all_goals rfl

set_option maxHeartbeats 400000 in
theorem specMark (row place p : Int) (w : World) : Calls Try.prog 13 #[.int .i64 row, .int .i64 place, .int .i64 p] w fun e w' => e = .returned (.string (str (markL row place p))) ∧ Below w.heap.size w w' := by
  by_cases hbad : badM row place p
  · rw [markL_bad hbad, str_nil]
    unfold badM at hbad
    cases hpr : prmI p with
    | false =>
      have hP := fun w => specPrime_is hpr w
      clear hpr hbad
      go_enter Try.func13, Try.ntmps13
      go_wp2_with (go_at_call 23; refine (hP _).mono ?_; rintro e w' ⟨rfl, rfl⟩)
      go_ret
      exact ⟨rfl, Below.refl _ _⟩
    | true =>
      have hP := fun w => specPrime_is hpr w
      have hb2 : row < 0 ∨ 999999999 < row ∨ place < 0 ∨ row < place := by
        rcases hbad with h | h | h | h | h
        · exact .inl h
        · exact .inr (.inl h)
        · exact .inr (.inr (.inl h))
        · exact .inr (.inr (.inr h))
        · rw [hpr] at h; cases h
      clear hpr hbad
      by_cases hr : row < 0 ∨ 999999999 < row
      all_goals
        go_enter Try.func13, Try.ntmps13
        go_wp2_with (first | (go_at_call 23; refine (hP _).mono ?_; rintro e w' ⟨rfl, rfl⟩) | (go_at_call 33; refine (l1In_t _ _ _ _ (by omega) (by omega)).mono ?_; rintro e w' ⟨rfl, rfl⟩) | (go_at_call 33; refine (l1In_f _ _ _ _ (by omega)).mono ?_; rintro e w' ⟨rfl, rfl⟩))
        go_ret
        exact ⟨rfl, Below.refl _ _⟩
  · obtain ⟨N, K, P, rfl, rfl, rfl, hN, hK, hp⟩ := badM_nat hbad
    rw [markL_nat hN hK hp]
    have hP := fun w => specPrime_is (prmI_ok hp) w
    have hL := fun w => specLeft N K P w
    rw [leftV_nat hN (by omega) hp] at hL
    have hlt := leftN_prime hp N K
    have hp13 := (prm_two hp).2
    have hcut := mark_cut (l := leftN P N K) (by omega)
    unfold leftN at *
    obtain ⟨l, hl⟩ : ∃ l, bin N K % P = l := ⟨_, rfl⟩
    rw [hl] at hL hlt hcut ⊢
    have hcut' := hide hcut
    clear hbad hl hcut
    go_enter Try.func13, Try.ntmps13
    have hB0 := Below.refl w.heap.size w
    go_wp2_with (first | (go_at_call 23; refine (hP _).mono ?_; rintro e w' ⟨rfl, rfl⟩) | (go_at_call 33; refine (l1In_t _ _ _ _ (by omega) (by omega)).mono ?_; rintro e w' ⟨rfl, rfl⟩) | (go_at_call 34; (with_reducible refine (hL _).mono ?_); rintro e w' ⟨rfl, hB'⟩; replace hB0 := hB0.trans (hB'.mono hB0.size); clear hB'))
    go_ret
    exact ⟨by rw [← hcut'.out]; rfl, hB0⟩

theorem picP_row {p n k : Nat} (hn : n ≤ 64) (hk : k ≤ n + 1) : (picP p n ++ marksP p n k).length ≤ 2300 := by
  rw [List.length_append, marksP_len]
  have := picP_len_le p n hn
  omega

set_option maxHeartbeats 1000000 in
theorem specPicture (rows p : Int) (w : World) : Calls Try.prog 18 #[.int .i64 rows, .int .i64 p] w fun e w' => e = .returned (.string (str (picL rows p))) ∧ Below w.heap.size w w' := by
  by_cases hbad : badP rows p
  · rw [picL_bad hbad, str_nil]
    unfold badP at hbad
    by_cases h1 : rows < 1
    · have h2 : ¬ 0 < rows := by omega
      have h3 : decide (0 < rows) = false := by simpa using h2
      clear hbad
      go_enter Try.func18, Try.ntmps18
      go_wp2
      refine wp_loop_rounds 1 ?_
      rw [rounds_succ]
      go_wp2
      go_ret
      exact ⟨rfl, Below.refl _ _⟩
    · have h2 : 0 < rows := by omega
      by_cases h3 : 64 < rows
      · have h4 : ¬ rows ≤ 64 := by omega
        have h5 : decide (rows ≤ 64) = false := by simpa using h4
        clear hbad
        go_enter Try.func18, Try.ntmps18
        go_wp2
        refine wp_loop_rounds 1 ?_
        rw [rounds_succ]
        go_wp2
        go_ret
        exact ⟨rfl, Below.refl _ _⟩
      · have h4 : rows ≤ 64 := by omega
        have hpr : prmI p = false := by
          rcases hbad with h | h | h
          · exact absurd h h1
          · exact absurd h h3
          · exact h
        have hP := fun w => specPrime_is hpr w
        clear hbad hpr
        go_enter Try.func18, Try.ntmps18
        go_wp2
        refine wp_loop_rounds 1 ?_
        rw [rounds_succ]
        go_wp2_with (go_at_call 23; refine (hP _).mono ?_; rintro e w' ⟨rfl, rfl⟩)
        go_ret
        exact ⟨rfl, Below.refl _ _⟩
  · obtain ⟨R, P, rfl, rfl, hR1, hR, hp⟩ := badP_nat hbad
    rw [picL_nat hR1 hR hp]
    have hP := fun w => specPrime_is (prmI_ok hp) w
    have hR64 : (R : Int) ≤ 64 := by omega
    clear hbad
    go_enter Try.func18, Try.ntmps18
    go_wp2
    go_loopw [5, 6] (fun o i wr => ∃ (n : Nat) (s : ByteArray), n ≤ R ∧ Hid (s = str (picP P n)) ∧ o = .string s ∧ i = .int .i64 n ∧ Below w.heap.size w wr) (fun _ i _ => R - (intOf i).toNat)
    case atStart => exact ⟨0, _, Nat.zero_le _, hide str_nil.symm, rfl, rfl, Below.refl _ _⟩
    case round =>
      obtain ⟨n, s, hn, hs, rfl, rfl, hB⟩ := hrel
      by_cases hlt : n < R
      · have hni : (n : Int) < (R : Int) := by omega
        go_wp2_with (go_at_call 23; refine (hP _).mono ?_; rintro e w' ⟨rfl, rfl⟩)
        go_loopw [5, 7] (fun o i wi => ∃ (k : Nat) (s : ByteArray), k ≤ n + 1 ∧ Hid (s = str (picP P n ++ marksP P n k)) ∧ o = .string s ∧ i = .int .i64 k ∧ Below w.heap.size w wi) (fun _ i _ => n + 1 - (intOf i).toNat)
        case atStart => exact ⟨0, s, Nat.zero_le _, hide (by rw [hs.out]; simp [marksP]), rfl, rfl, hB⟩
        case round =>
          clear hB hs
          obtain ⟨k, s2, hk, hs, rfl, rfl, hB⟩ := hrel
          have hsl : s2.size ≤ 2300 := by rw [hs.out, str_size]; exact picP_row (by omega) hk
          by_cases hkn : k < n + 1
          · have hM := fun w => specMark n k P w
            rw [markL_nat (by omega) (by omega) hp] at hM
            obtain ⟨b, hb⟩ : ∃ b, str [markB (leftN P n k)] = b := ⟨_, rfl⟩
            rw [hb] at hM
            have hbl : b.size = 1 := by rw [← hb, str_size]; rfl
            have hnext : Hid (s2 ++ b = str (picP P n ++ marksP P n (k + 1))) := hide (by rw [hs.out, ← hb, str_app, marksP_snoc, List.append_assoc])
            have hki : (k : Int) ≤ (n : Int) := by omega
            clear hs hb
            go_wp2_with (go_at_call 13; (with_reducible refine (hM _).mono ?_); rintro e w' ⟨rfl, hB'⟩)
            go_roundw
            case rel => exact ⟨k + 1, _, by omega, hnext, rfl, by go_num, hB.trans (hB'.mono hB.size)⟩
            case measure => simp [intOf]; omega
          · obtain rfl : k = n + 1 := by omega
            have hnext : Hid (s2 ++ { data := #[10] } = str (picP P (n + 1))) := hide (by
              have e : ({ data := #[10] } : ByteArray) = str [10] := by unfold str; rfl
              rw [hs.out, e, str_app, List.append_assoc]; rfl)
            have hki : ¬ (n : Int) + 1 ≤ (n : Int) := by omega
            clear hs
            go_wp2
            go_roundw
            case rel => exact ⟨n + 1, _, by omega, hnext, rfl, by go_num, hB⟩
            case measure => simp [intOf]; omega
      · obtain rfl : n = R := by omega
        go_wp2
        go_ret
        exact ⟨ret_str hs.out, hB⟩
end Go.Proofs.Ytjghhmgnbcabdaa
