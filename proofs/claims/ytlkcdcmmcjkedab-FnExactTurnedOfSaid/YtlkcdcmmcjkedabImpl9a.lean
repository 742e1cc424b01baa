/-
  The program's chapter 9: SideOk, UnderOf, OnesIn, LastOf and CountBalanced at every argument.
-/
import Derived.Test.YtlkcdcmmcjkedabSide9c
import Derived.Test.YtlkcdcmmcjkedabWithin9
namespace Go.Proofs.Ytlkcdcmmcjkedab
open Go.RowKit Go.Shelf

theorem implSide (v : Value) (xs : List Int) (w : World) (hv : Ints w v xs) (hl : xs.length ≤ 1000000000) : Calls Try.prog 14 #[v] w fun e w' => e = .returned (.bool (sideB xs)) ∧ Below w.heap.size w w' := by
  have hW := allWithin_in v xs 12 1 w hv (by omega) hl
  have hs : withB xs 12 1 = sideB xs := rfl
  rw [hs] at hW
  clear hs hv hl
  generalize sideB xs = B at *
  go_enter Try.func14, Try.ntmps14
  go_wp2_with (go_at_call 23; refine hW.mono ?_; rintro e w' ⟨rfl, rfl⟩)
  go_ret
  exact ⟨rfl, Below.refl _ _⟩

set_option maxHeartbeats 400000 in
theorem sideOf_in (v : Value) (xs : List Int) (w : World) (hv : Ints w v xs) (hs : sideB xs = true) : Calls Try.prog 15 #[v] w fun e w' => e = .returned (sdV (numF (natL xs) xs.length) xs.length) ∧ Below w.heap.size w w' := by
  have hl := sideB_len hs
  obtain ⟨gx, cx, rfl, hgx, hcx⟩ := ints_open hv hl.1
  have hb : ∀ i, natL xs i ≤ 1 := side_bit hs
  have hlt := fun k => numF_lt hb k
  have hcx' : ∀ i, i < xs.length → w.cell? ⟨gx, i, none⟩ = some (.int .i64 (natL xs i)) := fun i hi => by rw [hcx i hi, side_get hs hi]
  clear hv hcx hs
  generalize hF : natL xs = f at *
  generalize xs.length = n at *
  clear hF
  have hst : ∀ k, numF f (k + 1) = numF f k + f k * 2 ^ k := fun k => rfl
  unfold sdV
  go_enter Try.func15, Try.ntmps15
  go_wp2
  have hS0 : SdAt (w.alloc (.cells #[.int .u64 0, .int .i64 0] 35)) w.heap.size 0 0 := SdAt.new w 0 0
  have hB0 : Below w.heap.size w (w.alloc (.cells #[.int .u64 0, .int .i64 0] 35)) := (Below.refl _ w).alloc (Nat.le_refl _) _
  have hcy : ∀ i, i < n → (w.alloc (.cells #[.int .u64 0, .int .i64 0] 35)).cell? ⟨gx, i, none⟩ = some (Value.int IntKind.i64 (f i)) := fun i hi => (hB0.cell (p := ⟨gx, i, none⟩) hgx).trans (hcx' i hi)
  generalize w.alloc (.cells #[.int .u64 0, .int .i64 0] 35) = W1 at *
  clear hcx'
  go_loop [3, 8] (fun s i => ∃ k : Nat, k ≤ n ∧ i = .int .i64 k ∧ s = .int .u64 (numF f k)) (fun _ i => n - (intOf i).toNat)
  case atStart => exact ⟨0, by omega, rfl, rfl⟩
  case round =>
    obtain ⟨k, hk, rfl, rfl⟩ := hrel
    by_cases hk2 : k < n
    · have hc := hcy k hk2
      have hki : (k : Int) < (n : Int) := by omega
      have h2 := hlt k
      have h3 := hb k
      have h4 := hst k
      have h5 : 2 ^ k ≤ 2 ^ 11 := Nat.pow_le_pow_right (by omega) (by omega)
      have h6 : numF f k ||| f k * 2 ^ k = numF f k + f k * 2 ^ k := by
        have := Nat.two_pow_add_eq_or_of_lt h2 (f k)
        rw [Nat.mul_comm (f k), Nat.or_comm, ← this, Nat.add_comm]
      rw [← h4] at h6
      have h7 : f k * 2 ^ k ≤ 1 * 2 ^ 11 := Nat.mul_le_mul h3 h5
      have h8 := bits_or_u64_nat (numF f k) (f k * 2 ^ k) (by omega) (by omega)
      rw [h6] at h8
      have h9 : (f k : Int) * (2 : Int) ^ k = ((f k * 2 ^ k : Nat) : Int) := by simp
      clear hcy h4 h6 hb hlt hst
      obtain ⟨B, hnx⟩ : ∃ B, numF f (k + 1) = B := ⟨_, rfl⟩
      rw [hnx] at h8
      have hnx' := hide hnx
      clear hnx
      generalize numF f k = A at *
      generalize f k * 2 ^ k = Y at *
      generalize f k = x at *
      have hw : IntKind.u64.wrap (Y : Int) = Y := IntWalk.u64_in _ (by omega)
      have hA : A < 2048 := by omega
      clear h2 h5
      go_wp2
      go_round
      case rel => exact ⟨k + 1, by omega, by go_num, by rw [hnx'.out]⟩
      case measure => simp [intOf]; omega
    · obtain rfl : k = n := by omega
      have hd0 := hS0.cell0
      have hd1 := hS0.cell1
      have hf0 := hS0.frozen 0
      have hf1 := hS0.frozen 1
      clear hcy
      go_wp2
      refine bodyPost_ret (results_side rfl _ _ w.heap.size _ k rfl (hS0.set (numF f k) k)) rfl ⟨rfl, ?_⟩
      exact (hB0.setCell (p := ⟨w.heap.size, 0, none⟩) (Nat.le_refl _) _).setCell (p := ⟨w.heap.size, 1, none⟩) (Nat.le_refl _) _

/-- The side of a row, and what its triangle holds. -/
theorem onesN_side {xs : List Int} (h : sideB xs = true) : (onesN xs.length (numF (natL xs) xs.length) : Int) = onesV xs := by
  rw [onesV_yes h, ones_num (side_bit h)]

theorem und_under {a b : Nat} (ha : a ≤ 999999999) (hb : b ≤ 999999999) : underV a b 2 = und 2 a b := by
  have := underV_nat (b := 2) ha hb (by omega) (by omega)
  exact this

theorem sumUpTo_in (c : Nat) (hc : c ≤ 12) (w : World) : Calls Try.prog 19 #[.int .i64 c] w fun e w' => e = .returned (.int .i64 ((c * (c + 1) / 2 : Nat) : Int)) ∧ w = w' := by
  have h1 : c * (c + 1) ≤ 12 * 13 := Nat.mul_le_mul hc (by omega)
  have h2 : (c : Int) * ((c : Int) + 1) = ((c * (c + 1) : Nat) : Int) := by simp
  generalize c * (c + 1) = P at *
  go_enter Try.func19, Try.ntmps19
  go_wp2
  go_ret
  exact ⟨by go_num, rfl⟩

theorem tri_two (c : Nat) : 2 * (c * (c + 1) / 2) = c * (c + 1) := by
  have : c * (c + 1) % 2 = 0 := by
    rcases Nat.mod_two_eq_zero_or_one c with h | h
    · rw [Nat.mul_mod, h]; simp
    · rw [Nat.mul_mod, Nat.add_mod, h]
  omega

set_option maxHeartbeats 400000 in
theorem implBal (c : Int) (_hf : Fits c) (w : World) : Calls Try.prog 12 #[.int .i64 c] w fun e w' => e = .returned (.int .i64 (balV c)) ∧ Below w.heap.size w w' := by
  by_cases hbad : c < 1 ∨ 12 < c
  · rw [balV_bad hbad]
    by_cases h2 : c < 1
    all_goals
      go_enter Try.func12, Try.ntmps12
      go_wp2
      go_ret
      exact ⟨rfl, Below.refl _ _⟩
  · obtain ⟨C, rfl⟩ : ∃ C : Nat, c = C := ⟨c.toNat, by omega⟩
    have h1 : 1 ≤ C := by omega
    have h2 : C ≤ 12 := by omega
    have h3 : ¬ (C : Int) < 1 := by omega
    have h4 : ¬ (12 : Int) < C := by omega
    rw [balV_nat h1 h2]
    obtain ⟨T, hT⟩ : ∃ T, 2 ^ C = T := ⟨_, rfl⟩
    have hTl : T ≤ 4096 := by rw [← hT]; exact Nat.le_trans (Nat.pow_le_pow_right (by omega) h2) (by decide)
    have hTi : (2 : Int) ^ C = (T : Int) := by rw [← hT]; simp
    have hres := hide (show balanced C = balU C T by unfold balanced; rw [hT])
    have hD : ∀ n, n < T → ∀ w, Calls Try.prog 20 #[sdV n C] w fun e w' => e = .returned (.int .i64 (onesN C n)) ∧ Below w.heap.size w w' := fun n hn w => onesDown_in n C (by rw [hT]; exact hn) h2 w
    have hst : ∀ n, balU C (n + 1) = balU C n + (if (4 * onesN C n == C * (C + 1)) = true then 1 else 0) := fun n => rfl
    have hble : ∀ n, balU C n ≤ n := fun n => cntB_le _ n
    have hole : ∀ n, n < T → onesN C n ≤ 144 := fun n hn => by
      rw [← onesU_all (by rw [hT]; exact hn) h2]
      have := onesU_le C n C
      omega
    have hS := fun w => sumUpTo_in C h2 w
    have hev := tri_two C
    have hPl : C * (C + 1) ≤ 12 * 13 := Nat.mul_le_mul h2 (by omega)
    clear hbad hT _hf
    generalize C * (C + 1) = P at *
    obtain ⟨H, hH⟩ : ∃ H, P / 2 = H := ⟨_, rfl⟩
    rw [hH] at hev hS
    subst hev
    clear hH
    have hwT : IntKind.u64.wrap (T : Int) = T := IntWalk.u64_in _ (by omega)
    unfold sdV at hD
    go_enter Try.func12, Try.ntmps12
    go_wp2_with (go_at_call 19; refine (hS _).mono ?_; rintro e w1 ⟨rfl, rfl⟩)
    go_loopw [4, 17] (fun b s wr => ∃ n : Nat, n ≤ T ∧ s = .int .u64 n ∧ b = .int .i64 (balU C n) ∧ Below w.heap.size w wr) (fun _ s _ => T - (intOf s).toNat)
    case atStart => exact ⟨0, by omega, rfl, rfl, Below.refl _ _⟩
    case round =>
      obtain ⟨n, hn, rfl, rfl, hB⟩ := hrel
      have hbn := hble n
      by_cases hlt : n < T
      · have hni : (n : Int) < (T : Int) := by omega
        have hDn := hD n hlt
        have hsn := hst n
        have hon := hole n hlt
        have hnl : n < 4096 := by omega
        clear hD hst hble hole hS hTi
        generalize balU C n = b at *
        generalize onesN C n = o at *
        by_cases heq : 2 * o = H
        · rw [show (4 * o == 2 * H) = true by simp; omega, if_pos rfl] at hsn
          have hsn' := hide hsn
          have hmul : (2 : Int) * (o : Int) = (H : Int) := by omega
          clear hsn heq
          go_wp2_with (go_at_call 20; refine (hDn _).mono ?_; clear hDn; rintro e w2 ⟨rfl, hB2⟩)
          go_roundw
          case rel => exact ⟨n + 1, by omega, by go_num, by rw [hsn'.out]; go_num, (hB.alloc hB.size _).trans (hB2.mono (by have := hB.size; simp; omega))⟩
          case measure => simp [intOf]; omega
        · rw [show (4 * o == 2 * H) = false by simp; omega, if_neg (by simp)] at hsn
          have hsn' := hide hsn
          clear hsn
          have hne : ((2 : Int) * (o : Int) == (H : Int)) = false := by rw [beq_eq_false_iff_ne]; omega
          clear heq
          go_wp2_with (go_at_call 20; refine (hDn _).mono ?_; clear hDn; rintro e w2 ⟨rfl, hB2⟩)
          go_roundw
          case rel => exact ⟨n + 1, by omega, by go_num, by rw [hsn'.out]; rfl, (hB.alloc hB.size _).trans (hB2.mono (by have := hB.size; simp; omega))⟩
          case measure => simp [intOf]; omega
      · obtain rfl : n = T := by omega
        clear hD hst hble hole hS hTi
        go_wp2
        go_ret
        exact ⟨by rw [hres.out]; rfl, hB⟩
end Go.Proofs.Ytlkcdcmmcjkedab
