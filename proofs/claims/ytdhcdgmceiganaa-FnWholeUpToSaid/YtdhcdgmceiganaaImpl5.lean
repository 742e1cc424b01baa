/-
  The program's LeftIn, WholeOk and WholeUpTo: for every argument what they hand back.
-/
import Derived.Test.YtdhcdgmceiganaaImpl2
import Derived.Test.YtdhcdgmceiganaaMap3
import Derived.Test.YtdhcdgmceiganaaVals5
namespace Go.Proofs.Ytdhcdgmceiganaa
open Go.RowKit

theorem implLeftIn (row p : Int) (hf : Fits p) (w : World) : Calls Try.prog 12 #[.int .i64 row, .int .i64 p] w fun e w' => e = .returned (.int .i64 (keepV row p)) ∧ Below w.heap.size w w' := by
  cases hpr : prmI p with
  | false =>
    have hP := fun w => implPrime_is hf hpr w
    rw [keepV_bad (show badK row p from .inr (.inr hpr))]
    clear hpr hf
    go_enter Try.func12, Try.ntmps12
    go_wp2_with (go_at_call 35; (with_reducible refine (hP _).mono ?_); rintro e w1 ⟨rfl, hB1⟩)
    go_ret
    exact ⟨rfl, hB1⟩
  | true =>
    have hP := fun w => implPrime_is hf hpr w
    obtain ⟨P, rfl, hp⟩ := prmI_t hpr
    have hC := fun w => implCount row P w
    have hcv : countV row P = keepV row P := by
      by_cases hbad : badK row P
      · rw [keepV_bad hbad]
        unfold badK at hbad
        refine countV_bad ?_
        unfold bad1
        rcases hbad with h | h | h
        · exact .inl h
        · exact .inr (.inl h)
        · rw [hpr] at h; cases h
      · obtain ⟨n, P', rfl, h2, hn, hp'⟩ := badK_nat hbad
        exact keepV_count hn hp
    rw [hcv] at hC
    clear hcv hpr hf
    go_enter Try.func12, Try.ntmps12
    go_wp2_with (first | (go_at_call 35; (with_reducible refine (hP _).mono ?_); rintro e w1 ⟨rfl, hB1⟩) | (go_at_call 36; (with_reducible refine (hC _).mono ?_); rintro e w2 ⟨rfl, hB2⟩))
    go_ret
    exact ⟨rfl, hB1.trans (hB2.mono hB1.size)⟩

set_option maxHeartbeats 400000 in
theorem implWhole_ok (N P : Nat) (hN : N ≤ 999999999) (hp : prm P) (w : World) : Calls Try.prog 21 #[.int .i64 N, .int .i64 P] w fun e w' => e = .returned (.bool (whole P N)) ∧ Below w.heap.size w w' := by
  have hp2 := (prm_two hp).1
  have hp13 := (prm_two hp).2
  have hP := fun w => implPrime_is (p := (P : Int)) (by unfold Fits; omega) (prmI_ok hp) w
  obtain ⟨S, hS⟩ : ∃ S, whole P N = S := ⟨_, rfl⟩
  rw [hS]
  go_enter Try.func21, Try.ntmps21
  go_wp2_with (first | (go_at_call 41; refine (within_t _ _ _ (by omega) (by omega)).mono ?_; rintro e w' ⟨rfl, rfl⟩) | (go_at_call 35; (with_reducible refine (hP _).mono ?_); rintro e w1 ⟨rfl, hB1⟩))
  clear hP
  have hU0 : UAt (w1.alloc (Obj.cells #[Value.int IntKind.i64 N, Value.int IntKind.i64 P] 47)) w1.heap.size N P := World.alloc_heap_new w1 _
  have hB0 : Below w.heap.size w (w1.alloc (Obj.cells #[Value.int IntKind.i64 N, Value.int IntKind.i64 P] 47)) := hB1.alloc hB1.size _
  have hs := hB1.size
  clear hB1
  go_loopw [] (fun wr => ∃ m : Nat, m ≤ N ∧ UAt wr w1.heap.size m P ∧ Hid (whole P m = S) ∧ Below w.heap.size w wr) (fun wr => restAt wr w1.heap.size)
  case atStart => exact ⟨N, Nat.le_refl _, hU0, hide hS, hB0⟩
  case round =>
    clear hU0 hB0 hS
    obtain ⟨m, hm, hU, hs', hB⟩ := hrel
    have hc0 := hU.cell0
    by_cases hle : P ≤ m
    · have hs2 := hs'.out
      rw [whole_high hp2 hle] at hs2
      have hPl := pull_in w1.heap.size m P wr hp2 (by omega) (by omega) hU
      have hr := Nat.mod_lt m (show 0 < P by omega)
      have hdl := Nat.div_lt_self (show 0 < m by omega) hp2
      have hre := restAt_of hU
      generalize m % P = r at *
      generalize m / P = q at *
      have hs3 := hide hs2
      have hlei : (P : Int) ≤ (m : Int) := by omega
      clear hs' hs2
      by_cases e : r = P - 1
      · have e1 : ¬ (r : Int) < (P : Int) - 1 := by omega
        have hs4 : Hid (whole P q = S) := hide (by have := hs3.out; rw [e] at this; simpa using this)
        clear hs3 e
        go_wp2_with (go_at_call 47; (with_reducible refine hPl.mono ?_); clear hPl; rintro e w2 ⟨rfl, hU2, hg2⟩)
        go_roundw
        case rel => exact ⟨q, by omega, hU2, hs4, hB.grown hg2 hB.size (fun k e => by cases e; exact hs)⟩
        case measure => rw [hre, restAt_of hU2]; exact hdl
      · have e1 : (r : Int) < (P : Int) - 1 := by omega
        obtain rfl : S = false := by have := hs3.out; rw [show (r == P - 1) = false by simpa using e, Bool.false_and] at this; exact this.symm
        clear hs3
        go_wp2_with (go_at_call 47; (with_reducible refine hPl.mono ?_); clear hPl; rintro e w2 ⟨rfl, hU2, hg2⟩)
        go_ret
        exact ⟨rfl, hB.grown hg2 hB.size (fun k e => by cases e; exact hs)⟩
    · obtain rfl : S = true := by have := hs'.out; rw [whole_low (by omega)] at this; exact this.symm
      have hlei : ¬ (P : Int) ≤ (m : Int) := by omega
      clear hs'
      go_wp2
      go_ret
      exact ⟨rfl, hB⟩

theorem implWhole (row p : Int) (hf : Fits p) (w : World) : Calls Try.prog 21 #[.int .i64 row, .int .i64 p] w fun e w' => e = .returned (.bool (wholeV row p)) ∧ Below w.heap.size w w' := by
  by_cases hbad : badK row p
  · rw [wholeV_bad hbad]
    unfold badK at hbad
    by_cases hr : row < 0 ∨ 999999999 < row
    · clear hbad
      go_enter Try.func21, Try.ntmps21
      go_wp2_with (go_at_call 41; refine (within_f _ _ _ (by omega)).mono ?_; rintro e w' ⟨rfl, rfl⟩)
      go_ret
      exact ⟨rfl, Below.refl _ _⟩
    · have hpr : prmI p = false := by
        rcases hbad with h | h | h
        · exact absurd (.inl h) hr
        · exact absurd (.inr h) hr
        · exact h
      have hP := fun w => implPrime_is hf hpr w
      clear hbad hpr hf
      go_enter Try.func21, Try.ntmps21
      go_wp2_with (first | (go_at_call 41; refine (within_t _ _ _ (by omega) (by omega)).mono ?_; rintro e w' ⟨rfl, rfl⟩) | (go_at_call 35; (with_reducible refine (hP _).mono ?_); rintro e w1 ⟨rfl, hB1⟩))
      go_ret
      exact ⟨rfl, hB1⟩
  · obtain ⟨N, P, rfl, rfl, hN, hp⟩ := badK_nat hbad
    rw [wholeV_nat hN hp]
    exact implWhole_ok N P hN hp w

theorem wholeL_step {p j d : Nat} (hp : 2 ≤ p) (h1 : 1 ≤ d) (h2 : d < p) : wholeL p (d * p ^ j + p ^ j) = wholeL p (d * p ^ j) ++ [((d * p ^ j + p ^ j - 1 : Nat) : Int)] := by
  unfold wholeL; rw [wholeU_block hp h1 h2, List.map_append]; rfl
theorem wholeL_part {p j d : Nat} (hp : 2 ≤ p) (h1 : 1 ≤ d) (h2 : d < p) (r : Nat) (hr : r < p ^ j) : wholeL p (d * p ^ j + r) = wholeL p (d * p ^ j) := by
  unfold wholeL; rw [wholeU_part hp h1 h2 r hr]
theorem wholeL_one {p : Nat} (hp : 2 ≤ p) : wholeL p 1 = [0] := by unfold wholeL; rw [wholeU_one p hp]; rfl

set_option maxHeartbeats 1000000 in
theorem implWholeUp_ok (N P : Nat) (hN : N ≤ 999999999) (hp : prm P) (w : World) : Calls Try.prog 24 #[.int .i64 N, .int .i64 P] w fun e w' =>
    ∃ v, e = .returned v ∧ w'.ownsRow w.heap.size 3 1 v (wholeL P (N + 1)).length ((wholeL P (N + 1)).map (Value.int .i64)) ∧ Below w.heap.size w w' := by
  have hp2 := (prm_two hp).1
  have hp13 := (prm_two hp).2
  have hP := fun w => implPrime_is (p := (P : Int)) (by unfold Fits; omega) (prmI_ok hp) w
  go_enter Try.func24, Try.ntmps24
  go_wp2_with (first | (go_at_call 41; refine (within_t _ _ _ (by omega) (by omega)).mono ?_; rintro e w' ⟨rfl, rfl⟩) | (go_at_call 35; (with_reducible refine (hP _).mono ?_); rintro e w1 ⟨rfl, hB1⟩))
  clear hP
  go_loopw [5, 6] (fun rows pw wr => ∃ j Q : Nat, Q = P ^ j ∧ Q ≤ N + 1 ∧ pw = .int .i64 Q ∧ wr.ownsRow w.heap.size 3 1 rows (wholeL P Q).length ((wholeL P Q).map (Value.int .i64)) ∧ Below w.heap.size w wr)
    (fun _ pw _ => N + 2 - (intOf pw).toNat)
  case atStart =>
    refine ⟨0, 1, rfl, by omega, rfl, ?_, hB1.alloc hB1.size _⟩
    rw [wholeL_one hp2]
    exact World.ownsRow_lit w1 #[.int .i64 0] 1 hB1.size (by decide) rfl
  case round =>
    clear hB1
    obtain ⟨j, Q, hQ, hQN, rfl, hown, hB⟩ := hrel
    have hQ0 : 0 < Q := by rw [hQ]; exact Nat.pow_pos (by omega)
    have hQ' := hide hQ
    clear hQ
    go_wp2
    go_loopw [5, 7] (fun rows tm wi => ∃ d T : Nat, Hid (T = d * Q) ∧ 1 ≤ d ∧ d ≤ P ∧ T ≤ N + 1 ∧ tm = .int .i64 ((d : Int) + 1) ∧ wi.ownsRow w.heap.size 3 1 rows (wholeL P T).length ((wholeL P T).map (Value.int .i64)) ∧ Below w.heap.size w wi)
      (fun _ tm _ => P + 2 - (intOf tm).toNat)
    case atStart => exact ⟨1, Q, hide (by omega), Nat.le_refl _, by omega, hQN, rfl, hown, hB⟩
    case round =>
      clear hown hB
      obtain ⟨d, T, hT, hd1, hdP, hTN, rfl, hown, hB⟩ := hrel
      by_cases hlt : d < P
      · have hst := wholeL_step (j := j) hp2 hd1 hlt
        have hpt := wholeL_part (j := j) hp2 hd1 hlt
        rw [← hQ'.out, ← hT.out] at hst
        rw [← hQ'.out, ← hT.out] at hpt
        have hmul : ((d : Int) + 1) * (Q : Int) = ((T + Q : Nat) : Int) := by rw [hT.out]; push_cast; rw [Int.add_mul, Int.one_mul]
        have hTU : Hid (T + Q = (d + 1) * Q) := hide (by rw [hT.out, Nat.add_mul, Nat.one_mul])
        obtain ⟨U, hU⟩ : ∃ U, T + Q = U := ⟨_, rfl⟩
        rw [hU] at hst hmul hTU
        have hUb : U ≤ 2000000000 := by omega
        have hw1 : IntKind.i64.wrap (U : Int) = U := IntWalk.i64_in _ (by omega)
        have hdi : (d : Int) + 1 ≤ (P : Int) := by omega
        clear hT
        by_cases hgt : N < U - 1
        · have hgi : (N : Int) < (U : Int) - 1 := by omega
          have hres := hpt (N + 1 - T) (by omega)
          rw [show T + (N + 1 - T) = N + 1 by omega] at hres
          clear hst hpt hgt hTU
          go_wp2
          go_ret
          exact ⟨_, rfl, by rw [hres]; exact hown, hB⟩
        · have hgi : ¬ (N : Int) < (U : Int) - 1 := by omega
          have hll := wholeL_le P T
          have hcast : ((U - 1 : Nat) : Int) = (U : Int) - 1 := by omega
          clear hpt hgt
          go_wp2_with (at_builtin; refine append_one rfl _ _ rfl w.heap.size _ _ _ rfl hown rfl (by omega) (by have := hB.size; omega) ?_; intro v' w2 hown' hgrow)
          go_roundw
          case rel =>
            refine ⟨d + 1, U, hTU, by omega, by omega, by omega, by go_num, ?_, ?_⟩
            · rw [hst, hcast, List.length_append, List.map_append]; exact hown'
            · exact (hB.alloc hB.size _).grown hgrow (by have := hB.size; simp; omega) (fun k hk => (hown.lt k hk).1)
          case measure => simp [intOf]; omega
      · obtain rfl : d = P := by omega
        have hdi : ¬ (d : Int) + 1 ≤ (d : Int) := by omega
        have hmul : (Q : Int) * (d : Int) = (T : Int) := by rw [hT.out, Int.mul_comm]; simp
        have hT2 : T = d ^ (j + 1) := by rw [Nat.pow_succ, ← hQ'.out, Nat.mul_comm, hT.out]
        have hT3 : Q < T := by rw [hT.out]; have := Nat.mul_le_mul_right Q hp2; omega
        have hT2' := hide hT2
        have hw1 : IntKind.i64.wrap (T : Int) = T := IntWalk.i64_in _ (by omega)
        clear hT hT2 hlt
        go_wp2
        go_roundw
        case rel => exact ⟨j + 1, T, hT2'.out, hTN, rfl, hown, hB⟩
        case measure => simp [intOf]; omega

theorem implWholeUp (row p : Int) (hf : Fits p) (w : World) : Calls Try.prog 24 #[.int .i64 row, .int .i64 p] w fun e w' =>
    ∃ v, e = .returned v ∧ w'.ownsRow w.heap.size 3 1 v (wholeUV row p).length ((wholeUV row p).map (Value.int .i64)) ∧ Below w.heap.size w w' := by
  by_cases hbad : badK row p
  · rw [wholeUV_bad hbad]
    unfold badK at hbad
    by_cases hr : row < 0 ∨ 999999999 < row
    · clear hbad
      go_enter Try.func24, Try.ntmps24
      go_wp2_with (go_at_call 41; refine (within_f _ _ _ (by omega)).mono ?_; rintro e w' ⟨rfl, rfl⟩)
      go_ret
      exact ⟨_, rfl, World.ownsRow_nil _ _ _ _, Below.refl _ _⟩
    · have hpr : prmI p = false := by
        rcases hbad with h | h | h
        · exact absurd (.inl h) hr
        · exact absurd (.inr h) hr
        · exact h
      have hP := fun w => implPrime_is hf hpr w
      clear hbad hpr hf
      go_enter Try.func24, Try.ntmps24
      go_wp2_with (first | (go_at_call 41; refine (within_t _ _ _ (by omega) (by omega)).mono ?_; rintro e w' ⟨rfl, rfl⟩) | (go_at_call 35; (with_reducible refine (hP _).mono ?_); rintro e w1 ⟨rfl, hB1⟩))
      go_ret
      exact ⟨_, rfl, World.ownsRow_nil _ _ _ _, hB1⟩
  · obtain ⟨N, P, rfl, rfl, hN, hp⟩ := badK_nat hbad
    rw [wholeUV_nat hN hp]
    exact implWholeUp_ok N P hN hp w
end Go.Proofs.Ytdhcdgmceiganaa
