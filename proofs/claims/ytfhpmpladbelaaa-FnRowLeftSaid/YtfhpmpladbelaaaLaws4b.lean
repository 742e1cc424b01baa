/-
  The walk of the law FnRowLeft: it answers true at every code, and nothing that was there is written.
-/
import Derived.Test.YtfhpmpladbelaaaSpec4b
import Derived.Test.YtfhpmpladbelaaaSpec3
import Derived.Test.YtfhpmpladbelaaaImpl4
import Derived.Test.YtfhpmpladbelaaaLawKit2
import Derived.Test.YtfhpmpladbelaaaSpecRow
import Derived.Test.YtfhpmpladbelaaaSpecCell
import Derived.Test.YtfhpmpladbelaaaSpec4c
import Derived.Test.YtfhpmpladbelaaaAlive
import Derived.BigQuiet
import Derived.Test.YtfhpmpladbelaaaDrawRowL
namespace Go.Proofs.Ytfhpmpladbelaaa
open Go.RowKit

/-- The model's row, whole or nothing. -/
theorem specRowOf_any (r : Nat) (w : World) : Calls Try.prog 18 #[.int .i64 r] w fun e w' => ∃ a n c, e = .returned (.slice a n c) ∧ n ≤ r + 1 ∧ (0 < n → r ≤ 60) ∧ (0 < n → ∃ g, a = some ⟨g, 0, none⟩ ∧ g < w'.heap.size ∧ ∀ k, k < n → w'.cell? ⟨g, k, none⟩ = some (.int .i64 (bin r k))) ∧ Below w.heap.size w w' := by
  by_cases h : r ≤ 60
  · refine (specRow_in r h w).mono fun e w' ⟨v, he, hown, hB⟩ => ?_
    rw [rowN_len] at hown
    obtain ⟨g, cap, rfl, _, h2, _, hc⟩ := owns_open hown (by omega)
    exact ⟨_, r + 1, cap, he, Nat.le_refl _, fun _ => h, fun _ => ⟨g, rfl, h2, fun k hk => hc k _ (by rw [rowN, List.getElem?_map, List.getElem?_map, List.getElem?_range hk]; rfl)⟩, hB⟩
  · refine (specRow_out r (by omega) w).mono fun e w' ⟨v, he, hown, hB⟩ => ?_
    obtain ⟨a, c, rfl⟩ : ∃ a c, v = .slice a 0 c := by
      rcases hown.2 with ⟨rfl, _⟩ | ⟨g, cap, cur, rfl, _⟩
      · exact ⟨_, _, rfl⟩
      · exact ⟨_, _, rfl⟩
    exact ⟨a, 0, c, he, by omega, fun h => by omega, fun h => by omega, hB⟩
/-- The program's row, whole. -/
theorem implRowLeft_at (r q : Nat) (hr : r ≤ 300) (hq : 2 ≤ q) (hq2 : q ≤ 1000) (w : World) : Calls Try.prog 16 #[.int .i64 r, .int .i64 q] w fun e w' =>
    ∃ g cap, e = .returned (.slice (some ⟨g, 0, none⟩) (r + 1) cap) ∧ g < w'.heap.size ∧ Ints w' (.slice (some ⟨g, 0, none⟩) (r + 1) cap) (rowLN q r) ∧ (∀ k, k < r + 1 → w'.cell? ⟨g, k, none⟩ = some (.int .i64 (leftN q r k))) ∧ Below w.heap.size w w' := by
  refine (implRowLeft_in r q hr hq hq2 w).mono fun e w' ⟨v, he, hown, hB⟩ => ?_
  have hi := Ints.of_owns hown
  rw [rowLN_len] at hown
  obtain ⟨g, cap, rfl, _, h2, _, hc⟩ := owns_open hown (by omega)
  exact ⟨g, cap, he, h2, hi, fun k hk => hc k _ (by unfold rowLN; rw [List.getElem?_map, rowLP_get q r (r + 1) k hk]; rfl), hB⟩

set_option maxHeartbeats 4000000 in
theorem lawRowLeft (a0 : Option Addr) (len0 cap0 : Nat) (z0 : List Int) (w : World) (w0 : IsRow .u8 w a0 len0 cap0 z0) :
    Calls Try.prog 4 #[.slice a0 len0 cap0] w fun e w' => e = .returned (.bool true) ∧ Below w.heap.size w w' := by
  by_cases hbig : 1048576 < len0
  · go_enter Try.func4, Try.ntmps4
    go_wp2
    go_ret
    exact ⟨rfl, Below.refl _ _⟩
  · go_enter Try.func4, Try.ntmps4
    go_wp2_with fail
    go_at_call 15
    refine (drawRowLeft w a0 len0 cap0 z0 w0).mono ?_
    rintro e w1 ⟨⟨x, y, hx, hy, rfl⟩, hB1⟩
    by_cases hbad : badR x y
    · have hI := fun w => implRowLeft x y w
      have hS := fun w => specRowLeft x y w
      rw [rowLV_bad hbad] at hI hS
      clear hbad
      go_wp2_with fail
      go_at_call 16
      refine (hI _).mono ?_
      rintro e w2 ⟨v2, rfl, hown2, hB2⟩
      replace hB1 := hB1.trans (hB2.mono hB1.size)
      go_wp2_with fail
      go_at_call 13
      refine (hS _).mono ?_
      rintro e w3 ⟨v3, rfl, hown3, hB3⟩
      replace hB1 := hB1.trans (hB3.mono hB1.size)
      have hi2 := (Ints.of_owns (xs := []) hown2).below hB3
      have hi3 := Ints.of_owns (xs := []) hown3
      clear hown2 hown3
      obtain ⟨a, c, rfl⟩ := Ints.form hi2
      go_wp2_with fail
      go_at_call 17
      refine (sameInts_in _ _ [] _ (by simp) hi2 hi3).mono ?_
      rintro e w4 ⟨rfl, hB4⟩
      replace hB1 := hB1.trans (hB4.mono hB1.size)
      clear hi2 hi3
      go_wp2_with (go_at_call 12; refine (alive_in _).mono ?_; rintro e w' ⟨rfl, hB'⟩; replace hB1 := hB1.trans (hB'.mono hB1.size); clear hB')
      go_ret
      exact ⟨rfl, hB1⟩
    · unfold badR at hbad
      obtain ⟨r, rfl⟩ : ∃ n : Nat, x = n := ⟨x.toNat, by omega⟩
      obtain ⟨q, rfl⟩ : ∃ n : Nat, y = n := ⟨y.toNat, by omega⟩
      have hr : r ≤ 300 := by omega
      have hq : 2 ≤ q := by omega
      have hq2 : q ≤ 1000 := by omega
      clear hbad hx hy
      go_wp2_with fail
      go_at_call 16
      refine (implRowLeft_at r q hr hq hq2 _).mono ?_
      rintro e w2 ⟨g, cap, rfl, hg, hi2, hc, hB2⟩
      replace hB1 := hB1.trans (hB2.mono hB1.size)
      go_wp2_with fail
      go_at_call 13
      refine (specRowLeft_in r q hr hq hq2 _).mono ?_
      rintro e w3 ⟨v3, rfl, hown3, hB3⟩
      replace hB1 := hB1.trans (hB3.mono hB1.size)
      have hi3 := Ints.of_owns hown3
      clear hown3
      go_wp2_with fail
      go_at_call 17
      refine (sameInts_in _ _ (rowLN q r) _ (by rw [rowLN_len]; omega) (hi2.below hB3) hi3).mono ?_
      rintro e w4 ⟨rfl, hB4⟩
      replace hB1 := hB1.trans (hB4.mono hB1.size)
      clear hi2 hi3
      have hl0 : ((r : Int) + 1 == 0) = false := by simp; omega
      go_wp2_with fail
      go_at_call 18
      refine (specRowOf_any r _).mono ?_
      rintro e w5 ⟨aw, nw, cw, rfl, hnw, hn60, hcw, hB5⟩
      replace hB1 := hB1.trans (hB5.mono hB1.size)
      have hg5 : g < w5.heap.size := Nat.lt_of_lt_of_le hg (Nat.le_trans hB3.size (Nat.le_trans hB4.size hB5.size))
      have hc5 : ∀ k, k < r + 1 → w5.cell? ⟨g, k, none⟩ = some (.int .i64 (leftN q r k)) := fun k hk =>
        (hB5.cell (p := ⟨g, k, none⟩) (Nat.lt_of_lt_of_le hg (Nat.le_trans hB3.size hB4.size))).trans ((hB4.cell (p := ⟨g, k, none⟩) (Nat.lt_of_lt_of_le hg hB3.size)).trans ((hB3.cell (p := ⟨g, k, none⟩) hg).trans (hc k hk)))
      clear hB2 hB3 hB4 hB5 hc hg
      have hq0 : ((q : Int) == 0) = false := by simp; omega
      have hq00 : (q = 0) = False := by simp; omega
      go_wp2
      go_loopw [7] (fun n wr => ∃ k : Nat, k ≤ nw ∧ n = .int .i64 k ∧ Below w5.heap.size w5 wr) (fun n _ => nw - (intOf n).toNat)
      case atStart => exact ⟨0, by omega, rfl, Below.refl _ _⟩
      case round =>
        obtain ⟨k, hk, rfl, hB6⟩ := hrel
        by_cases hlt : k < nw
        · obtain ⟨gw, rfl, hgw, hcw'⟩ := hcw (by omega)
          have h1 := (hB6.cell (p := ⟨g, k, none⟩) hg5).trans (hc5 k (by omega))
          have h2 := (hB6.cell (p := ⟨gw, k, none⟩) hgw).trans (hcw' k hlt)
          have h60 := hn60 (by omega)
          have h3 := bin_le r k
          have h4 : 2 ^ r ≤ 2 ^ 60 := Nat.pow_le_pow_right (by omega) h60
          have h5 := tmod_n (bin r k) q
          have h6 : ((bin r k % q : Nat) : Int) = (leftN q r k : Nat) := rfl
          rw [h6] at h5
          have h7 := leftN_lt hq r k
          clear hc5 hcw hcw' h6
          generalize bin r k = A at *
          generalize leftN q r k = C at *
          generalize 2 ^ r = T at *
          have hkw : (k : Int) < (nw : Int) := by omega
          have hkr : (k : Int) < (r : Int) + 1 := by omega
          have hw6 : IntKind.i64.wrap (C : Int) = C := IntWalk.i64_in _ (by omega)
          clear h3 h4 hn60 hgw hg5
          go_wp2
          go_quiet (fail)
          all_goals
            go_wp2
            go_roundw
            case rel => exact ⟨k + 1, by omega, by go_num, ⟨hB6.os, hB6.tape, hB6.output, hB6.size, hB6.block⟩⟩
            case measure => simp [intOf]; omega
        · obtain rfl : k = nw := by omega
          have hc6 : ∀ i, i < r + 1 → wr.cell? ⟨g, i, none⟩ = some (.int .i64 (leftN q r i)) := fun i hi => (hB6.cell (p := ⟨g, i, none⟩) hg5).trans (hc5 i hi)
          replace hB1 := hB1.trans (hB6.mono hB1.size)
          have h0c : wr.cell? ⟨g, 0, none⟩ = some (.int .i64 1) := by have := hc6 0 (by omega); rw [leftN_zero hq] at this; exact this
          have hrc : wr.cell? ⟨g, r, none⟩ = some (.int .i64 1) := by have := hc6 r (by omega); rw [leftN_self hq] at this; exact this
          replace hc6 := hide hc6
          clear hc5 hcw hn60 hB6 hg5 hlt hnw
          have hrr : (r : Int) < (r : Int) + 1 := by omega
          go_wp2
          obtain ⟨wo, rfl⟩ : ∃ wo : World, wo = wr := ⟨_, rfl⟩
          go_loopw [8] (fun m wi => ∃ M : Nat, M ≤ r ∧ m = .int .i64 M ∧ wo = wi ∧ Hid (0 < M → 0 < r ∧ strip q M = strip q r)) (fun m _ => (intOf m).toNat)
          case atStart => exact ⟨r, Nat.le_refl _, rfl, rfl, hide (fun h => ⟨h, rfl⟩)⟩
          case round =>
            obtain ⟨M, hM, rfl, rfl, hst⟩ := hrel
            by_cases hgo : 0 < M ∧ M % q = 0
            · obtain ⟨hM0, hMq⟩ := hgo
              have h1 := tmod_n M q
              rw [hMq] at h1
              have h2 := tdiv_n M q
              have h3 : M / q < M := Nat.div_lt_self hM0 hq
              have h4 : 0 < M / q → 0 < r ∧ strip q (M / q) = strip q r := fun h => ⟨(hst.out hM0).1, by rw [← strip_yes hq hM0 hMq]; exact (hst.out hM0).2⟩
              replace h4 := hide h4
              generalize M / q = D at *
              have hMi : (0 : Int) < (M : Int) := by omega
              have hw6 : IntKind.i64.wrap (D : Int) = D := IntWalk.i64_in _ (by omega)
              have h1' : Int.tmod (M : Int) (q : Int) = 0 := by simpa using h1
              clear hst hMq h1
              go_wp2
              go_roundw
              case rel => exact ⟨D, by omega, by go_num, by first | rfl | trivial, h4⟩
              case measure => simp [intOf]; omega
            · have hstop : Hid (M = 1 → strip q r = 1) := hide (fun h => by
                subst h
                rw [← (hst.out (by omega)).2]
                exact strip_no (by rw [Nat.mod_eq_of_lt (by omega)]; omega))
              obtain ⟨C, hC⟩ : ∃ C, M % q = C := ⟨_, rfl⟩
              have h1 := tmod_n M q
              rw [hC] at hgo h1
              have hCq : C < q := by rw [← hC]; exact Nat.mod_lt _ (by omega)
              clear hst hC
              have hw6 : IntKind.i64.wrap (C : Int) = C := IntWalk.i64_in _ (by omega)
              by_cases hM0 : M = 0
              · subst hM0
                clear hstop hgo h1 hc6
                go_wp2
                go_ret
                exact ⟨rfl, hB1⟩
              · have hMi : (0 : Int) < (M : Int) := by omega
                have hCn : ((C : Int) == 0) = false := by simp; omega
                by_cases hM1 : M = 1
                · subst hM1
                  have h1' : Int.tmod 1 (q : Int) = (C : Int) := by simpa using h1
                  clear h1 hgo hM0
                  by_cases hr1 : 1 < r
                  · have hr1i : (1 : Int) < (r : Int) := by omega
                    cases hpr : prmI q with
                    | true =>
                      obtain ⟨P, hPq, hprm⟩ := prmI_t hpr
                      obtain rfl : q = P := by omega
                      have hends : Hid (∀ k, 0 < k → k < r → leftN q r k = 0) := hide (fun k h1 h2 => strip_ends hprm r k h1 h2 (hstop.out rfl))
                      have hP := fun w => specPrime_is hpr w
                      clear hpr hstop hPq hprm
                      go_wp2_with (go_at_call 19; refine (hP _).mono ?_; rintro e w' ⟨rfl, rfl⟩)
                      clear hP
                      go_loopw [9] (fun n wi => ∃ k : Nat, 1 ≤ k ∧ k ≤ r ∧ n = .int .i64 k ∧ wo = wi) (fun n _ => r - (intOf n).toNat)
                      case atStart => exact ⟨1, by omega, by omega, rfl, rfl⟩
                      case round =>
                        obtain ⟨k, hk1, hk, rfl, rfl⟩ := hrel
                        by_cases hlt : k < r
                        · have hck := hc6.out k (by omega)
                          rw [hends.out k (by omega) hlt] at hck
                          have hck' : wo.cell? ⟨g, k, none⟩ = some (.int .i64 0) := by simpa using hck
                          have hki : (k : Int) < (r : Int) := by omega
                          have hkr : (k : Int) < (r : Int) + 1 := by omega
                          clear hck hc6 hends h0c hrc
                          go_wp2
                          go_roundw
                          case rel => exact ⟨k + 1, by omega, by omega, by go_num, by first | rfl | trivial⟩
                          case measure => simp [intOf]; omega
                        · obtain rfl : k = r := by omega
                          clear hc6 hends
                          go_wp2
                          go_ret
                          exact ⟨rfl, hB1⟩
                    | false =>
                      have hP := fun w => specPrime_is hpr w
                      clear hpr hstop hc6
                      go_wp2_with (go_at_call 19; refine (hP _).mono ?_; rintro e w' ⟨rfl, rfl⟩)
                      go_ret
                      exact ⟨rfl, hB1⟩
                  · have hr1i : ¬ (1 : Int) < (r : Int) := by omega
                    clear hstop hc6
                    go_wp2
                    go_ret
                    exact ⟨rfl, hB1⟩
                · have hM1i : ((M : Int) == 1) = false := by simp; omega
                  clear hstop hc6 hgo
                  go_wp2
                  go_ret
                  exact ⟨rfl, hB1⟩
end Go.Proofs.Ytfhpmpladbelaaa
