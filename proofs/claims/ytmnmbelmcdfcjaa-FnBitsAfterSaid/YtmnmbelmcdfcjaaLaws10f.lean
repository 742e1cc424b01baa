/-
  The walk of the law on BitsAfter.
-/
import Derived.Test.YtmnmbelmcdfcjaaImpl10
import Derived.Test.YtmnmbelmcdfcjaaSpec10c
import Derived.Test.YtmnmbelmcdfcjaaLaws10
import Derived.Test.YtmnmbelmcdfcjaaDrawBits10
import Derived.Test.YtmnmbelmcdfcjaaKit3
namespace Go.Proofs.Ytmnmbelmcdfcjaa
open Go.RowKit Go.BigFrame

set_option maxRecDepth 100000 in
set_option maxHeartbeats 4000000 in
theorem lawBits (a0 : Option Addr) (len0 cap0 : Nat) (z0 : List Int) (w : World) (w0 : IsRow .u8 w a0 len0 cap0 z0) :
    Calls Try.prog 7 #[.slice a0 len0 cap0] w fun e w' => e = .returned (.bool true) ∧ Below w.heap.size w w' := by
  by_cases hbig : 1048576 < len0
  · go_enter Try.func7, Try.ntmps7
    go_wp2
    go_ret
    exact ⟨rfl, Below.refl _ _⟩
  · go_enter Try.func7, Try.ntmps7
    go_wp2_with fail
    go_at_call 29
    refine (drawBits w a0 len0 cap0 z0 w0).mono ?_
    rintro e w1 ⟨⟨v, xs, r, rfl, hv, hlies, hxl, hrf⟩, hB1⟩
    have hI := implBits v xs r hrf w1 hv hlies (by omega)
    have hS : ∀ W, Below w1.heap.size w1 W → Calls Try.prog 31 #[v, .int .i64 r] W fun e w' => ∃ u, e = .returned u ∧ w'.ownsRow W.heap.size 3 1 u (bitsV xs r).length ((bitsV xs r).map (Value.int .i64)) ∧ Below W.heap.size W w' := fun W h => specBits v xs r W (hv.below h) (by omega)
    have hRl := bitsV_len xs r
    go_wp2_with fail
    go_at_call 30
    refine hI.mono ?_
    rintro e w2 ⟨x, rfl, hown2, b2⟩
    have hx2 := Ints.of_owns hown2
    clear hI hown2
    go_wp2_with fail
    go_at_call 31
    refine (hS _ b2).mono ?_
    rintro e w3 ⟨y, rfl, hown3, b3⟩
    have hD3 := b2.trans (b3.mono b2.size)
    have hx3 := hx2.below b3
    clear hS
    go_wp2_with fail
    go_at_call 21
    refine (sameInts_in x y _ w3 (by omega) hx3 (Ints.of_owns hown3)).mono ?_
    rintro e w4 ⟨rfl, b4⟩
    have hD4 := hD3.trans (b4.mono hD3.size)
    have hx4 := hx3.below b4
    clear hown3 hx2 hx3 b2 b3 b4 hD3
    by_cases hgood : ringB xs = true ∧ (0 ≤ r ∧ r ≤ 300) ∧ xs.all (fun x => decide (x ≤ 1)) = true
    case neg =>
      obtain ⟨a, c, rfl⟩ := hx4.shape
      have e0 : bitsV xs r = [] := if_neg hgood
      rw [e0]
      clear hv hlies hgood hx4 e0
      go_wp2_with (go_at_call 18; refine (alive_in _).mono ?_; rintro e w6 ⟨rfl, b6⟩; have hD6 := hD4.trans (b6.mono hD4.size))
      go_ret
      exact ⟨rfl, hB1.trans (hD6.mono hB1.size)⟩
    case pos =>
      obtain ⟨hside, ⟨hr0, hr3⟩, hall⟩ := hgood
      have hone : ∀ i, i < xs.length → xs.getD i 0 ≤ 1 := fun i hi => by
        have := List.all_eq_true.1 hall (xs.getD i 0) (by rw [List.getD, List.getElem?_eq_getElem hi]; exact List.getElem_mem hi)
        simpa using this
      obtain ⟨R, rfl⟩ : ∃ R : Nat, r = R := ⟨r.toNat, by omega⟩
      have hR : R ≤ 300 := by omega
      have hlen := ringB_len hside
      have hp := ringF_per (xs := xs)
      have hf : ∀ k, ringF xs k ≤ 1 := fun k => by
        have hk : k % xs.length < xs.length := Nat.mod_lt _ (by omega)
        have h1 := hone _ hk
        have h2 := ringB_at hside hk
        show natL xs (k % xs.length) ≤ 1
        unfold natL
        omega
      have hv4 := hv.below hD4
      rw [bitsV_nat hside hR hone] at hx4
      have hRR : ∀ W, Below w4.heap.size w4 W → Calls Try.prog 24 #[v, .int .i64 (R : Nat)] W fun e w' => ∃ u, e = .returned u ∧ w'.ownsRow W.heap.size 3 1 u xs.length ((rgL (st (ringF xs) R) xs.length).map (Value.int .i64)) ∧ Below W.heap.size W w' := fun W hW => by
        have h9 := implRounds v xs ((R : Nat) : Int) (by unfold Fits; omega) W (hv4.below hW) hlies (by omega)
        rw [roundsV_nat hside (by omega), rgL_congr _ (fun k _ => dR_bits hf R k), rgL_len] at h9
        exact h9
      obtain ⟨g, cap, rfl, hg, hc⟩ := hv4.cells hlen.1
      have hcf : ∀ i, i < xs.length → w4.cell? ⟨g, i, none⟩ = some (.int .i64 (ringF xs i : Nat)) := fun i hi => by rw [hc i hi, ringF_get hside hi]
      obtain ⟨gx, cx, rfl, hgx, hcx⟩ := hx4.cells (by rw [rgL_len]; omega)
      rw [rgL_len] at hcx hx4 ⊢
      have hcx' : ∀ i, i < xs.length → w4.cell? ⟨gx, i, none⟩ = some (.int .i64 (st (ringF xs) R i : Nat)) := fun i hi => by rw [hcx i hi, rgL_getD _ _ _ hi]
      have hpw : strip 2 R = 1 → ∀ k, st (ringF xs) R k = (ringF xs k + ringF xs (k + R)) % 2 := fun hs k => by
        refine st_power hf hs ?_ k
        rcases Nat.eq_zero_or_pos R with h0 | h0
        · subst h0; exact absurd hs (by decide +kernel)
        · exact h0
      generalize hff : ringF xs = f at *
      obtain ⟨n, hn⟩ : ∃ n, xs.length = n := ⟨_, rfl⟩
      rw [hn] at hlen hp hRR hcf hcx' hx4 ⊢
      have hn0 : ((n : Int) == 0) = false := by rw [beq_eq_false_iff_ne]; omega
      have hn1 : ¬ (n : Int) = 0 := by omega
      clear hv hv4 hc hcx hside hlies hrf hff hRl hone hall hr0 hr3
      go_wp2
      go_loopw [6] (fun q wr => ∃ k : Nat, q = .int .i64 k ∧ k ≤ R ∧ strip 2 k = strip 2 R ∧ Below w4.heap.size w4 wr) (fun q _ => (intOf q).toNat)
      case atStart => exact ⟨R, rfl, Nat.le_refl _, rfl, Below.refl _ _⟩
      case round =>
        obtain ⟨q, rfl, hq, hqs, hB⟩ := hrel
        by_cases h2 : 0 < q ∧ q % 2 = 0
        · have h1 : (0 : Int) < (q : Int) := by omega
          have h3 : Int.tmod (q : Int) 2 = 0 := by have := tmod_nat' q 2; rw [h2.2] at this; exact this
          have h4 : IntKind.i64.wrap (Int.tdiv (q : Int) 2) = ((q / 2 : Nat) : Int) := by
            rw [show Int.tdiv (q : Int) 2 = ((q / 2 : Nat) : Int) from rfl]; exact IntWalk.i64_in _ (by omega)
          go_wp2
          go_roundw
          case rel => exact ⟨q / 2, by go_num, by omega, by rw [← hqs, strip_yes (by omega) h2.1 h2.2], hB⟩
          case measure => simp [intOf]; omega
        · have hqe : q = strip 2 R := by
            rw [← hqs]
            rcases Nat.eq_zero_or_pos q with h0 | h0
            · subst h0; decide +kernel
            · exact (strip_no (fun e => h2 ⟨h0, e⟩)).symm
          have hgo : (q = 0) ∨ (0 < q ∧ Int.tmod (q : Int) 2 = 1) := by
            rcases Nat.eq_zero_or_pos q with h0 | h0
            · exact .inl h0
            · refine .inr ⟨h0, ?_⟩
              have := tmod_nat' q 2
              rw [show q % 2 = 1 by omega] at this
              exact this
          clear hqs h2
          generalize hP : strip 2 R = P at *
          subst hqe
          clear hP
          rcases hgo with rfl | ⟨h5, h6⟩
          · have h8 : (((0 : Nat) : Int) == 1) = false := by decide
            clear hpw
            go_wp2
            go_loopw [7] (fun i wi => ∃ k : Nat, k ≤ n ∧ i = .int .i64 k ∧ Below w4.heap.size w4 wi) (fun i _ => n - (intOf i).toNat)
            case atStart => exact ⟨0, by omega, rfl, hB⟩
            case round =>
              clear hB
              obtain ⟨k, hk, rfl, hC⟩ := hrel
              by_cases hkn : k < n
              · have hki : (k : Int) < (n : Int) := by omega
                go_wp2_with fail
                go_at_call 24
                refine (hRR _ hC).mono ?_
                rintro e w8 ⟨u8, rfl, ho8, b8⟩
                replace hC := hC.trans (b8.mono hC.size)
                have hx8 := hx4.below hC
                go_wp2_with fail
                go_at_call 21
                refine (sameInts_in u8 _ _ w8 (by rw [rgL_len]; omega) (Ints.of_owns ho8) hx8).mono ?_
                rintro e w9 ⟨rfl, b9⟩
                replace hC := hC.trans (b9.mono hC.size)
                clear hRR ho8 hx8 hx4
                go_wp2
                go_ret
                exact ⟨rfl, hB1.trans ((hD4.trans (hC.mono hD4.size)).mono hB1.size)⟩
              · have hki : ¬ (k : Int) < (n : Int) := by omega
                go_wp2_with fail
                go_at_call 24
                refine (hRR _ hC).mono ?_
                rintro e w8 ⟨u8, rfl, ho8, b8⟩
                replace hC := hC.trans (b8.mono hC.size)
                have hx8 := hx4.below hC
                go_wp2_with fail
                go_at_call 21
                refine (sameInts_in u8 _ _ w8 (by rw [rgL_len]; omega) (Ints.of_owns ho8) hx8).mono ?_
                rintro e w9 ⟨rfl, b9⟩
                replace hC := hC.trans (b9.mono hC.size)
                clear hRR ho8 hx8 hx4
                go_wp2
                go_ret
                exact ⟨rfl, hB1.trans ((hD4.trans (hC.mono hD4.size)).mono hB1.size)⟩
          · have h7 : (0 : Int) < (q : Int) := by omega
            go_wp2
            go_loopw [7] (fun i wi => ∃ k : Nat, k ≤ n ∧ i = .int .i64 k ∧ Below w4.heap.size w4 wi) (fun i _ => n - (intOf i).toNat)
            case atStart => exact ⟨0, by omega, rfl, hB⟩
            case round =>
              clear hB
              obtain ⟨k, hk, rfl, hC⟩ := hrel
              by_cases hkn : k < n
              · have hki : (k : Int) < (n : Int) := by omega
                by_cases hq1 : q = 1
                · subst hq1
                  have hst := hpw rfl k
                  obtain ⟨m, hm⟩ : ∃ m, (k + R) % n = m := ⟨_, rfl⟩
                  have hmn : m < n := by rw [← hm]; exact Nat.mod_lt _ (by omega)
                  have hfm : f m = f (k + R) := by rw [← hm]; exact per_mod hp (k + R)
                  have q1 : ∀ m : After w4, m.now.cell? ⟨g, k, none⟩ = some (.int .i64 (f k : Nat)) := fun m => (m.ok.cell (p := ⟨g, k, none⟩) hg).trans (hcf k hkn)
                  have q2 : ∀ n : After w4, n.now.cell? ⟨g, m, none⟩ = some (.int .i64 (f (k + R) : Nat)) := fun n => by rw [← hfm]; exact (n.ok.cell (p := ⟨g, m, none⟩) hg).trans (hcf m hmn)
                  have q3 : ∀ m : After w4, m.now.cell? ⟨gx, k, none⟩ = some (.int .i64 (st f R k : Nat)) := fun m => (m.ok.cell (p := ⟨gx, k, none⟩) hgx).trans (hcx' k hkn)
                  have hq2 : Int.tmod ((k : Int) + (R : Int)) (n : Int) = (m : Int) := by have := tmod_n (k + R) n; rw [hm] at this; simpa using this
                  have hf0 := hf k
                  have hf1 := hf (k + R)
                  rw [hst] at q3
                  have hmi : (m : Int) < (n : Int) := by omega
                  have hw1 : IntKind.i64.wrap (m : Int) = m := IntWalk.i64_in _ (by omega)
                  have hw2 : IntKind.i64.wrap ((k : Int) + (R : Int)) = (k : Int) + (R : Int) := IntWalk.i64_in _ (by omega)
                  clear hst hcf hcx' hp hf hpw hm hfm hx4 hRR
                  generalize f k = s at *
                  generalize f (k + R) = t at *
                  have hw3 : IntKind.i64.wrap ((s : Int) + (t : Int)) = (s : Int) + (t : Int) := IntWalk.i64_in _ (by omega)
                  have hq3 : Int.tmod ((s : Int) + (t : Int)) 2 = (((s + t) % 2 : Nat) : Int) := by have := tmod_nat' (s + t) 2; simpa using this
                  have hw4 : IntKind.i64.wrap (((s + t) % 2 : Nat) : Int) = (((s + t) % 2 : Nat) : Int) := IntWalk.i64_in _ (by omega)
                  generalize (s + t) % 2 = d at *
                  go_wp2
                  refine wp_region_below w4 (by kernel_rfl) (by kernel_rfl) hC ?_
                  repeat (go_big_quiet_step (fail))
                  refine wpQuiet_nil ?_
                  rintro _ ⟨nq, rfl⟩
                  clear q1 q2 q3
                  go_wp2
                  go_roundw
                  case rel => exact ⟨k + 1, by omega, by go_num, nq.ok⟩
                  case measure => simp [intOf]; omega
                · have hq8 : ((q : Int) == 1) = false := by rw [beq_eq_false_iff_ne]; omega
                  clear hpw hcf hcx'
                  go_wp2_with fail
                  go_at_call 24
                  refine (hRR _ hC).mono ?_
                  rintro e w8 ⟨u8, rfl, ho8, b8⟩
                  replace hC := hC.trans (b8.mono hC.size)
                  have hx8 := hx4.below hC
                  go_wp2_with fail
                  go_at_call 21
                  refine (sameInts_in u8 _ _ w8 (by rw [rgL_len]; omega) (Ints.of_owns ho8) hx8).mono ?_
                  rintro e w9 ⟨rfl, b9⟩
                  replace hC := hC.trans (b9.mono hC.size)
                  clear hRR ho8 hx8 hx4
                  go_wp2
                  go_ret
                  exact ⟨rfl, hB1.trans ((hD4.trans (hC.mono hD4.size)).mono hB1.size)⟩
              · have hki : ¬ (k : Int) < (n : Int) := by omega
                clear hpw hcf hcx'
                go_wp2_with fail
                go_at_call 24
                refine (hRR _ hC).mono ?_
                rintro e w8 ⟨u8, rfl, ho8, b8⟩
                replace hC := hC.trans (b8.mono hC.size)
                have hx8 := hx4.below hC
                go_wp2_with fail
                go_at_call 21
                refine (sameInts_in u8 _ _ w8 (by rw [rgL_len]; omega) (Ints.of_owns ho8) hx8).mono ?_
                rintro e w9 ⟨rfl, b9⟩
                replace hC := hC.trans (b9.mono hC.size)
                clear hRR ho8 hx8 hx4
                go_wp2
                go_ret
                exact ⟨rfl, hB1.trans ((hD4.trans (hC.mono hD4.size)).mono hB1.size)⟩
end Go.Proofs.Ytmnmbelmcdfcjaa
