/-
  The walk of the law on ComesAgain.
-/
import Derived.Test.YtmnmbelmcdfcjaaLaws10c
import Derived.Test.YtmnmbelmcdfcjaaSpec10d
namespace Go.Proofs.Ytmnmbelmcdfcjaa
open Go.RowKit Go.BigFrame

theorem again_false {xs : List Int} (h : againB xs = false) : againI xs = -1 ∧ againJ xs = -1 := by
  unfold againB at h
  unfold againI againJ
  cases e : againR xs with
  | none => exact ⟨rfl, rfl⟩
  | some p => rw [e] at h; cases h
theorem again_yes {xs : List Int} (h : againB xs = true) : ringB xs = true ∧ ∃ r b : Nat, r ≤ 2000 ∧ 1 ≤ b ∧ b ≤ r ∧ againI xs = r ∧ againJ xs = b ∧ Same (ringF xs) xs.length r (r - b) ∧ ∀ s, s < r → ∀ k, k < s → ¬ Same (ringF xs) xs.length s k := by
  unfold againB againR at h
  cases e1 : againN xs with
  | none => rw [e1] at h; cases h
  | some r =>
    rw [e1] at h
    simp only at h
    cases e2 : backI (ringF xs) xs.length r with
    | none => rw [e2] at h; cases h
    | some i =>
      have hR : againR xs = some (r, i + 1) := by unfold againR; rw [e1]; simp only; rw [e2]
      have hring : ringB xs = true := by
        unfold againN at e1
        cases hr : ringB xs with
        | true => rfl
        | false => rw [hr] at e1; cases e1
      have h1 := e1
      unfold againN at h1
      rw [if_pos hring, firstI_some] at h1
      have h2 := e2
      unfold backI at h2
      rw [firstI_some] at h2
      refine ⟨hring, r, i + 1, by omega, by omega, by omega, by unfold againI; rw [hR], by unfold againJ; rw [hR], ?_, fun s hs k hk hsame => ?_⟩
      · have := sameB_iff.1 h2.2.1
        rw [show r - (i + 1) = r - 1 - i by omega]
        exact this
      · have h3 := h1.2.2 s hs
        have h4 : backI (ringF xs) xs.length s = none := by
          cases e : backI (ringF xs) xs.length s with
          | none => rfl
          | some j => rw [e] at h3; cases h3
        unfold backI at h4
        rw [firstI_none] at h4
        have h5 := h4 (s - 1 - k) (by omega)
        rw [show s - 1 - (s - 1 - k) = k by omega] at h5
        rw [sameB_iff.2 hsame] at h5
        cases h5
theorem end_yes {xs : List Int} (h : endB xs = true) : ∃ e : Nat, e ≤ 2000 ∧ endI xs = e ∧ (∀ k, k < xs.length → dR (ringF xs) e k = 0) ∧ ∀ s, s < e → ¬ ∀ k, k < xs.length → dR (ringF xs) s k = 0 := by
  unfold endB at h
  cases e1 : endN xs with
  | none => rw [e1] at h; cases h
  | some e =>
    have h1 := e1
    unfold endN at h1
    cases hr : ringB xs with
    | false => rw [hr] at h1; cases h1
    | true =>
      rw [if_pos hr, firstI_some] at h1
      refine ⟨e, by omega, by unfold endI; rw [e1], zeroB_iff.1 h1.2.1, fun s hs hz => ?_⟩
      have := h1.2.2 s hs
      rw [zeroB_iff.2 hz] at this
      cases this
theorem mostF_hit {f : Nat → Nat} : ∀ {n : Nat}, 0 < n → ∃ k, f k = mostF f n
  | n + 1, _ => by
    by_cases h : mostF f n ≤ f n
    · exact ⟨n, by show f n = max (mostF f n) (f n); omega⟩
    · cases n with
      | zero => simp [mostF] at h
      | succ m =>
        obtain ⟨k, hk⟩ := mostF_hit (f := f) (n := m + 1) (by omega)
        exact ⟨k, by show f k = max (mostF f (m + 1)) (f (m + 1)); omega⟩

set_option maxRecDepth 100000 in
set_option maxHeartbeats 8000000 in
theorem lawAgain (a0 : Option Addr) (len0 cap0 : Nat) (z0 : List Int) (w : World) (w0 : IsRow .u8 w a0 len0 cap0 z0) :
    Calls Try.prog 8 #[.slice a0 len0 cap0] w fun e w' => e = .returned (.bool true) ∧ Below w.heap.size w w' := by
  by_cases hbig : 1048576 < len0
  · go_enter Try.func8, Try.ntmps8
    go_wp2
    go_ret
    exact ⟨rfl, Below.refl _ _⟩
  · go_enter Try.func8, Try.ntmps8
    go_wp2_with fail
    go_at_call 32
    refine (drawAgain w a0 len0 cap0 z0 w0).mono ?_
    rintro e w1 ⟨⟨v, xs, rfl, hv, hlies, hxl⟩, hB1⟩
    have hI : ∀ W, Below w1.heap.size w1 W → Calls Try.prog 33 #[v] W fun e w' => e = .returned (.tuple #[.int .i64 (againI xs), .int .i64 (againJ xs), .bool (againB xs)]) ∧ Below W.heap.size W w' := fun W h => implAgain v xs W (hv.below h) hlies (by omega)
    have hS : ∀ W, Below w1.heap.size w1 W → Calls Try.prog 34 #[v] W fun e w' => e = .returned (.tuple #[.int .i64 (againI xs), .int .i64 (againJ xs), .bool (againB xs)]) ∧ Below W.heap.size W w' := fun W h => specAgain v xs W (hv.below h) hlies (by omega)
    have hE : ∀ W, Below w1.heap.size w1 W → Calls Try.prog 27 #[v] W fun e w' => e = .returned (.tuple #[.int .i64 (endI xs), .bool (endB xs)]) ∧ Below W.heap.size W w' := fun W h => implEnd10 v xs W (hv.below h) hlies (by omega)
    have hD := Below.refl w1.heap.size w1
    cases hag : againB xs with
    | false =>
      obtain ⟨e1, e2⟩ := again_false hag
      rw [hag, e1, e2] at hI hS
      clear hv hlies hag e1 e2 hE
      go_wp2_with (first | (go_at_call 33; (with_reducible refine (hI _ hD).mono ?_); rintro e w' ⟨rfl, hB'⟩; replace hD := hD.trans (hB'.mono hD.size); clear hB') | (go_at_call 34; (with_reducible refine (hS _ hD).mono ?_); rintro e w' ⟨rfl, hB'⟩; replace hD := hD.trans (hB'.mono hD.size); clear hB') | (go_at_call 18; refine (alive_in _).mono ?_; rintro e w' ⟨rfl, hB'⟩; replace hD := hD.trans (hB'.mono hD.size); clear hB'))
      go_ret
      exact ⟨rfl, hB1.trans (hD.mono hB1.size)⟩
    | true =>
      obtain ⟨hside, r, b, hr, hb1, hbr, e1, e2, hsame, hfirst⟩ := again_yes hag
      rw [hag, e1, e2] at hI hS
      have hlen := ringB_len hside
      have hf := ringF_le hside
      have hp := ringF_per (xs := xs)
      have hper := fun r => per_dR hp r
      have hfun : dR (ringF xs) (r - b) = dR (ringF xs) r := per_eq (by omega) (hper _) (hper _) hsame
      have hR : ∀ W, Below w1.heap.size w1 W → Calls Try.prog 25 #[v, .int .i64 r] W fun e w' => ∃ u, e = .returned u ∧ w'.ownsRow W.heap.size 3 1 u xs.length ((rgL (dR (ringF xs) r) xs.length).map (Value.int .i64)) ∧ Below W.heap.size W w' := fun W h => by
        have h9 := specRounds v xs r W (hv.below h) hlies (by omega)
        rw [roundsV_nat hside hr, rgL_len] at h9
        exact h9
      have hR2 : ∀ W, Below w1.heap.size w1 W → Calls Try.prog 24 #[v, .int .i64 ((r : Int) - (b : Int))] W fun e w' => ∃ u, e = .returned u ∧ w'.ownsRow W.heap.size 3 1 u xs.length ((rgL (dR (ringF xs) r) xs.length).map (Value.int .i64)) ∧ Below W.heap.size W w' := fun W h => by
        have h9 := implRounds v xs ((r - b : Nat) : Int) (by unfold Fits; omega) W (hv.below h) hlies (by omega)
        rw [roundsV_nat hside (by omega), rgL_len, hfun, show ((r - b : Nat) : Int) = (r : Int) - (b : Int) by omega] at h9
        exact h9
      have hends : endB xs = true → endI xs = ((r : Int) - 1) ∧ b = 1 := fun he => by
        obtain ⟨e, _, h1, h2, h3⟩ := end_yes he
        have hz : dR (ringF xs) e = fun _ => 0 := per_eq (by omega) (hper e) (fun _ => rfl) h2
        have h4 := ring_end hz (fun s hs h => h3 s hs fun k _ => by rw [h]) hb1 hbr hfun.symm (fun s c hs hc1 hc2 h => hfirst s hs (s - c) (by omega) fun q _ => by rw [h])
        exact ⟨by rw [h1]; omega, h4.2⟩
      have htwo : ∀ k, dR (ringF xs) r k = 0 ∨ dR (ringF xs) r k = mostF (dR (ringF xs) r) xs.length := by
        have hy : dR (dR (ringF xs) r) b = dR (ringF xs) r := by
          have h9 : dR (dR (ringF xs) (r - b)) b = dR (ringF xs) r := by rw [dR_add, show r - b + b = r by omega]
          rwa [hfun] at h9
        exact ring_two (by omega) (hper r) (by omega) hy (mostF_all (by omega) (hper r)) (mostF_hit (by omega))
      have hhb := hundred hf r
      obtain ⟨EI, hEI⟩ : ∃ EI, endI xs = EI := ⟨_, rfl⟩
      obtain ⟨EB, hEB⟩ : ∃ EB, endB xs = EB := ⟨_, rfl⟩
      rw [hEI, hEB] at hE hends
      clear hv hlies hag hside e1 e2 hfun hfirst hsame hf hp hper hEI hEB
      generalize dR (ringF xs) r = h at *
      obtain ⟨n, hn⟩ : ∃ n, xs.length = n := ⟨_, rfl⟩
      rw [hn] at hlen hR hR2 htwo
      clear hn
      have hml := mostF_le hhb
      go_wp2_with fail
      go_at_call 33
      refine (hI _ hD).mono ?_
      rintro e w2 ⟨rfl, b2⟩
      replace hD := hD.trans (b2.mono hD.size)
      go_wp2_with fail
      go_at_call 34
      refine (hS _ hD).mono ?_
      rintro e w3 ⟨rfl, b3⟩
      replace hD := hD.trans (b3.mono hD.size)
      go_wp2_with fail
      go_at_call 25
      refine (hR _ hD).mono ?_
      rintro e w4 ⟨u, rfl, hown, b4⟩
      replace hD := hD.trans (b4.mono hD.size)
      clear hI hS hR b2 b3 b4
      obtain ⟨g, cg, rfl, _, hg, _, hcg⟩ := owns_open hown (by omega)
      have hcn : ∀ q, q < n → w4.cell? ⟨g, q, none⟩ = some (.int .i64 (h q : Nat)) := fun q hq => hcg q _ (by unfold rgL; rw [List.getElem?_map, List.getElem?_map, List.getElem?_range hq]; rfl)
      have hin := Ints.of_owns hown
      clear hown hcg
      go_wp2
      go_loop [11, 12] (fun o i => ∃ j : Nat, j ≤ n ∧ i = .int .i64 j ∧ o = .int .i64 (mostF h j : Nat)) (fun _ i => n - (intOf i).toNat)
      case atStart => exact ⟨0, by omega, rfl, rfl⟩
      case round =>
        obtain ⟨j, hj, rfl, rfl⟩ := hrel
        have hmj := hml j
        by_cases hjl : j < n
        · have hcj := hcn j hjl
          have hbj := hhb j
          have hms : ((mostF h (j + 1) : Nat) : Int) = if mostF h j < h j then (h j : Int) else (mostF h j : Int) := by
            show ((max (mostF h j) (h j) : Nat) : Int) = _
            split <;> omega
          have hms' := hide hms
          have hji : (j : Int) < (n : Int) := by omega
          clear hcn hhb hml hms htwo hE hR2 hends hin
          generalize h j = z at *
          generalize mostF h j = s at *
          go_wp2
          go_round
          case rel => exact ⟨j + 1, by omega, by go_num, by rw [hms'.out]⟩
          case measure => simp [intOf]; omega
        · obtain rfl : j = n := by omega
          have hjj : ¬ (j : Int) < (j : Int) := by omega
          generalize mostF h j = M at *
          go_wp2
          go_loop [13] (fun i => ∃ q : Nat, q ≤ j ∧ i = .int .i64 q) (fun i => j - (intOf i).toNat)
          case atStart => exact ⟨0, by omega, rfl⟩
          case round =>
            obtain ⟨q, hq, rfl⟩ := hrel
            by_cases hql : q < j
            · have hcq := hcn q hql
              have h2 := htwo q
              have hqi : (q : Int) < (j : Int) := by omega
              clear hcn hhb hml htwo hE hR2 hends hin
              generalize h q = z at *
              by_cases hz0 : z = 0
              · subst hz0
                go_wp2
                go_round
                case rel => exact ⟨q + 1, by omega, by go_num⟩
                case measure => simp [intOf]; omega
              · obtain rfl : z = M := h2.resolve_left hz0
                have hzi : ((z : Int) == 0) = false := by rw [beq_eq_false_iff_ne]; omega
                have hzn : ¬ (z : Int) = 0 := by omega
                go_wp2
                go_round
                case rel => exact ⟨q + 1, by omega, by go_num⟩
                case measure => simp [intOf]; omega
            · obtain rfl : q = j := by omega
              have hb1i : (1 : Int) ≤ (b : Int) := by omega
              have hbri : (b : Int) ≤ (r : Int) := by omega
              have hrw : IntKind.i64.wrap ((r : Int) - (b : Int)) = (r : Int) - (b : Int) := IntWalk.i64_in _ (by omega)
              clear hcn hhb hml htwo
              go_wp2_with fail
              go_at_call 27
              refine (hE _ hD).mono ?_
              rintro e w5 ⟨rfl, b5⟩
              replace hD := hD.trans (b5.mono hD.size)
              go_wp2_with fail
              go_at_call 24
              refine (hR2 _ hD).mono ?_
              rintro e w6 ⟨u6, rfl, ho6, b6⟩
              replace hD := hD.trans (b6.mono hD.size)
              go_wp2_with fail
              go_at_call 21
              refine (sameInts_in u6 _ _ w6 (by rw [rgL_len]; omega) (Ints.of_owns ho6) ((hin.below b5).below b6)).mono ?_
              rintro e w7 ⟨rfl, b7⟩
              replace hD := hD.trans (b7.mono hD.size)
              clear hE hR2 ho6 hin b5 b6 b7
              cases EB with
              | false =>
                go_wp2
                go_ret
                exact ⟨rfl, hB1.trans (hD.mono hB1.size)⟩
              | true =>
                obtain ⟨rfl, rfl⟩ := hends rfl
                have k1 : (r : Int) - 1 + 1 = (r : Int) := by omega
                have k2 : IntKind.i64.wrap (r : Int) = (r : Int) := IntWalk.i64_in _ (by omega)
                go_wp2
                go_ret
                exact ⟨rfl, hB1.trans (hD.mono hB1.size)⟩
end Go.Proofs.Ytmnmbelmcdfcjaa
