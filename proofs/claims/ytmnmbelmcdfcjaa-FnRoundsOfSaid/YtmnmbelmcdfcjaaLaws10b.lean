/-
  The walk of the law on RoundsOf.
-/
import Derived.Test.YtmnmbelmcdfcjaaLaws10
import Derived.Test.YtmnmbelmcdfcjaaKit3
namespace Go.Proofs.Ytmnmbelmcdfcjaa
open Go.RowKit Go.BigFrame

set_option maxRecDepth 100000 in
set_option maxHeartbeats 4000000 in
theorem lawRounds (a0 : Option Addr) (len0 cap0 : Nat) (z0 : List Int) (w : World) (w0 : IsRow .u8 w a0 len0 cap0 z0) :
    Calls Try.prog 5 #[.slice a0 len0 cap0] w fun e w' => e = .returned (.bool true) ∧ Below w.heap.size w w' := by
  by_cases hbig : 1048576 < len0
  · go_enter Try.func5, Try.ntmps5
    go_wp2
    go_ret
    exact ⟨rfl, Below.refl _ _⟩
  · go_enter Try.func5, Try.ntmps5
    go_wp2_with fail
    go_at_call 23
    refine (drawRounds w a0 len0 cap0 z0 w0).mono ?_
    rintro e w1 ⟨⟨v, xs, r, rfl, hv, hlies, hxl, hrf⟩, hB1⟩
    have hI := implRounds v xs r hrf w1 hv hlies (by omega)
    have hS : ∀ W, Below w1.heap.size w1 W → Calls Try.prog 25 #[v, .int .i64 r] W fun e w' => ∃ u, e = .returned u ∧ w'.ownsRow W.heap.size 3 1 u (roundsV xs r).length ((roundsV xs r).map (Value.int .i64)) ∧ Below W.heap.size W w' := fun W h => specRounds v xs r W (hv.below h) hlies (by omega)
    have hRl := roundsV_len xs r
    go_wp2_with fail
    go_at_call 24
    refine hI.mono ?_
    rintro e w2 ⟨x, rfl, hown2, b2⟩
    have hx2 := Ints.of_owns hown2
    have hl2 := Lies.of_owns hown2
    clear hI hown2
    go_wp2_with fail
    go_at_call 25
    refine (hS _ b2).mono ?_
    rintro e w3 ⟨y, rfl, hown3, b3⟩
    have hD3 := b2.trans (b3.mono b2.size)
    have hx3 := hx2.below b3
    clear hS
    go_wp2_with fail
    go_at_call 21
    refine (sameInts_in x y _ w3 (by omega) hx3 (Ints.of_owns hown3)).mono ?_
    rintro e w4 ⟨rfl, b4⟩
    have hD4 := hD3.trans (b4.mono hD3.size)
    have hx4 := hx3.below b4
    clear hown3 hx2 hx3 b2 b3 b4 hD3
    by_cases hbad : ringB xs = false ∨ r < 0 ∨ 2000 < r
    · obtain ⟨a, c, rfl⟩ := hx4.shape
      rw [roundsV_no hbad]
      clear hv hlies hbad hx4
      go_wp2_with (go_at_call 18; refine (alive_in _).mono ?_; rintro e w6 ⟨rfl, b6⟩; have hD6 := hD4.trans (b6.mono hD4.size))
      go_ret
      exact ⟨rfl, hB1.trans (hD6.mono hB1.size)⟩
    · have hside : ringB xs = true := by cases e : ringB xs with | true => rfl | false => exact absurd (.inl e) hbad
      obtain ⟨R, rfl⟩ : ∃ R : Nat, r = R := ⟨r.toNat, by omega⟩
      have hR : R ≤ 2000 := by omega
      have hlen := ringB_len hside
      have hf := ringF_le hside
      have hp := ringF_per (xs := xs)
      have hz := rgL_self hside
      have hv4 := hv.below hD4
      rw [roundsV_nat hside hR] at hx4
      have hN : R < 2000 → ∀ W, Below w4.heap.size w4 W → Calls Try.prog 24 #[v, .int .i64 ((R : Int) + 1)] W fun e w' => ∃ u, e = .returned u ∧ w'.ownsRow W.heap.size 3 1 u xs.length ((rgL (dR (ringF xs) (R + 1)) xs.length).map (Value.int .i64)) ∧ Below W.heap.size W w' := fun h W hW => by
        have h9 := implRounds v xs ((R + 1 : Nat) : Int) (by unfold Fits; omega) W (hv4.below hW) hlies (by omega)
        rw [roundsV_nat hside (by omega), rgL_len, Int.natCast_add] at h9
        exact h9
      have hZ : ∀ W, Below w4.heap.size w4 W → Calls Try.prog 24 #[v, .int .i64 0] W fun e w' => ∃ u, e = .returned u ∧ w'.ownsRow W.heap.size 3 1 u xs.length (xs.map (Value.int .i64)) ∧ Below W.heap.size W w' := fun W hW => by
        have h9 := implRounds v xs ((0 : Nat) : Int) (by unfold Fits; omega) W (hv4.below hW) hlies (by omega)
        rw [roundsV_nat hside (by omega)] at h9
        have e0 : dR (ringF xs) 0 = ringF xs := rfl
        rw [e0, hz] at h9
        exact h9
      obtain ⟨g, cap, rfl, hg, hc⟩ := hv4.cells hlen.1
      have hcf : ∀ i, i < xs.length → w4.cell? ⟨g, i, none⟩ = some (.int .i64 (ringF xs i : Nat)) := fun i hi => by rw [hc i hi, ringF_get hside hi]
      obtain ⟨gx, cx, rfl, hgx, hcx⟩ := hx4.cells (by rw [rgL_len]; omega)
      rw [rgL_len] at hcx hx4 hl2 ⊢
      have hcx' : ∀ i, i < xs.length → w4.cell? ⟨gx, i, none⟩ = some (.int .i64 (dR (ringF xs) R i : Nat)) := fun i hi => by rw [hcx i hi, rgL_getD _ _ _ hi]
      have hb := hundred hf R
      have hq : ∀ W, Below w4.heap.size w4 W → Calls Try.prog 20 #[.slice (some ⟨gx, 0, none⟩) xs.length cx] W fun e w' => ∃ u, e = .returned u ∧ w'.ownsRow W.heap.size 3 1 u xs.length ((rgL (dR (ringF xs) (R + 1)) xs.length).map (Value.int .i64)) ∧ Below W.heap.size W w' := fun W hW => by
        have h9 := implRound _ _ W (hx4.below hW) hl2 (by rw [rgL_len]; omega)
        rw [roundV_rgL hb hlen.1 hlen.2 (per_dR hp R), rgL_len] at h9
        exact h9
      have hvS := hv4
      generalize hff : ringF xs = f at *
      obtain ⟨n, hn⟩ : ∃ n, xs.length = n := ⟨_, rfl⟩
      rw [hn] at hlen hp hz hN hZ hcf hcx' hq hvS ⊢
      have hn0 : ((n : Int) == 0) = false := by rw [beq_eq_false_iff_ne]; omega
      have hn1 : ¬ (n : Int) = 0 := by omega
      clear hbad hv hv4 hc hcx hside hlies hrf hl2 hff hRl
      have hper2 : per n (fun k => 2 * f k) := fun k => by show 2 * f (k + n) = 2 * f k; rw [hp k]
      have hlT : (rgL (fun k => 2 * f k) n).length = n := rgL_len _ _
      have hM := Pair.made w4
      have hA : Below w4.heap.size w4 ((w4.alloc (.cells #[] 3)).alloc (.cells #[] 3)) := ((Below.refl _ w4).alloc (Nat.le_refl _) _).alloc (by simp) _
      go_wp2
      go_loopw [6, 7, 8] (fun o1 o2 i wr => ∃ k : Nat, k ≤ n ∧ i = .int .i64 k ∧ Pair wr w4.heap.size o1 o2 k k (rgL (fun k => 2 * f k) k) (rgL (fun k => 2 * dR f R k) k) ∧ Below w4.heap.size w4 wr) (fun _ _ i _ => n - (intOf i).toNat)
      case atStart => exact ⟨0, by omega, rfl, hM, hA⟩
      case round =>
        clear hM hA
        obtain ⟨k, hk, rfl, h2, hB⟩ := hrel
        by_cases hlt : k < n
        · have hcr := (hB.cell (p := ⟨g, k, none⟩) hg).trans (hcf k hlt)
          have hcy : ∀ W, Below w4.heap.size w4 W → W.cell? ⟨gx, k, none⟩ = some (.int .i64 (dR f R k : Nat)) := fun W h => (h.cell (p := ⟨gx, k, none⟩) hgx).trans (hcx' k hlt)
          have n1 := rgL_snoc (fun k => 2 * f k) k
          have n2 := rgL_snoc (fun k => 2 * dR f R k) k
          have e1 : (((fun k => 2 * f k) k : Nat) : Int) = (2 : Int) * (f k : Int) := by show ((2 * f k : Nat) : Int) = _; omega
          have e2 : (((fun k => 2 * dR f R k) k : Nat) : Int) = (2 : Int) * (dR f R k : Int) := by show ((2 * dR f R k : Nat) : Int) = _; omega
          rw [e1] at n1
          rw [e2] at n2
          have n1' := hide n1
          have n2' := hide n2
          have hfk := hf k
          have hbk := hb k
          have hki : (k : Int) < (n : Int) := by omega
          clear n1 n2 e1 e2 hcf hcx' hN hZ hq hf hb
          generalize f k = s at *
          generalize dR f R k = t at *
          have j1 : IntKind.i64.wrap ((2 : Int) * (s : Int)) = (2 : Int) * (s : Int) := IntWalk.i64_in _ (by omega)
          have j2 : IntKind.i64.wrap ((2 : Int) * (t : Int)) = (2 : Int) * (t : Int) := IntWalk.i64_in _ (by omega)
          go_wp2_with (first
            | (at_builtin; refine append_at rfl _ _ rfl w4.heap.size _ _ _ rfl h2.o1 rfl (by omega) hB.size ?_; intro v1 w7 ho7 hg7 hb7; have t1 := (h2.first ho7 hg7 hb7).turn; have hB7 := (hB.alloc hB.size (.cells #[.int .i64 ((2 : Int) * (s : Int))] 3)).grown hg7 (by have := hB.size; simp; omega) (fun b hb => (h2.o1.lt b hb).1); have hc7 := hcy w7 hB7)
            | (at_builtin; refine append_at rfl _ _ rfl w4.heap.size _ _ _ rfl t1.o1 rfl (by omega) hB7.size ?_; intro v2 w8 ho8 hg8 hb8; have t2 := (t1.first ho8 hg8 hb8).turn; have hB8 := (hB7.alloc hB7.size (.cells #[.int .i64 ((2 : Int) * (t : Int))] 3)).grown hg8 (by have := hB7.size; simp; omega) (fun b hb => (t1.o1.lt b hb).1)))
          go_roundw
          case rel => exact ⟨k + 1, by omega, by go_num, by rw [n1'.out, n2'.out]; exact t2, hB8⟩
          case measure => simp [intOf]; omega
        · obtain rfl : k = n := by omega
          -- the end
          have hkk : ¬ (k : Int) < (k : Int) := by omega
          obtain ⟨p1, q1, e1⟩ := own_form h2.o1
          obtain ⟨p2, q2, e2⟩ := own_form h2.o2
          subst e1 e2
          by_cases h20 : R = 2000
          · obtain rfl : R = 2000 := h20
            go_wp2_with fail
            go_at_call 24
            refine (hZ _ hB).mono ?_
            rintro e w8 ⟨u8, rfl, ho8, b8⟩
            replace hB := hB.trans (b8.mono hB.size)
            replace h2 := h2.below b8
            go_wp2_with fail
            go_at_call 21
            refine (sameInts_in u8 _ xs w8 (by omega) (Ints.of_owns ho8) (hvS.below hB)).mono ?_
            rintro e w9 ⟨rfl, b9⟩
            replace hB := hB.trans (b9.mono hB.size)
            replace h2 := h2.below b9
            clear ho8 b8 b9
            go_wp2_with fail
            go_at_call 17
            refine (specRing _ _ _ (Ints.of_owns h2.o1) (by rw [rgL_len]; omega)).mono ?_
            rintro e w10 ⟨rfl, rfl⟩
            cases hT : ringB (rgL (fun k => 2 * f k) k) with
            | false =>
              clear hcf hcx' hN hZ hq hf hb
              go_wp2
              go_ret
              exact ⟨rfl, hB1.trans ((hD4.trans (hB.mono hD4.size)).mono hB1.size)⟩
            | true =>
              have hW := implRounds _ _ ((2000 : Nat) : Int) (by unfold Fits; omega) _ (Ints.of_owns h2.o1) (Lies.of_owns h2.o1) (by rw [rgL_len]; omega)
              rw [roundsV_nat hT (by omega), ringF_rgL (by omega) hper2, dR_times] at hW
              simp only [rgL_len] at hW
              clear hcf hcx' hN hZ hq hf hb
              go_wp2_with fail
              go_at_call 24
              refine (hW).mono ?_
              rintro e w11 ⟨u11, rfl, ho11, b11⟩
              replace hB := hB.trans (b11.mono hB.size)
              replace h2 := h2.below b11
              go_wp2_with fail
              go_at_call 21
              refine (sameInts_in u11 _ _ w11 (by rw [rgL_len]; omega) (Ints.of_owns ho11) (Ints.of_owns h2.o2)).mono ?_
              rintro e w12 ⟨rfl, b12⟩
              replace hB := hB.trans (b12.mono hB.size)
              go_wp2
              go_ret
              exact ⟨rfl, hB1.trans ((hD4.trans (hB.mono hD4.size)).mono hB1.size)⟩
          · have hRn : R < 2000 := by omega
            have hR20 : ((R : Int) == 2000) = false := by rw [beq_eq_false_iff_ne]; omega
            have hRw : IntKind.i64.wrap ((R : Int) + 1) = (R : Int) + 1 := IntWalk.i64_in _ (by omega)
            go_wp2_with fail
            go_at_call 24
            refine (hN hRn _ hB).mono ?_
            rintro e w5 ⟨u5, rfl, ho5, b5⟩
            replace hB := hB.trans (b5.mono hB.size)
            replace h2 := h2.below b5
            go_wp2_with fail
            go_at_call 20
            refine (hq _ hB).mono ?_
            rintro e w6 ⟨u6, rfl, ho6, b6⟩
            replace hB := hB.trans (b6.mono hB.size)
            replace h2 := h2.below b6
            go_wp2_with fail
            go_at_call 21
            refine (sameInts_in u5 u6 _ w6 (by rw [rgL_len]; omega) ((Ints.of_owns ho5).below b6) (Ints.of_owns ho6)).mono ?_
            rintro e w7 ⟨rfl, b7⟩
            replace hB := hB.trans (b7.mono hB.size)
            replace h2 := h2.below b7
            clear ho5 ho6 b5 b6 b7
            go_wp2_with fail
            go_at_call 24
            refine (hZ _ hB).mono ?_
            rintro e w8 ⟨u8, rfl, ho8, b8⟩
            replace hB := hB.trans (b8.mono hB.size)
            replace h2 := h2.below b8
            go_wp2_with fail
            go_at_call 21
            refine (sameInts_in u8 _ xs w8 (by omega) (Ints.of_owns ho8) (hvS.below hB)).mono ?_
            rintro e w9 ⟨rfl, b9⟩
            replace hB := hB.trans (b9.mono hB.size)
            replace h2 := h2.below b9
            clear ho8 b8 b9
            go_wp2_with fail
            go_at_call 17
            refine (specRing _ _ _ (Ints.of_owns h2.o1) (by rw [rgL_len]; omega)).mono ?_
            rintro e w10 ⟨rfl, rfl⟩
            cases hT : ringB (rgL (fun k => 2 * f k) k) with
            | false =>
              clear hcf hcx' hN hZ hq hf hb
              go_wp2
              go_ret
              exact ⟨rfl, hB1.trans ((hD4.trans (hB.mono hD4.size)).mono hB1.size)⟩
            | true =>
              have hW := implRounds _ _ ((R : Nat) : Int) (by unfold Fits; omega) _ (Ints.of_owns h2.o1) (Lies.of_owns h2.o1) (by rw [rgL_len]; omega)
              rw [roundsV_nat hT (by omega), ringF_rgL (by omega) hper2, dR_times] at hW
              simp only [rgL_len] at hW
              clear hcf hcx' hN hZ hq hf hb
              go_wp2_with fail
              go_at_call 24
              refine (hW).mono ?_
              rintro e w11 ⟨u11, rfl, ho11, b11⟩
              replace hB := hB.trans (b11.mono hB.size)
              replace h2 := h2.below b11
              go_wp2_with fail
              go_at_call 21
              refine (sameInts_in u11 _ _ w11 (by rw [rgL_len]; omega) (Ints.of_owns ho11) (Ints.of_owns h2.o2)).mono ?_
              rintro e w12 ⟨rfl, b12⟩
              replace hB := hB.trans (b12.mono hB.size)
              go_wp2
              go_ret
              exact ⟨rfl, hB1.trans ((hD4.trans (hB.mono hD4.size)).mono hB1.size)⟩
end Go.Proofs.Ytmnmbelmcdfcjaa
