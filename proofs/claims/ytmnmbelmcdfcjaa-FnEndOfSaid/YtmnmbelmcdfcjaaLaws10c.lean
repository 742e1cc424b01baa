/-
  The walk of the law on RoundOf.
-/
import Derived.Test.YtmnmbelmcdfcjaaLaws10
import Derived.Test.YtmnmbelmcdfcjaaKit3
namespace Go.Proofs.Ytmnmbelmcdfcjaa
open Go.RowKit Go.BigFrame

theorem mostF_get {f : Nat → Nat} : ∀ {n k : Nat}, k < n → f k ≤ mostF f n
  | n + 1, k, h => by
    show f k ≤ max (mostF f n) (f n)
    by_cases e : k = n
    · subst e; omega
    · have := mostF_get (f := f) (show k < n by omega); omega
theorem mostF_all {f : Nat → Nat} {n : Nat} (hn : 0 < n) (hp : per n f) (k : Nat) : f k ≤ mostF f n := by
  rw [← per_mod hp k]; exact mostF_get (Nat.mod_lt _ hn)

set_option maxRecDepth 100000 in
set_option maxHeartbeats 4000000 in
theorem lawRound (a0 : Option Addr) (len0 cap0 : Nat) (z0 : List Int) (w : World) (w0 : IsRow .u8 w a0 len0 cap0 z0) :
    Calls Try.prog 4 #[.slice a0 len0 cap0] w fun e w' => e = .returned (.bool true) ∧ Below w.heap.size w w' := by
  by_cases hbig : 1048576 < len0
  · go_enter Try.func4, Try.ntmps4
    go_wp2
    go_ret
    exact ⟨rfl, Below.refl _ _⟩
  · go_enter Try.func4, Try.ntmps4
    go_wp2_with fail
    go_at_call 19
    refine (drawRound w a0 len0 cap0 z0 w0).mono ?_
    rintro e w1 ⟨⟨v, xs, rfl, hv, hlies, hxl⟩, hB1⟩
    have hI := implRound v xs w1 hv hlies (by omega)
    have hS : ∀ W, Below w1.heap.size w1 W → Calls Try.prog 22 #[v] W fun e w' => ∃ u, e = .returned u ∧ w'.ownsRow W.heap.size 3 1 u (roundV xs).length ((roundV xs).map (Value.int .i64)) ∧ Below W.heap.size W w' := fun W h => specRound v xs W (hv.below h) (by omega)
    have hO : ∀ W, Below w1.heap.size w1 W → Calls Try.prog 16 #[v] W fun e w' => e = .returned (.bool (ringB xs)) ∧ Below W.heap.size W w' := fun W h => implRing v xs W (hv.below h) (by omega)
    have hRl := roundV_len xs
    go_wp2_with fail
    go_at_call 20
    refine hI.mono ?_
    rintro e w2 ⟨x, rfl, hown2, b2⟩
    have hx2 := Ints.of_owns hown2
    clear hI hown2
    go_wp2_with fail
    go_at_call 22
    refine (hS _ b2).mono ?_
    rintro e w3 ⟨y, rfl, hown3, b3⟩
    have hD3 := b2.trans (b3.mono b2.size)
    have hx3 := hx2.below b3
    clear hS
    go_wp2_with fail
    go_at_call 21
    refine (sameInts_in x y _ w3 (by omega) hx3 (Ints.of_owns hown3)).mono ?_
    rintro e w4 ⟨rfl, b4⟩
    have hD4 := hD3.trans (b4.mono hD3.size)
    have hx4 := hx3.below b4
    clear hown3 hx2 hx3 b2 b3 b4 hD3
    cases hside : ringB xs with
    | false =>
      rw [hside] at hO
      obtain ⟨a, c, rfl⟩ := hx4.shape
      rw [roundV_no hside]
      clear hv hlies hside hx4
      go_wp2_with (first | (go_at_call 16; refine (hO _ hD4).mono ?_; rintro e w5 ⟨rfl, b5⟩; have hD5 := hD4.trans (b5.mono hD4.size)) | (go_at_call 18; refine (alive_in _).mono ?_; rintro e w6 ⟨rfl, b6⟩; have hD6 := hD5.trans (b6.mono hD5.size)))
      go_ret
      exact ⟨rfl, hB1.trans (hD6.mono hB1.size)⟩
    | true =>
      have hlen := ringB_len hside
      have hf := ringF_le hside
      have hp := ringF_per (xs := xs)
      have hv4 := hv.below hD4
      rw [roundV_yes hside] at hx4
      obtain ⟨g, cap, rfl, hg, hc⟩ := hv4.cells hlen.1
      have hcf : ∀ i, i < xs.length → w4.cell? ⟨g, i, none⟩ = some (.int .i64 (ringF xs i : Nat)) := fun i hi => by rw [hc i hi, ringF_get hside hi]
      obtain ⟨gx, cx, rfl, hgx, hcx⟩ := hx4.cells (by rw [rgL_len]; omega)
      rw [rgL_len] at hcx hx4 ⊢
      have hcx' : ∀ i, i < xs.length → w4.cell? ⟨gx, i, none⟩ = some (.int .i64 (dF (ringF xs) i : Nat)) := fun i hi => by rw [hcx i hi, rgL_getD _ _ _ hi]
      clear hv hv4 hc hcx hside hlies hRl hO
      generalize ringF xs = f at *
      obtain ⟨n, hn⟩ : ∃ n, xs.length = n := ⟨_, rfl⟩
      rw [hn] at hlen hp hcf hcx' hx4 ⊢
      clear hn
      have hn0 : ((n : Int) == 0) = false := by rw [beq_eq_false_iff_ne]; omega
      have hn1 : ¬ (n : Int) = 0 := by omega
      have hb : ∀ k, dF f k ≤ 100 := fun k => dF_le hf k
      have hpd := per_dF hp
      have hml := mostF_le hf
      have hM := Pair.made w4
      have hA : Below w4.heap.size w4 ((w4.alloc (.cells #[] 3)).alloc (.cells #[] 3)) := ((Below.refl _ w4).alloc (Nat.le_refl _) _).alloc (by simp) _
      go_wp2
      go_loopw [5, 7, 9] (fun m o1 i wr => ∃ k : Nat, k ≤ n ∧ i = .int .i64 k ∧ m = .int .i64 (mostF f k : Nat) ∧ Pair wr w4.heap.size o1 (.slice (some ⟨w4.heap.size + 1, 0, none⟩) 0 0) k 0 (rgL (fun k => f (k + 1)) k) [] ∧ Below w4.heap.size w4 wr) (fun _ _ i _ => n - (intOf i).toNat)
      case atStart => exact ⟨0, by omega, rfl, rfl, hM, hA⟩
      case round =>
        clear hM hA
        obtain ⟨k, hk, rfl, rfl, h2, hB⟩ := hrel
        have hmk := hml k
        by_cases hlt : k < n
        · obtain ⟨m, hm⟩ : ∃ m, (k + 1) % n = m := ⟨_, rfl⟩
          have hmn : m < n := by rw [← hm]; exact Nat.mod_lt _ (by omega)
          have hfm : f m = f (k + 1) := by rw [← hm]; exact per_mod hp (k + 1)
          have hc0 : wr.cell? ⟨g, k, none⟩ = some (.int .i64 (f k : Nat)) := (hB.cell (p := ⟨g, k, none⟩) hg).trans (hcf k hlt)
          have hc1 : wr.cell? ⟨g, m, none⟩ = some (.int .i64 (f (k + 1) : Nat)) := by rw [← hfm]; exact (hB.cell (p := ⟨g, m, none⟩) hg).trans (hcf m hmn)
          have hq : Int.tmod ((k : Int) + 1) (n : Int) = (m : Int) := by have := tmod_n (k + 1) n; rw [hm] at this; simpa using this
          have hsn := rgL_snoc (fun k => f (k + 1)) k
          have e1 : (((fun k => f (k + 1)) k : Nat) : Int) = ((f (k + 1) : Nat) : Int) := rfl
          rw [e1] at hsn
          have hsn' := hide hsn
          have hms : ((mostF f (k + 1) : Nat) : Int) = if mostF f k < f k then (f k : Int) else (mostF f k : Int) := by
            show ((max (mostF f k) (f k) : Nat) : Int) = _
            split <;> omega
          have hms' := hide hms
          have hf0 := hf k
          have hf1 := hf (k + 1)
          have hki : (k : Int) < (n : Int) := by omega
          have hmi : (m : Int) < (n : Int) := by omega
          have hw1 : IntKind.i64.wrap (m : Int) = m := IntWalk.i64_in _ (by omega)
          clear hcf hcx' hsn e1 hms hf hp hm hfm hb hpd hml
          generalize f k = s at *
          generalize f (k + 1) = t at *
          generalize mostF f k = u at *
          go_wp2_with (at_builtin; refine append_at rfl _ _ rfl w4.heap.size _ _ _ rfl h2.o1 rfl (by omega) hB.size ?_; intro v1 w7 ho7 hg7 hb7)
          go_roundw
          case rel => exact ⟨k + 1, by omega, by go_num, by rw [hms'.out], by rw [hsn'.out]; exact h2.first ho7 hg7 hb7, (hB.alloc hB.size _).grown hg7 (by have := hB.size; simp; omega) (fun b hb => (h2.o1.lt b hb).1)⟩
          case measure => simp [intOf]; omega
        · obtain rfl : k = n := by omega
          have hkk : ¬ (k : Int) < (k : Int) := by omega
          obtain ⟨p1, q1, e1⟩ := own_form h2.o1
          subst e1
          have h3 := h2.turn
          have hmost : ∀ i, dF f i ≤ mostF f k := dF_le (mostF_all (by omega) hp)
          have heven := dF_even hp
          have hsl : ∀ i, sumF (dF f) i ≤ i * 100 := fun i => by
            induction i with
            | zero => exact Nat.zero_le _
            | succ i ih => have := hb i; show sumF (dF f) i + dF f i ≤ _; omega
          clear hcf h2
          generalize mostF f k = M at *
          go_wp2
          go_loopw [6, 8, 10] (fun s o2 i wi => ∃ j : Nat, j ≤ k ∧ i = .int .i64 j ∧ s = .int .i64 (sumF (dF f) j : Nat) ∧ Pair wi w4.heap.size o2 (.slice p1 k q1) j k (rgL (fun i => dF f (i + 1)) j) (rgL (fun k => f (k + 1)) k) ∧ Below w4.heap.size w4 wi) (fun _ _ i _ => k - (intOf i).toNat)
          case atStart => exact ⟨0, by omega, rfl, rfl, h3, hB⟩
          case round =>
            clear h3 hB
            obtain ⟨j, hj, rfl, rfl, h4, hC⟩ := hrel
            have hsj := hsl j
            by_cases hjl : j < k
            · obtain ⟨m, hm⟩ : ∃ m, (j + 1) % k = m := ⟨_, rfl⟩
              have hmn : m < k := by rw [← hm]; exact Nat.mod_lt _ (by omega)
              have hfm : dF f m = dF f (j + 1) := by rw [← hm]; exact per_mod hpd (j + 1)
              have hc0 : wr.cell? ⟨gx, j, none⟩ = some (.int .i64 (dF f j : Nat)) := (hC.cell (p := ⟨gx, j, none⟩) hgx).trans (hcx' j hjl)
              have hc1 : wr.cell? ⟨gx, m, none⟩ = some (.int .i64 (dF f (j + 1) : Nat)) := by rw [← hfm]; exact (hC.cell (p := ⟨gx, m, none⟩) hgx).trans (hcx' m hmn)
              have hq : Int.tmod ((j : Int) + 1) (k : Int) = (m : Int) := by have := tmod_n (j + 1) k; rw [hm] at this; simpa using this
              have hsn := rgL_snoc (fun i => dF f (i + 1)) j
              have e1 : (((fun i => dF f (i + 1)) j : Nat) : Int) = ((dF f (j + 1) : Nat) : Int) := rfl
              rw [e1] at hsn
              have hsn' := hide hsn
              have hss : sumF (dF f) (j + 1) = sumF (dF f) j + dF f j := rfl
              have hss' := hide hss
              have hf0 := hb j
              have hf1 := hb (j + 1)
              have hmj := hmost j
              have hki : (j : Int) < (k : Int) := by omega
              have hmi : (m : Int) < (k : Int) := by omega
              have hw1 : IntKind.i64.wrap (m : Int) = m := IntWalk.i64_in _ (by omega)
              have hgt : ¬ (M : Int) < ((dF f j : Nat) : Int) := by omega
              clear hcx' hsn e1 hss hf hp hm hfm hb hpd hml hmost heven hsl
              generalize dF f j = s at *
              generalize dF f (j + 1) = t at *
              generalize sumF (dF f) j = u at *
              go_wp2_with (at_builtin; refine append_at rfl _ _ rfl w4.heap.size _ _ _ rfl h4.o1 rfl (by omega) hC.size ?_; intro v1 w7 ho7 hg7 hb7)
              go_roundw
              case rel => exact ⟨j + 1, by omega, by go_num, by rw [hss'.out]; go_num, by rw [hsn'.out]; exact h4.first ho7 hg7 hb7, (hC.alloc hC.size _).grown hg7 (by have := hC.size; simp; omega) (fun b hb => (h4.o1.lt b hb).1)⟩
              case measure => simp [intOf]; omega
            · obtain rfl : j = k := by omega
              have hjj : ¬ (j : Int) < (j : Int) := by omega
              obtain ⟨p2, q2, e2⟩ := own_form h4.o1
              subst e2
              have hT := tmod_nat' (sumF (dF f) j) 2
              rw [heven] at hT
              have hT' : Int.tmod ((sumF (dF f) j : Nat) : Int) 2 = 0 := hT
              have hU := implRound _ _ wr (Ints.of_owns h4.o2) (Lies.of_owns h4.o2) (by rw [rgL_len]; omega)
              have hp1 : per j (fun k => f (k + 1)) := fun k => by show f (k + j + 1) = f (k + 1); rw [show k + j + 1 = k + 1 + j by omega, hp (k + 1)]
              rw [roundV_rgL (fun k => hf (k + 1)) hlen.1 hlen.2 hp1, rgL_len] at hU
              have e3 : dF (fun k => f (k + 1)) = fun i => dF f (i + 1) := rfl
              rw [e3] at hU
              have hRg := fun W (h : Below w4.heap.size w4 W) => implRing _ _ W (hx4.below h) (by rw [rgL_len]; omega)
              rw [rgL_ring hb j hlen.1 hlen.2] at hRg
              clear hcx' hf hp hb hpd hml hmost heven hsl e3 hp1
              generalize sumF (dF f) j = s at *
              go_wp2_with fail
              go_at_call 20
              refine hU.mono ?_
              rintro e w8 ⟨u8, rfl, ho8, b8⟩
              have hC8 := hC.trans (b8.mono hC.size)
              have h8 := h4.below b8
              go_wp2_with fail
              go_at_call 21
              refine (sameInts_in u8 _ _ w8 (by rw [rgL_len]; omega) (Ints.of_owns ho8) (Ints.of_owns h8.o1)).mono ?_
              rintro e w9 ⟨rfl, b9⟩
              have hC9 := hC8.trans (b9.mono hC8.size)
              go_wp2_with fail
              go_at_call 16
              refine (hRg _ hC9).mono ?_
              rintro e w10 ⟨rfl, b10⟩
              have hC10 := hC9.trans (b10.mono hC9.size)
              clear ho8 h8 h4 hRg hU
              go_wp2
              go_ret
              exact ⟨rfl, hB1.trans ((hD4.trans (hC10.mono hD4.size)).mono hB1.size)⟩
end Go.Proofs.Ytmnmbelmcdfcjaa
