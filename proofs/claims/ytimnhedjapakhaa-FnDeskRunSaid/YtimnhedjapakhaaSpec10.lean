/-
  The model's RingOk, RoundOf, RoundsOf: for every ring what they hand back.
-/
import Derived.Test.YtimnhedjapakhaaSpecZ
import Derived.Test.YtimnhedjapakhaaMathZ
namespace Go.Proofs.Ytimnhedjapakhaa
open Go.RowKit

set_option maxHeartbeats 400000 in
theorem specRing (v : Value) (xs : List Int) (w : World) (hv : Ints w v xs) (hl : xs.length ≤ 1000000000) : Calls Try.prog 91 #[v] w fun e w' => e = .returned (.bool (ringB xs)) ∧ w = w' := by
  by_cases h0 : xs.length = 0
  · obtain ⟨a, c, rfl⟩ := hv.shape
    have hr := hide (ringB_short (xs := xs) (by omega))
    rw [h0]
    clear hv
    go_enter Try.func91, Try.ntmps91
    go_wp2
    refine wp_loop_rounds 1 ?_
    rw [rounds_succ]
    go_wp2_with (go_at_call 65; refine (l1In_f _ _ _ _ (by omega)).mono ?_; rintro e w' ⟨rfl, rfl⟩)
    go_ret
    exact ⟨ret_bool hr.out.symm, rfl⟩
  · obtain ⟨g, cap, rfl, hg, hc⟩ := hv.cells (by omega)
    have hno : ∀ i, i < xs.length → (xs.getD i 0 < 0 ∨ 100 < xs.getD i 0) → ringB xs = false := fun i hi h => ringB_not hi h
    have hlong : 8 < xs.length → ringB xs = false := fun h => ringB_short (.inr h)
    have hyes : xs.length ≤ 8 → (∀ i, i < xs.length → 0 ≤ xs.getD i 0 ∧ xs.getD i 0 ≤ 100) → ringB xs = true := fun h1 h2 => ringB_of (by omega) h1 h2
    obtain ⟨n, hn⟩ : ∃ n, xs.length = n := ⟨_, rfl⟩
    rw [hn] at hc hno hlong hyes h0 hl ⊢
    clear hv hn
    go_enter Try.func91, Try.ntmps91
    go_wp2
    go_loop [3] (fun i => ∃ k : Nat, k ≤ n ∧ i = .int .i64 k ∧ Hid (∀ i, i < k → 0 ≤ xs.getD i 0 ∧ xs.getD i 0 ≤ 100)) (fun i => n - (intOf i).toNat)
    case atStart => exact ⟨0, by omega, rfl, hide (fun i hi => by omega)⟩
    case round =>
      obtain ⟨k, hk, rfl, hall⟩ := hrel
      by_cases hlt : k < n
      · have hck := hc k hlt
        have hki : (k : Int) < (n : Int) := by omega
        by_cases hz : xs.getD k 0 < 0 ∨ 100 < xs.getD k 0
        · have hr := hide (hno k hlt hz)
          generalize xs.getD k 0 = z at *
          clear hc hno hlong hyes hall
          go_wp2_with (go_at_call 65; refine (l1In_f _ _ _ _ (by omega)).mono ?_; rintro e w' ⟨rfl, rfl⟩)
          go_ret
          exact ⟨ret_bool hr.out.symm, rfl⟩
        · have hall' : Hid (∀ i, i < k + 1 → 0 ≤ xs.getD i 0 ∧ xs.getD i 0 ≤ 100) := hide (fun i hi => by
            by_cases e : i = k
            · subst e; omega
            · exact hall.out i (by omega))
          generalize hzz : xs.getD k 0 = z at hck hz
          clear hc hno hlong hyes hall hzz
          go_wp2_with (go_at_call 65; refine (l1In_t _ _ _ _ (by omega) (by omega)).mono ?_; rintro e w' ⟨rfl, rfl⟩)
          go_round
          case rel => exact ⟨k + 1, by omega, by go_num, hall'⟩
          case measure => simp [intOf]; omega
      · obtain rfl : k = n := by omega
        by_cases h12 : k ≤ 8
        · have hr := hide (hyes h12 hall.out)
          clear hc hno hlong hyes hall hlt
          go_wp2_with (go_at_call 65; refine (l1In_t _ _ _ _ (by omega) (by omega)).mono ?_; rintro e w' ⟨rfl, rfl⟩)
          go_ret
          exact ⟨ret_bool hr.out.symm, rfl⟩
        · have hr := hide (hlong (by omega))
          clear hc hno hlong hyes hall hlt
          go_wp2_with (go_at_call 65; refine (l1In_f _ _ _ _ (by omega)).mono ?_; rintro e w' ⟨rfl, rfl⟩)
          go_ret
          exact ⟨ret_bool hr.out.symm, rfl⟩

set_option maxHeartbeats 2000000 in
theorem specRound (v : Value) (xs : List Int) (w : World) (hv : Ints w v xs) (hl : xs.length ≤ 1000000000) : Calls Try.prog 79 #[v] w fun e w' =>
    ∃ r, e = .returned r ∧ w'.ownsRow w.heap.size 3 1 r (roundV xs).length ((roundV xs).map (Value.int .i64)) ∧ Below w.heap.size w w' := by
  have hS : ∀ wr, Below w.heap.size w wr → Calls Try.prog 91 #[v] wr fun e w' => e = .returned (.bool (ringB xs)) ∧ wr = w' := fun wr hB => specRing v xs wr (hv.below hB) hl
  cases hside : ringB xs with
  | false =>
    rw [roundV_no hside]
    rw [hside] at hS
    obtain ⟨a, c, rfl⟩ := hv.shape
    clear hv hside
    generalize xs.length = n at *
    by_cases h1 : 0 < n
    · have h1i : (0 : Int) < (n : Int) := by omega
      go_enter Try.func79, Try.ntmps79
      go_wp2
      refine wp_loop_rounds 1 ?_
      rw [rounds_succ]
      go_wp2_with (go_at_call 91; refine (hS _ ((Below.refl _ w).alloc (Nat.le_refl _) _)).mono ?_; rintro e w' ⟨rfl, rfl⟩)
      go_ret
      exact ⟨_, rfl, World.ownsRow_made _ _ _ (Nat.le_refl _) (by decide) rfl, (Below.refl _ _).alloc (Nat.le_refl _) _⟩
    · obtain rfl : n = 0 := by omega
      clear hS
      go_enter Try.func79, Try.ntmps79
      go_wp2
      refine wp_loop_rounds 1 ?_
      rw [rounds_succ]
      go_wp2
      go_ret
      exact ⟨_, rfl, World.ownsRow_made _ _ _ (Nat.le_refl _) (by decide) rfl, (Below.refl _ _).alloc (Nat.le_refl _) _⟩
  | true =>
    have hlen := ringB_len hside
    rw [roundV_yes hside]
    rw [hside] at hS
    have hf := ringF_le hside
    have hp := ringF_per (xs := xs)
    obtain ⟨g, cap, rfl, hg, hc⟩ := hv.cells hlen.1
    have hcf : ∀ i, i < xs.length → w.cell? ⟨g, i, none⟩ = some (.int .i64 (ringF xs i : Nat)) := fun i hi => by rw [hc i hi, ringF_get hside hi]
    generalize ringF xs = f at *
    generalize xs.length = n at *
    rw [rgL_len]
    clear hv hside hc hl
    go_enter Try.func79, Try.ntmps79
    go_wp2
    go_loopw [3, 4] (fun o i wr => ∃ k : Nat, k ≤ n ∧ i = .int .i64 (k : Int) ∧ wr.ownsRow w.heap.size 3 1 o k ((rgL (dF f) k).map (Value.int .i64)) ∧ Below w.heap.size w wr) (fun _ i _ => n - (intOf i).toNat)
    case atStart => exact ⟨0, by omega, rfl, World.ownsRow_made _ _ _ (Nat.le_refl _) (by decide) rfl, (Below.refl _ _).alloc (Nat.le_refl _) _⟩
    case round =>
      obtain ⟨k, hk, rfl, hown, hB⟩ := hrel
      by_cases hlt : k < n
      · obtain ⟨m, hm⟩ : ∃ m, (k + 1) % n = m := ⟨_, rfl⟩
        have hml : m < n := by rw [← hm]; exact Nat.mod_lt _ (by omega)
        have hfm : f m = f (k + 1) := by rw [← hm]; exact per_mod hp (k + 1)
        have hc0 : ∀ W, Below w.heap.size w W → W.cell? ⟨g, k, none⟩ = some (.int .i64 (f k : Nat)) := fun W h => (h.cell (p := ⟨g, k, none⟩) hg).trans (hcf k hlt)
        have hc1 : wr.cell? ⟨g, m, none⟩ = some (.int .i64 (f (k + 1) : Nat)) := by rw [← hfm]; exact (hB.cell (p := ⟨g, m, none⟩) hg).trans (hcf m hml)
        have hq : Int.tmod ((k : Int) + 1) (n : Int) = (m : Int) := by have := tmod_n (k + 1) n; rw [hm] at this; simpa using this
        have hf0 := hf k
        have hf1 := hf (k + 1)
        have hsn := rgL_snoc (dF f) k
        have hd : dF f k = ad (f k) (f (k + 1)) := rfl
        rw [hd, ad_max] at hsn
        have hS1 := hS wr hB
        have hcd := hc0 wr hB
        have hn0 : ((n : Int) == 0) = false := by rw [beq_eq_false_iff_ne]; omega
        have hki : (k : Int) < (n : Int) := by omega
        have hmi : (m : Int) < (n : Int) := by omega
        generalize f k = x at *
        generalize f (k + 1) = y at *
        have hmx : ((max x y - min x y : Nat) : Int) = IntKind.i64.wrap ((if x < y then (y : Int) else (x : Int)) - if y < x then (y : Int) else (x : Int)) := by
          rw [IntWalk.i64_in _ (by split <;> split <;> omega)]
          split <;> split <;> omega
        rw [hmx] at hsn
        have hsn' := hide hsn
        have hw1 : IntKind.i64.wrap (m : Int) = m := IntWalk.i64_in _ (by omega)
        clear hcf hsn hS hf hm hfm hp hd hmx
        go_wp2_with (go_at_call 91; refine hS1.mono ?_; clear hS1; rintro e w' ⟨rfl, rfl⟩)
        go_region_law ((refine step_append_one (by rfl) _ _ (by rfl) w.heap.size _ _ _ (by rfl) hown.drew (by rfl) (by omega) (by have := hB.size; simp; omega) ?_; intro v' w1 hown' hgrow))
        all_goals
          go_wp2
          go_roundw
          case rel => exact ⟨k + 1, by omega, by go_num, by rw [hsn'.out, List.map_append]; exact hown', (hB.drew.alloc (by have := hB.size; simp; omega) _).grown hgrow (by have := hB.size; simp; omega) (fun b hb => (hown.lt b hb).1)⟩
          case measure => simp [intOf]; omega
      · obtain rfl : k = n := by omega
        clear hS hcf
        go_wp2
        go_ret
        exact ⟨_, rfl, hown, hB⟩
end Go.Proofs.Ytimnhedjapakhaa
