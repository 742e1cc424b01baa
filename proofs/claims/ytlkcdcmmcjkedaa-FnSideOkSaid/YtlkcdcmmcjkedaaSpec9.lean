/-
  The model's SideOk, UnderOf and LastOf: for every row what they hand back.
-/
import Derived.Test.YtlkcdcmmcjkedaaLawKit
import Derived.Test.YtlkcdcmmcjkedaaMathZ
import Derived.Test.YtlkcdcmmcjkedaaSpec2b
namespace Go.Proofs.Ytlkcdcmmcjkedaa
open Go.RowKit

theorem ret_bool {a b : Bool} (h : a = b) : Ending.returned (.bool a) = .returned (.bool b) := by rw [h]
theorem Ints.shape {w : World} {v : Value} {xs : List Int} (h : Ints w v xs) : ∃ a c, v = .slice a xs.length c := by
  rcases h with ⟨a, c, rfl, rfl⟩ | ⟨g, cap, rfl, _⟩
  · exact ⟨_, _, rfl⟩
  · exact ⟨_, _, rfl⟩
theorem Ints.cells {w : World} {v : Value} {xs : List Int} (h : Ints w v xs) (h0 : 1 ≤ xs.length) : ∃ g cap, v = .slice (some ⟨g, 0, none⟩) xs.length cap ∧ g < w.heap.size ∧ ∀ i, i < xs.length → w.cell? ⟨g, i, none⟩ = some (.int .i64 (xs.getD i 0)) := by
  rcases h with ⟨a, c, rfl, rfl⟩ | ⟨g, cap, rfl, hg, hc⟩
  · simp at h0
  · exact ⟨g, cap, rfl, hg, hc⟩

set_option maxHeartbeats 400000 in
theorem specSide (v : Value) (xs : List Int) (w : World) (hv : Ints w v xs) (hl : xs.length ≤ 1000000000) : Calls Try.prog 25 #[v] w fun e w' => e = .returned (.bool (sideB xs)) ∧ w = w' := by
  by_cases h0 : xs.length = 0
  · obtain ⟨a, c, rfl⟩ := hv.shape
    have hr := hide (sideB_short (xs := xs) (by omega))
    rw [h0]
    clear hv
    go_enter Try.func25, Try.ntmps25
    go_wp2
    refine wp_loop_rounds 1 ?_
    rw [rounds_succ]
    go_wp2_with (go_at_call 61; refine (l1In_f _ _ _ _ (by omega)).mono ?_; rintro e w' ⟨rfl, rfl⟩)
    go_ret
    exact ⟨ret_bool hr.out.symm, rfl⟩
  · obtain ⟨g, cap, rfl, hg, hc⟩ := hv.cells (by omega)
    have hno : ∀ i, i < xs.length → (xs.getD i 0 < 0 ∨ 1 < xs.getD i 0) → sideB xs = false := fun i hi h => sideB_not hi h
    have hlong : 12 < xs.length → sideB xs = false := fun h => sideB_short (.inr h)
    have hyes : xs.length ≤ 12 → (∀ i, i < xs.length → 0 ≤ xs.getD i 0 ∧ xs.getD i 0 ≤ 1) → sideB xs = true := fun h1 h2 => sideB_of (by omega) h1 h2
    obtain ⟨n, hn⟩ : ∃ n, xs.length = n := ⟨_, rfl⟩
    rw [hn] at hc hno hlong hyes h0 hl ⊢
    clear hv hn
    go_enter Try.func25, Try.ntmps25
    go_wp2
    go_loop [3] (fun i => ∃ k : Nat, k ≤ n ∧ i = .int .i64 k ∧ Hid (∀ i, i < k → 0 ≤ xs.getD i 0 ∧ xs.getD i 0 ≤ 1)) (fun i => n - (intOf i).toNat)
    case atStart => exact ⟨0, by omega, rfl, hide (fun i hi => by omega)⟩
    case round =>
      obtain ⟨k, hk, rfl, hall⟩ := hrel
      by_cases hlt : k < n
      · have hck := hc k hlt
        have hki : (k : Int) < (n : Int) := by omega
        by_cases hz : xs.getD k 0 < 0 ∨ 1 < xs.getD k 0
        · have hr := hide (hno k hlt hz)
          generalize xs.getD k 0 = z at *
          clear hc hno hlong hyes hall
          go_wp2_with (go_at_call 61; refine (l1In_f _ _ _ _ (by omega)).mono ?_; rintro e w' ⟨rfl, rfl⟩)
          go_ret
          exact ⟨ret_bool hr.out.symm, rfl⟩
        · have hall' : Hid (∀ i, i < k + 1 → 0 ≤ xs.getD i 0 ∧ xs.getD i 0 ≤ 1) := hide (fun i hi => by
            by_cases e : i = k
            · subst e; omega
            · exact hall.out i (by omega))
          generalize hzz : xs.getD k 0 = z at hck hz
          clear hc hno hlong hyes hall hzz
          go_wp2_with (go_at_call 61; refine (l1In_t _ _ _ _ (by omega) (by omega)).mono ?_; rintro e w' ⟨rfl, rfl⟩)
          go_round
          case rel => exact ⟨k + 1, by omega, by go_num, hall'⟩
          case measure => simp [intOf]; omega
      · obtain rfl : k = n := by omega
        by_cases h12 : k ≤ 12
        · have hr := hide (hyes h12 hall.out)
          clear hc hno hlong hyes hall hlt
          go_wp2_with (go_at_call 61; refine (l1In_t _ _ _ _ (by omega) (by omega)).mono ?_; rintro e w' ⟨rfl, rfl⟩)
          go_ret
          exact ⟨ret_bool hr.out.symm, rfl⟩
        · have hr := hide (hlong (by omega))
          clear hc hno hlong hyes hall hlt
          go_wp2_with (go_at_call 61; refine (l1In_f _ _ _ _ (by omega)).mono ?_; rintro e w' ⟨rfl, rfl⟩)
          go_ret
          exact ⟨ret_bool hr.out.symm, rfl⟩

set_option maxHeartbeats 1000000 in
theorem specUnder9 (v : Value) (xs : List Int) (w : World) (hv : Ints w v xs) (hl : xs.length ≤ 1000000000) : Calls Try.prog 28 #[v] w fun e w' =>
    ∃ r, e = .returned r ∧ w'.ownsRow w.heap.size 3 1 r (undrV xs).length ((undrV xs).map (Value.int .i64)) ∧ Below w.heap.size w w' := by
  have hS : ∀ wr, Below w.heap.size w wr → Calls Try.prog 25 #[v] wr fun e w' => e = .returned (.bool (sideB xs)) ∧ wr = w' := fun wr hB => specSide v xs wr (hv.below hB) hl
  cases hside : sideB xs with
  | false =>
    rw [undrV_no hside]
    rw [hside] at hS
    obtain ⟨a, c, rfl⟩ := hv.shape
    clear hv hside
    generalize xs.length = n at *
    by_cases h1 : 1 < n
    · have h1i : (1 : Int) < (n : Int) := by omega
      go_enter Try.func28, Try.ntmps28
      go_wp2
      refine wp_loop_rounds 1 ?_
      rw [rounds_succ]
      go_wp2_with (go_at_call 25; refine (hS _ ((Below.refl _ w).alloc (Nat.le_refl _) _)).mono ?_; rintro e w' ⟨rfl, rfl⟩)
      go_ret
      exact ⟨_, rfl, World.ownsRow_made _ _ _ (Nat.le_refl _) (by decide) rfl, (Below.refl _ _).alloc (Nat.le_refl _) _⟩
    · have h1i : ¬ (1 : Int) < (n : Int) := by omega
      have h1d : decide ((1 : Int) < (n : Int)) = false := by simp; omega
      clear hS
      go_enter Try.func28, Try.ntmps28
      go_wp2
      refine wp_loop_rounds 1 ?_
      rw [rounds_succ]
      go_wp2
      go_ret
      exact ⟨_, rfl, World.ownsRow_made _ _ _ (Nat.le_refl _) (by decide) rfl, (Below.refl _ _).alloc (Nat.le_refl _) _⟩
  | true =>
    have hlen := sideB_len hside
    rw [undrV_yes hside]
    rw [hside] at hS
    have hf := side_bit hside
    obtain ⟨g, cap, rfl, hg, hc⟩ := hv.cells hlen.1
    have hcf : ∀ i, i < xs.length → w.cell? ⟨g, i, none⟩ = some (.int .i64 (natL xs i : Nat)) := fun i hi => by rw [hc i hi, side_get hside hi]
    generalize natL xs = f at *
    obtain ⟨n, hn⟩ : ∃ n, xs.length = n + 1 := ⟨xs.length - 1, by omega⟩
    rw [hn] at hcf hlen hS ⊢
    rw [stL_len, Nat.add_sub_cancel]
    have hn12 : n ≤ 11 := by omega
    clear hv hside hc hl hn hlen
    go_enter Try.func28, Try.ntmps28
    go_wp2
    go_loopw [3, 4] (fun o i wr => ∃ k : Nat, k ≤ n ∧ i = .int .i64 ((k : Int) + 1) ∧ wr.ownsRow w.heap.size 3 1 o k ((stL f 1 k).map (Value.int .i64)) ∧ Below w.heap.size w wr) (fun _ i _ => n + 2 - (intOf i).toNat)
    case atStart => exact ⟨0, by omega, rfl, World.ownsRow_made _ _ _ (Nat.le_refl _) (by decide) rfl, (Below.refl _ _).alloc (Nat.le_refl _) _⟩
    case round =>
      obtain ⟨k, hk, rfl, hown, hB⟩ := hrel
      by_cases hlt : k < n
      · have hc0 : wr.cell? ⟨g, k, none⟩ = some (.int .i64 (f k : Nat)) := (hB.cell (by exact hg)).trans (hcf k (by omega))
        have hc1 : wr.cell? ⟨g, k + 1, none⟩ = some (.int .i64 (f (k + 1) : Nat)) := (hB.cell (by exact hg)).trans (hcf (k + 1) (by omega))
        have hf0 := hf k
        have hf1 := hf (k + 1)
        have hst : st f 1 k = (f k + f (k + 1)) % 2 := rfl
        have hsn := stL_snoc f 1 k
        rw [hst] at hsn
        have hS1 := hS wr hB
        have hq := tmod_nat' (f k + f (k + 1)) 2
        rw [Int.natCast_add] at hq
        have hrl : (f k + f (k + 1)) % 2 ≤ 1 := by omega
        generalize f k = x at *
        generalize f (k + 1) = y at *
        generalize (x + y) % 2 = r at *
        have hq' : Int.tmod ((x : Int) + (y : Int)) 2 = (r : Int) := hq
        have hsn' := hide hsn
        have hw1 : IntKind.i64.wrap (k : Int) = k := IntWalk.i64_in _ (by omega)
        have hw2 : IntKind.i64.wrap ((x : Int) + (y : Int)) = (x : Int) + (y : Int) := IntWalk.i64_in _ (by omega)
        have hw4 : IntKind.i64.wrap (r : Int) = r := IntWalk.i64_in _ (by omega)
        have hk1 : (k : Int) + 1 < (n : Int) + 1 := by omega
        have hk2 : ((k : Int) + 1).toNat = k + 1 := by omega
        have hk3 : (0 : Int) ≤ (k : Int) + 1 := by omega
        have hk4 : (k : Int) < (n : Int) + 1 := by omega
        clear hcf hst hsn hS hf hq
        go_wp2_with (go_at_call 25; refine hS1.mono ?_; clear hS1; rintro e w' ⟨rfl, rfl⟩)
        go_region_law ((refine step_append_one (by rfl) _ _ (by rfl) w.heap.size _ _ _ (by rfl) hown.drew (by rfl) (by omega) (by have := hB.size; simp; omega) ?_; intro v' w1 hown' hgrow))
        all_goals
          go_wp2
          go_roundw
          case rel => exact ⟨k + 1, by omega, by go_num, by rw [hsn'.out, List.map_append]; exact hown', (hB.drew.alloc (by have := hB.size; simp; omega) _).grown hgrow (by have := hB.size; simp; omega) (fun b hb => (hown.lt b hb).1)⟩
          case measure => simp [intOf]; omega
      · obtain rfl : k = n := by omega
        have hk1 : ¬ (k : Int) + 1 < (k : Int) + 1 := by omega
        clear hS hcf
        go_wp2
        go_ret
        exact ⟨_, rfl, hown, hB⟩

set_option maxHeartbeats 1000000 in
theorem specLast (v : Value) (xs : List Int) (w : World) (hv : Ints w v xs) (hl : xs.length ≤ 1000000000) : Calls Try.prog 39 #[v] w fun e w' => e = .returned (.int .i64 (endV xs)) ∧ Below w.heap.size w w' := by
  have hS := specSide v xs w hv hl
  cases hside : sideB xs with
  | false =>
    rw [endV_no hside]
    rw [hside] at hS
    clear hv hside
    go_enter Try.func39, Try.ntmps39
    go_wp2_with (go_at_call 25; refine hS.mono ?_; clear hS; rintro e w' ⟨rfl, rfl⟩)
    go_ret
    exact ⟨rfl, Below.refl _ _⟩
  | true =>
    have hlen := sideB_len hside
    rw [endV_yes hside]
    rw [hside] at hS
    have hf := side_bit hside
    obtain ⟨g, cap, rfl, hg, hc⟩ := hv.cells hlen.1
    have hcf : ∀ i, i < xs.length → w.cell? ⟨g, i, none⟩ = some (.int .i64 (natL xs i : Nat)) := fun i hi => by rw [hc i hi, side_get hside hi]
    generalize natL xs = f at *
    obtain ⟨n, hn⟩ : ∃ n, xs.length = n + 1 := ⟨xs.length - 1, by omega⟩
    rw [hn] at hcf hlen hS ⊢
    rw [Nat.add_sub_cancel]
    have hn12 : n ≤ 11 := by omega
    obtain ⟨T, hT⟩ : ∃ T, st f n 0 = T := ⟨_, rfl⟩
    have hTT := hide (show lastU f n (n + 1) % 2 = T by rw [lastU_all hf, hT])
    have hTl : T ≤ 1 := by rw [← hT]; exact st_le hf n 0
    rw [hT]
    have hle := lastU_le hf n
    clear hv hside hc hl hn hlen hT
    go_enter Try.func39, Try.ntmps39
    go_wp2_with (go_at_call 25; refine hS.mono ?_; clear hS; rintro e w' ⟨rfl, rfl⟩)
    go_loopw [3, 4] (fun o i wr => ∃ k : Nat, k ≤ n + 1 ∧ i = .int .i64 (k : Int) ∧ o = .int .i64 (lastU f n k : Nat) ∧ Below w.heap.size w wr) (fun _ i _ => n + 1 - (intOf i).toNat)
    case atStart => exact ⟨0, by omega, rfl, rfl, Below.refl _ _⟩
    case round =>
      obtain ⟨k, hk, rfl, rfl, hB⟩ := hrel
      have hlk := hle k
      by_cases hlt : k < n + 1
      · have hf0 := hf k
        have hst : lastU f n (k + 1) = lastU f n k + (if und 2 k n = true then f k else 0) := rfl
        have hU := fun w => specUnder k n (2 : Nat) w
        obtain ⟨u, hu⟩ : ∃ u, und 2 k n = u := ⟨_, rfl⟩
        have hcu : ∀ w', Below wr.heap.size wr w' → w'.cell? ⟨g, k, none⟩ = some (.int .i64 (f k : Nat)) := fun w' hB' => (hB'.cell (by exact Nat.lt_of_lt_of_le hg hB.size)).trans ((hB.cell (by exact hg)).trans (hcf k hlt))
        have hki : (k : Int) < (n : Int) + 1 := by omega
        have hw1 : IntKind.i64.wrap (n : Int) = n := IntWalk.i64_in _ (by omega)
        simp only [underV_nat (show k ≤ 999999999 by omega) (show n ≤ 999999999 by omega) (show 2 ≤ 2 by omega) (show 2 ≤ 16 by omega), hu] at hU
        rw [hu] at hst
        clear hu hcf hle hf hTT
        have hU' : ∀ w, Calls Try.prog 74 #[.int .i64 k, .int .i64 n, .int .i64 2] w fun e w' => e = .returned (.bool u) ∧ Below w.heap.size w w' := hU
        clear hU
        cases u with
        | true =>
          rw [if_pos rfl] at hst
          have hst' := hide hst
          clear hst
          generalize lastU f n k = s at *
          go_wp2_with (go_at_call 74; (with_reducible refine (hU' _).mono ?_); rintro e w' ⟨rfl, hB'⟩; have hck := hcu w' hB'; clear hcu)
          generalize f k = z at *
          go_wp2
          go_roundw
          case rel => exact ⟨k + 1, by omega, by go_num, by rw [hst'.out]; go_num, hB.trans (hB'.mono hB.size)⟩
          case measure => simp [intOf]; omega
        | false =>
          rw [if_neg (by simp)] at hst
          have hst' := hide hst
          clear hst hcu
          generalize lastU f n k = s at *
          go_wp2_with (go_at_call 74; (with_reducible refine (hU' _).mono ?_); rintro e w' ⟨rfl, hB'⟩)
          go_roundw
          case rel => exact ⟨k + 1, by omega, by go_num, by rw [hst'.out]; rfl, hB.trans (hB'.mono hB.size)⟩
          case measure => simp [intOf]; omega
      · obtain rfl : k = n + 1 := by omega
        have hq := tmod_nat' (lastU f n (n + 1)) 2
        rw [hTT.out] at hq
        clear hTT hcf hle hf
        generalize lastU f n (n + 1) = s at *
        have hw4 : IntKind.i64.wrap (T : Int) = T := IntWalk.i64_in _ (by omega)
        have hq' : Int.tmod (s : Int) 2 = (T : Int) := hq
        go_wp2
        go_ret
        exact ⟨rfl, hB⟩
end Go.Proofs.Ytlkcdcmmcjkedaa
