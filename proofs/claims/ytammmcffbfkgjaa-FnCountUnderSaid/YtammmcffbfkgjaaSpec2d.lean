/-
  The model's DigitsOf: for every argument what it hands back.
-/
import Derived.Test.YtammmcffbfkgjaaSpec2
namespace Go.Proofs.Ytammmcffbfkgjaa
open Go.RowKit

set_option maxHeartbeats 400000 in
theorem specDigits_bad (n b : Int) (w : World) (hbad : n ≤ 0 ∨ 999999999 < n ∨ b < 2 ∨ 16 < b) : Calls Try.prog 16 #[.int .i64 n, .int .i64 b] w fun e w' =>
    ∃ v, e = .returned v ∧ w'.ownsRow w.heap.size 3 1 v 0 [] ∧ Below w.heap.size w w' := by
  by_cases h1 : 0 < n
  case' pos => by_cases h2 : n ≤ 999999999
  all_goals
    go_enter Try.func16, Try.ntmps16
    go_wp2
    refine wp_loop_rounds 1 ?_
    rw [rounds_succ]
    go_wp2_with (go_at_call 40; refine (l1In_f _ _ _ _ (by omega)).mono ?_; rintro e w' ⟨rfl, rfl⟩)
    go_ret
    exact ⟨_, rfl, World.ownsRow_made _ _ _ (Nat.le_refl _) (by decide) rfl, (Below.refl _ _).alloc (Nat.le_refl _) _⟩

set_option maxHeartbeats 800000 in
theorem specDigits_ok (N B : Nat) (hN : N ≤ 999999999) (hB : 2 ≤ B) (hB2 : B ≤ 16) (w : World) : Calls Try.prog 16 #[.int .i64 N, .int .i64 B] w fun e w' =>
    ∃ v, e = .returned v ∧ w'.ownsRow w.heap.size 3 1 v (digs B N).length ((digs B N).map fun (d : Nat) => Value.int .i64 d) ∧ Below w.heap.size w w' := by
  have hlen := len_le hB N
  obtain ⟨S, hS⟩ : ∃ S, digs B N = S := ⟨_, rfl⟩
  rw [hS] at hlen ⊢
  have hS' := hide (show [] ++ digs B N = S from hS)
  clear hS
  go_enter Try.func16, Try.ntmps16
  go_wp2
  go_loopw [0, 5] (fun n out wr => ∃ (m : Nat) (pre : List Nat), n = .int .i64 m ∧ m ≤ N ∧ pre ++ digs B m = S ∧ wr.ownsRow w.heap.size 3 1 out pre.length (pre.map fun (d : Nat) => Value.int .i64 d) ∧ Below w.heap.size w wr)
    (fun n _ _ => (intOf n).toNat)
  case atStart => exact ⟨N, [], rfl, Nat.le_refl _, hS'.out, World.ownsRow_made _ _ _ (Nat.le_refl _) (by decide) rfl, (Below.refl _ _).alloc (Nat.le_refl _) _⟩
  case round =>
    clear hS'
    obtain ⟨m, pre, rfl, hm, hs, hown, hBl⟩ := hrel
    by_cases hlt : 0 < m
    · rw [digs_pos hB hlt] at hs
      have hpl : pre.length + 1 ≤ S.length := by rw [← hs]; simp
      have hq1 := tmod_nat' m B
      have hq2 := tdiv_nat' m B
      have hr := Nat.mod_lt m (show 0 < B by omega)
      have hdl := Nat.div_lt_self hlt hB
      generalize m % B = r at *
      generalize m / B = q at *
      have hs' := hide (show (pre ++ [r]) ++ digs B q = S by simpa using hs)
      clear hs
      have hb0 : ((B : Int) == 0) = false := by simp; omega
      have hw1 : IntKind.i64.wrap (r : Int) = r := IntWalk.i64_in _ (by omega)
      have hw2 : IntKind.i64.wrap (q : Int) = q := IntWalk.i64_in _ (by omega)
      go_wp2_with (first | (go_at_call 40; refine (l1In_t _ _ _ _ (by omega) (by omega)).mono ?_; rintro e w' ⟨rfl, rfl⟩) | (at_builtin; refine append_one rfl _ _ rfl w.heap.size _ _ _ rfl hown rfl (by omega) (by have := hBl.size; omega) ?_; intro v' w1 hown' hgrow))
      go_roundw
      case rel =>
        refine ⟨q, pre ++ [r], rfl, by omega, hs'.out, ?_, ?_⟩
        · rw [List.length_append, List.map_append]; exact hown'
        · exact (hBl.alloc hBl.size _).grown hgrow (by have := hBl.size; simp; omega) (fun k hk => (hown.lt k hk).1)
      case measure => simp [intOf]; omega
    · obtain rfl : m = 0 := by omega
      rw [digs_zero, List.append_nil] at hs
      subst hs
      go_wp2
      go_ret
      exact ⟨_, rfl, hown, hBl⟩
theorem specDigits (n b : Int) (w : World) : Calls Try.prog 16 #[.int .i64 n, .int .i64 b] w fun e w' =>
    ∃ v, e = .returned v ∧ w'.ownsRow w.heap.size 3 1 v (digitsV n b).length ((digitsV n b).map (Value.int .i64)) ∧ Below w.heap.size w w' := by
  by_cases h : bad1 n b
  · rw [digitsV_bad h]; unfold bad1 at h; exact specDigits_bad n b w (by omega)
  · unfold bad1 at h
    obtain ⟨N, rfl⟩ : ∃ N : Nat, n = N := ⟨n.toNat, by omega⟩
    obtain ⟨B, rfl⟩ : ∃ B : Nat, b = B := ⟨b.toNat, by omega⟩
    rw [digitsV_nat (by omega) (by omega) (by omega), List.length_map, List.map_map]
    exact specDigits_ok N B (by omega) (by omega) (by omega) w
end Go.Proofs.Ytammmcffbfkgjaa
