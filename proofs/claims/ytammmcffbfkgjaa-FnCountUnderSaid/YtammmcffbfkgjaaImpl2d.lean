/-
  The program's DigitsOf: for every argument what it hands back.
-/
import Derived.Test.YtammmcffbfkgjaaCollect
namespace Go.Proofs.Ytammmcffbfkgjaa
open Go.RowKit Go.Shelf
attribute [local go_sem] Oper.semAt_some

theorem collect_digits (N b B1 B2 : Nat) (hN : N ≤ 999999999) (hb : 2 ≤ b) (hb2 : b ≤ 16) (w : World) (hB1 : B1 < w.heap.size) (hB2 : B2 < w.heap.size)
    (hc1 : w.cell? ⟨B1, 0, none⟩ = some (.int .i64 N)) (hc2 : w.cell? ⟨B2, 0, none⟩ = some (.int .i64 b)) :
    Calls Try.prog 38 #[.func (.func 45) #[] #[.pointer (some ⟨B1, 0, none⟩), .pointer (some ⟨B2, 0, none⟩)]] w fun e w' =>
      ∃ v, e = .returned v ∧ w'.ownsRow w.heap.size 3 1 v (digs b N).length ((digs b N).map fun (x : Nat) => Value.int .i64 x) ∧ Below w.heap.size w w' := by
  have hA := appendSeq_in (fun (x : Nat) => (x : Int)) 45 #[.pointer (some ⟨B1, 0, none⟩), .pointer (some ⟨B2, 0, none⟩)] 1 (DgHd b N) (fun n0 k => k = n0) (DgS b N) w
    (enters_of Try.func45 (by kernel_rfl) rfl)
    (fun W hW => digits_stops 8 B1 B2 N b (by omega) hb hb2 (by omega) W (Nat.lt_of_lt_of_le hB1 hW.size) (Nat.lt_of_lt_of_le hB2 hW.size) ((hW.cell (p := ⟨B1, 0, none⟩) hB1).trans hc1) ((hW.cell (p := ⟨B2, 0, none⟩) hB2).trans hc2))
    (fun n0 k h => by omega)
    (fun n0 b' pre x W o hlt h => by obtain ⟨m, h1, h2⟩ := h; exact ⟨m, h1.of_block (World.putObj_heap_other (by omega)), h2⟩)
    (fun n0 pre x W h => by
      obtain ⟨m, h1, h2, _⟩ := h
      have hl := congrArg List.length h2
      have := len_le hb N
      rw [List.length_append, List.length_cons] at hl
      exact ⟨by omega, h1.lt⟩)
    (fun n0 b' xs W o _ h => h) (digs b N) (fun n0 ys W h => h)
  go_enter Try.func38, Try.ntmps38
  go_wp2_with (go_at_call 44; refine hA.mono ?_; clear hA; rintro e w' ⟨v, rfl, hown, hB⟩)
  go_ret
  exact ⟨_, rfl, hown, hB⟩

theorem implDigits_bad (n b : Int) (w : World) (h : bad1 n b) : Calls Try.prog 14 #[.int .i64 n, .int .i64 b] w fun e w' => e = .returned (.slice none 0 0) ∧ w = w' := by
  unfold bad1 at h
  by_cases h1 : n < 0 ∨ 999999999 < n
  all_goals
    go_enter Try.func14, Try.ntmps14
    go_wp2_with (first | (go_at_call 36; refine (within_t _ _ _ (by omega) (by omega)).mono ?_; rintro e w' ⟨rfl, rfl⟩) | (go_at_call 36; refine (within_f _ _ _ (by omega)).mono ?_; rintro e w' ⟨rfl, rfl⟩) | (go_at_call 37; refine (baseOk_f _ _ (by omega)).mono ?_; rintro e w' ⟨rfl, rfl⟩))
    go_ret
    exact ⟨rfl, rfl⟩

set_option maxHeartbeats 400000 in
theorem implDigits_ok (N b : Nat) (hN : N ≤ 999999999) (hb : 2 ≤ b) (hb2 : b ≤ 16) (w : World) : Calls Try.prog 14 #[.int .i64 N, .int .i64 b] w fun e w' =>
    ∃ v, e = .returned v ∧ w'.ownsRow w.heap.size 3 1 v (digs b N).length ((digs b N).map fun (x : Nat) => Value.int .i64 x) ∧ Below w.heap.size w w' := by
  have hC := collect_digits N b w.heap.size (w.heap.size + 1) hN hb hb2 ((w.alloc (.cells #[.int .i64 N] 3)).alloc (.cells #[.int .i64 b] 3)) (by simp; omega) (by simp)
    ((Boxed.new w 3 (.int .i64 N)).alloc _).cell (by have := (Boxed.new (w.alloc (.cells #[.int .i64 N] 3)) 3 (.int .i64 b)).cell; rwa [World.size_alloc] at this)
  go_enter Try.func14, Try.ntmps14
  go_wp2_with (first | (go_at_call 36; refine (within_t _ _ _ (by omega) (by omega)).mono ?_; rintro e w' ⟨rfl, rfl⟩) | (go_at_call 37; refine (baseOk_t _ _ (by omega) (by omega)).mono ?_; rintro e w' ⟨rfl, rfl⟩) | (go_at_call 39; refine (digitsIn_in _ _ _).mono ?_; rintro e w' ⟨rfl, rfl⟩) | (go_at_call 38; refine hC.mono ?_; clear hC; rintro e w' ⟨v, rfl, hown, hB⟩))
  go_ret
  refine ⟨_, rfl, owns_from hown (by simp; omega), ?_⟩
  exact (((Below.refl _ w).alloc (Nat.le_refl _) _).alloc (by simp) _).trans (hB.mono (by simp; omega))

theorem implDigits (n b : Int) (w : World) : Calls Try.prog 14 #[.int .i64 n, .int .i64 b] w fun e w' =>
    ∃ v, e = .returned v ∧ w'.ownsRow w.heap.size 3 1 v (digitsV n b).length ((digitsV n b).map (Value.int .i64)) ∧ Below w.heap.size w w' := by
  by_cases h : bad1 n b
  · rw [digitsV_bad h]
    exact (implDigits_bad n b w h).mono fun e w' ⟨he, hw⟩ => ⟨_, he, World.ownsRow_nil _ _ _ _, hw ▸ Below.refl _ _⟩
  · unfold bad1 at h
    obtain ⟨N, rfl⟩ : ∃ N : Nat, n = N := ⟨n.toNat, by omega⟩
    obtain ⟨B, rfl⟩ : ∃ B : Nat, b = B := ⟨b.toNat, by omega⟩
    rw [digitsV_nat (by omega) (by omega) (by omega), List.length_map, List.map_map]
    exact implDigits_ok N B (by omega) (by omega) (by omega) w
end Go.Proofs.Ytammmcffbfkgjaa
