/-
  The program's allWithin: whether there are so many numbers, each from 0 up to one.
-/
import Derived.Test.YtmnmbelmcdfcjaaLawKit
import Derived.Test.YtmnmbelmcdfcjaaBase
namespace Go.Proofs.Ytmnmbelmcdfcjaa
open Go.RowKit

theorem ints_form {w : World} {v : Value} {xs : List Int} (h : Ints w v xs) : ∃ a c, v = .slice a xs.length c := by
  rcases h with ⟨a, c, rfl, rfl⟩ | ⟨g, cap, rfl, _⟩
  · exact ⟨_, _, rfl⟩
  · exact ⟨_, _, rfl⟩
theorem ints_open {w : World} {v : Value} {xs : List Int} (h : Ints w v xs) (h0 : 1 ≤ xs.length) : ∃ g cap, v = .slice (some ⟨g, 0, none⟩) xs.length cap ∧ g < w.heap.size ∧ ∀ i, i < xs.length → w.cell? ⟨g, i, none⟩ = some (.int .i64 (xs.getD i 0)) := by
  rcases h with ⟨a, c, rfl, rfl⟩ | ⟨g, cap, rfl, hg, hc⟩
  · simp at h0
  · exact ⟨g, cap, rfl, hg, hc⟩
/-- From 1 to C numbers, each from 0 to M. -/
def withB (xs : List Int) (C : Nat) (M : Int) : Bool := decide (1 ≤ xs.length ∧ xs.length ≤ C) && xs.all (fun x => decide (0 ≤ x ∧ x ≤ M))
theorem withB_short {xs : List Int} {C : Nat} {M : Int} (h : xs.length < 1 ∨ C < xs.length) : withB xs C M = false := by
  unfold withB
  rw [Bool.and_eq_false_iff]
  exact .inl (by simp; omega)
theorem withB_not {xs : List Int} {C : Nat} {M : Int} {i : Nat} (hi : i < xs.length) (h : ¬ (0 ≤ xs.getD i 0 ∧ xs.getD i 0 ≤ M)) : withB xs C M = false := by
  unfold withB
  rw [Bool.and_eq_false_iff]
  refine .inr ?_
  rw [List.all_eq_false]
  refine ⟨xs[i], List.getElem_mem hi, ?_⟩
  rw [List.getD, List.getElem?_eq_getElem hi] at h
  simpa using h
theorem withB_of {xs : List Int} {C : Nat} {M : Int} (h1 : 1 ≤ xs.length) (h2 : xs.length ≤ C) (h : ∀ i, i < xs.length → 0 ≤ xs.getD i 0 ∧ xs.getD i 0 ≤ M) : withB xs C M = true := by
  unfold withB
  rw [Bool.and_eq_true, List.all_eq_true]
  refine ⟨by simp; omega, fun x hx => ?_⟩
  obtain ⟨i, hi, rfl⟩ := List.mem_iff_getElem.1 hx
  have := h i hi
  rw [List.getD, List.getElem?_eq_getElem hi] at this
  simpa using this

set_option maxHeartbeats 400000 in
theorem allWithin_in (v : Value) (xs : List Int) (C : Nat) (M : Int) (w : World) (hv : Ints w v xs) (hC : C ≤ 1000000) (hl : xs.length ≤ 1000000000) : Calls Try.prog 41 #[v, .int .i64 C, .int .i64 M] w fun e w' => e = .returned (.bool (withB xs C M)) ∧ w = w' := by
  by_cases h : xs.length < 1 ∨ C < xs.length
  · obtain ⟨a, c, rfl⟩ := ints_form hv
    have hr := hide (withB_short (M := M) h)
    clear hv
    generalize xs.length = nx at *
    by_cases h1 : nx < 1
    · clear h
      go_enter Try.func41, Try.ntmps41
      go_wp2
      go_ret
      exact ⟨by rw [hr.out]; rfl, rfl⟩
    · have h2 : ¬ (nx : Int) < 1 := by omega
      have h3 : (C : Int) < nx := by omega
      clear h
      go_enter Try.func41, Try.ntmps41
      go_wp2
      go_ret
      exact ⟨by rw [hr.out]; rfl, rfl⟩
  · obtain ⟨gx, cx, rfl, hgx, hcx⟩ := ints_open hv (by omega)
    clear hv
    have hno : ∀ i, i < xs.length → ¬ (0 ≤ xs.getD i 0 ∧ xs.getD i 0 ≤ M) → withB xs C M = false := fun i hi h => withB_not hi h
    have hyes : (∀ i, i < xs.length → 0 ≤ xs.getD i 0 ∧ xs.getD i 0 ≤ M) → withB xs C M = true := fun h0 => withB_of (by omega) (by omega) h0
    obtain ⟨nx, hnx⟩ : ∃ n, xs.length = n := ⟨_, rfl⟩
    rw [hnx] at h hcx hno hyes ⊢
    have h2 : ¬ (nx : Int) < 1 := by omega
    have h3 : ¬ (C : Int) < nx := by omega
    have hb : nx ≤ 1000000 := by omega
    clear hnx hl
    go_enter Try.func41, Try.ntmps41
    go_wp2
    go_loop [20] (fun n => ∃ k : Nat, k ≤ nx ∧ n = .int .i64 k ∧ Hid (∀ i, i < k → 0 ≤ xs.getD i 0 ∧ xs.getD i 0 ≤ M)) (fun n => nx - (intOf n).toNat)
    case atStart => exact ⟨0, by omega, rfl, hide (fun i hi => by omega)⟩
    case round =>
      obtain ⟨k, hk, rfl, hxk⟩ := hrel
      by_cases hlt : k < nx
      · have hc := hcx k hlt
        have hki : (k : Int) < (nx : Int) := by omega
        by_cases hxo : 0 ≤ xs.getD k 0 ∧ xs.getD k 0 ≤ M
        · have hxk' : Hid (∀ i, i < k + 1 → 0 ≤ xs.getD i 0 ∧ xs.getD i 0 ≤ M) := hide (fun i hi => by
            by_cases e : i = k
            · subst e; exact hxo
            · exact hxk.out i (by omega))
          obtain ⟨z, hz⟩ : ∃ z, xs.getD k 0 = z := ⟨_, rfl⟩
          rw [hz] at hc hxo
          obtain ⟨hz1, hz2⟩ := hxo
          clear hz hcx hxk hno hyes
          go_wp2_with (go_at_call 48; refine (within_t _ _ _ (by assumption) (by assumption)).mono ?_; rintro e w' ⟨rfl, rfl⟩)
          go_round
          case rel => exact ⟨k + 1, by omega, by go_num, hxk'⟩
          case measure => simp [intOf]; omega
        · have hr := hide (hno k hlt hxo)
          obtain ⟨z, hz⟩ : ∃ z, xs.getD k 0 = z := ⟨_, rfl⟩
          rw [hz] at hc hxo
          have hzb : z < 0 ∨ M < z := by omega
          clear hz hcx hxk hxo hno hyes
          go_wp2_with (go_at_call 48; refine (within_f _ _ _ (by assumption)).mono ?_; rintro e w' ⟨rfl, rfl⟩)
          go_ret
          exact ⟨by rw [hr.out]; rfl, rfl⟩
      · obtain rfl : k = nx := by omega
        have hr := hide (hyes hxk.out)
        clear hcx hxk hno hyes
        go_wp2
        go_ret
        exact ⟨by rw [hr.out]; rfl, rfl⟩
end Go.Proofs.Ytmnmbelmcdfcjaa
