/-
  Contracts of the laws' own helpers: sameInts, eqIntS, markIntS, heldIntS.
-/
import Derived.Test.YtmnmbelmcdfcjaaAlive
namespace Go.Proofs.Ytmnmbelmcdfcjaa
open Go.RowKit

/-- The slice value v reads as the numbers xs in the world w. -/
def Ints (w : World) (v : Value) (xs : List Int) : Prop :=
  (∃ a c, v = .slice a 0 c ∧ xs = []) ∨ ∃ g cap, v = .slice (some ⟨g, 0, none⟩) xs.length cap ∧ g < w.heap.size ∧ ∀ i, i < xs.length → w.cell? ⟨g, i, none⟩ = some (.int .i64 (xs.getD i 0))

theorem Ints.below {w w' : World} {v : Value} {xs : List Int} (h : Ints w v xs) (hb : Below w.heap.size w w') : Ints w' v xs := by
  rcases h with h | ⟨g, cap, rfl, hg, hc⟩
  · exact .inl h
  · exact .inr ⟨g, cap, rfl, Nat.lt_of_lt_of_le hg hb.size, fun i hi => (hb.cell (by exact hg)).trans (hc i hi)⟩
theorem Ints.of_owns {w : World} {base n : Nat} {v : Value} {xs : List Int} (h : w.ownsRow base 3 1 v n (xs.map (Value.int .i64))) : Ints w v xs := by
  have hl : xs.length = n := by have := h.1; simpa using this
  subst hl
  by_cases h0 : 0 < xs.length
  · obtain ⟨g, cap, rfl, _, h2, _, hc⟩ := owns_open h h0
    exact .inr ⟨g, cap, rfl, h2, fun i hi => hc i _ (by rw [List.getElem?_map, List.getElem?_eq_getElem hi]; simp [List.getD, hi])⟩
  · obtain rfl : xs = [] := List.length_eq_zero_iff.1 (by omega)
    rcases h.2 with ⟨rfl, _⟩ | ⟨g, cap, cur, rfl, _⟩
    · exact .inl ⟨_, _, rfl, rfl⟩
    · exact .inl ⟨_, _, rfl, rfl⟩

set_option maxHeartbeats 400000 in
theorem sameInts_in (v u : Value) (xs : List Int) (w : World) (hn : xs.length ≤ 1000000000) (hv : Ints w v xs) (hu : Ints w u xs) :
    Calls Try.prog 21 #[v, u] w fun e w' => e = .returned (.bool true) ∧ Below w.heap.size w w' := by
  rcases hv with ⟨a, c, rfl, rfl⟩ | ⟨g, cap, rfl, hg, hc⟩
  · have hu' : ∃ a' c', u = .slice a' 0 c' := by
      rcases hu with ⟨a', c', rfl, _⟩ | ⟨g, cap, rfl, _⟩
      · exact ⟨_, _, rfl⟩
      · exact ⟨_, _, rfl⟩
    obtain ⟨a', c', rfl⟩ := hu'
    clear hu
    go_enter Try.func21, Try.ntmps21
    go_wp2
    refine wp_loop_rounds 1 ?_
    rw [rounds_succ]
    go_wp2
    go_ret
    exact ⟨rfl, Below.refl _ _⟩
  · have hu' : ∃ a' c', u = .slice a' xs.length c' := by
      rcases hu with ⟨a', c', rfl, h⟩ | ⟨g, cap, rfl, _⟩
      · exact ⟨_, _, by rw [h]; rfl⟩
      · exact ⟨_, _, rfl⟩
    obtain ⟨a', c', rfl⟩ := hu'
    go_enter Try.func21, Try.ntmps21
    go_wp2
    go_loopw [5] (fun i wr => ∃ k : Nat, k ≤ xs.length ∧ i = .int .i64 k ∧ Below w.heap.size w wr) (fun i _ => xs.length - (intOf i).toNat)
    case atStart => exact ⟨0, Nat.zero_le _, rfl, Below.refl _ _⟩
    case round =>
      obtain ⟨k, hk, rfl, hB⟩ := hrel
      by_cases hlt : k < xs.length
      · have h1 : wr.cell? ⟨g, k, none⟩ = some (.int .i64 (xs.getD k 0)) := (hB.cell (by exact hg)).trans (hc k hlt)
        rcases hu with ⟨_, _, _, h⟩ | ⟨g2, cap2, h, hg2, hc2⟩
        · subst h; exact absurd hlt (by simp)
        · cases h
          have h2 : wr.cell? ⟨g2, k, none⟩ = some (.int .i64 (xs.getD k 0)) := (hB.cell (by exact hg2)).trans (hc2 k hlt)
          clear hc hc2
          obtain ⟨z, hz⟩ : ∃ z, z = xs.getD k 0 := ⟨_, rfl⟩
          rw [← hz] at h1 h2
          clear hz
          go_wp2
          go_region
          all_goals
            go_wp2
            go_roundw
            case rel => exact ⟨k + 1, by omega, by go_num, hB.drew⟩
            case measure => simp [intOf]; omega
      · obtain rfl : k = xs.length := by omega
        go_wp2
        go_ret
        exact ⟨rfl, hB⟩
set_option maxHeartbeats 400000 in
theorem eqIntS_in (v u : Value) (xs : List Int) (w : World) (hn : xs.length ≤ 1000000000) (hv : Ints w v xs) (hu : Ints w u xs) :
    Calls Try.prog 36 #[v, u] w fun e w' => e = .returned (.bool true) ∧ Below w.heap.size w w' := by
  rcases hv with ⟨a, c, rfl, rfl⟩ | ⟨g, cap, rfl, hg, hc⟩
  · have hu' : ∃ a' c', u = .slice a' 0 c' := by
      rcases hu with ⟨a', c', rfl, _⟩ | ⟨g, cap, rfl, _⟩
      · exact ⟨_, _, rfl⟩
      · exact ⟨_, _, rfl⟩
    obtain ⟨a', c', rfl⟩ := hu'
    clear hu
    go_enter Try.func36, Try.ntmps36
    go_wp2
    refine wp_loop_rounds 1 ?_
    rw [rounds_succ]
    go_wp2
    go_ret
    exact ⟨rfl, Below.refl _ _⟩
  · have hu' : ∃ a' c', u = .slice a' xs.length c' := by
      rcases hu with ⟨a', c', rfl, h⟩ | ⟨g, cap, rfl, _⟩
      · exact ⟨_, _, by rw [h]; rfl⟩
      · exact ⟨_, _, rfl⟩
    obtain ⟨a', c', rfl⟩ := hu'
    go_enter Try.func36, Try.ntmps36
    go_wp2
    go_loopw [5] (fun i wr => ∃ k : Nat, k ≤ xs.length ∧ i = .int .i64 k ∧ Below w.heap.size w wr) (fun i _ => xs.length - (intOf i).toNat)
    case atStart => exact ⟨0, Nat.zero_le _, rfl, Below.refl _ _⟩
    case round =>
      obtain ⟨k, hk, rfl, hB⟩ := hrel
      by_cases hlt : k < xs.length
      · have h1 : wr.cell? ⟨g, k, none⟩ = some (.int .i64 (xs.getD k 0)) := (hB.cell (by exact hg)).trans (hc k hlt)
        rcases hu with ⟨_, _, _, h⟩ | ⟨g2, cap2, h, hg2, hc2⟩
        · subst h; exact absurd hlt (by simp)
        · cases h
          have h2 : wr.cell? ⟨g2, k, none⟩ = some (.int .i64 (xs.getD k 0)) := (hB.cell (by exact hg2)).trans (hc2 k hlt)
          clear hc hc2
          obtain ⟨z, hz⟩ : ∃ z, z = xs.getD k 0 := ⟨_, rfl⟩
          rw [← hz] at h1 h2
          clear hz
          go_wp2
          go_region
          all_goals
            go_wp2
            go_roundw
            case rel => exact ⟨k + 1, by omega, by go_num, hB.drew⟩
            case measure => simp [intOf]; omega
      · obtain rfl : k = xs.length := by omega
        go_wp2
        go_ret
        exact ⟨rfl, hB⟩

set_option maxHeartbeats 400000 in
/-- markIntS: it writes 1, 2, .. into the cells, and hands back the next number. -/
theorem mark_in (g cap : Nat) (xs : List Int) (N : Nat) (f : Nat → Int) (w : World) (hn : xs.length ≤ 10000000) (hN : xs.length ≤ N) (hr : RowAt w g N f) (m : Nat) (hm : m ≤ 10000000) :
    Calls Try.prog 37 #[.slice (some ⟨g, 0, none⟩) xs.length cap, .int .i64 m] w fun e w' => e = .returned (.int .i64 ((m + xs.length : Nat) : Int)) ∧ RowAt w' g N (fun i => if i < xs.length then ((m + i : Nat) : Int) else f i) ∧ w.grownBy w' (some g) := by
  go_enter Try.func37, Try.ntmps37
  go_wp2
  go_loopw [1, 5] (fun q i wr => ∃ k : Nat, k ≤ xs.length ∧ i = .int .i64 k ∧ q = .int .i64 ((m + k : Nat) : Int) ∧ RowAt wr g N (fun i => if i < k then ((m + i : Nat) : Int) else f i) ∧ w.grownBy wr (some g)) (fun _ i _ => xs.length - (intOf i).toNat)
  case atStart => exact ⟨0, Nat.zero_le _, rfl, rfl, hr.congr (fun i _ => by rw [if_neg (by omega)]), grownBy_refl _ _⟩
  case round =>
    obtain ⟨k, hk, rfl, rfl, hrow, hg⟩ := hrel
    by_cases hlt : k < xs.length
    · have hc := hrow.cell (i := k) (by omega)
      have hf := hrow.frozen k
      rw [if_neg (by omega)] at hc
      go_wp2
      go_roundw
      case rel =>
        refine ⟨k + 1, by omega, by go_num, by go_num, ((hrow.set (p := k) ((m : Int) + k)).congr fun i hi => ?_), grownBy_set hg _ _⟩
        by_cases e : i = k
        · subst e; rw [if_pos rfl, if_pos (by omega)]; omega
        · rw [if_neg e]
          by_cases e2 : i < k
          · rw [if_pos e2, if_pos (by omega)]
          · rw [if_neg e2, if_neg (by omega)]
      case measure => simp [intOf]; omega
    · obtain rfl : k = xs.length := by omega
      go_wp2
      go_ret
      exact ⟨ret_int (by omega), hrow, hg⟩

set_option maxHeartbeats 400000 in
/-- heldIntS: where the cells hold m, m + 1, .. it hands back the next number. -/
theorem held_in (g cap n : Nat) (w : World) (hn : n ≤ 10000000) (m : Nat) (hm : m ≤ 10000000) (hc : ∀ i, i < n → w.cell? ⟨g, i, none⟩ = some (.int .i64 ((m + i : Nat) : Int))) :
    Calls Try.prog 38 #[.slice (some ⟨g, 0, none⟩) n cap, .int .i64 m] w fun e w' => e = .returned (.int .i64 ((m + n : Nat) : Int)) ∧ w = w' := by
  go_enter Try.func38, Try.ntmps38
  go_wp2
  go_loop [1, 5] (fun q i => ∃ k : Nat, k ≤ n ∧ i = .int .i64 k ∧ q = .int .i64 ((m + k : Nat) : Int)) (fun _ i => n - (intOf i).toNat)
  case atStart => exact ⟨0, Nat.zero_le _, rfl, rfl⟩
  case round =>
    obtain ⟨k, hk, rfl, rfl⟩ := hrel
    by_cases hlt : k < n
    · have h1 := hc k hlt
      clear hc
      go_wp2
      go_round
      case rel => exact ⟨k + 1, by omega, by go_num, by go_num⟩
      case measure => simp [intOf]; omega
    · obtain rfl : k = n := by omega
      go_wp2
      go_ret
      exact ⟨ret_int (by omega), rfl⟩

theorem mark_none (a : Option Addr) (c : Nat) (m : Nat) (w : World) : Calls Try.prog 37 #[.slice a 0 c, .int .i64 m] w fun e w' => e = .returned (.int .i64 m) ∧ w = w' := by
  go_enter Try.func37, Try.ntmps37
  go_wp2
  refine wp_loop_rounds 1 ?_
  rw [rounds_succ]
  go_wp2
  go_ret
  exact ⟨rfl, rfl⟩
theorem held_none (a : Option Addr) (c : Nat) (m : Nat) (w : World) : Calls Try.prog 38 #[.slice a 0 c, .int .i64 m] w fun e w' => e = .returned (.int .i64 m) ∧ w = w' := by
  go_enter Try.func38, Try.ntmps38
  go_wp2
  refine wp_loop_rounds 1 ?_
  rw [rounds_succ]
  go_wp2
  go_ret
  exact ⟨rfl, rfl⟩

/-- A reading lives on where another block is written. -/
theorem Ints.grown {w w' : World} {v : Value} {xs : List Int} {g : Nat} (h : Ints w v xs) (hg : w.grownBy w' (some g)) (hne : v.ownBlock ≠ some g) : Ints w' v xs := by
  rcases h with h | ⟨b, cap, rfl, hb, hc⟩
  · exact .inl h
  · have hbg : some b ≠ some g := by simpa [Value.ownBlock] using hne
    exact .inr ⟨b, cap, rfl, Nat.lt_of_lt_of_le hb hg.size, fun i hi => hg.cell (hc i hi) (by exact hbg)⟩
end Go.Proofs.Ytmnmbelmcdfcjaa
