/-
  The program's HeapsOf and TurnsOf: for every argument what they hand back.
-/
import Derived.Test.YtncaddoflbdlpaaImplRest
namespace Go.Proofs.Ytncaddoflbdlpaa
open Go.RowKit

def vt2 (b c k : Nat) : Nat := if k ≤ c then bin b (c - k) else 0
theorem vterm_vt2 (a b c k : Nat) : vterm a b c k = bin a k * vt2 b c k := by unfold vterm vt2; split <;> simp
theorem vt2_small (a b c k : Nat) (ha : a ≤ 30) (hb : b ≤ 30) : bin a k * vt2 b c k ≤ 1152921504606846976 := by
  unfold vt2; split
  · exact prod_small _ _ _ _ ha hb
  · simp

theorem implHeaps_bad (a b c : Int) (w : World) (h : a < 0 ∨ 30 < a ∨ b < 0 ∨ 30 < b ∨ c < 0 ∨ 60 < c) : Calls Try.prog 25 #[.int .i64 a, .int .i64 b, .int .i64 c] w fun e w' =>
    e = .returned (.int .i64 (-1)) ∧ Below w.heap.size w w' := by
  by_cases h1 : a < 0 ∨ 30 < a
  case' neg => by_cases h2 : b < 0 ∨ 30 < b
  all_goals
    go_enter Try.func25, Try.ntmps25
    go_wp2_with (first | (go_at_call 35; refine (within_t _ _ _ (by omega) (by omega)).mono ?_; rintro e w' ⟨rfl, rfl⟩) | (go_at_call 35; refine (within_f _ _ _ (by omega)).mono ?_; rintro e w' ⟨rfl, rfl⟩))
    go_ret
    exact ⟨rfl, Below.refl _ _⟩

/-- cellAt at a place that may lie ahead of the cells or behind them. -/
theorem cellAt_rest (g n cap b c k : Nat) (w : World) (hn : n = b + 1) (hc : ∀ i, i < n → w.cell? ⟨g, i, none⟩ = some (.int .i64 (bin b i))) :
    Calls Try.prog 38 #[.slice (some ⟨g, 0, none⟩) n cap, .int .i64 ((c : Int) - k)] w fun e w' => e = .returned (.int .i64 (vt2 b c k)) ∧ w = w' := by
  unfold vt2
  by_cases h : k ≤ c
  · rw [if_pos h, show (c : Int) - k = ((c - k : Nat) : Int) by omega]
    by_cases h2 : c - k < n
    · exact cellAt_in g n cap (c - k) _ w h2 (hc _ h2)
    · rw [bin_over b (c - k) (by omega)]; exact cellAt_out _ _ _ _ _ (.inr (by omega))
  · rw [if_neg h]; exact cellAt_out _ _ _ _ _ (.inl (by omega))

theorem row_cells {w : World} {base r : Nat} {v : Value} (h : w.ownsRow base 3 1 v (r + 1) ((rowN r).map (Value.int .i64))) :
    ∃ g cap, v = .slice (some ⟨g, 0, none⟩) (r + 1) cap ∧ base ≤ g ∧ g < w.heap.size ∧ r + 1 ≤ cap ∧ ∀ i, i < r + 1 → w.cell? ⟨g, i, none⟩ = some (.int .i64 (bin r i)) := by
  obtain ⟨g, cap, hv, h1, h2, h3, hc⟩ := owns_open h (by omega)
  exact ⟨g, cap, hv, h1, h2, h3, fun i hi => hc i _ (by rw [List.getElem?_map, rowN, List.getElem?_map, List.getElem?_range hi]; rfl)⟩

set_option maxRecDepth 100000 in
set_option maxHeartbeats 400000 in
theorem implHeaps_ok (a b c : Nat) (ha : a ≤ 30) (hb : b ≤ 30) (hc : c ≤ 60) (w : World) : Calls Try.prog 25 #[.int .i64 a, .int .i64 b, .int .i64 c] w fun e w' =>
    e = .returned (.int .i64 (vs a b c (a + 1))) ∧ Below w.heap.size w w' := by
  go_enter Try.func25, Try.ntmps25
  go_wp2_with (first | (go_at_call 35; refine (within_t _ _ _ (by omega) (by omega)).mono ?_; rintro e w' ⟨rfl, rfl⟩) | (go_at_call 14; (with_reducible refine (implRow_in b (by omega) _).mono ?_); rintro e w1 ⟨v, rfl, hown, hB⟩; obtain ⟨g, cap, rfl, hg1, hg2, hg3, hcells⟩ := row_cells hown; clear hown) | (go_at_call 14; (with_reducible refine (implRow_in a (by omega) _).mono ?_); rintro e w2 ⟨v, rfl, hown, hB2⟩; obtain ⟨g2, cap2, rfl, hg12, hg22, hg32, hcells2⟩ := row_cells hown; clear hown))
  have hcells' : ∀ i, i < b + 1 → w2.cell? ⟨g, i, none⟩ = some (.int .i64 (bin b i)) := fun i hi => (hB2.cell (by exact hg2)).trans (hcells i hi)
  have hBB := hB.trans (hB2.mono hB.size)
  clear hcells hB hB2
  go_loop [8, 29] (fun s n => ∃ j : Nat, j ≤ a + 1 ∧ n = .int .i64 j ∧ s = .int .i64 (vs a b c j)) (fun _ n => a + 1 - (intOf n).toNat)
  case atStart => exact ⟨0, by omega, rfl, rfl⟩
  case round =>
    obtain ⟨j, hj, rfl, rfl⟩ := hrel
    have hs := vs_small a b c j ha hb
    by_cases hjr : j < a + 1
    · have hp := vt2_small a b c j ha hb
      have hcj := hcells2 j hjr
      have hst := hide (show vs a b c (j + 1) = vs a b c j + bin a j * vt2 b c j by rw [vs, vterm_vt2])
      have hcl := cellAt_rest g (b + 1) cap b c j w2 rfl hcells'
      clear hcells' hcells2
      go_wp2_with (go_at_call 38; refine hcl.mono ?_; clear hcl; rintro e w' ⟨rfl, rfl⟩)
      go_round
      case rel => exact ⟨j + 1, by omega, by go_num, by rw [hst.out]; go_num⟩
      case measure => simp [intOf]; omega
    · obtain rfl : j = a + 1 := by omega
      go_wp2
      go_ret
      exact ⟨rfl, hBB⟩

theorem implTurns_bad (row place : Int) (w : World) (h : row < 0 ∨ 60 < row ∨ place < 0 ∨ 60 < place) : Calls Try.prog 28 #[.int .i64 row, .int .i64 place] w fun e w' =>
    e = .returned (.tuple #[.int .i64 0, .bool false]) ∧ Below w.heap.size w w' := by
  by_cases h1 : row < 0 ∨ 60 < row
  all_goals
    go_enter Try.func28, Try.ntmps28
    go_wp2_with (first | (go_at_call 35; refine (within_t _ _ _ (by omega) (by omega)).mono ?_; rintro e w' ⟨rfl, rfl⟩) | (go_at_call 35; refine (within_f _ _ _ (by omega)).mono ?_; rintro e w' ⟨rfl, rfl⟩))
    go_ret2
    exact ⟨rfl, Below.refl _ _⟩

theorem ts_stable (r : Nat) : ∀ k, r + 1 ≤ k → ts r k = ts r (r + 1)
  | 0, h => by omega
  | k + 1, h => by
    by_cases e : k = r
    · rw [e]
    · show ts r k + sg k * bin r k = _
      rw [ts_stable r k (by omega), bin_over r k (by omega)]; simp
theorem sg_small (k : Nat) : -1 ≤ sg k ∧ sg k ≤ 1 := by unfold sg; split <;> omega
theorem sg_prod (r k : Nat) (h : r ≤ 61) : -2305843009213693952 ≤ sg k * bin r k ∧ sg k * bin r k ≤ 2305843009213693952 := by
  have := bin_small r k h
  unfold sg; split <;> omega

set_option maxRecDepth 100000 in
set_option maxHeartbeats 400000 in
theorem implTurns_short (r p : Nat) (hr : r ≤ 60) (hp : p ≤ 60) (h : p < r) (w : World) : Calls Try.prog 28 #[.int .i64 r, .int .i64 p] w fun e w' =>
    e = .returned (.tuple #[.int .i64 (ts r (p + 1)), .bool true]) ∧ Below w.heap.size w w' := by
  have hmx : max ((p : Int) + 1) 0 = (p : Int) + 1 := by omega
  go_enter Try.func28, Try.ntmps28
  go_wp2_with (first | (go_at_call 35; refine (within_t _ _ _ (by omega) (by omega)).mono ?_; rintro e w' ⟨rfl, rfl⟩) | (go_at_call 14; (with_reducible refine (implRow_in r (by omega) _).mono ?_); rintro e w1 ⟨v, rfl, hown, hB⟩; obtain ⟨g, cap, rfl, hg1, hg2, hg3, hcells⟩ := row_cells hown; clear hown))
  go_loop [6, 7, 26] (fun s q n => ∃ j : Nat, j ≤ p + 1 ∧ n = .int .i64 j ∧ q = .int .i64 (sg j) ∧ s = .int .i64 (ts r j)) (fun _ _ n => p + 1 - (intOf n).toNat)
  case atStart => exact ⟨0, by omega, rfl, rfl, rfl⟩
  case round =>
    obtain ⟨j, hj, rfl, rfl, rfl⟩ := hrel
    have hs := ts_small r j (by omega)
    by_cases hjr : j < p + 1
    · have hb := sg_prod r j (by omega)
      have hq := sg_small j
      have hcj := hcells j (by omega)
      have hst := hide (show ts r (j + 1) = ts r j + sg j * bin r j from rfl)
      have hsg := hide (sg_succ j)
      have hj2 : (j : Int) < (p : Int) + 1 := by omega
      clear hcells
      go_wp2
      go_round
      case rel => exact ⟨j + 1, by omega, by go_num, by rw [hsg.out], by rw [hst.out]⟩
      case measure => simp [intOf]; omega
    · obtain rfl : j = p + 1 := by omega
      have hj2 : ¬ (p : Int) + 1 < (p : Int) + 1 := by omega
      go_wp2
      go_ret2
      exact ⟨rfl, hB⟩

set_option maxRecDepth 100000 in
set_option maxHeartbeats 400000 in
theorem implTurns_long (r p : Nat) (hr : r ≤ 60) (hp : p ≤ 60) (h : ¬ p < r) (w : World) : Calls Try.prog 28 #[.int .i64 r, .int .i64 p] w fun e w' =>
    e = .returned (.tuple #[.int .i64 (ts r (r + 1)), .bool true]) ∧ Below w.heap.size w w' := by
  have hmx : max ((r : Int) + 1) 0 = (r : Int) + 1 := by omega
  go_enter Try.func28, Try.ntmps28
  go_wp2_with (first | (go_at_call 35; refine (within_t _ _ _ (by omega) (by omega)).mono ?_; rintro e w' ⟨rfl, rfl⟩) | (go_at_call 14; (with_reducible refine (implRow_in r (by omega) _).mono ?_); rintro e w1 ⟨v, rfl, hown, hB⟩; obtain ⟨g, cap, rfl, hg1, hg2, hg3, hcells⟩ := row_cells hown; clear hown))
  go_loop [6, 7, 26] (fun s q n => ∃ j : Nat, j ≤ r + 1 ∧ n = .int .i64 j ∧ q = .int .i64 (sg j) ∧ s = .int .i64 (ts r j)) (fun _ _ n => r + 1 - (intOf n).toNat)
  case atStart => exact ⟨0, by omega, rfl, rfl, rfl⟩
  case round =>
    obtain ⟨j, hj, rfl, rfl, rfl⟩ := hrel
    have hs := ts_small r j (by omega)
    by_cases hjr : j < r + 1
    · have hb := sg_prod r j (by omega)
      have hq := sg_small j
      have hcj := hcells j (by omega)
      have hst := hide (show ts r (j + 1) = ts r j + sg j * bin r j from rfl)
      have hsg := hide (sg_succ j)
      have hj2 : (j : Int) < (r : Int) + 1 := by omega
      clear hcells
      go_wp2
      go_round
      case rel => exact ⟨j + 1, by omega, by go_num, by rw [hsg.out], by rw [hst.out]⟩
      case measure => simp [intOf]; omega
    · obtain rfl : j = r + 1 := by omega
      have hj2 : ¬ (r : Int) + 1 < (r : Int) + 1 := by omega
      go_wp2
      go_ret2
      exact ⟨rfl, hB⟩

theorem implTurns_ok (r p : Nat) (hr : r ≤ 60) (hp : p ≤ 60) (w : World) : Calls Try.prog 28 #[.int .i64 r, .int .i64 p] w fun e w' =>
    e = .returned (.tuple #[.int .i64 (ts r (p + 1)), .bool true]) ∧ Below w.heap.size w w' := by
  by_cases h : p < r
  · exact implTurns_short r p hr hp h w
  · rw [ts_stable r (p + 1) (by omega)]; exact implTurns_long r p hr hp h w
end Go.Proofs.Ytncaddoflbdlpaa
