/-
  Circles as keys of a map, and arrays compared.
-/
import Derived.Test.YtmnmbelmcdfcjaaCirc10
import Derived.DeepKeys5
import Derived.Maps.OwnSet
namespace Go.Proofs.Ytmnmbelmcdfcjaa
open Go.RowKit
theorem arrT : Try.prog.underlying 45 = some (.array 8 3) := by kernel_rfl
theorem laidOut10 : laidOutB Try.prog = true := by kernel_rfl
theorem keyedCircle : Maps.Keyed Try.prog 47 := Maps.Keyed.of_law (deep_law_gate laidOut10 (of_decide_eq_true (by kernel_rfl)) (of_decide_eq_true (by kernel_rfl)) (by kernel_rfl) (by kernel_rfl))
theorem keyedArr : Maps.Keyed Try.prog 45 := Maps.Keyed.of_law (deep_law_gate laidOut10 (of_decide_eq_true (by kernel_rfl)) (of_decide_eq_true (by kernel_rfl)) (by kernel_rfl) (by kernel_rfl))
theorem wf_small {x : Nat} (h : x ≤ 1000000) : (Lit.int .i64 (x : Nat)).wf = true := WalkArith.wf_i64 (by constructor <;> omega)
theorem types_four : ∃ d, Try.prog.types.size + 1 = d + 4 := ⟨Try.prog.types.size - 3, by have : 4 ≤ Try.prog.types.size := of_decide_eq_true (by kernel_rfl); omega⟩
theorem key_arr (g : Nat → Nat) (hg : ∀ i, i < 8 → g i ≤ 1000000) : ∃ l, keyOf Try.prog 45 (.agg #[.int .i64 (g 0 : Nat), .int .i64 (g 1 : Nat), .int .i64 (g 2 : Nat), .int .i64 (g 3 : Nat), .int .i64 (g 4 : Nat), .int .i64 (g 5 : Nat), .int .i64 (g 6 : Nat), .int .i64 (g 7 : Nat)]) = some l := by
  obtain ⟨d, hd⟩ := types_four
  have h1 : Try.prog.keyType 45 = true := by kernel_rfl
  have h2 : Try.prog.cellsOf 45 = 8 := by kernel_rfl
  have h3 : Try.prog.cellsOf 3 = 1 := by kernel_rfl
  have w0 := wf_small (hg 0 (by omega))
  have w1 := wf_small (hg 1 (by omega))
  have w2 := wf_small (hg 2 (by omega))
  have w3 := wf_small (hg 3 (by omega))
  have w4 := wf_small (hg 4 (by omega))
  have w5 := wf_small (hg 5 (by omega))
  have w6 := wf_small (hg 6 (by omega))
  have w7 := wf_small (hg 7 (by omega))
  refine Option.isSome_iff_exists.1 ?_
  unfold keyOf
  rw [arrT, hd]
  simp [h1, Value.formed, h2, Value.cells, Program.keyLits, h3, Try.underlying3, w0, w1, w2, w3, w4, w5, w6, w7, List.range, List.range.loop]
theorem key_circle (g : Nat → Nat) (n : Nat) (hg : ∀ i, i < 8 → g i ≤ 1000000) (hn : n ≤ 1000000) : ∃ l, keyOf Try.prog 47 (crV g n) = some l := by
  obtain ⟨d, hd⟩ := types_four
  have h1 : Try.prog.keyType 47 = true := by kernel_rfl
  have h0 : Try.prog.cellsOf 47 = 9 := by kernel_rfl
  have h2 : Try.prog.cellsOf 45 = 8 := by kernel_rfl
  have h3 : Try.prog.cellsOf 3 = 1 := by kernel_rfl
  have w0 := wf_small (hg 0 (by omega))
  have w1 := wf_small (hg 1 (by omega))
  have w2 := wf_small (hg 2 (by omega))
  have w3 := wf_small (hg 3 (by omega))
  have w4 := wf_small (hg 4 (by omega))
  have w5 := wf_small (hg 5 (by omega))
  have w6 := wf_small (hg 6 (by omega))
  have w7 := wf_small (hg 7 (by omega))
  have w8 := wf_small hn
  refine Option.isSome_iff_exists.1 ?_
  unfold keyOf crV crA
  rw [Try.underlying47, hd]
  simp [h1, Value.formed, Try.underlying47, h0, h2, Value.cells, Program.keyLits, h3, Try.underlying3, w0, w1, w2, w3, w4, w5, w6, w7, w8, List.range, List.range.loop]
theorem key_inj {g h : Nat → Nat} {n m : Nat} {l : Lit} (h1 : keyOf Try.prog 47 (crV g n) = some l) (h2 : keyOf Try.prog 47 (crV h m) = some l) : ∀ i, i < 8 → g i = h i := crV_inj (keyedCircle.inj h1 h2)

theorem equal_arr (g : Nat → Nat) (hg : ∀ i, i < 8 → g i ≤ 1000000) (w : World) : ∃ r, (Op.equalIn 10000 45 (.agg #[.int .i64 (g 0 : Nat), .int .i64 (g 1 : Nat), .int .i64 (g 2 : Nat), .int .i64 (g 3 : Nat), .int .i64 (g 4 : Nat), .int .i64 (g 5 : Nat), .int .i64 (g 6 : Nat), .int .i64 (g 7 : Nat)])
    (.agg #[.int .i64 0, .int .i64 0, .int .i64 0, .int .i64 0, .int .i64 0, .int .i64 0, .int .i64 0, .int .i64 0])).run Try.prog w = .ok r w ∧ (r = true ↔ ∀ i, i < 8 → g i = 0) := by
  obtain ⟨l, hl⟩ := key_arr g hg
  obtain ⟨z, hz⟩ := key_arr (fun _ => 0) (fun _ _ => by omega)
  obtain ⟨r, h1, h2⟩ := run_equal_deep (P := Try.prog) w (m := Try.prog.types.size + 1) (of_decide_eq_true (by kernel_rfl)) (k := 45) (by kernel_rfl) (by kernel_rfl) hl hz
  refine ⟨r, h1, h2.trans ⟨fun e => ?_, fun e => ?_⟩⟩
  · subst e
    have := keyedArr.inj hl hz
    simp only [Value.agg.injEq, Array.mk.injEq, List.cons.injEq, Value.int.injEq, true_and, and_true] at this
    obtain ⟨a0, a1, a2, a3, a4, a5, a6, a7⟩ := this
    intro i hi
    match i, hi with
    | 0, _ => omega
    | 1, _ => omega
    | 2, _ => omega
    | 3, _ => omega
    | 4, _ => omega
    | 5, _ => omega
    | 6, _ => omega
    | 7, _ => omega
  · rw [e 0 (by omega), e 1 (by omega), e 2 (by omega), e 3 (by omega), e 4 (by omega), e 5 (by omega), e 6 (by omega), e 7 (by omega)] at hl
    rw [hl] at hz
    injection hz
end Go.Proofs.Ytmnmbelmcdfcjaa
