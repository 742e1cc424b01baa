/-
  What chapter 7's laws want: rows of arguments later, draws beside leavers, facts about the values.
-/
import Derived.Test.YtehmobcfbifocaaLaws7b
import Derived.Test.YtehmobcfbifocaaBeside3
import Derived.Test.YtehmobcfbifocaaCalmX
import Derived.Test.YtehmobcfbifocaaDrawZ
import Derived.Test.YtehmobcfbifocaaNum7
namespace Go.Proofs.Ytehmobcfbifocaa
open Go Go.Conc Go.ConcN Go.RowKit

theorem isRow_low {k : IntKind} {V v : World} {a : Option Addr} {len cap : Nat} {zs : List Int} (h : IsRow k V a len cap zs) (hb : ∀ j, j < V.heap.size → v.heap[j]? = V.heap[j]?) : IsRow k v a len cap zs := by
  rcases h with h | ⟨x, h1, h2, h3, h4, h5, h6⟩
  · exact .inl h
  · refine .inr ⟨x, h1, h2, h3, h4, fun i hi => ?_, h6⟩
    have h7 := h5 i hi
    have hlt : (x.add i).block < V.heap.size := by
      unfold World.cell? at h7
      cases e : V.heap[(x.add i).block]? with
      | none => rw [e] at h7; split at h7 <;> simp_all
      | some o => exact (Array.getElem?_eq_some_iff.1 e).1
    unfold World.cell? at h7 ⊢
    rw [hb _ hlt]
    exact h7
theorem isRow_at {k : IntKind} {W w v : World} {a : Option Addr} {len cap : Nat} {zs : List Int} (h : IsRow k W a len cap zs) (hF : KF W (fun _ => False) (fun _ => False) w) (hv : Sim (fun _ => False) v w) : IsRow k v a len cap zs :=
  isRow_low h fun j hj => by rw [sim_none hv]; exact hF.low j hj (fun h => h)
theorem cellLV_in {r p q : Nat} (h1 : r ≤ 300) (h2 : p ≤ r) (h3 : 2 ≤ q) (h4 : q ≤ 100000) : cellLV (r : Nat) (p : Nat) (q : Nat) = (bin r p % q : Nat) := by
  unfold cellLV
  rw [if_pos (by omega)]
  simp only [Int.toNat_natCast]
  rfl
theorem twice_no {p : Int} (h : twiceOk p = false) : twiceLV p = -1 := by
  unfold twiceLV
  rw [h]
  rfl
theorem twice_yes {p : Int} (h : twiceOk p = true) (h5 : ¬ p < 5) : twiceLV p = 2 := by
  unfold twiceLV
  rw [if_pos h]
  unfold twiceOk at h
  simp only [Bool.and_eq_true, decide_eq_true_eq] at h
  obtain ⟨P, rfl⟩ : ∃ N : Nat, p = N := ⟨p.toNat, by omega⟩
  have hp := h.2
  rw [Int.toNat_natCast] at hp
  have hP : P ≤ 43 := by omega
  have hR1 : P * P * P ≤ 43 * 43 * 43 := Nat.mul_le_mul (Nat.mul_le_mul hP hP) hP
  have hR0 : 5 * 5 * 5 ≤ P * P * P := Nat.mul_le_mul (Nat.mul_le_mul (by omega) (by omega)) (by omega)
  rw [show (2 * (P : Int)) = ((2 * P : Nat) : Int) by omega, ← Int.natCast_mul, ← Int.natCast_mul, cellLV_in (by omega) (by omega) (by omega) (by omega), twi_fact (by omega) hP hp]
  rfl
theorem twice_two : twiceLV 2 = 6 := by decide +kernel
theorem twice_three : twiceLV 3 = 20 := by decide +kernel
theorem twice_ok2 : twiceOk 2 = true := by decide
theorem twice_ok3 : twiceOk 3 = true := by decide
theorem between_nat {n : Nat} (h2 : 2 ≤ n) (h3 : n ≤ 300) : betweenV (n : Nat) = isP n := by
  rw [Bool.eq_iff_iff, ← bet_fact h2 h3]
  unfold betweenV
  rw [Int.toNat_natCast, decide_eq_true ⟨by omega, by omega⟩, Bool.true_and]
  constructor
  · intro h k hk1 hk2
    have := List.all_eq_true.1 h k (List.mem_range.2 hk2)
    rw [decide_eq_false (by omega), Bool.false_or, beq_iff_eq, cellLV_in h3 (by omega) h2 (by omega)] at this
    exact Int.ofNat.inj this
  · intro h
    refine List.all_eq_true.2 fun k hk => ?_
    have hk' := List.mem_range.1 hk
    by_cases e : k < 1
    · rw [decide_eq_true e]; rfl
    · rw [decide_eq_false e, Bool.false_or, beq_iff_eq, cellLV_in h3 (by omega) h2 (by omega), h k (by omega) hk']
      rfl
theorem between_seven : betweenV 7 = true := (between_nat (n := 7) (by omega) (by omega)).trans (by decide)
end Go.Proofs.Ytehmobcfbifocaa
