/-
  CellLeft: the model's and the program's, for every argument.
-/
import Derived.Test.YtehmobcfbifocaaImpl7
namespace Go.Proofs.Ytehmobcfbifocaa
open Go Go.Conc Go.ConcN Go.RowKit

/-- What CellLeft says. -/
def cellLV (row place by' : Int) : Int := if 0 ≤ row ∧ row ≤ 300 ∧ 0 ≤ place ∧ place ≤ row ∧ 2 ≤ by' ∧ by' ≤ 100000 then (leftN by'.toNat row.toNat place.toNat : Nat) else -1
theorem specCell (row place by' : Int) (v : World) : Calls Try.prog 15 #[.int .i64 row, .int .i64 place, .int .i64 by'] v fun e v' => e = .returned (.int .i64 (cellLV row place by')) ∧ Below v.heap.size v v' := by
  unfold cellLV
  by_cases h : 0 ≤ row ∧ row ≤ 300 ∧ 0 ≤ place ∧ place ≤ row ∧ 2 ≤ by' ∧ by' ≤ 100000
  · rw [if_pos h]
    obtain ⟨r, rfl⟩ : ∃ r : Nat, row = r := ⟨row.toNat, by omega⟩
    obtain ⟨p, rfl⟩ : ∃ r : Nat, place = r := ⟨place.toNat, by omega⟩
    obtain ⟨q, rfl⟩ : ∃ r : Nat, by' = r := ⟨by'.toNat, by omega⟩
    simp only [Int.toNat_natCast]
    exact specCellLeft_in r p q (by omega) (by omega) (by omega) (by omega) v
  · rw [if_neg h]
    exact (specCellLeft_out row place by' (by unfold badC; omega) v).mono fun _ _ h => ⟨h.1, h.2 ▸ Below.refl _ _⟩
section
variable {W : World} {c : Nat} {S : Nat → Prop} {b₀ : Frame} {a₀ : Act} {ops₀ : Array Oper} {i₀ : Nat} {rest₀ : List Nat} {k₀ : List Item} {cs : List Frame}
theorem cellLeft (hc : c ≤ 90000) (row place by' : Int) (hrows : Rows1 S W) :
    BW Try.prog c S (G (Frame.enter Try.prog 14 #[.int .i64 row, .int .i64 place, .int .i64 by'] .normal) (b₀.at a₀ (.inRegion ops₀ (i₀ :: rest₀) :: k₀) :: cs)) W
      (TaintAt c 4800 S (b₀.at a₀ (.inRegion ops₀ (i₀ :: rest₀) :: k₀)) cs (.int .i64 (cellLV row place by')) W) := by
  unfold cellLV
  by_cases h : 0 ≤ row ∧ row ≤ 300 ∧ 0 ≤ place ∧ place ≤ row ∧ 2 ≤ by' ∧ by' ≤ 100000
  · rw [if_pos h]
    obtain ⟨r, rfl⟩ : ∃ r : Nat, row = r := ⟨row.toNat, by omega⟩
    obtain ⟨p, rfl⟩ : ∃ r : Nat, place = r := ⟨place.toNat, by omega⟩
    obtain ⟨q, rfl⟩ : ∃ r : Nat, by' = r := ⟨by'.toNat, by omega⟩
    simp only [Int.toNat_natCast]
    exact cellLeft_in r p q (by omega) (by omega) (by omega) (by omega) hc hrows
  · rw [if_neg h]
    have weak : ∀ {x : Value}, BW Try.prog c S (G (Frame.enter Try.prog 14 #[.int .i64 row, .int .i64 place, .int .i64 by'] .normal) (b₀.at a₀ (.inRegion ops₀ (i₀ :: rest₀) :: k₀) :: cs)) W (TaintAt c 0 S (b₀.at a₀ (.inRegion ops₀ (i₀ :: rest₀) :: k₀)) cs x W) →
        BW Try.prog c S (G (Frame.enter Try.prog 14 #[.int .i64 row, .int .i64 place, .int .i64 by'] .normal) (b₀.at a₀ (.inRegion ops₀ (i₀ :: rest₀) :: k₀) :: cs)) W (TaintAt c 4800 S (b₀.at a₀ (.inRegion ops₀ (i₀ :: rest₀) :: k₀)) cs x W) :=
      fun h => h.mono fun _ _ _ _ x => ⟨by have := x.1; omega, x.2⟩
    by_cases h1 : 0 ≤ row ∧ row ≤ 300
    · by_cases h2 : 0 ≤ place ∧ place ≤ row
      · by_cases h3 : by' < 2
        · exact weak (cellLeft_out3 row place by' h1 h2 h3 hrows)
        · exact weak (cellLeft_out4 row place by' h1 h2 h3 (by omega) hrows)
      · exact weak (cellLeft_out2 row place by' h1 (by omega) hrows)
    · exact weak (cellLeft_out1 row place by' (by omega) hrows)
end
end Go.Proofs.Ytehmobcfbifocaa
