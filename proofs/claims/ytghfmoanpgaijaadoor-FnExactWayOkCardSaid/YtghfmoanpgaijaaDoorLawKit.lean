/-
  Contracts of the laws' own helpers: sameInts, eqIntS, markIntS, heldIntS.
-/
import Derived.Test.YtghfmoanpgaijaaDoorAlive
namespace Go.Proofs.YtghfmoanpgaijaaDoor
open Go.RowKit

/-- The slice value v reads as the numbers xs in the world w. -/
def Ints (w : World) (v : Value) (xs : List Int) : Prop :=
  (∃ a c, v = .slice a 0 c ∧ xs = []) ∨ ∃ g cap, v = .slice (some ⟨g, 0, none⟩) xs.length cap ∧ g < w.heap.size ∧ ∀ i, i < xs.length → w.cell? ⟨g, i, none⟩ = some (.int .i64 (xs.getD i 0))

theorem Ints.below {w w' : World} {v : Value} {xs : List Int} (h : Ints w v xs) (hb : Below w.heap.size w w') : Ints w' v xs := by
  rcases h with h | ⟨g, cap, rfl, hg, hc⟩
  · exact .inl h
  · exact .inr ⟨g, cap, rfl, Nat.lt_of_lt_of_le hg hb.size, fun i hi => (hb.cell (by exact hg)).trans (hc i hi)⟩
theorem Ints.of_owns {w : World} {base n : Nat} {v : Value} {xs : List Int} (h : w.ownsRow base 3 1 v n (xs.map (Value.int .i64))) : Ints w v xs := by
  have hl : xs.length = n := by have := h.1; simpa using this
  subst hl
  by_cases h0 : 0 < xs.length
  · obtain ⟨g, cap, rfl, _, h2, _, hc⟩ := owns_open h h0
    exact .inr ⟨g, cap, rfl, h2, fun i hi => hc i _ (by rw [List.getElem?_map, List.getElem?_eq_getElem hi]; simp [List.getD, hi])⟩
  · obtain rfl : xs = [] := List.length_eq_zero_iff.1 (by omega)
    rcases h.2 with ⟨rfl, _⟩ | ⟨g, cap, cur, rfl, _⟩
    · exact .inl ⟨_, _, rfl, rfl⟩
    · exact .inl ⟨_, _, rfl, rfl⟩

/-- A reading lives on where another block is written. -/
theorem Ints.grown {w w' : World} {v : Value} {xs : List Int} {g : Nat} (h : Ints w v xs) (hg : w.grownBy w' (some g)) (hne : v.ownBlock ≠ some g) : Ints w' v xs := by
  rcases h with h | ⟨b, cap, rfl, hb, hc⟩
  · exact .inl h
  · have hbg : some b ≠ some g := by simpa [Value.ownBlock] using hne
    exact .inr ⟨b, cap, rfl, Nat.lt_of_lt_of_le hb hg.size, fun i hi => hg.cell (hc i hi) (by exact hbg)⟩
end Go.Proofs.YtghfmoanpgaijaaDoor
