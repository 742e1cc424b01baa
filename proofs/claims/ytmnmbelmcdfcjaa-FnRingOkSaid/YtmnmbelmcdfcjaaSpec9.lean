/-
  The model's SideOk, UnderOf and LastOf: for every row what they hand back.
-/
import Derived.Test.YtmnmbelmcdfcjaaLawKit
import Derived.Test.YtmnmbelmcdfcjaaMathZ
import Derived.Test.YtmnmbelmcdfcjaaSpec2b
namespace Go.Proofs.Ytmnmbelmcdfcjaa
open Go.RowKit

theorem ret_bool {a b : Bool} (h : a = b) : Ending.returned (.bool a) = .returned (.bool b) := by rw [h]
theorem Ints.shape {w : World} {v : Value} {xs : List Int} (h : Ints w v xs) : ∃ a c, v = .slice a xs.length c := by
  rcases h with ⟨a, c, rfl, rfl⟩ | ⟨g, cap, rfl, _⟩
  · exact ⟨_, _, rfl⟩
  · exact ⟨_, _, rfl⟩
theorem Ints.cells {w : World} {v : Value} {xs : List Int} (h : Ints w v xs) (h0 : 1 ≤ xs.length) : ∃ g cap, v = .slice (some ⟨g, 0, none⟩) xs.length cap ∧ g < w.heap.size ∧ ∀ i, i < xs.length → w.cell? ⟨g, i, none⟩ = some (.int .i64 (xs.getD i 0)) := by
  rcases h with ⟨a, c, rfl, rfl⟩ | ⟨g, cap, rfl, hg, hc⟩
  · simp at h0
  · exact ⟨g, cap, rfl, hg, hc⟩

end Go.Proofs.Ytmnmbelmcdfcjaa
