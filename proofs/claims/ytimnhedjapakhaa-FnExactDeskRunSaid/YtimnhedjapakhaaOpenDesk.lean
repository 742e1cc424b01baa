/-
  A desk that came in, as it reads.
-/
import Derived.Test.YtimnhedjapakhaaLawKit10
import Derived.Deep.Slices
import Derived.Deep.Fields
import Derived.ChangeSame
import Derived.ChangeSlices
import Derived.OpenShut
import Derived.Lib.SmallJoins
namespace Go.Proofs.Ytimnhedjapakhaa
open Go.RowKit Go.ChangeShapes Go.WideShapes Go.Deep

set_option maxRecDepth 100000 in
theorem open_row {H : Type} {enc : TypeId × Value → H} {W : World} {base : Nat} {spare : Nat → Bool} {held : Bool} {fuel : Nat} {u : Value} {x : DataW H × List MemPlace}
    (h : DataW.trod enc Try.prog W base spare held fuel 23 [u] = some x) : ∃ xs : List Int, ArgI W u xs ∧ xs.length ≤ 9223372036854775807 := by
  rcases open_ints Try.underlying23 Try.underlying3 (by kernel_rfl) h with ⟨hcs, _⟩ | ⟨a, len, cap, zs, hcs, _, hl, hm, hz, _, hcell, _⟩
  · injection hcs with e
    subst e
    exact ⟨[], .inl ⟨none, 0, rfl, rfl⟩, by simp⟩
  · injection hcs with e
    subst e
    have hlz : len ≤ zs.length := by rw [hz]; split <;> omega
    have hlen : (zs.take len).length = len := by simp; omega
    refine ⟨zs.take len, ?_, by rw [hlen]; unfold maxLen at hm; omega⟩
    by_cases h0 : len = 0
    · subst h0; exact .inl ⟨_, _, rfl, by simp⟩
    · obtain ⟨b, off, spot⟩ := a
      have h1 := hcell 0 (by omega)
      have hs : spot = none := by simpa [Addr.add] using World.cell?_spot h1
      subst hs
      have hb : b < W.heap.size := by
        have := World.block_lt_of_cell? W _ h1
        simpa [Addr.add] using this
      refine .inr ⟨b, off, cap, by rw [hlen], hb, fun i hi => ?_⟩
      have h2 := hcell i (by omega)
      have hadd : (⟨b, off, none⟩ : Addr).add i = ⟨b, off + i, none⟩ := by unfold Addr.add; split <;> simp_all
      rw [hadd] at h2
      rw [h2, List.getD, List.getD, List.getElem?_take, if_pos (by omega)]

set_option maxRecDepth 100000 in
theorem open_desk {H : Type} {enc : TypeId × Value → H} {W : World} {r : Reach} {b0 base : Nat} {spare : Nat → Bool} {held : Bool} {v : Value} {d : DataW H} {p : List MemPlace}
    (hv : Value.okWide Try.prog W r b0 44 v) (h : DataW.Trod enc Try.prog W base spare held 44 v d p) :
    ∃ D : Dk, ArgD W v D ∧ D.1.length ≤ 9223372036854775807 ∧ D.2.length ≤ 9223372036854775807 ∧ ∀ j, (D.2.getD j []).length ≤ 9223372036854775807 := by
  obtain ⟨u0, u1, y0, y1, n, rfl, _, _, t0, t1⟩ := Go.Joins.open_agg2 Try.underlying44 (by kernel_rfl) (by kernel_rfl) hv h
  obtain ⟨xs, hx, hxl⟩ := open_row t0
  rcases open_slice1 Try.underlying24 (by kernel_rfl) t1 with ⟨hcs, _⟩ | ⟨a, len, cap, m, n', V, D, Pl, hcs, _, hl, hm, hmm, _, hi⟩
  · injection hcs with e
    subst e
    exact ⟨(xs, []), ⟨_, _, rfl, hx, none, 0, rfl, fun h => absurd h (Nat.lt_irrefl 0)⟩, hxl, by simp, fun j => by simp⟩
  · injection hcs with e
    subst e
    have hml : len ≤ m := by rw [hmm]; split <;> omega
    have hex : ∀ i, i < len → ∃ row : List Int, ArgI W (V i) row ∧ row.length ≤ 9223372036854775807 := fun i him => open_row (hi i (by omega)).2
    have hch : ∃ f : Nat → List Int, (∀ i, i < len → ArgI W (V i) (f i)) ∧ ∀ i, i < len → (f i).length ≤ 9223372036854775807 :=
      ⟨fun i => if h : i < len then Classical.choose (hex i h) else [], fun i h => by dsimp only; rw [dif_pos h]; exact (Classical.choose_spec (hex i h)).1, fun i h => by dsimp only; rw [dif_pos h]; exact (Classical.choose_spec (hex i h)).2⟩
    obtain ⟨f, hf1, hf2⟩ := hch
    have hget : ∀ k, k < len → ((List.range len).map f).getD k [] = f k := fun k hk => by rw [List.getD, List.getElem?_map, List.getElem?_range hk]; rfl
    refine ⟨(xs, (List.range len).map f), ⟨_, _, rfl, hx, some a, cap, by simp, fun h0 => ?_⟩, hxl, by simp; unfold maxLen at hm; omega, fun j => ?_⟩
    · have h0 : 0 < len := by simpa using h0
      obtain ⟨b, off, spot⟩ := a
      have h1 := (hi 0 (by omega)).1
      have hs : spot = none := by simpa [Addr.add] using World.cell?_spot h1
      subst hs
      have hb : b < W.heap.size := by
        have := World.block_lt_of_cell? W _ h1
        simpa [Addr.add] using this
      refine ⟨b, off, rfl, hb, fun k hk => ?_⟩
      have hk : k < len := by simpa using hk
      have h2 := (hi k (by omega)).1
      have hadd : (⟨b, off, none⟩ : Addr).add k = ⟨b, off + k, none⟩ := by unfold Addr.add; split <;> simp_all
      rw [hadd] at h2
      rw [hget k hk]
      exact ⟨V k, h2, hf1 k hk⟩
    · by_cases hj : j < len
      · show ((List.range len).map f |>.getD j []).length ≤ _
        rw [hget j hj]; exact hf2 j hj
      · show ((List.range len).map f |>.getD j []).length ≤ _
        rw [List.getD, List.getElem?_eq_none (by simp; omega)]; simp
end Go.Proofs.Ytimnhedjapakhaa
