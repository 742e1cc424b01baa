/-
  A slice of deeds that came in, as it reads.
-/
import Derived.Test.YtdgolpgggahknaaDoorSpecZ
import Derived.Deep.Slices
import Derived.Deep.Fields
import Derived.ChangeSame
import Derived.OpenShut

namespace Go.Proofs.YtdgolpgggahknaaDoor
open Go.RowKit Go.ChangeShapes Go.WideShapes Go.Deep

set_option maxRecDepth 100000 in
theorem open_deeds {H : Type} {enc : TypeId × Value → H} {W : World} {base : Nat} {spare : Nat → Bool} {held : Bool} {a : Option Addr} {len cap : Nat} {d : DataW H} {p : List MemPlace}
    (h : DataW.Trod enc Tryd.prog W base spare held 40 (.slice a len cap) d p) : ∃ L : List (Int × Int), DeedsI W (.slice a len cap) L ∧ (∀ x ∈ L, Fits x.1 ∧ Fits x.2) ∧ L.length ≤ 9223372036854775807 := by
  obtain ⟨fuel, hf⟩ := h
  rcases open_slice Tryd.underlying40 hf with ⟨hcs, _⟩ | ⟨a', len', cap', m, n, D, Pl, hcs, hb, hl, hm, hmm, hx, hi⟩
  · simp [Value.cells] at hcs
    obtain ⟨rfl, rfl, rfl⟩ := hcs
    exact ⟨[], ⟨none, 0, rfl, fun h => absurd h (by simp)⟩, by simp, by simp⟩
  · simp [Value.cells] at hcs
    obtain ⟨rfl, rfl, rfl⟩ := hcs
    have h2 : Tryd.prog.cellsOf 80 = 2 := by kernel_rfl
    have h1 : Tryd.prog.cellsOf 3 = 1 := by kernel_rfl
    have hml : len ≤ m := by rw [hmm]; split <;> omega
    have key : ∀ i, i < len → ∃ q : Int × Int, Fits q.1 ∧ Fits q.2 ∧ W.cell? (a'.add (i * 2)) = some (.int .i64 q.1) ∧ W.cell? ((a'.add (i * 2)).add 1) = some (.int .i64 q.2) := fun i him => by
      obtain ⟨cs', hc, ht⟩ := hi i (by omega)
      rw [h2] at hc
      obtain ⟨_, hcl, hat⟩ := World.cells?_some hc
      obtain ⟨y0, y1, n', _, _, t0, t1⟩ := trod_struct2 Tryd.underlying80 ht
      match cs', hcl with
      | [c0, c1], _ =>
        simp only [h1] at t0 t1
        obtain ⟨k0, e0, _, w0⟩ := DataW.trod_int Tryd.underlying3 t0
        obtain ⟨k1, e1, _, w1⟩ := DataW.trod_int Tryd.underlying3 t1
        simp at e0 e1
        subst e0
        subst e1
        have q0 := hat 0 (by omega)
        have q1 := hat 1 (by omega)
        exact ⟨(k0, k1), bounds_i64 w0, bounds_i64 w1, by simpa [Addr.add] using q0, by simpa using q1⟩
    have hex : ∃ f : Nat → Int × Int, ∀ i, i < len → Fits (f i).1 ∧ Fits (f i).2 ∧ W.cell? (a'.add (i * 2)) = some (.int .i64 (f i).1) ∧ W.cell? ((a'.add (i * 2)).add 1) = some (.int .i64 (f i).2) :=
      ⟨fun i => if h : i < len then Classical.choose (key i h) else (0, 0), fun i h => by dsimp only; rw [dif_pos h]; exact Classical.choose_spec (key i h)⟩
    obtain ⟨f, hfs⟩ := hex
    have hget : ∀ k, k < len → ((List.range len).map f).getD k (0, 0) = f k := fun k hk => by rw [List.getD, List.getElem?_map, List.getElem?_range hk]; rfl
    refine ⟨(List.range len).map f, ⟨some a', cap, by simp, fun h0 => ?_⟩, fun x hx => ?_, by simp; unfold maxLen at hm; omega⟩
    · have h0 : 0 < len := by simpa using h0
      obtain ⟨b, off, spot⟩ := a'
      have hc0 := (hfs 0 h0).2.2.1
      have hs : spot = none := by simpa [Addr.add] using World.cell?_spot hc0
      subst hs
      have hbl : b < W.heap.size := by
        have := World.block_lt_of_cell? W _ hc0
        simpa [Addr.add] using this
      refine ⟨b, off, rfl, hbl, fun k hk => ?_⟩
      have hk : k < len := by simpa using hk
      obtain ⟨_, _, g1, g2⟩ := hfs k hk
      have ha : ∀ o j, (⟨b, o, none⟩ : Addr).add j = ⟨b, o + j, none⟩ := fun o j => by unfold Addr.add; split <;> simp_all
      rw [hget k hk]
      rw [ha, ha] at g2
      rw [ha] at g1
      exact ⟨g1, g2⟩
    · obtain ⟨i, hi2, rfl⟩ := List.mem_map.1 hx
      have := hfs i (List.mem_range.1 hi2)
      exact ⟨this.1, this.2.1⟩
end Go.Proofs.YtdgolpgggahknaaDoor
