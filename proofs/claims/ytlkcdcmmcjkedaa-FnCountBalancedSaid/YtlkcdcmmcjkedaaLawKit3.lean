/-
  The laws' helpers over rows of rows: what a slice of rows reads as; rows of one's own, each in a block of its own.
-/
import Derived.Test.YtlkcdcmmcjkedaaLawKit2
import Derived.Test.YtlkcdcmmcjkedaaRows2
namespace Go.Proofs.Ytlkcdcmmcjkedaa
open Go.RowKit

/-- A slice of rows, as it reads. -/
def RowsI (W : World) (v : Value) (rows : List (List Int)) : Prop :=
  ∃ a c, v = .slice a rows.length c ∧ (0 < rows.length → ∃ G, a = some ⟨G, 0, none⟩ ∧ G < W.heap.size ∧ ∀ j, j < rows.length → ∃ u, W.cell? ⟨G, j, none⟩ = some u ∧ Ints W u (rows.getD j []))
theorem RowsI.below {W W' : World} {v : Value} {rows : List (List Int)} (h : RowsI W v rows) (hb : Below W.heap.size W W') : RowsI W' v rows := by
  obtain ⟨a, c, rfl, h⟩ := h
  refine ⟨a, c, rfl, fun h0 => ?_⟩
  obtain ⟨G, rfl, hG, hr⟩ := h h0
  refine ⟨G, rfl, Nat.lt_of_lt_of_le hG hb.size, fun j hj => ?_⟩
  obtain ⟨u, h1, h2⟩ := hr j hj
  exact ⟨u, (hb.cell (p := ⟨G, j, none⟩) hG).trans h1, h2.below hb⟩
theorem OwnSS.rowsI {w : World} {base : Nat} {v : Value} {rows : List (List Int)} (h : OwnSS w base v rows) : RowsI w v rows := by
  by_cases h0 : 0 < rows.length
  · obtain ⟨g, cap, rfl, h1, h2⟩ := h.read h0
    refine ⟨_, _, rfl, fun _ => ⟨g, rfl, h1, fun j hj => ?_⟩⟩
    obtain ⟨u, h3, h4, _⟩ := h2 j hj
    exact ⟨u, h3, h4⟩
  · obtain ⟨us, h1, h2, _⟩ := h
    obtain ⟨a, c, rfl⟩ : ∃ a c, v = .slice a us.length c := by
      rcases h2.2 with ⟨rfl, hn⟩ | ⟨g, cap, cur, rfl, _⟩
      · exact ⟨_, _, by rw [hn]⟩
      · exact ⟨_, _, rfl⟩
    exact ⟨a, c, by rw [h1], fun h => absurd h h0⟩

/-- Rows of one's own, each in a block of its own: what a function that makes rows hands back. -/
def OwnRows (w : World) (base : Nat) (v : Value) (rows : List (List Int)) : Prop :=
  ∃ us : List Value, us.length = rows.length ∧ w.ownsRow base 23 1 v us.length us ∧ (∀ j, j < rows.length → w.ownsRow base 3 1 (us.getD j undef) (rows.getD j []).length ((rows.getD j []).map (Value.int .i64))) ∧
    ∀ i j, i < j → j < rows.length → (us.getD i undef).ownBlock ≠ (us.getD j undef).ownBlock
theorem OwnRows.ownSS {w : World} {base : Nat} {v : Value} {rows : List (List Int)} (h : OwnRows w base v rows) : OwnSS w base v rows := by
  obtain ⟨us, h1, h2, h3, _⟩ := h
  exact ⟨us, h1, h2, h3⟩

/-- Rows of one's own between two marks: the block of the slice, the rows' blocks, and what they hold. -/
structure Grid (W : World) (base lim G n : Nat) (b cb L : Nat → Nat) (F : Nat → Nat → Int) : Prop where
  gb : base ≤ G ∧ G < lim ∧ G < W.heap.size
  at_ : ∀ j, j < n → W.cell? ⟨G, j, none⟩ = some (.slice (some ⟨b j, 0, none⟩) (L j) (cb j))
  rb : ∀ j, j < n → base ≤ b j ∧ b j < lim ∧ b j ≠ G
  row : ∀ j, j < n → RowAt W (b j) (L j) (F j)
  ne : ∀ i j, i < j → j < n → b i ≠ b j
/-- What changes between two marks alone. -/
structure Between (base lim : Nat) (W W' : World) : Prop where
  os : W'.os = W.os
  tape : W'.tape = W.tape
  output : W'.output = W.output
  size : W.heap.size ≤ W'.heap.size
  block : ∀ k, k < W.heap.size → (k < base ∨ lim ≤ k) → W'.heap[k]? = W.heap[k]?
theorem Between.refl (base lim : Nat) (W : World) : Between base lim W W := ⟨rfl, rfl, rfl, Nat.le_refl _, fun _ _ _ => rfl⟩
theorem Between.grown {base lim : Nat} {W W' W2 : World} {row : Option Nat} (h : Between base lim W W') (hg : W'.grownBy W2 row) (hr : ∀ k, row = some k → base ≤ k ∧ k < lim) : Between base lim W W2 :=
  ⟨hg.os.trans h.os, hg.tape.trans h.tape, hg.output.trans h.output, Nat.le_trans h.size hg.size, fun k hk ho => (hg.block k (Nat.lt_of_lt_of_le hk h.size) (fun e => by have := hr k e.symm; omega)).trans (h.block k hk ho)⟩
theorem Between.below {base lim B : Nat} {W W' W0 : World} (h : Between base lim W W') (h0 : Below B W0 W) (hb : B ≤ base) (hs : B ≤ W.heap.size) : Below B W0 W' :=
  h0.trans ⟨h.os, h.tape, h.output, h.size, fun k hk => h.block k (Nat.lt_of_lt_of_le hk hs) (.inl (by omega))⟩
theorem OwnI.between {W W' : World} {base lim base' lim' n : Nat} {v : Value} {f : Nat → Int} (h : OwnI W base lim v n f) (hg : Between base' lim' W W') (hr : lim ≤ base' ∨ lim' ≤ base) : OwnI W' base lim v n f := by
  rcases h with h | ⟨g, cap, rfl, h1, h2, h3⟩
  · exact .inl h
  · exact .inr ⟨g, cap, rfl, h1, h2, h3.of_block (hg.block g h3.lt (by omega))⟩
theorem Grid.below {W W' : World} {base lim G n : Nat} {b cb L : Nat → Nat} {F : Nat → Nat → Int} (h : Grid W base lim G n b cb L F) (hb : Below W.heap.size W W') : Grid W' base lim G n b cb L F :=
  ⟨⟨h.gb.1, h.gb.2.1, Nat.lt_of_lt_of_le h.gb.2.2 hb.size⟩, fun j hj => (hb.cell (p := ⟨G, j, none⟩) h.gb.2.2).trans (h.at_ j hj), h.rb, fun j hj => (h.row j hj).of_block (hb.block _ (h.row j hj).lt), h.ne⟩
theorem Grid.between {W W' : World} {base lim base' lim' G n : Nat} {b cb L : Nat → Nat} {F : Nat → Nat → Int} (h : Grid W base lim G n b cb L F) (hg : Between base' lim' W W') (hr : lim ≤ base' ∨ lim' ≤ base) : Grid W' base lim G n b cb L F :=
  ⟨⟨h.gb.1, h.gb.2.1, Nat.lt_of_lt_of_le h.gb.2.2 hg.size⟩,
    fun j hj => (show W'.cell? ⟨G, j, none⟩ = W.cell? ⟨G, j, none⟩ from World.cell?_of_block (w := W) (hg.block G h.gb.2.2 (by have := h.gb; omega))).trans (h.at_ j hj), h.rb,
    fun j hj => (h.row j hj).of_block (hg.block _ (h.row j hj).lt (by have := h.rb j hj; omega)), h.ne⟩
theorem Grid.set {W W' : World} {base lim G n : Nat} {b cb L : Nat → Nat} {F F' : Nat → Nat → Int} (h : Grid W base lim G n b cb L F) {k : Nat} (hk : k < n) (hg : W.grownBy W' (some (b k))) (hr : RowAt W' (b k) (L k) (F' k)) (he : ∀ j, j ≠ k → F' j = F j) : Grid W' base lim G n b cb L F' := by
  refine ⟨⟨h.gb.1, h.gb.2.1, Nat.lt_of_lt_of_le h.gb.2.2 hg.size⟩, fun j hj => ?_, h.rb, fun j hj => ?_, h.ne⟩
  · exact (show W'.cell? ⟨G, j, none⟩ = W.cell? ⟨G, j, none⟩ from World.cell?_of_block (w := W) (hg.block G h.gb.2.2 (fun e => by have := (h.rb k hk).2.2; injection e with e; omega))).trans (h.at_ j hj)
  · by_cases e : j = k
    · subst e; exact hr
    · rw [he j e]
      refine (h.row j hj).of_block (hg.block _ (h.row j hj).lt (fun e2 => ?_))
      injection e2 with e2
      rcases Nat.lt_or_ge j k with h3 | h3
      · exact h.ne j k h3 hk e2
      · exact h.ne k j (by omega) hj e2.symm

/-- A slice of rows of one's own: none, or a grid. -/
def OwnG (W : World) (base lim : Nat) (v : Value) (n : Nat) (L : Nat → Nat) (F : Nat → Nat → Int) : Prop :=
  (n = 0 ∧ ∃ a c, v = .slice a 0 c) ∨ ∃ G cap b cb, v = .slice (some ⟨G, 0, none⟩) n cap ∧ Grid W base lim G n b cb L F
theorem OwnG.below {W W' : World} {base lim n : Nat} {v : Value} {L : Nat → Nat} {F : Nat → Nat → Int} (h : OwnG W base lim v n L F) (hb : Below W.heap.size W W') : OwnG W' base lim v n L F := by
  rcases h with h | ⟨G, cap, b, cb, rfl, h⟩
  · exact .inl h
  · exact .inr ⟨G, cap, b, cb, rfl, h.below hb⟩
theorem OwnG.between {W W' : World} {base lim base' lim' n : Nat} {v : Value} {L : Nat → Nat} {F : Nat → Nat → Int} (h : OwnG W base lim v n L F) (hg : Between base' lim' W W') (hr : lim ≤ base' ∨ lim' ≤ base) : OwnG W' base lim v n L F := by
  rcases h with h | ⟨G, cap, b, cb, rfl, h⟩
  · exact .inl h
  · exact .inr ⟨G, cap, b, cb, rfl, h.between hg hr⟩
theorem OwnG.of_rows {w w' : World} {v : Value} {rows : List (List Int)} (h : OwnRows w' w.heap.size v rows) (h1 : ∀ j, j < rows.length → 0 < (rows.getD j []).length) :
    OwnG w' w.heap.size w'.heap.size v rows.length (fun j => (rows.getD j []).length) (fun j i => (rows.getD j []).getD i 0) := by
  obtain ⟨us, hl, hv, hr, hne⟩ := h
  by_cases h0 : 0 < rows.length
  · right
    rcases hv.2 with ⟨_, hn⟩ | ⟨G, cap, cur, rfl, hb, hg, hrest⟩
    · omega
    · have hex : ∀ j, ∃ b cb, j < rows.length → us.getD j undef = .slice (some ⟨b, 0, none⟩) (rows.getD j []).length cb ∧ w.heap.size ≤ b ∧ RowAt w' b (rows.getD j []).length (fun i => (rows.getD j []).getD i 0) := fun j => by
        by_cases hj : j < rows.length
        · obtain ⟨b, cb, e1, e2, e3⟩ := RowAt.of_owns (hr j hj) (h1 j hj)
          exact ⟨b, cb, fun _ => ⟨e1, e2, e3⟩⟩
        · exact ⟨0, 0, fun h => absurd h hj⟩
      have hch : ∃ b cb : Nat → Nat, ∀ j, j < rows.length → us.getD j undef = .slice (some ⟨b j, 0, none⟩) (rows.getD j []).length (cb j) ∧ w.heap.size ≤ b j ∧ RowAt w' (b j) (rows.getD j []).length (fun i => (rows.getD j []).getD i 0) :=
        ⟨fun j => Classical.choose (hex j), fun j => Classical.choose (Classical.choose_spec (hex j)), fun j hj => Classical.choose_spec (Classical.choose_spec (hex j)) hj⟩
      obtain ⟨b, cb, hbc⟩ := hch
      have hGs : G < w'.heap.size := (Array.getElem?_eq_some_iff.1 hg).1
      refine ⟨G, cap, b, cb, by rw [hl], ⟨⟨hb, hGs, hGs⟩, fun j hj => ?_, fun j hj => ⟨(hbc j hj).2.1, (hbc j hj).2.2.lt, fun e => ?_⟩, fun j hj => (hbc j hj).2.2, fun i j hij hj e => ?_⟩⟩
      · rw [hv.cellAt j (by omega), ← (hbc j hj).1, List.getD, List.getElem?_eq_getElem (by omega)]; rfl
      · rcases own_apart (hr j hj) hv with h3 | h3
        · rw [(hbc j hj).1] at h3; simp [Value.ownBlock] at h3
        · rw [(hbc j hj).1] at h3; simp [Value.ownBlock, e] at h3
      · have h3 := hne i j hij hj
        rw [(hbc i (by omega)).1, (hbc j hj).1] at h3
        simp [Value.ownBlock, e] at h3
  · left
    refine ⟨by omega, ?_⟩
    rcases hv.2 with ⟨rfl, hn⟩ | ⟨g, cap, cur, rfl, _⟩
    · exact ⟨_, _, rfl⟩
    · exact ⟨_, _, by rw [show us.length = 0 by omega]⟩
theorem OwnG.rowsI {W : World} {base lim : Nat} {v : Value} {rows : List (List Int)} (h : OwnG W base lim v rows.length (fun j => (rows.getD j []).length) (fun j i => (rows.getD j []).getD i 0)) : RowsI W v rows := by
  rcases h with ⟨h0, a, c, rfl⟩ | ⟨G, cap, b, cb, rfl, h⟩
  · exact ⟨a, c, by rw [h0], fun h => by omega⟩
  · refine ⟨_, _, rfl, fun _ => ⟨G, rfl, h.gb.2.2, fun j hj => ⟨_, h.at_ j hj, ?_⟩⟩⟩
    exact .inr ⟨_, _, rfl, (h.row j hj).lt, fun i hi => (h.row j hj).cell hi⟩
end Go.Proofs.Ytlkcdcmmcjkedaa
