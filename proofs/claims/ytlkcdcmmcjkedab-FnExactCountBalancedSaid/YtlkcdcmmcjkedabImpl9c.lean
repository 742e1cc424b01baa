/-
  The program's RowsUnder at every argument.
-/
import Derived.Test.YtlkcdcmmcjkedabImpl9a
import Derived.Test.YtlkcdcmmcjkedabRegKinds
namespace Go.Proofs.Ytlkcdcmmcjkedab
open Go.RowKit Go.Shelf
attribute [local go_sem] Oper.semAt_some

/-- The row x of the triangle. -/
def rowU (N c x : Nat) : List Int := stL (bitF (rowB c N x)) 0 (c - x)
theorem rowU_len (N c x : Nat) : (rowU N c x).length = c - x := stL_len _ _ _
theorem rowU_side {xs : List Int} (h : sideB xs = true) (x : Nat) : rowU (numF (natL xs) xs.length) xs.length x = stL (natL xs) x (xs.length - x) := by
  unfold rowU stL
  refine List.map_congr_left fun k hk => ?_
  have hk' := List.mem_range.1 hk
  show ((bitF (rowB xs.length (numF (natL xs) xs.length) x) k : Nat) : Int) = _
  rw [rowB_bit _ _ (by omega), st_congr x k (fun i _ h2 => numF_bit (side_bit h) xs.length i (by omega))]

/-- The rows that have been laid: each its own, none shared. -/
structure Rws (w0 n0 g N c n : Nat) (W : World) (us : List Value) : Prop where
  len : us.length = n
  own : W.ownsRow w0 22 1 (.slice (some ⟨g, 0, none⟩) n c) n us
  row : ∀ j, j < n → W.ownsRow n0 3 1 (us.getD j undef) (c - j) ((rowU N c j).map (Value.int .i64))
  ne : ∀ i j, i < j → j < n → (us.getD i undef).ownBlock ≠ (us.getD j undef).ownBlock
theorem rows_block {W : World} {w0 n : Nat} {v : Value} {xs : List Value} {e : TypeId} (h : W.ownsRow w0 e 1 v n xs) : v.ownBlock = none ∨ ∃ b, v.ownBlock = some b ∧ w0 ≤ b ∧ b < W.heap.size := by
  rcases h.2 with ⟨rfl, _⟩ | ⟨b, cap, cur, rfl, hb, hg, _⟩
  · exact .inl rfl
  · exact .inr ⟨b, rfl, hb, (Array.getElem?_eq_some_iff.1 hg).1⟩
/-- What lies elsewhere is kept. -/
theorem Rws.kept {w0 n0 g N c n : Nat} {W W' : World} {us : List Value} {row : Option Nat} (h : Rws w0 n0 g N c n W us) (hg : W.grownBy W' row) (hr : ∀ k, row = some k → k ≠ g ∧ k < n0) : Rws w0 n0 g N c n W' us :=
  ⟨h.len, h.own.kept hg (.inr (fun (e : some g = row) => (hr g e.symm).1 rfl)), fun j hj => (h.row j hj).kept hg (by
    rcases rows_block (h.row j hj) with h1 | ⟨b, h1, h2, _⟩
    · exact .inl h1
    · refine .inr (fun e => ?_)
      rw [h1] at e
      have := (hr b e.symm).2
      omega), h.ne⟩
theorem Rws.below {w0 n0 g N c n : Nat} {W W' : World} {us : List Value} (h : Rws w0 n0 g N c n W us) (hB : Below W.heap.size W W') : Rws w0 n0 g N c n W' us :=
  h.kept (row := none) ⟨hB.os, hB.tape, hB.output, hB.size, fun k hk _ => hB.block k hk⟩ (fun k e => by cases e)
/-- One row more. -/
theorem Rws.next {w0 n0 g N c n : Nat} {W W' V : World} {us : List Value} {u : Value} (h : Rws w0 n0 g N c n W us) (hB : Below W.heap.size W V) (hu : V.ownsRow W.heap.size 3 1 u (c - n) ((rowU N c n).map (Value.int .i64))) (hn : n < c) (hW : n0 ≤ W.heap.size) (hg0 : g < n0)
    (hg : V.grownBy W' (some g)) (how : W'.ownsRow w0 22 1 (.slice (some ⟨g, 0, none⟩) (n + 1) c) (n + 1) (us ++ [u])) : Rws w0 n0 g N c (n + 1) W' (us ++ [u]) := by
  have hlen := h.len
  have hnew : (us ++ [u]).getD n undef = u := by simp [List.getD, ← hlen]
  have hold : ∀ j, j < n → (us ++ [u]).getD j undef = us.getD j undef := fun j hj => by
    rw [List.getD, List.getD, List.getElem?_append_left (by omega)]
  have hkeep : ∀ {v : Value} {m b : Nat} {xs : List Value}, V.ownsRow b 3 1 v m xs → n0 ≤ b → W'.ownsRow b 3 1 v m xs := fun {v} {m} {b} {xs} h0 hb => h0.kept hg (by
    rcases rows_block h0 with h1 | ⟨q, h1, h2, _⟩
    · exact .inl h1
    · exact .inr (fun e => by rw [h1] at e; injection e with e; omega))
  refine ⟨by simp [hlen], how, fun j hj => ?_, fun i j hij hj => ?_⟩
  · by_cases e : j = n
    · subst e; rw [hnew]; exact owns_from (hkeep hu hW) hW
    · rw [hold j (by omega)]; exact hkeep (owns_below (h.row j (by omega)) hB) (Nat.le_refl _)
  · by_cases e : j = n
    · subst e
      rw [hnew, hold i hij]
      rcases rows_block hu with h1 | ⟨q, h1, h2, _⟩
      · rcases hu.2 with ⟨_, h0⟩ | ⟨q', _, _, rfl, _⟩
        · omega
        · cases h1
      · rcases rows_block (h.row i hij) with h3 | ⟨q', h3, _, h4⟩
        · rw [h1, h3]; exact fun e => by cases e
        · rw [h1, h3]; exact fun e => by injection e with e; omega
    · rw [hold i (by omega), hold j (by omega)]; exact h.ne i j hij (by omega)

/-- What is known in a round of RowsUnder. -/
structure RwAx (w0 n0 B g c N : Nat) (w W : World) (pre : List Nat) (x b : Nat) : Prop where
  side : SdAt W b (rowB c N x) (c - x)
  box : Boxed W B 29 (.slice (some ⟨g, 0, none⟩) x c)
  rws : ∃ us, Rws w0 n0 g N c x W us
  below : Below w0 w W
  pre : pre = List.range x
  lt : x < c
  at_ : n0 ≤ b

end Go.Proofs.Ytlkcdcmmcjkedab
