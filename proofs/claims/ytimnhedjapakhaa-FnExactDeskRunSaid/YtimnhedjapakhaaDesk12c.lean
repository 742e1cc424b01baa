/-
  The program's deskOf: a desk of one's own.
-/
import Derived.Test.YtimnhedjapakhaaDesk12b
namespace Go.Proofs.Ytimnhedjapakhaa
open Go.RowKit Go.Shelf
attribute [local go_sem] Oper.semAt_some

/-- A desk of one's own: its row lies below the rows of before. -/
def OwnDk (W : World) (base : Nat) (v : Value) (d : Dk) : Prop :=
  ∃ mid x p, v = .agg #[x, p] ∧ base ≤ mid ∧ mid ≤ W.heap.size ∧ OwnI W base mid x d.1.length (fun i => d.1.getD i 0) ∧ OwnRows W mid p d.2
theorem OwnDk.deskI {W : World} {base : Nat} {v : Value} {d : Dk} (h : OwnDk W base v d) : DeskI W v d := by
  obtain ⟨mid, x, p, rfl, _, _, h1, h2⟩ := h
  exact ⟨x, p, rfl, h1.ints, h2.ownSS.rowsI.past⟩
theorem OwnRows.nil (W : World) (base : Nat) : OwnRows W base (.slice none 0 0) [] := ⟨[], rfl, World.ownsRow_nil _ _ _ _, fun j h => absurd h (Nat.not_lt_zero j), fun _ j _ h => absurd h (Nat.not_lt_zero j)⟩
theorem OwnDk.none (W : World) (base : Nat) (hb : base ≤ W.heap.size) : OwnDk W base (.agg #[.slice none 0 0, .slice none 0 0]) ([], []) :=
  ⟨base, _, _, rfl, Nat.le_refl _, hb, .inl ⟨rfl, _, _, rfl⟩, OwnRows.nil _ _⟩
/-- What lies in blocks of another type, or below, changes: the rows stand. -/
theorem OwnRows.keep {W W' : World} {base : Nat} {v : Value} {rows : List (List Int)} (h : OwnRows W base v rows) {b : Nat} {cur : Array Value} {t : TypeId} (hb : W.heap[b]? = some (.cells cur t (0, 0))) (h1 : 23 ≠ t) (h2 : 3 ≠ t) (hg : W.grownBy W' (some b)) : OwnRows W' base v rows := by
  obtain ⟨us, l, o, r, ne⟩ := h
  exact ⟨us, l, own_kept o hg (own_not o hb h1), fun j hj => own_kept (r j hj) hg (own_not (r j hj) hb h2), ne⟩
theorem OwnRows.below {W W' : World} {base : Nat} {v : Value} {rows : List (List Int)} (h : OwnRows W base v rows) (hB : Below W.heap.size W W') : OwnRows W' base v rows := by
  obtain ⟨us, l, o, r, ne⟩ := h
  exact ⟨us, l, own_below o hB, fun j hj => own_below (r j hj) hB, ne⟩
theorem OwnRows.form {W : World} {base : Nat} {v : Value} {rows : List (List Int)} (h : OwnRows W base v rows) : ∃ a c, v = .slice a rows.length c := by
  obtain ⟨us, l, o, _⟩ := h
  obtain ⟨a, c, e⟩ := own_form o
  exact ⟨a, c, by rw [e, l]⟩
theorem own_block {W : World} {base n : Nat} {e : TypeId} {v : Value} {xs : List Value} (h : W.ownsRow base e 1 v n xs) : v.ownBlock = .none ∨ ∃ b, v.ownBlock = some b ∧ base ≤ b ∧ b < W.heap.size := by
  rcases h.2 with ⟨rfl, _⟩ | ⟨b, cap, cur, rfl, hb, hg, _⟩
  · exact .inl rfl
  · exact .inr ⟨b, rfl, hb, (Array.getElem?_eq_some_iff.1 hg).1⟩
theorem own_pos {W : World} {base n : Nat} {e : TypeId} {v : Value} {xs : List Value} (h : W.ownsRow base e 1 v n xs) (hn : 0 < n) : ∃ b, v.ownBlock = some b ∧ base ≤ b ∧ b < W.heap.size := by
  rcases h.2 with ⟨rfl, h0⟩ | ⟨b, cap, cur, rfl, hb, hg, _⟩
  · omega
  · exact ⟨b, rfl, hb, (Array.getElem?_eq_some_iff.1 hg).1⟩
/-- One row more behind rows of one's own, in a new block. -/
theorem OwnRows.push {W V W' : World} {base : Nat} {v v' u : Value} {rows : List (List Int)} {row : List Int} (h0 : 0 < row.length) (hb : base ≤ W.heap.size)
    (hu : V.ownsRow W.heap.size 3 1 u row.length (row.map (Value.int .i64))) (us : List Value) (hus : us.length = rows.length) (ho : V.ownsRow base 23 1 v us.length us)
    (hr : ∀ j, j < rows.length → V.ownsRow base 3 1 (us.getD j undef) (rows.getD j []).length ((rows.getD j []).map (Value.int .i64)) ∧ ((us.getD j undef).ownBlock = .none ∨ ∃ b, (us.getD j undef).ownBlock = some b ∧ b < W.heap.size))
    (hne : ∀ i j, i < j → j < rows.length → (us.getD i undef).ownBlock ≠ (us.getD j undef).ownBlock)
    (hv : W'.ownsRow base 23 1 v' (us.length + 1) (us ++ [u])) (hg : V.grownBy W' v.ownBlock) : OwnRows W' base v' (rows ++ [row]) := by
  refine ⟨us ++ [u], by simp [hus], by rw [List.length_append]; exact hv, fun j hj => ?_, fun i j hij hj => ?_⟩
  · by_cases e : j < rows.length
    · rw [List.getD, List.getElem?_append_left (by omega), List.getD, List.getElem?_append_left e]
      exact (hr j e).1.kept hg (own_apart (hr j e).1 ho)
    · have : j = rows.length := by simp at hj; omega
      subst this
      rw [List.getD, ← hus, List.getElem?_append_right (Nat.le_refl _), List.getD, hus, List.getElem?_append_right (Nat.le_refl _), Nat.sub_self]
      exact own_from (hu.kept hg (own_apart hu ho)) hb
  · by_cases e : j < rows.length
    · rw [List.getD, List.getElem?_append_left (by omega), List.getD, List.getElem?_append_left (by omega)]
      exact hne i j hij e
    · have : j = rows.length := by simp at hj; omega
      subst this
      rw [List.getD, List.getElem?_append_left (by omega), List.getD, ← hus, List.getElem?_append_right (Nat.le_refl _), Nat.sub_self]
      obtain ⟨b, e1, e2, _⟩ := own_pos hu h0
      rcases (hr i hij).2 with e3 | ⟨c, e3, e4⟩
      · show (us.getD i undef).ownBlock ≠ u.ownBlock
        rw [e1, e3]; exact fun e => by cases e
      · show (us.getD i undef).ownBlock ≠ u.ownBlock
        rw [e1, e3]
        intro e
        injection e with e
        omega
/-- The rows' values, and what is known of them in a later world. -/
theorem OwnRows.open_ {W V : World} {base : Nat} {v : Value} {rows : List (List Int)} (h : OwnRows W base v rows) (hB : Below W.heap.size W V) : ∃ us : List Value, us.length = rows.length ∧ V.ownsRow base 23 1 v us.length us ∧
    (∀ j, j < rows.length → V.ownsRow base 3 1 (us.getD j undef) (rows.getD j []).length ((rows.getD j []).map (Value.int .i64)) ∧ ((us.getD j undef).ownBlock = .none ∨ ∃ b, (us.getD j undef).ownBlock = some b ∧ b < W.heap.size)) ∧
    ∀ i j, i < j → j < rows.length → (us.getD i undef).ownBlock ≠ (us.getD j undef).ownBlock := by
  obtain ⟨us, l, o, r, ne⟩ := h
  refine ⟨us, l, own_below o hB, fun j hj => ⟨own_below (r j hj) hB, ?_⟩, ne⟩
  rcases own_block (r j hj) with h | ⟨b, h1, _, h2⟩
  · exact .inl h
  · exact .inr ⟨b, h1, h2⟩

/-- A desk on the way: the result's block, the desk's block b, its row below it, the rows behind it. -/
structure Dof (w : World) (b : Nat) (x : Value) (row : List Int) (rows : List (List Int)) (pv : Value) (W : World) : Prop where
  below : Below w.heap.size w W
  res : W.heap[w.heap.size]? = some (.cells #[.slice none 0 0, .slice none 0 0] 26 (0, 0))
  out : W.heap[b]? = some (.cells #[x, pv] 26 (0, 0))
  lt : w.heap.size < b
  now : OwnI W (w.heap.size + 1) b x row.length (fun i => row.getD i 0)
  past : OwnRows W b pv rows
theorem Dof.more {w : World} {b : Nat} {x pv : Value} {row : List Int} {rows : List (List Int)} {W V : World} (h : Dof w b x row rows pv W) (hV : Below W.heap.size W V) : Dof w b x row rows pv V :=
  ⟨h.below.trans (hV.mono h.below.size), (hV.block _ (Array.getElem?_eq_some_iff.1 h.res).1).trans h.res, (hV.block _ (Array.getElem?_eq_some_iff.1 h.out).1).trans h.out, h.lt, h.now.below hV, h.past.below hV⟩

/-- A round of the copy: one row more. -/
theorem Dof.push {w : World} {b : Nat} {x pv : Value} {row R : List Int} {rows : List (List Int)} {W V V' : World} {u v' : Value} (h : Dof w b x row rows pv W) (hV : Below W.heap.size W V) (h0 : 0 < R.length)
    (hu : V.ownsRow W.heap.size 3 1 u R.length (R.map (Value.int .i64))) (us : List Value) (hus : us.length = rows.length) (ho : V.ownsRow b 23 1 pv us.length us)
    (hr : ∀ j, j < rows.length → V.ownsRow b 3 1 (us.getD j undef) (rows.getD j []).length ((rows.getD j []).map (Value.int .i64)) ∧ ((us.getD j undef).ownBlock = .none ∨ ∃ q, (us.getD j undef).ownBlock = some q ∧ q < W.heap.size))
    (hne : ∀ i j, i < j → j < rows.length → (us.getD i undef).ownBlock ≠ (us.getD j undef).ownBlock)
    (hv : V'.ownsRow b 23 1 v' (us.length + 1) (us ++ [u])) (hg : V.grownBy V' pv.ownBlock) : V'.heap[b]? = some (.cells #[x, pv] 26 (0, 0)) ∧ Dof w b x row (rows ++ [R]) v' (V'.setCell ⟨b, 1, .none⟩ v') := by
  have hb : b ≤ W.heap.size := Nat.le_of_lt (Array.getElem?_eq_some_iff.1 h.out).1
  have hpast := OwnRows.push h0 hb hu us hus ho hr hne hv hg
  have hm := h.more hV
  have hlt := h.lt
  have n0 : pv.ownBlock ≠ some w.heap.size := own_old ho hlt
  have n2 : pv.ownBlock ≠ some b := own_not ho hm.out (by decide)
  have k0 := (hg.block _ (Array.getElem?_eq_some_iff.1 hm.res).1 (fun e => n0 e.symm)).trans hm.res
  have k2 := (hg.block _ (Array.getElem?_eq_some_iff.1 hm.out).1 (fun e => n2 e.symm)).trans hm.out
  have hs := grownBy_setAt V' b 1 v'
  refine ⟨k2, ⟨?_, (hs.block _ (Array.getElem?_eq_some_iff.1 k0).1 (fun e => by injection e with e; omega)).trans k0, set_cells k2 1 v', hlt, ?_, OwnRows.keep hpast k2 (by decide) (by decide) hs⟩⟩
  · exact (hm.below.grown hg hm.below.size (fun k e => by have := ho.lt k e; omega)).setCell (p := ⟨b, 1, .none⟩) (by show w.heap.size ≤ b; omega) _
  · exact (hm.now.grown hg (fun k e => by have := ho.lt k e; omega)).grown hs (fun k e => by injection e with e; omega)
/-- The desk is handed back. -/
theorem Dof.done {w : World} {b : Nat} {x pv : Value} {row : List Int} {rows : List (List Int)} {W : World} (h : Dof w b x row rows pv W) : OwnDk ((W.setCell ⟨w.heap.size, 0, .none⟩ x).setCell ⟨w.heap.size, 1, .none⟩ pv) w.heap.size (.agg #[x, pv]) (row, rows) ∧ Below w.heap.size w ((W.setCell ⟨w.heap.size, 0, .none⟩ x).setCell ⟨w.heap.size, 1, .none⟩ pv) := by
  have g0 := grownBy_setAt W w.heap.size 0 x
  have g1 := grownBy_setAt (W.setCell ⟨w.heap.size, 0, .none⟩ x) w.heap.size 1 pv
  have hlt := h.lt
  have hb : b < W.heap.size := (Array.getElem?_eq_some_iff.1 h.out).1
  have k0 := set_cells h.res 0 x
  refine ⟨⟨b, x, pv, rfl, by omega, Nat.le_trans (Nat.le_of_lt hb) (Nat.le_trans g0.size g1.size), ?_, ?_⟩, ?_⟩
  · have h1 := (h.now.grown g0 (fun k e => by injection e with e; omega)).grown g1 (fun k e => by injection e with e; omega)
    rcases h1 with h1 | ⟨g, c, e, h2, h3, h4⟩
    · exact .inl h1
    · exact .inr ⟨g, c, e, by omega, h3, h4⟩
  · exact OwnRows.keep (OwnRows.keep h.past h.res (by decide) (by decide) g0) k0 (by decide) (by decide) g1
  · exact (h.below.setCell (p := ⟨w.heap.size, 0, .none⟩) (Nat.le_refl _) _).setCell (p := ⟨w.heap.size, 1, .none⟩) (Nat.le_refl _) _
end Go.Proofs.Ytimnhedjapakhaa
