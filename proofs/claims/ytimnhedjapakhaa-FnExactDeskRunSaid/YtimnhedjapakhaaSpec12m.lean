/-
  The model's DeskDo: what its walks know.
-/
import Derived.Test.YtimnhedjapakhaaSpec12l
namespace Go.Proofs.Ytimnhedjapakhaa
open Go.RowKit

theorem own_cap {W : World} {base n n' c : Nat} {e : TypeId} {a : Option Addr} {xs : List Value} (h : W.ownsRow base e 1 (.slice a n' c) n xs) : n' ≤ c := by
  rcases h.2 with ⟨e, h0⟩ | ⟨b, cap, cur, e, _, _, hc, _⟩
  · injection e with _ e2 e3; omega
  · injection e with _ e2 e3; omega
/-- 'append(s, r)' of one row, whose cell lies somewhere. -/
theorem append_slice12 {ops : Array Oper} {rest : List Oper} {o : Oper} {a : Act} {Q : Exit → Act → World → Prop} {w : World} {z : Value} (hgd : o.guard = none) (s x : Operand)
    (ho : o.op = .call { callee := .builtin .append, args := #[s, x], argTypes := #[24, 24] }) (hz1 : z.oneCell' = true)
    (base : Nat) (v : Value) (n : Nat) (xs : List Value) (hs : a.eval s = v) (hown : w.ownsRow base 23 1 v n xs) (q : Nat) (hx : a.eval x = .slice (some ⟨q, 0, none⟩) 1 1) (hq : w.cell? ⟨q, 0, none⟩ = some z)
    (hn : n ≤ 1000000) (hbase : base ≤ w.heap.size)
    (h : ∀ v' w', w'.ownsRow base 23 1 v' (n + 1) (xs ++ [z]) → w.grownBy w' v.ownBlock → wpList Try.prog ops Q rest (a.put o.dst v') w') :
    wpList Try.prog ops Q (o :: rest) a w := by
  obtain ⟨i0, hi, hz0, hz2, hz3⟩ := info_rows Try.infoRow
  refine wpList_append_own _ hgd s x 24 ho base 23 i0 (.slice none 0 0) 1 24 Try.underlying24 hi hz0 hz2 hz3 rfl (by decide) v n xs hs hown ⟨q, 0, none⟩ 1 1 [z] hx rfl ?_ ?_ ?_ ?_ hbase ?_
  · intro j u hj
    match j, hj with
    | 0, hj => simp at hj; subst hj; simpa [Addr.add] using hq
  · intro u hu; simp at hu; subst hu; exact hz1
  · unfold maxLen; omega
  · omega
  · intro v' w' h1 h2 _; exact h v' w' h1 h2

/-- What is known behind the copy: the copy lies in block b. -/
structure Do2 (w : World) (x p : Value) (k n : Int) (b : Nat) (y q : Value) (d : Dk) (W : World) : Prop where
  one : Do1 w x p k n W
  lt : w.heap.size + 3 ≤ b
  out : W.heap[b]? = some (.cells #[y, q] 26 (0, 0))
  now : W.ownsRow (w.heap.size + 3) 3 1 y d.1.length (d.1.map (Value.int .i64))
  past : OwnSS W (w.heap.size + 3) q d.2
theorem Do2.more {w : World} {x p : Value} {k n : Int} {b : Nat} {y q : Value} {d : Dk} {W V : World} (h : Do2 w x p k n b y q d W) (hV : Below W.heap.size W V) : Do2 w x p k n b y q d V :=
  ⟨h.one.more hV, h.lt, (hV.block _ (Array.getElem?_eq_some_iff.1 h.out).1).trans h.out, own_below h.now hV, h.past.below hV⟩
theorem ints_grown {W W' : World} {v : Value} {xs : List Int} {b n1 c1 n2 c2 : Nat} {a1 a2 : Option Addr} {t : TypeId} (h : Ints W v xs) (hb : W.heap[b]? = some (.cells #[.slice a1 n1 c1, .slice a2 n2 c2] t (0, 0))) (hg : W.grownBy W' (some b)) : Ints W' v xs := by
  rcases h with h | ⟨g, cap, rfl, hg0, hc⟩
  · exact .inl h
  · by_cases h0 : 0 < xs.length
    · have hne : g ≠ b := fun e => by
        subst e
        have h1 := hc 0 h0
        unfold World.cell? at h1
        rw [hb] at h1
        simp at h1
      exact .inr ⟨g, cap, rfl, Nat.lt_of_lt_of_le hg0 hg.size, fun i hi => (show W'.cell? ⟨g, i, none⟩ = W.cell? ⟨g, i, none⟩ from World.cell?_of_block (w := W) (hg.block g hg0 (fun e => hne (by injection e)))).trans (hc i hi)⟩
    · exact .inr ⟨g, cap, rfl, Nat.lt_of_lt_of_le hg0 hg.size, fun i hi => absurd hi (by omega)⟩
/-- The copy itself is handed back. -/
theorem Do2.result {w : World} {x p : Value} {k n : Int} {b : Nat} {y q : Value} {d : Dk} {W : World} (h : Do2 w x p k n b y q d W) :
    DeskI ((W.setCell ⟨w.heap.size + 2, 0, .none⟩ y).setCell ⟨w.heap.size + 2, 1, .none⟩ q) (.agg #[y, q]) d ∧ Below w.heap.size w ((W.setCell ⟨w.heap.size + 2, 0, .none⟩ y).setCell ⟨w.heap.size + 2, 1, .none⟩ q) := by
  have g0 := grownBy_setAt W (w.heap.size + 2) 0 y
  have g1 := grownBy_setAt (W.setCell ⟨w.heap.size + 2, 0, .none⟩ y) (w.heap.size + 2) 1 q
  have n1 := own_kept h.now g0 (own_old h.now (by omega))
  have n2 := own_kept n1 g1 (own_old n1 (by omega))
  refine ⟨⟨y, q, rfl, Ints.of_owns n2, ((h.past.old (by omega) g0).old (by omega) g1).past⟩, ?_⟩
  exact (h.one.below.setCell (p := ⟨w.heap.size + 2, 0, .none⟩) (by show w.heap.size ≤ w.heap.size + 2; omega) _).setCell (p := ⟨w.heap.size + 2, 1, .none⟩) (by show w.heap.size ≤ w.heap.size + 2; omega) _
theorem do2_new {w : World} {x p : Value} {k n : Int} {y q : Value} {d : Dk} {V W : World} (hD : Do1 w x p k n V) (hy : W.ownsRow V.heap.size 3 1 y d.1.length (d.1.map (Value.int .i64))) (hq : OwnSS W V.heap.size q d.2) (hB : Below V.heap.size V W) : Do2 w x p k n W.heap.size y q d (W.alloc (.cells #[y, q] 26)) := by
  have hs := hD.size
  have hB2 := hB.size
  have ha := (Below.refl _ W).alloc (Nat.le_refl _) (.cells #[y, q] 26)
  exact ⟨(hD.more hB).more ha, by omega, World.alloc_heap_new W _, own_below (own_from hy (by omega)) ha, (hq.down (by omega)).below ha⟩
theorem own_some {w : World} {base n : Nat} {e : TypeId} {v : Value} {xs : List Value} (h : w.ownsRow base e 1 v n xs) (hn : 0 < n) : ∃ g c, v = .slice (some ⟨g, 0, none⟩) n c := by
  rcases h.2 with ⟨_, h0⟩ | ⟨g, cap, cur, rfl, _⟩
  · omega
  · exact ⟨g, cap, rfl⟩
theorem do2_block {w : World} {x p : Value} {k n : Int} {b : Nat} {y q : Value} {d : Dk} {W : World} (h : Do2 w x p k n b y q d W) : ∀ g, q.ownBlock = some g → g < W.heap.size := fun g e => by
  obtain ⟨us, _, ho, _⟩ := h.past
  exact (ho.lt g e).2
theorem ints_apart {W W' : World} {v : Value} {xs : List Int} {row : Option Nat} (h : Ints W v xs) (hg : W.grownBy W' row) (hr : ∀ g, v.ownBlock = some g → row ≠ some g) : Ints W' v xs := by
  rcases h with h | ⟨g, cap, rfl, hg0, hc⟩
  · exact .inl h
  · exact .inr ⟨g, cap, rfl, Nat.lt_of_lt_of_le hg0 hg.size, fun i hi => (show W'.cell? ⟨g, i, none⟩ = W.cell? ⟨g, i, none⟩ from World.cell?_of_block (w := W) (hg.block g hg0 (fun e => hr g rfl e.symm))).trans (hc i hi)⟩
/-- The end of the way: the copy's block, the rows, and the row that was made. -/
structure Fin12 (w : World) (b : Nat) (y q r : Value) (M : List Int) (v : Value) (rows : List (List Int)) (W : World) : Prop where
  below : Below w.heap.size w W
  lt : w.heap.size + 3 ≤ b
  out : W.heap[b]? = some (.cells #[y, q] 26 (0, 0))
  res : W.heap[w.heap.size + 2]? = some (.cells #[.slice none 0 0, .slice none 0 0] 26 (0, 0))
  own : OwnSS W (w.heap.size + 3) v rows
  ints : Ints W r M
theorem Fin12.set0 {w : World} {b n1 c1 n2 c2 : Nat} {a1 a2 : Option Addr} {r : Value} {M : List Int} {v : Value} {rows : List (List Int)} {W : World} (h : Fin12 w b (.slice a1 n1 c1) (.slice a2 n2 c2) r M v rows W) (z : Value) : Fin12 w b z (.slice a2 n2 c2) r M v rows (W.setCell ⟨b, 0, .none⟩ z) := by
  have hs := grownBy_setAt W b 0 z
  have hlt := h.lt
  exact ⟨h.below.setCell (p := ⟨b, 0, .none⟩) (by show w.heap.size ≤ b; omega) _, h.lt, set_cells h.out 0 z, (hs.block _ (Array.getElem?_eq_some_iff.1 h.res).1 (fun e => by injection e with e; omega)).trans h.res, h.own.kept h.out (by decide) (by decide) hs, ints_grown h.ints h.out hs⟩
theorem Fin12.set1 {w : World} {b n1 c1 n2 c2 : Nat} {a1 a2 : Option Addr} {r : Value} {M : List Int} {v : Value} {rows : List (List Int)} {W : World} (h : Fin12 w b (.slice a1 n1 c1) (.slice a2 n2 c2) r M v rows W) (z : Value) : Fin12 w b (.slice a1 n1 c1) z r M v rows (W.setCell ⟨b, 1, .none⟩ z) := by
  have hs := grownBy_setAt W b 1 z
  have hlt := h.lt
  exact ⟨h.below.setCell (p := ⟨b, 1, .none⟩) (by show w.heap.size ≤ b; omega) _, h.lt, set_cells h.out 1 z, (hs.block _ (Array.getElem?_eq_some_iff.1 h.res).1 (fun e => by injection e with e; omega)).trans h.res, h.own.kept h.out (by decide) (by decide) hs, ints_grown h.ints h.out hs⟩
theorem past_tail {W : World} {G o n c : Nat} {rows : List (List Int)} (h : PastI W (.slice (some ⟨G, o, none⟩) (n + 1) c) rows) : PastI W (.slice (some ⟨G, o + 1, none⟩) n (c - 1)) rows.tail := by
  obtain ⟨a, c', e, hr⟩ := h
  injection e with e1 e2 e3
  subst e1
  refine ⟨some ⟨G, o + 1, none⟩, c - 1, by rw [List.length_tail, ← e2]; rfl, fun h0 => ?_⟩
  obtain ⟨G', o', e, hG, hc⟩ := hr (by omega)
  injection e with e
  injection e with e4 e5
  subst e4 e5
  refine ⟨G, o + 1, rfl, hG, fun j hj => ?_⟩
  obtain ⟨u, h1, h2⟩ := hc (j + 1) (by rw [List.length_tail] at hj; omega)
  refine ⟨u, by rw [show o + 1 + j = o + (j + 1) by omega]; exact h1, ?_⟩
  rw [List.getD, List.getElem?_tail]
  exact h2
/-- A desk is handed back: its row, and rows that lie where the rows lie. -/
theorem Fin12.result {w : World} {b : Nat} {y q r z : Value} {M : List Int} {v : Value} {rows rows' : List (List Int)} {W : World} (h : Fin12 w b y q r M v rows W) (hz : ∀ W', PastI W' v rows → PastI W' z rows') :
    DeskI ((W.setCell ⟨w.heap.size + 2, 0, .none⟩ r).setCell ⟨w.heap.size + 2, 1, .none⟩ z) (.agg #[r, z]) (M, rows') ∧ Below w.heap.size w ((W.setCell ⟨w.heap.size + 2, 0, .none⟩ r).setCell ⟨w.heap.size + 2, 1, .none⟩ z) := by
  have g0 := grownBy_setAt W (w.heap.size + 2) 0 r
  have g1 := grownBy_setAt (W.setCell ⟨w.heap.size + 2, 0, .none⟩ r) (w.heap.size + 2) 1 z
  obtain ⟨ar, cr, er⟩ := h.ints.shape
  have k0 := set_cells h.res 0 r
  have i1 := ints_grown h.ints h.res g0
  rw [er] at i1 k0 g0 g1 ⊢
  have i2 := ints_grown i1 k0 g1
  refine ⟨⟨_, z, rfl, i2, hz _ ((h.own.old (by omega) g0).old (by omega) g1).past⟩, ?_⟩
  exact (h.below.setCell (p := ⟨w.heap.size + 2, 0, .none⟩) (by show w.heap.size ≤ w.heap.size + 2; omega) _).setCell (p := ⟨w.heap.size + 2, 1, .none⟩) (by show w.heap.size ≤ w.heap.size + 2; omega) _
theorem Do2.append {w : World} {x p : Value} {k n : Int} {b : Nat} {y q : Value} {row : List Int} {past : List (List Int)} {V W : World} {us : List Value} {r v : Value} {M : List Int} {B : Nat} (h : Do2 w x p k n b y q (row, past) V) (hul : us.length = past.length) (huo : V.ownsRow (w.heap.size + 3) 23 1 q us.length us)
    (hur : ∀ j, j < past.length → V.ownsRow (w.heap.size + 3) 3 1 (us.getD j undef) (past.getD j []).length ((past.getD j []).map (Value.int .i64))) (how : W.ownsRow (w.heap.size + 3) 23 1 v (us.length + 1) (us ++ [y])) (hg : V.grownBy W q.ownBlock)
    (hr : Ints V r M) (hrf : ∀ g, r.ownBlock = some g → B ≤ g) (hqb : ∀ g, q.ownBlock = some g → g < B) : Fin12 w b y q r M v (past ++ [row]) W := by
  have hlt := h.lt
  have n1 : q.ownBlock ≠ some (w.heap.size + 2) := own_old huo (by omega)
  have n2 : q.ownBlock ≠ some b := own_not huo h.out (by decide)
  refine ⟨h.one.below.grown hg h.one.below.size (fun k e => by have := huo.lt k e; omega), h.lt, (hg.block _ (Array.getElem?_eq_some_iff.1 h.out).1 (fun e => n2 e.symm)).trans h.out, (hg.block _ (Array.getElem?_eq_some_iff.1 h.one.res).1 (fun e => n1 e.symm)).trans h.one.res, OwnSS.push hul huo hur h.now how hg, ints_apart hr hg (fun g e1 e2 => ?_)⟩
  have := hrf g e1
  have := hqb g e2
  omega
end Go.Proofs.Ytimnhedjapakhaa
