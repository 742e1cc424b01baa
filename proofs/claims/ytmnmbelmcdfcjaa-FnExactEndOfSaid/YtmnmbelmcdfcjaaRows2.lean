/-
  Rows of rows of numbers: 'append' of a whole row, of one row; what is kept. Nothing of the program but the types []int and [][]int.
-/
import Derived.Test.YtmnmbelmcdfcjaaSpec9
import Derived.Test.YtmnmbelmcdfcjaaSel2
import Derived.Laws.AppendOwnNone
namespace Go.Proofs.Ytmnmbelmcdfcjaa
open Go.RowKit

/-- A slice that is nil, or lies somewhere. -/
def Lies (v : Value) : Prop := v = .slice none 0 0 ∨ ∃ p n c, v = .slice (some p) n c
theorem Lies.of_owns {w : World} {base n : Nat} {e : TypeId} {v : Value} {xs : List Value} (h : w.ownsRow base e 1 v n xs) : Lies v := by
  rcases h.2 with ⟨rfl, _⟩ | ⟨g, cap, cur, rfl, _⟩
  · exact .inl rfl
  · exact .inr ⟨_, _, _, rfl⟩
theorem own_form {w : World} {base n : Nat} {e : TypeId} {v : Value} {xs : List Value} (h : w.ownsRow base e 1 v n xs) : ∃ a c, v = .slice a n c := by
  rcases h.2 with ⟨rfl, rfl⟩ | ⟨g, cap, cur, rfl, _⟩
  · exact ⟨_, _, rfl⟩
  · exact ⟨_, _, rfl⟩
theorem own_below {w w' : World} {base n : Nat} {e : TypeId} {v : Value} {xs : List Value} (h : w.ownsRow base e 1 v n xs) (hB : Below w.heap.size w w') : w'.ownsRow base e 1 v n xs :=
  h.kept (row := none) ⟨hB.os, hB.tape, hB.output, hB.size, fun k hk _ => hB.block k hk⟩ (by cases v.ownBlock <;> simp)
/-- What owns numbers is apart from what owns rows. -/
theorem own_apart {w : World} {b b' n m : Nat} {v u : Value} {xs ys : List Value} (h : w.ownsRow b 3 1 v n xs) (k : w.ownsRow b' 23 1 u m ys) : v.ownBlock = none ∨ v.ownBlock ≠ u.ownBlock := by
  rcases h.2 with ⟨rfl, _⟩ | ⟨g, cap, cur, rfl, _, hg, _⟩
  · exact .inl rfl
  · refine .inr fun e => ?_
    rcases k.2 with ⟨rfl, _⟩ | ⟨g', cap', cur', rfl, _, hg', _⟩
    · simp [Value.ownBlock] at e
    · simp only [Value.ownBlock, Option.some.injEq] at e
      subst e
      rw [hg] at hg'
      injection hg' with hg'
      injection hg' with _ h2
      exact absurd h2 (by decide)

/-- 'append(s, x...)' of numbers that came in, or none. -/
theorem append_ints {w : World} {ops : Array Oper} {rest : List Oper} {o : Oper} {a : Act} {Q : Exit → Act → World → Prop} (hgd : o.guard = none) (s x : Operand)
    (ho : o.op = .call { callee := .builtin .append, args := #[s, x], argTypes := #[23, 23] })
    (base : Nat) (v : Value) (n : Nat) (xs : List Value) (hs : a.eval s = v) (hown : w.ownsRow base 3 1 v n xs) (u : Value) (zs : List Int) (hx : a.eval x = u) (hu : Ints w u zs) (hlies : Lies u)
    (hn : n + zs.length ≤ 1000000000) (hbase : base ≤ w.heap.size)
    (h : ∀ v' w', w'.ownsRow base 3 1 v' (n + zs.length) (xs ++ zs.map (Value.int .i64)) → w.grownBy w' v.ownBlock → wpList Try.prog ops Q rest (a.put o.dst v') w') :
    wpList Try.prog ops Q (o :: rest) a w := by
  obtain ⟨i0, hi, hz0, hz1, hz2⟩ := info_parts Try.infoInt
  have hempty : zs = [] → (∀ p c, u = .slice (some p) 0 c → wpList Try.prog ops Q (o :: rest) a w) := fun h0 p c hp => by
    subst h0
    refine wpList_append_own _ hgd s x 23 ho base 3 i0 (.int .i64 0) 1 8 Try.underlying23 hi hz0 hz1 hz2 rfl (by decide) v n xs hs hown p 0 c [] (hx.trans hp) rfl (fun j u hj => by simp at hj) (fun u hu => by simp at hu) ?_ ?_ hbase ?_
    · unfold maxLen; simp at hn; omega
    · simp at hn; omega
    · intro v' w' h1 h2 _; exact h v' w' (by simpa using h1) h2
  rcases hu with ⟨p, c, hp, h0⟩ | ⟨g, cap, hp, hg, hc⟩
  · rcases hlies with hl | ⟨p', n', c', hl⟩
    · subst h0
      refine wpList_append_own_none hgd s x 23 ho base 3 i0 1 Try.underlying23 hi v n xs hs hown (hx.trans hl) ?_
      exact h v w (by simpa using hown) (grownBy_refl _ _)
    · rw [hp] at hl
      injection hl with hl1 hl2 hl3
      exact hempty h0 p' c (by rw [hp, hl1])
  · exact append_row hgd s x ho base v n xs hs hown g zs.length cap zs (hx.trans hp) rfl hc hn hbase h

theorem Try.infoRow : (Try.prog.info? 23).map (fun i => (i.zero, i.size, i.bytes)) = some (some (.slice none 0 0), 1, 24) := by kernel_rfl
theorem info_rows {o : Option TypeInfo} {z : Value} {s b : Nat} (h : o.map (fun i => (i.zero, i.size, i.bytes)) = some (some z, s, b)) : ∃ i, o = some i ∧ i.zero = some z ∧ i.size = s ∧ i.bytes = b := by
  obtain ⟨i, hi, h2⟩ := Option.map_eq_some_iff.1 h
  injection h2 with h3 h4
  injection h4 with h5 h6
  exact ⟨i, hi, h3, h5, h6⟩
/-- 'append(s, r)' of one row. -/
theorem append_slice {ops : Array Oper} {rest : List Oper} {o : Oper} {a : Act} {Q : Exit → Act → World → Prop} {w : World} {z : Value} (hgd : o.guard = none) (s x : Operand)
    (ho : o.op = .call { callee := .builtin .append, args := #[s, x], argTypes := #[60, 60] }) (hz1 : z.oneCell' = true)
    (base : Nat) (v : Value) (n : Nat) (xs : List Value) (hs : a.eval s = v) (hown : w.ownsRow base 23 1 v n xs) (hx : a.eval x = .slice (some ⟨w.heap.size, 0, none⟩) 1 1)
    (hn : n ≤ 1000000) (hbase : base ≤ w.heap.size)
    (h : ∀ v' w', w'.ownsRow base 23 1 v' (n + 1) (xs ++ [z]) → (w.alloc (.cells #[z] 23)).grownBy w' v.ownBlock → wpList Try.prog ops Q rest (a.put o.dst v') w') :
    wpList Try.prog ops Q (o :: rest) a (w.alloc (.cells #[z] 23)) := by
  obtain ⟨i0, hi, hz0, hz2, hz3⟩ := info_rows Try.infoRow
  refine wpList_append_own _ hgd s x 60 ho base 23 i0 (.slice none 0 0) 1 24 Try.underlying60 hi hz0 hz2 hz3 rfl (by decide) v n xs hs (hown.alloc _) ⟨w.heap.size, 0, none⟩ 1 1 [z] hx rfl ?_ ?_ ?_ ?_ ?_ ?_
  · intro j u hj
    match j, hj with
    | 0, hj => simp at hj; subst hj; simp [Addr.add]
  · intro u hu; simp at hu; subst hu; exact hz1
  · unfold maxLen; omega
  · omega
  · simp; omega
  · intro v' w' h1 h2 _; exact h v' w' h1 h2

/-- Rows of one's own, in a row of one's own. -/
def OwnSS (w : World) (base : Nat) (v : Value) (rows : List (List Int)) : Prop :=
  ∃ us : List Value, us.length = rows.length ∧ w.ownsRow base 23 1 v us.length us ∧ ∀ j, j < rows.length → w.ownsRow base 3 1 (us.getD j undef) (rows.getD j []).length ((rows.getD j []).map (Value.int .i64))
theorem OwnSS.below {w w' : World} {base : Nat} {v : Value} {rows : List (List Int)} (h : OwnSS w base v rows) (hB : Below w.heap.size w w') : OwnSS w' base v rows := by
  obtain ⟨us, h1, h2, h3⟩ := h
  exact ⟨us, h1, own_below h2 hB, fun j hj => own_below (h3 j hj) hB⟩
theorem OwnSS.nil {w : World} {base : Nat} {v : Value} (h : w.ownsRow base 23 1 v 0 []) : OwnSS w base v [] := ⟨[], rfl, h, fun j hj => by simp at hj⟩
/-- Read: the row that lies at place j. -/
theorem OwnSS.read {w : World} {base : Nat} {v : Value} {rows : List (List Int)} (h : OwnSS w base v rows) (h0 : 0 < rows.length) : ∃ g cap, v = .slice (some ⟨g, 0, none⟩) rows.length cap ∧ g < w.heap.size ∧ ∀ j, j < rows.length → ∃ u, w.cell? ⟨g, j, none⟩ = some u ∧ Ints w u (rows.getD j []) ∧ Lies u := by
  obtain ⟨us, h1, h2, h3⟩ := h
  rcases h2.2 with ⟨_, hn⟩ | ⟨g, cap, cur, rfl, hb, hg, _⟩
  · omega
  · refine ⟨g, cap, by rw [h1], (Array.getElem?_eq_some_iff.1 hg).1, fun j hj => ⟨us.getD j undef, ?_, Ints.of_owns (h3 j hj), Lies.of_owns (h3 j hj)⟩⟩
    rw [h2.cellAt j (by omega), List.getD, List.getElem?_eq_getElem (by omega)]; rfl
end Go.Proofs.Ytmnmbelmcdfcjaa
