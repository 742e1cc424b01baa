/-
  For the program's ReadJournal: strings.Lines, and what is known between the lines.
-/
import Derived.Test.YtkcbfiglmjdaiaaDoorLinesIt12
import Derived.Test.YtkcbfiglmjdaiaaDoorRead12c
namespace Go.Proofs.YtkcbfiglmjdaiaaDoor
open Go Go.RowKit
attribute [local go_sem] Oper.semAt_some

theorem linesOf_in (S : ByteArray) (w : World) : Calls Tryd.prog 19 #[.string S] w fun e w' => e = .returned (.func (.func 34) #[] #[.pointer (some ⟨w.heap.size, 0, none⟩)]) ∧ w' = w.alloc (.cells #[.string S] 9) := by
  go_enter Tryd.func19, Tryd.ntmps19
  go_wp2
  go_ret
  exact ⟨rfl, rfl⟩

/-- What is known between the lines: the list and its length so far lie in their blocks; U: the iterator's own blocks. -/
structure RJ (w : World) (U : Nat → Prop) (u : Value) (L : List (Int × Int)) (m : Nat) (V : World) : Prop where
  bl : Boxed V w.heap.size 23 u
  bn : Boxed V (w.heap.size + 1) 3 (.int .i64 m)
  own : V.ownsRow w.heap.size 36 2 u L.length (cellsD L)
  far : ∀ k, u.ownBlock = some k → w.heap.size + 5 ≤ k ∧ ¬ U k
  low : ∀ k, U k → w.heap.size + 3 ≤ k ∧ k < V.heap.size
  size : w.heap.size + 3 ≤ V.heap.size
  below : Below w.heap.size w V
theorem RJ.abides {w : World} {U U' : Nat → Prop} {u : Value} {L : List (Int × Int)} {m : Nat} {A B : World} {row : Option Nat} (h : RJ w U u L m A) (hg : A.grownBy B row)
    (hr : ∀ r, row = some r → (r = w.heap.size + 2 ∨ r = w.heap.size + 3 ∨ r = w.heap.size + 4) ∨ U r) (hu : ∀ k, U' k → U k ∨ (A.heap.size ≤ k ∧ k < B.heap.size)) : RJ w U' u L m B := by
  have hsz := hg.size
  have h6 := h.size
  have hrow : ∀ r, row = some r → w.heap.size + 2 ≤ r := fun r e => by
    rcases hr r e with h1 | h1
    · omega
    · have := (h.low r h1).1; omega
  refine ⟨h.bl.kept hg (fun e => by have := hrow _ e.symm; omega), h.bn.kept hg (fun e => by have := hrow _ e.symm; omega), h.own.kept hg ?_, fun k hk => ?_, fun k hk => ?_, by omega, h.below.grown hg h.below.size (fun k e => by have := hrow _ e; omega)⟩
  · cases hk : u.ownBlock with
    | none => exact .inl rfl
    | some k =>
      refine .inr fun e => ?_
      obtain ⟨h1, h2⟩ := h.far k hk
      rcases hr k e.symm with h3 | h3
      · omega
      · exact h2 h3
  · obtain ⟨h1, h2⟩ := h.far k hk
    have h3 := (h.own.lt k hk).2
    refine ⟨h1, fun h4 => ?_⟩
    rcases hu k h4 with h5 | h5
    · exact h2 h5
    · omega
  · rcases hu k hk with h5 | h5
    · have := h.low k h5; omega
    · omega
end Go.Proofs.YtkcbfiglmjdaiaaDoor
