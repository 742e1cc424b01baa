/-
  A whole run, out of a walk beside leavers: from the start of a call to its end. Nothing of a program.
-/
import Derived.Test.YtehmobcfbifocaaBeside
import Derived.Conc.Beside
namespace Go.Proofs.Ytehmobcfbifocaa
open Go Go.Conc Go.ConcN Go.RowKit

/-- Where a call's run ends: goroutine 0 stands at the step that ends it. -/
def EndAt (P : Program) (Post : Value → World → Prop) : BStop := fun _ _ g' w' =>
  ∃ v, g'.status = .running ∧ (∀ w, stepG P true g' w = .ended (.done v) w #[]) ∧ ∀ w₂, AtRel w' w₂ → Post v w₂
theorem shOf_none : ShOf (fun _ => False) = fun _ => False := by
  funext l
  apply propext
  constructor
  · rintro ⟨a, _, h⟩
    exact h
  · exact False.elim
theorem runs_whole {P : Program} {g : Goroutine} {W : World} {Post : Value → World → Prop} (h : BW P 1 (fun _ => False) g W (EndAt P Post)) :
    ∃ M last o w' t', runNT P (M + 1) (crowd #[g] W none) #[] = (.ended o w', t') ∧ runN P M (crowd #[g] W none) = .next last ∧ step P last = .ended o w' ∧ Good P Post last o w' t' := by
  obtain ⟨K, gs', g', w', sl', t', q', B', c', Sh', e1, e2, e3, e4, e5, v, f1, f2, f3⟩ := h #[g] none #[] (fun _ => 0) 0 rfl (by simp) (Nat.zero_le _) (by rw [shOf_none]; exact fr_first P g 0)
  obtain ⟨B2, hP⟩ := e5.past
  obtain ⟨N, last, o, w2, t2, r1, r2, r3, r4⟩ := beside_ends (P := P) (Post := Post) (sl := sl') (D := fun _ _ _ => False) (fun _ _ _ h => h.elim) e2 e5.leav hP (Goes.stop (n := 0) fun w₁ h₁ => ⟨f1, v, #[], f2 w₁, by intro e he; simp at he, f3 w₁ h₁⟩)
  refine ⟨K + N, last, o, w2, t2, ?_, ?_, r3, r4⟩
  · exact run_chain K e1 r1
  · rw [runN_add, ← runNT_fst P _ _ #[], e1]
    exact r2
section
variable {P : Program} {b : Frame} {a : Act} {todo : List Item} {fn : Func} {t : Tmp}
theorem stepG_done1 (hn : b.kind = .normal) (hd : a.defers = []) (hf : P.funcs[b.fn]? = some fn) (hr : fn.results = #[.tmp t]) (hi : P.inits.idxOf? b.fn = none) (w : World) :
    stepG P true (G { b.at a todo with mode := .returning } []) w = .ended (.done (a.tmps.getD t undef)) w #[] := by
  have h1 := results_tmp hr a.tmps P w
  have h2 := events_results_tmp (w := w) (P := P) hr a.tmps #[]
  simp [stepG, G, Frame.at, unwind, hd, hf, Sem.runT_eq, h1, h2, doReturn, hn, hi, GStep.after, seen_none]
end
end Go.Proofs.Ytehmobcfbifocaa
