/-
  Calls beside goroutines that only leave, strung together: what is kept of the world; a call is entered. Nothing of a program.
-/
import Derived.Test.YtehmobcfbifocaaCalm17
namespace Go.Proofs.Ytehmobcfbifocaa
open Go Go.Conc Go.ConcN Go.RowKit

/-- What is kept since W. -/
structure KF (W : World) (S₀ S : Nat → Prop) (w : World) : Prop where
  kept : KeptW W w
  low : ∀ k, k < W.heap.size → ¬ S₀ k → w.heap[k]? = W.heap[k]?
  sh : ∀ k, S k → S₀ k ∨ W.heap.size ≤ k
  rows : Rows1 S w
theorem KF.refl {W : World} {S : Nat → Prop} (h : Rows1 S W) : KF W S S W := ⟨⟨rfl, Nat.le_refl _, rfl, rfl⟩, fun _ _ _ => rfl, fun _ h => .inl h, h⟩
theorem KF.at {W w w₁ : World} {S₀ S : Nat → Prop} (h : KF W S₀ S w) (r : AtRel w w₁) : KF W S₀ S w₁ := by
  obtain ⟨d, rfl⟩ := r
  exact ⟨⟨h.kept.tape, h.kept.size, h.kept.os, h.kept.output⟩, h.low, h.sh, h.rows⟩
theorem KF.trans {W w w' : World} {S₀ S S' : Nat → Prop} (h : KF W S₀ S w) (k : KF w S S' w') : KF W S₀ S' w' := by
  have h1 := h.kept.size
  refine ⟨h.kept.trans k.kept, fun b hb hs => ?_, fun b hb => ?_, k.rows⟩
  · rw [k.low b (by omega) (fun hS => (h.sh b hS).elim hs fun h2 => by omega), h.low b hb hs]
  · rcases k.sh b hb with h2 | h2
    · exact h.sh b h2
    · exact .inr (by omega)
theorem KF.lt {W w : World} {S₀ S : Nat → Prop} (h : KF W S₀ S w) : ∀ k, S k → k < w.heap.size := fun k hk => by
  obtain ⟨c, e, fr, h1⟩ := h.rows k hk
  exact (Array.getElem?_eq_some_iff.1 h1).1
theorem PureAt.kf {c c' : Nat} {S S' : Nat → Prop} {b : Frame} {base : List Frame} {x : Value} {w w' : World} {g' : Goroutine} (h : PureAt c S b base x w c' S' g' w') : KF w S S w' := ⟨h.kept, h.low, fun _ h => .inl h, h.rows⟩
/-- .. and how large the heap is at least. -/
structure KN (N : Nat) (W : World) (S₀ S : Nat → Prop) (w : World) : Prop where
  kf : KF W S₀ S w
  sz : N ≤ w.heap.size
theorem KN.at {N : Nat} {W w w₁ : World} {S₀ S : Nat → Prop} (h : KN N W S₀ S w) (r : AtRel w w₁) : KN N W S₀ S w₁ := ⟨h.kf.at r, by obtain ⟨d, rfl⟩ := r; exact h.sz⟩
/-- Behind a call that may have started goroutines: m of them at most. -/
def TaintAt (c m : Nat) (S : Nat → Prop) (b : Frame) (base : List Frame) (x : Value) (w : World) : BStop := fun c' S' g' w' =>
  c' ≤ c + m ∧ g' = G (b.finish x) base ∧ KF w S S' w'
section
variable {P : Program} {c : Nat} {Sh : Nat → Prop} {g : Goroutine} {w : World} {Stop : BStop}
/-- A walk, to a stop from which it goes on. -/
theorem BW.walk (n : Nat) (h : Goes P true AtRel (DF Sh w.heap.size) (fun g' w' => w.heap.size ≤ w'.heap.size ∧ BW P c Sh g' w' Stop) n g w) : BW P c Sh g w Stop :=
  BW.goes' (Nat.le_refl _) h fun _ _ h => h
variable {ops : Array Oper} {i : Nat} {rest : List Nat} {o : Oper} {K : Goroutine → World → Array Event → Prop} {f : FuncId} {fn : Func} {cd : Code} {args : Array Operand} {ats : Array TypeId} {b : Frame} {a : Act} {k : List Item} {cs : List Frame} {main : Bool}
theorem goes_callF (ho : ops[i]? = some o) (hw : Region.wanted o (yielded ops a.tmps) = true) (hk : b.kind ≠ .early) (hop : o.op = .call { callee := .value (.func f), args, argTypes := ats })
    (hf : P.funcs[f]? = some fn) (hname : (fn.name == "runtime.NumGoroutine") = false) (hb : fn.body = some cd)
    (h : K (G (Frame.enter P f (args.map a.eval) .normal) (b.at a (.inRegion ops (i :: rest) :: k) :: cs)) w #[]) :
    (stepG P main (G (b.at a (.inRegion ops (i :: rest) :: k)) cs) w).goes K := by
  refine goes_call ho hw hk hop hf hname hb ?_
  rw [← enter_at _ hf hb]
  exact h
end
end Go.Proofs.Ytehmobcfbifocaa
