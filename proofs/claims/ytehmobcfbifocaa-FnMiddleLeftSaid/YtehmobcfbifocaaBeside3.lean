/-
  A lone call beside leavers, of which the result's kind alone is known. Nothing of a program.
-/
import Derived.Test.YtehmobcfbifocaaBeside2
namespace Go.Proofs.Ytehmobcfbifocaa
open Go Go.Conc Go.ConcN Go.RowKit

/-- Behind a call that leaves what lay there as it lay; its result is known by Q. -/
structure PureQ (c : Nat) (S : Nat → Prop) (b : Frame) (base : List Frame) (Q : Value → Prop) (w : World) (c' : Nat) (S' : Nat → Prop) (g' : Goroutine) (w' : World) : Prop where
  ec : c' = c
  eS : S' = S
  eg : ∃ x, Q x ∧ g' = G (b.finish x) base
  kept : KeptW w w'
  low : ∀ k, k < w.heap.size → ¬ S k → w'.heap[k]? = w.heap[k]?
  rows : Rows1 S w'
theorem PureQ.kf {c c' : Nat} {S S' : Nat → Prop} {b : Frame} {base : List Frame} {Q : Value → Prop} {w w' : World} {g' : Goroutine} (h : PureQ c S b base Q w c' S' g' w') : KF w S S w' := ⟨h.kept, h.low, fun _ h => .inl h, h.rows⟩
section
variable {P : Program} {ok : Oper → Bool} {K : FuncId → Bool} {f : FuncId} {args : Array Value} {w : World} {S : Nat → Prop} {b : Frame} {base : List Frame} {c : Nat}
theorem pureQ_beside (H : KOk P ok K) (hf : K f = true) {Q : Value → Prop} (hC : ∀ v : World, Sim S v w → Calls P f args v fun e v' => ∃ x, Q x ∧ e = .returned x ∧ Below v.heap.size v v') (h : Rows1 S w) :
    BW P c S (G (Frame.enter P f args .normal) (b :: base)) w (PureQ c S b base Q w) := by
  have hs := sim_poison h
  refine (calls_beside H hf (v := poison S w) (Q := fun val v' => Q val ∧ ∀ k, k < w.heap.size → v'.heap[k]? = (poison S w).heap[k]?) (fun _ _ _ _ h => h) (fun τ d => ?_) hs).mono ?_
  · intro cs
    obtain ⟨e, w', fr, ⟨x, hx, rfl, hB⟩, r⟩ := hC ((poison S w).put τ d) ⟨hs.size, hs.out, hs.sh, hs.os, hs.output⟩ cs
    exact ⟨_, w', fr, ⟨x, rfl, hx, fun k hk => hB.block k (by rw [← hs.size] at hk; exact hk)⟩, r⟩
  · rintro c' S' g' w' ⟨rfl, rfl, val, v', rfl, ⟨hx, hb⟩, hsim, hk⟩
    exact ⟨rfl, rfl, ⟨val, hx, rfl⟩, hk, fun k hk1 hk2 => by rw [← hsim.out k hk2, hb k hk1, hs.out k hk2], hsim.rows⟩
theorem sim_none {v w : World} (h : Sim (fun _ => False) v w) : v.heap = w.heap := by
  apply Array.ext_getElem?
  intro i
  exact h.out i (fun h => h)
end
end Go.Proofs.Ytehmobcfbifocaa
