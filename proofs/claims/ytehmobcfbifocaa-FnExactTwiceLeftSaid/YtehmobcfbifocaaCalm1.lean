/-
  What a lone goroutine does it does beside others too: meanings that touch no shunned block, say no word of the library's and ask nothing of the outside; how such a meaning runs in two worlds that differ in shunned blocks and tapes alone. Nothing of a program.
-/
import Derived.Test.YtehmobcfbifocaaBw
namespace Go.Proofs.Ytehmobcfbifocaa
open Go Go.Conc

/-- A halt that is a panic, or ends the run. -/
def mildHalt : Halt → Prop
  | .panic _ | .unsupported _ | .stuck _ => True
  | _ => False
/-- It only halts, and by no panic. -/
inductive Dead (P : Program) {α : Type} : Sem α → Prop
  | stuck {s : String} : Dead P (.halt (.stuck s))
  | unsupported {u : Unsupported} : Dead P (.halt (.unsupported u))
  | program {k : Program → Sem α} : Dead P (k P) → Dead P (.program k)
  | shape {r : Nat} {k : Option (TypeId × Nat) → Sem α} : (∀ s, Dead P (k s)) → Dead P (.shape r k)
  | frozen {a : Addr} {k : Bool → Sem α} : (∀ b, Dead P (k b)) → Dead P (.frozen a k)
  | room {k : Sem α} : Dead P k → Dead P (.mark .noRoom k)

inductive Calm (P : Program) {α : Type} (Q : α → Prop) : Sem α → Prop
  | pure {a : α} : Q a → Calm P Q (.pure a)
  | load {m : Mode} {a : Addr} {k : Value → Sem α} : (∀ v, Calm P Q (k v)) → Calm P Q (.load m a k)
  | store {m : Mode} {a : Addr} {v : Value} {k : Sem α} : Calm P Q k → Calm P Q (.store m a v k)
  | new {o : Obj} {k : Nat → Sem α} : (∀ r, Calm P Q (k r)) → Calm P Q (.new o k)
  | shape {r : Nat} {k : Option (TypeId × Nat) → Sem α} : (∀ s, Calm P Q (k s)) → (∀ e n, k (some (e, 0)) = k (some (e, n)) ∨ Dead P (k (some (e, 0)))) → Calm P Q (.shape r k)
  | frozen {a : Addr} {k : Bool → Sem α} : (∀ b, Calm P Q (k b)) → Calm P Q (.frozen a k)
  | getObj {r : Nat} {k : Obj → Sem α} : (∀ o, Calm P Q (k o)) → Calm P Q (.getObj r k)
  | setObj {r : Nat} {o : Obj} {k : Sem α} : Calm P Q k → Calm P Q (.setObj r o k)
  | choose {q : Question} {k : Nat → Sem α} : (∀ n, Calm P Q (k n)) → Calm P Q (.choose q k)
  | program {k : Program → Sem α} : Calm P Q (k P) → Calm P Q (.program k)
  | room {k : Sem α} : Calm P Q k → Calm P Q (.mark .noRoom k)
  | halt {h : Halt} : mildHalt h → Calm P Q (.halt h)

section
variable {P : Program} {α β : Type} {Q : α → Prop} {Q' : β → Prop}
theorem Dead.bind {s : Sem α} {f : α → Sem β} (h : Dead P s) : Dead P (s.bind f) := by
  induction h with
  | stuck => exact .stuck
  | unsupported => exact .unsupported
  | program _ ih => exact .program ih
  | shape _ ih => exact .shape ih
  | frozen _ ih => exact .frozen ih
  | room _ ih => exact .room ih
theorem Calm.bind {s : Sem α} {f : α → Sem β} (h : Calm P Q s) (hf : ∀ a, Q a → Calm P Q' (f a)) : Calm P Q' (s.bind f) := by
  induction h with
  | pure h => exact hf _ h
  | load _ ih => exact .load ih
  | store _ ih => exact .store ih
  | new _ ih => exact .new ih
  | shape _ hb ih => exact .shape ih fun e n => (hb e n).imp (fun x => by rw [x]) Dead.bind
  | frozen _ ih => exact .frozen ih
  | getObj _ ih => exact .getObj ih
  | setObj _ ih => exact .setObj ih
  | choose _ ih => exact .choose ih
  | program _ ih => exact .program ih
  | room _ ih => exact .room ih
  | halt h => exact .halt h
theorem Calm.mono {Q₂ : α → Prop} {s : Sem α} (h : Calm P Q s) (hq : ∀ a, Q a → Q₂ a) : Calm P Q₂ s := by
  induction h with
  | pure h => exact .pure (hq _ h)
  | load _ ih => exact .load ih
  | store _ ih => exact .store ih
  | new _ ih => exact .new ih
  | shape _ hb ih => exact .shape ih hb
  | frozen _ ih => exact .frozen ih
  | getObj _ ih => exact .getObj ih
  | setObj _ ih => exact .setObj ih
  | choose _ ih => exact .choose ih
  | program _ ih => exact .program ih
  | room _ ih => exact .room ih
  | halt h => exact .halt h
end

def _root_.Go.Result.world {α : Type} : Result α → World
  | .ok _ w | .halt _ w => w
def _root_.Go.Result.into {α : Type} (r : Result α) (w : World) : Result α :=
  match r with
  | .ok a _ => .ok a w
  | .halt h _ => .halt h w
/-- It goes on: by a value or by a panic. -/
def _root_.Go.Result.live {α : Type} : Result α → Prop
  | .ok _ _ | .halt (.panic _) _ => True
  | _ => False

/-- v: as w, but that the shunned blocks are empty rows there; the tapes are apart. -/
structure Sim (S : Nat → Prop) (v w : World) : Prop where
  size : v.heap.size = w.heap.size
  out : ∀ b, ¬ S b → v.heap[b]? = w.heap[b]?
  sh : ∀ b, S b → ∃ e c fr, v.heap[b]? = some (.cells #[] e fr) ∧ w.heap[b]? = some (.cells c e fr)
  os : v.os = w.os
  output : v.output = w.output
/-- The next n answers are the same. -/
def Agree (v w : World) (n : Nat) : Prop := ∀ k q, k < n → w.tape (w.drawn + k) q = v.tape (v.drawn + k) q
theorem Sim.drew {S : Nat → Prop} {v w : World} (h : Sim S v w) (d d' : Nat) : Sim S { v with drawn := d } { w with drawn := d' } := ⟨h.size, h.out, h.sh, h.os, h.output⟩

section
variable {S : Nat → Prop} {v w : World}
theorem Sim.bound (h : Sim S v w) {b : Nat} (hb : S b) : b < v.heap.size := by
  obtain ⟨e, c, fr, h1, _⟩ := h.sh b hb
  exact (Array.getElem?_eq_some_iff.1 h1).1
theorem Sim.cell (h : Sim S v w) {a : Addr} {x : Value} (hx : v.cell? a = some x) : w.cell? a = some x ∧ ¬ S a.block ∧ a.block < v.heap.size := by
  have hn : ¬ S a.block := fun hs => by
    obtain ⟨e, c, fr, h1, _⟩ := h.sh _ hs
    simp [World.cell?, h1] at hx
  have e := h.out _ hn
  refine ⟨?_, hn, ?_⟩
  · simp only [World.cell?, ← e]
    exact hx
  · simp only [World.cell?] at hx
    cases hh : v.heap[a.block]? with
    | none => rw [hh] at hx; cases hx
    | some o => exact (Array.getElem?_eq_some_iff.1 hh).1
theorem Sim.noCell (h : Sim S v w) {a : Addr} (hn : ¬ S a.block) : w.cell? a = v.cell? a := by simp only [World.cell?, ← h.out _ hn]
theorem Sim.frozen (h : Sim S v w) (a : Addr) : v.frozen? a = w.frozen? a := by
  by_cases hs : S a.block
  · obtain ⟨e, c, fr, h1, h2⟩ := h.sh _ hs
    simp [World.frozen?, h1, h2]
  · simp only [World.frozen?, ← h.out _ hs]
theorem Sim.push (h : Sim S v w) (o : Obj) : Sim S { v with heap := v.heap.push o } { w with heap := w.heap.push o } := by
  refine ⟨by simp [h.size], fun b hb => ?_, fun b hb => ?_, h.os, h.output⟩
  · simp only [Array.getElem?_push, h.size]
    by_cases e : b = w.heap.size
    · rw [if_pos e, if_pos e]
    · rw [if_neg e, if_neg e]
      exact h.out b hb
  · have hlt := h.bound hb
    obtain ⟨e, c, fr, h1, h2⟩ := h.sh b hb
    refine ⟨e, c, fr, ?_, ?_⟩
    · simp only [Array.getElem?_push]
      rw [if_neg (by omega)]
      exact h1
    · simp only [Array.getElem?_push]
      rw [if_neg (by rw [← h.size]; omega)]
      exact h2
theorem Sim.put (h : Sim S v w) {r : Nat} (hr : ¬ S r) (o : Obj) : Sim S { v with heap := v.heap.setIfInBounds r o } { w with heap := w.heap.setIfInBounds r o } := by
  refine ⟨by simp [h.size], fun b hb => ?_, fun b hb => ?_, h.os, h.output⟩
  · by_cases e : r = b
    · subst e
      simp only [Array.getElem?_setIfInBounds_self, h.size]
    · simp only [Array.getElem?_setIfInBounds_ne e]
      exact h.out b hb
  · have e : r ≠ b := fun e => hr (e ▸ hb)
    obtain ⟨e', c, fr, h1, h2⟩ := h.sh b hb
    exact ⟨e', c, fr, by simp only [Array.getElem?_setIfInBounds_ne e]; exact h1, by simp only [Array.getElem?_setIfInBounds_ne e]; exact h2⟩
theorem Sim.setCell (h : Sim S v w) {a : Addr} (hn : ¬ S a.block) (x : Value) : Sim S (v.setCell a x) (w.setCell a x) := by
  refine ⟨by simp [World.setCell, h.size], fun b hb => ?_, fun b hb => ?_, h.os, h.output⟩
  · by_cases e : b = a.block
    · subst e
      simp only [World.setCell, Array.getElem?_modify, if_true, h.out _ hn]
    · rw [(aside_setCell v a x).block b e, (aside_setCell w a x).block b e]
      exact h.out b hb
  · have e : b ≠ a.block := fun e => hn (e ▸ hb)
    obtain ⟨e', c, fr, h1, h2⟩ := h.sh b hb
    exact ⟨e', c, fr, by rw [(aside_setCell v a x).block b e]; exact h1, by rw [(aside_setCell w a x).block b e]; exact h2⟩
end
end Go.Proofs.Ytehmobcfbifocaa
