/-
  A contract of a lone goroutine, beside goroutines that only leave. Nothing of a program.
-/
import Derived.Test.YtehmobcfbifocaaCalmB
import Derived.Below
namespace Go.Proofs.Ytehmobcfbifocaa
open Go Go.Conc Go.RowKit

section
variable {P : Program} {ok : Oper → Bool} {K : FuncId → Bool} {Q : Value → World → Prop} {f : FuncId} {args : Array Value} {v w : World} {S : Nat → Prop} {b : Frame} {base : List Frame} {c : Nat}
theorem steps_leave {fr : Frame} {val : Value} (h : fr.leaving P w (.returned val)) : ∃ es, StepsTo P fr [] w (.back val) w es := by
  obtain ⟨hm, hd, hk, fn, hf, hr⟩ := h
  refine ⟨seen P fr.fn ((results fn fr.tmps).events P w #[]), fun b base => ?_⟩
  simp only [stepG, G, hm, unwind, hd, hf, Sem.runT_eq, hr, doReturn, hk, List.nil_append, Out.goes, GStep.after, Array.append_empty]
theorem calls_beside (H : KOk P ok K) (hf : K f = true) (hQ : ∀ val v τ d, Q val v → Q val (v.put τ d)) (hC : ∀ τ d, Calls P f args (v.put τ d) fun e w' => ∃ val, e = .returned val ∧ Q val w') (hs : Sim S v w) :
    BW P c S (G (Frame.enter P f args .normal) (b :: base)) w (BackAt c S b base Q w) := by
  refine ends_beside H (allT_ends H hQ (OkF.enter H hf args) (fs := []) (by simp) fun τ d => ?_) (OkF.enter H hf args) (by simp) w hs
  obtain ⟨e, w', fr, ⟨val, rfl, hq⟩, ⟨n, hn⟩, _, hl⟩ := hC τ d [Zf]
  obtain ⟨es, hes⟩ := steps_leave hl
  exact ⟨n, fr, w', val, w', es, hn, hes, hq⟩

open Classical in
/-- The shunned blocks emptied. -/
noncomputable def poison (S : Nat → Prop) (w : World) : World := { w with heap := w.heap.mapIdx fun i o => if S i then (match o with | .cells _ e fr => .cells #[] e fr | o => o) else o }
/-- The shunned blocks are rows of cells. -/
def Rows1 (S : Nat → Prop) (w : World) : Prop := ∀ k, S k → ∃ c e fr, w.heap[k]? = some (.cells c e fr)
theorem sim_poison (h : Rows1 S w) : Sim S (poison S w) w := by
  refine ⟨by simp [poison], fun k hk => ?_, fun k hk => ?_, rfl, rfl⟩
  · simp only [poison, Array.getElem?_mapIdx, if_neg hk]
    cases w.heap[k]? <;> rfl
  · obtain ⟨c, e, fr, h1⟩ := h k hk
    exact ⟨e, c, fr, by simp only [poison, Array.getElem?_mapIdx, h1, Option.map_some, if_pos hk], h1⟩
theorem Sim.rows (h : Sim S v w) : Rows1 S w := fun k hk => let ⟨e, c, fr, _, h2⟩ := h.sh k hk; ⟨c, e, fr, h2⟩

/-- Behind a call that leaves what lay there as it lay. -/
structure PureAt (c : Nat) (S : Nat → Prop) (b : Frame) (base : List Frame) (x : Value) (w : World) (c' : Nat) (S' : Nat → Prop) (g' : Goroutine) (w' : World) : Prop where
  ec : c' = c
  eS : S' = S
  eg : g' = G (b.finish x) base
  kept : KeptW w w'
  low : ∀ k, k < w.heap.size → ¬ S k → w'.heap[k]? = w.heap[k]?
  rows : Rows1 S w'
theorem pure_beside (H : KOk P ok K) (hf : K f = true) {x : Value} (hC : ∀ v : World, Calls P f args v fun e v' => e = .returned x ∧ Below v.heap.size v v') (h : Rows1 S w) :
    BW P c S (G (Frame.enter P f args .normal) (b :: base)) w (PureAt c S b base x w) := by
  have hs := sim_poison h
  refine (calls_beside H hf (v := poison S w) (Q := fun val v' => val = x ∧ ∀ k, k < w.heap.size → v'.heap[k]? = (poison S w).heap[k]?) (fun _ _ _ _ h => h) (fun τ d => ?_) hs).mono ?_
  · intro cs
    obtain ⟨e, w', fr, ⟨rfl, hB⟩, r⟩ := hC ((poison S w).put τ d) cs
    exact ⟨_, w', fr, ⟨x, rfl, rfl, fun k hk => hB.block k (by rw [← hs.size] at hk; exact hk)⟩, r⟩
  · rintro c' S' g' w' ⟨rfl, rfl, val, v', rfl, ⟨rfl, hb⟩, hsim, hk⟩
    exact ⟨rfl, rfl, rfl, hk, fun k hk1 hk2 => by rw [← hsim.out k hk2, hb k hk1, hs.out k hk2], hsim.rows⟩
end
end Go.Proofs.Ytehmobcfbifocaa
