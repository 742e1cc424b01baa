/-
  Goroutine 0 beside goroutines that only leave: from a state, whatever the others and the tape, the machine comes to a stop: the word by which walks and phases are strung together. Nothing of a program.
-/
import Derived.Test.YtehmobcfbifocaaGang5
import Derived.Conc.CrowdMono
namespace Go.Proofs.Ytehmobcfbifocaa
open Go Go.Conc Go.ConcN

/-- Cells of shunned blocks. -/
def ShOf (Sh : Nat → Prop) : Loc → Prop := fun l => ∃ a, l = .cell a ∧ Sh a.block
/-- A stop: how many goroutines there are at most, what is shunned, where goroutine 0 stands, the world. -/
abbrev BStop := Nat → (Nat → Prop) → Goroutine → World → Prop
def BW (P : Program) (c : Nat) (Sh : Nat → Prop) (g : Goroutine) (w : World) (Stop : BStop) : Prop :=
  ∀ (gs : Array Goroutine) (sl : Option (Nat × Nat)) (t : Trace) (q : Nat → Nat) (B : Nat), gs[0]? = some g → gs.size ≤ c → B ≤ w.heap.size → Fr P (ShOf Sh) B gs t q →
    ∃ (K : Nat) (gs' : Array Goroutine) (g' : Goroutine) (w' : World) (sl' : Option (Nat × Nat)) (t' : Trace) (q' : Nat → Nat) (B' c' : Nat) (Sh' : Nat → Prop),
      runNT P K (crowd gs w sl) t = (.next (crowd gs' w' sl'), t') ∧ gs'[0]? = some g' ∧ gs'.size ≤ c' ∧ B' ≤ w'.heap.size ∧ Fr P (ShOf Sh') B' gs' t' q' ∧ Stop c' Sh' g' w'

theorem run_chain {P : Program} : ∀ (n : Nat) {k : Nat} {m m' : Machine} {x : Stepped × Trace} {t t' : Trace}, runNT P n m t = (.next m', t') → runNT P k m' t' = x → runNT P (n + k) m t = x := by
  intro n
  induction n with
  | zero =>
    intro k m m' x t t' h hk
    simp only [runNT, Prod.mk.injEq, Stepped.next.injEq] at h
    obtain ⟨rfl, rfl⟩ := h
    rw [Nat.zero_add]
    exact hk
  | succ n ih =>
    intro k m m' x t t' h hk
    rw [show n + 1 + k = n + k + 1 by omega]
    simp only [runNT] at h ⊢
    generalize stepT P m = s at h ⊢
    obtain ⟨s, ops⟩ := s
    cases s with
    | next m₁ => exact ih h hk
    | ended o w => simp at h

section
variable {P : Program} {c : Nat} {Sh : Nat → Prop} {g : Goroutine} {w : World} {Stop Stop' : BStop}
theorem BW.now (h : Stop c Sh g w) : BW P c Sh g w Stop := fun gs sl t q B h0 hc hB hF => ⟨0, gs, g, w, sl, t, q, B, c, Sh, rfl, h0, hc, hB, hF, h⟩
theorem BW.bind (h : BW P c Sh g w Stop) (k : ∀ c' Sh' g' w', Stop c' Sh' g' w' → BW P c' Sh' g' w' Stop') : BW P c Sh g w Stop' := by
  intro gs sl t q B h0 hc hB hF
  obtain ⟨K, gs', g', w', sl', t', q', B', c', Sh', e1, e2, e3, e4, e5, e6⟩ := h gs sl t q B h0 hc hB hF
  obtain ⟨K2, gs2, g2, w2, sl2, t2, q2, B2, c2, Sh2, f1, f2⟩ := k c' Sh' g' w' e6 gs' sl' t' q' B' e2 e3 e4 e5
  exact ⟨K + K2, gs2, g2, w2, sl2, t2, q2, B2, c2, Sh2, run_chain K e1 f1, f2⟩
theorem BW.mono (h : BW P c Sh g w Stop) (k : ∀ c' Sh' g' w', Stop c' Sh' g' w' → Stop' c' Sh' g' w') : BW P c Sh g w Stop' := h.bind fun _ _ _ _ x => .now (k _ _ _ _ x)

/-- What goroutine 0 may list. -/
def DF (Sh : Nat → Prop) (B : Nat) (_ _ : World) (es : Array Event) : Prop := ∀ e ∈ es, EvF (ShOf Sh) B e
theorem DF.none {Sh : Nat → Prop} {B : Nat} {w w' : World} {es : Array Event} (h : ∀ e ∈ es, False) : DF Sh B w w' es := fun e he => (h e he).elim
theorem evF_cell {Sh : Nat → Prop} {B : Nat} {a : Addr} {wr s : Bool} (h : ¬ Sh a.block) (hB : a.block < B) : EvF (ShOf Sh) B ⟨.cell a, wr, s⟩ := by
  refine ⟨fun x hx => ?_, by simp, by simp⟩
  simp only [Go.ConcR.ofEvent_cell, MemAct.touch?, Option.some.injEq] at hx
  subst hx
  refine ⟨?_, hB⟩
  rintro ⟨a', e, hs⟩
  cases e
  exact h hs

/-- A walk of its own. -/
theorem BW.goes {n B2 : Nat} {Stop : BStop} (hB2 : w.heap.size ≤ B2) (h : Goes P true AtRel (DF Sh B2) (fun g' w' => B2 ≤ w'.heap.size ∧ Stop c Sh g' w') n g w) : BW P c Sh g w Stop := by
  intro gs sl t q B h0 hc hB hF
  obtain ⟨K, gs', g', w', sl', t', q', e1, e2, e3, ⟨e4, e5⟩, e6⟩ := walkFr (P := P) (Sh := ShOf Sh) (B := B2) (D := DF Sh B2) (fun _ _ _ hd => hd) (n + Go.ConcN.sumTo gs.size q) n gs g w sl t q (Nat.le_refl _) h0 (hF.mono (by omega)) h
  exact ⟨K, gs', g', w', sl', t', q', B2, c, Sh, e1, e3, by omega, e4, e6, e5⟩
/-- On to a further stop, a walk of its own behind. -/
theorem BW.goes' {n B2 : Nat} {S : Goroutine → World → Prop} {Stop : BStop} (hB2 : w.heap.size ≤ B2) (h : Goes P true AtRel (DF Sh B2) S n g w) (hS : ∀ g' w', S g' w' → B2 ≤ w'.heap.size ∧ BW P c Sh g' w' Stop) : BW P c Sh g w Stop := by
  refine BW.bind (Stop := fun c' Sh' g' w' => c' = c ∧ Sh' = Sh ∧ S g' w') (BW.goes hB2 (goes_mono (fun g' w' x => ⟨(hS g' w' x).1, rfl, rfl, x⟩) h)) fun c' Sh' g' w' x => ?_
  obtain ⟨rfl, rfl, x⟩ := x
  exact (hS g' w' x).2
end
end Go.Proofs.Ytehmobcfbifocaa
