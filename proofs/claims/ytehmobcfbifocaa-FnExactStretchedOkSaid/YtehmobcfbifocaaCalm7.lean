/-
  Calm steps: carried from one world to another; a lone machine of such a goroutine. Nothing of a program.
-/
import Derived.Test.YtehmobcfbifocaaCalm6
namespace Go.Proofs.Ytehmobcfbifocaa
open Go Go.Conc

def _root_.Go.World.put (v : World) (τ : Nat → Question → Nat) (d : Nat) : World := { v with tape := τ, drawn := d }
/-- The step, whoever called. -/
def StepsTo (P : Program) (fr : Frame) (fs : List Frame) (v : World) (o : Out) (v' : World) (es : Array Event) : Prop := ∀ b base, stepG P true (G fr (fs ++ b :: base)) v = o.goes b base v' es

def probe : Frame := { (default : Frame) with todo := [.extern "" #[]], mode := .run, kind := .normal }
theorem goes_inj {o o' : Out} {w w' : World} {es es' : Array Event} (h : ∀ b base, o.goes b base w es = o'.goes b base w' es') : o = o' ∧ w = w' ∧ es = es' := by
  have h1 := h probe []
  cases o <;> cases o' <;> simp only [Out.goes, G, GStep.go.injEq, Goroutine.mk.injEq] at h1
  · obtain ⟨⟨rfl, h2, _⟩, rfl, rfl⟩ := h1
    exact ⟨by rw [List.append_cancel_right h2], rfl, rfl⟩
  · exact absurd h1.1.2.1 (by simp)
  · exact absurd h1.1.2.1 (by simp)
  · exact absurd h1.1.2.1 (by simp)
  · obtain ⟨⟨h2, _⟩, rfl, rfl⟩ := h1
    refine ⟨?_, rfl, rfl⟩
    simp only [Frame.finish, probe, Frame.mk.injEq, Array.mk.injEq, List.cons.injEq] at h2
    rw [h2.2.1.1]
  · exact absurd h1.1.1 (by simp [Frame.finish, Frame.raise, probe])
  · exact absurd h1.1.2.1 (by simp)
  · exact absurd h1.1.1 (by simp [Frame.finish, Frame.raise, probe])
  · obtain ⟨⟨h2, _⟩, rfl, rfl⟩ := h1
    refine ⟨?_, rfl, rfl⟩
    simp only [Frame.raise, probe, Frame.mk.injEq, FrameMode.panicking.injEq] at h2
    rw [h2.2.2.2.2.1]
theorem StepsTo.inj {P : Program} {fr : Frame} {fs : List Frame} {v w w' : World} {o o' : Out} {es es' : Array Event} (h : StepsTo P fr fs v o w es) (h' : StepsTo P fr fs v o' w' es') : o = o' ∧ w = w' ∧ es = es' :=
  goes_inj fun b base => (h b base).symm.trans (h' b base)

section
variable {P : Program} {ok : Oper → Bool} {K : FuncId → Bool} {fr : Frame} {fs : List Frame} {v v' w : World} {o : Out} {es : Array Event} {S : Nat → Prop}
/-- It goes on, or the run ends. -/
theorem fac_cases (H : KOk P ok K) (h : OkF ok K fr) (hfs : ∀ f ∈ fs, OkF ok K f) (v : World) :
    (∃ o v' es, StepsTo P fr fs v o v' es ∧ OkOut ok K o ∧ Kept v v') ∨ ∀ b base, Ends1 (stepG P true (G fr (fs ++ b :: base)) v) := by
  obtain ⟨α, Q, s, kont, pan, flt, F⟩ := facs H h hfs
  obtain ⟨h1, h2⟩ := F.calm.kept v #[]
  cases hr : s.runT P v #[] with
  | mk r es =>
    rw [hr] at h1 h2
    cases r with
    | ok a v' =>
      have hQ := F.calm.post v v' hr
      cases hk : kont a with
      | some o => exact .inl ⟨o, v', flt es, fun b base => (F.go b base v a v' es hr).1 o hk, F.okk a o hQ hk, h1⟩
      | none => exact .inr fun b base => (F.go b base v a v' es hr).2 hk
    | halt hh v' =>
      by_cases hp : ∃ u, hh = .panic u
      · obtain ⟨u, rfl⟩ := hp
        cases hk : pan u with
        | some o => exact .inl ⟨o, v', flt es, fun b base => (F.pgo b base v u v' es hr).1 o hk, F.okp u o hk, h1⟩
        | none => exact .inr fun b base => (F.pgo b base v u v' es hr).2 hk
      · exact .inr fun b base => F.bad b base v hh v' es hr (h2 hh v' rfl) fun u e => hp ⟨u, e⟩
/-- Carried over. -/
theorem fac_sim (H : KOk P ok K) (h : OkF ok K fr) (hfs : ∀ f ∈ fs, OkF ok K f) (hst : StepsTo P fr fs v o v' es) (hs : Sim S v w) (hA : Agree v w (v'.drawn - v.drawn)) :
    ∃ w', StepsTo P fr fs w o w' es ∧ Par S v w v' w' ∧ OkOut ok K o ∧ ∀ e ∈ es, EvF (ShOf S) v'.heap.size e := by
  obtain ⟨α, Q, s, kont, pan, flt, F⟩ := facs H h hfs
  have hsim := F.calm.sim v w #[] hs
  have hm := (F.calm.kept v #[]).2
  have good : ∀ (es₀ : Array Event), GoodEs S v'.heap.size #[] es₀ → ∀ e ∈ flt es₀, EvF (ShOf S) v'.heap.size e := fun es₀ ⟨new, e1, e2⟩ e he => by
    have := F.fltIn es₀ e he
    rw [e1] at this
    exact e2 e (by simpa using this)
  cases hr : s.runT P v #[] with
  | mk r es₀ =>
    rw [hr] at hsim hm
    cases r with
    | ok a v₁ =>
      have hQ := F.calm.post v v₁ hr
      cases hk : kont a with
      | some o' =>
        obtain ⟨rfl, rfl, rfl⟩ := hst.inj fun b base => (F.go b base v a v₁ es₀ hr).1 o' hk
        obtain ⟨w', f1, f2, f3, f4⟩ := hsim trivial hA
        exact ⟨w', fun b base => (F.go b base w a w' es₀ f1).1 o hk, f2, F.okk a o hQ hk, good es₀ f4⟩
      | none =>
        have := (F.go probe [] v a v₁ es₀ hr).2 hk
        rw [hst] at this
        cases o <;> exact this.elim
    | halt hh v₁ =>
      by_cases hp : ∃ u, hh = .panic u
      · obtain ⟨u, rfl⟩ := hp
        cases hk : pan u with
        | some o' =>
          obtain ⟨rfl, rfl, rfl⟩ := hst.inj fun b base => (F.pgo b base v u v₁ es₀ hr).1 o' hk
          obtain ⟨w', f1, f2, f3, f4⟩ := hsim trivial hA
          exact ⟨w', fun b base => (F.pgo b base w u w' es₀ f1).1 o hk, f2, F.okp u o hk, good es₀ f4⟩
        | none =>
          have := (F.pgo probe [] v u v₁ es₀ hr).2 hk
          rw [hst] at this
          cases o <;> exact this.elim
      · have := F.bad probe [] v hh v₁ es₀ hr (hm hh v₁ rfl) fun u e => hp ⟨u, e⟩
        rw [hst] at this
        cases o <;> exact this.elim
end

/-! ### alone -/
/-- Below the goroutine's own frames: a frame that can't go on. -/
def Zf : Frame := { (default : Frame) with todo := [.code (.refuse "")], defers := [{ target := .nil, args := #[] }], mode := .run, kind := .normal }
section
variable {P : Program} {fr : Frame} {fs : List Frame} {v v' : World} {es : Array Event}
theorem lone_to {fr' : Frame} {fs' : List Frame} (h : StepsTo P fr fs v (.to fr' fs') v' es) : step P (lone fr (fs ++ [Zf]) v) = .next (lone fr' (fs' ++ [Zf]) v') :=
  step_lone_go (by have := h Zf []; simp only [G, Out.goes] at this; rw [this]; rfl)
theorem lone_back {val : Value} (h : StepsTo P fr fs v (.back val) v' es) : step P (lone fr (fs ++ [Zf]) v) = .next (lone (Zf.finish val) [] v') :=
  step_lone_go (by have := h Zf []; simp only [G, Out.goes] at this; rw [this]; rfl)
theorem lone_fall {c : List PanicEntry} (h : StepsTo P fr fs v (.fall c) v' es) : step P (lone fr (fs ++ [Zf]) v) = .next (lone (Zf.raise c) [] v') :=
  step_lone_go (by have := h Zf []; simp only [G, Out.goes] at this; rw [this]; rfl)
theorem lone_ends (h : Ends1 (stepG P true (G fr (fs ++ [Zf])) v)) : ∃ o w, step P (lone fr (fs ++ [Zf]) v) = .ended o w := by
  cases hs : stepG P true (G fr (fs ++ [Zf])) v with
  | ended o w es => exact ⟨o, w, step_lone_ended (by simp only [G] at hs; rw [hs]; rfl)⟩
  | _ => rw [hs] at h; exact h.elim
theorem lone_Zf (val : Value) (v : World) : ∃ o w, step P (lone (Zf.finish val) [] v) = .ended o w :=
  ⟨_, _, step_lone_ended (by simp [stepG, stepG.exec, Zf, Frame.finish]; exact ⟨rfl, rfl⟩)⟩
theorem lone_Zr (c : List PanicEntry) (v : World) : ∃ o w, step P (lone (Zf.raise c) [] v) = .ended o w :=
  ⟨_, _, step_lone_ended (by simp [stepG, unwind, callDeferred, Zf, Frame.raise]; exact ⟨rfl, rfl⟩)⟩
end
end Go.Proofs.Ytehmobcfbifocaa
