/-
  Calm steps: carried from one world to another; a lone machine of such a goroutine. Nothing of a program.
-/
import Derived.Test.YtehmobcfbifocaaCalmA
namespace Go.Proofs.Ytehmobcfbifocaa
open Go Go.Conc

def _root_.Go.World.put (v : World) (τ : Nat → Question → Nat) (d : Nat) : World := { v with tape := τ, drawn := d }
/-- The step, whoever called. -/
def StepsTo (P : Program) (fr : Frame) (fs : List Frame) (v : World) (o : Out) (v' : World) (es : Array Event) : Prop := ∀ b base, stepG P true (G fr (fs ++ b :: base)) v = o.goes b base v' es

def probe : Frame := { (default : Frame) with todo := [.extern "" #[]], mode := .run, kind := .normal }
theorem goes_inj {o o' : Out} {w w' : World} {es es' : Array Event} (h : ∀ b base, o.goes b base w es = o'.goes b base w' es') : o = o' ∧ w = w' ∧ es = es' := by
  have h1 := h probe []
  cases o <;> cases o' <;> simp only [Out.goes, G, GStep.go.injEq, Goroutine.mk.injEq] at h1
  · obtain ⟨⟨rfl, h2, _⟩, rfl, rfl⟩ := h1
    exact ⟨by rw [List.append_cancel_right h2], rfl, rfl⟩
  · exact absurd h1.1.2.1 (by simp)
  · exact absurd h1.1.2.1 (by simp)
  · exact absurd h1.1.2.1 (by simp)
  · obtain ⟨⟨h2, _⟩, rfl, rfl⟩ := h1
    refine ⟨?_, rfl, rfl⟩
    simp only [Frame.finish, probe, Frame.mk.injEq, Array.mk.injEq, List.cons.injEq] at h2
    rw [h2.2.1.1]
  · exact absurd h1.1.1 (by simp [Frame.finish, Frame.raise, probe])
  · exact absurd h1.1.2.1 (by simp)
  · exact absurd h1.1.1 (by simp [Frame.finish, Frame.raise, probe])
  · obtain ⟨⟨h2, _⟩, rfl, rfl⟩ := h1
    refine ⟨?_, rfl, rfl⟩
    simp only [Frame.raise, probe, Frame.mk.injEq, FrameMode.panicking.injEq] at h2
    rw [h2.2.2.2.2.1]
theorem StepsTo.inj {P : Program} {fr : Frame} {fs : List Frame} {v w w' : World} {o o' : Out} {es es' : Array Event} (h : StepsTo P fr fs v o w es) (h' : StepsTo P fr fs v o' w' es') : o = o' ∧ w = w' ∧ es = es' :=
  goes_inj fun b base => (h b base).symm.trans (h' b base)

section
variable {P : Program} {ok : Oper → Bool} {K : FuncId → Bool} {fr : Frame} {fs : List Frame} {v v' w : World} {o : Out} {es : Array Event} {S : Nat → Prop}
/-- It goes on, or the run ends. -/
theorem fac_cases (H : KOk P ok K) (h : OkF ok K fr) (hfs : ∀ f ∈ fs, OkF ok K f) (v : World) :
    (∃ o v' es, StepsTo P fr fs v o v' es ∧ OkOut ok K o ∧ Kept v v') ∨ ∀ b base, Ends1 (stepG P true (G fr (fs ++ b :: base)) v) := by
  obtain ⟨α, Q, s, kont, pan, flt, F⟩ := facs H h hfs
  obtain ⟨h1, h2⟩ := F.calm.kept v #[]
  cases hr : s.runT P v #[] with
  | mk r es =>
    rw [hr] at h1 h2
    cases r with
    | ok a v' =>
      have hQ := F.calm.post v v' hr
      cases hk : kont a with
      | some o => exact .inl ⟨o, v', flt es, fun b base => (F.go b base v a v' es hr).1 o hk, F.okk a o hQ hk, h1⟩
      | none => exact .inr fun b base => (F.go b base v a v' es hr).2 hk
    | halt hh v' =>
      by_cases hp : ∃ u, hh = .panic u
      · obtain ⟨u, rfl⟩ := hp
        cases hk : pan u with
        | some o => exact .inl ⟨o, v', flt es, fun b base => (F.pgo b base v u v' es hr).1 o hk, F.okp u o hk, h1⟩
        | none => exact .inr fun b base => (F.pgo b base v u v' es hr).2 hk
      · exact .inr fun b base => F.bad b base v hh v' es hr (h2 hh v' rfl) fun u e => hp ⟨u, e⟩
/-- Carried over. -/
theorem fac_sim (H : KOk P ok K) (h : OkF ok K fr) (hfs : ∀ f ∈ fs, OkF ok K f) (hst : StepsTo P fr fs v o v' es) (hs : Sim S v w) (hA : Agree v w (v'.drawn - v.drawn)) :
    ∃ w', StepsTo P fr fs w o w' es ∧ Par S v w v' w' ∧ OkOut ok K o ∧ ∀ e ∈ es, EvF (ShOf S) v'.heap.size e := by
  obtain ⟨α, Q, s, kont, pan, flt, F⟩ := facs H h hfs
  have hsim := F.calm.sim v w #[] hs
  have hm := (F.calm.kept v #[]).2
  have good : ∀ (es₀ : Array Event), GoodEs S v'.heap.size #[] es₀ → ∀ e ∈ flt es₀, EvF (ShOf S) v'.heap.size e := fun es₀ ⟨new, e1, e2⟩ e he => by
    have := F.fltIn es₀ e he
    rw [e1] at this
    exact e2 e (by simpa using this)
  cases hr : s.runT P v #[] with
  | mk r es₀ =>
    rw [hr] at hsim hm
    cases r with
    | ok a v₁ =>
      have hQ := F.calm.post v v₁ hr
      cases hk : kont a with
      | some o' =>
        obtain ⟨rfl, rfl, rfl⟩ := hst.inj fun b base => (F.go b base v a v₁ es₀ hr).1 o' hk
        obtain ⟨w', f1, f2, f3, f4⟩ := hsim trivial hA
        exact ⟨w', fun b base => (F.go b base w a w' es₀ f1).1 o hk, f2, F.okk a o hQ hk, good es₀ f4⟩
      | none =>
        have := (F.go probe [] v a v₁ es₀ hr).2 hk
        rw [hst] at this
        cases o <;> exact this.elim
    | halt hh v₁ =>
      by_cases hp : ∃ u, hh = .panic u
      · obtain ⟨u, rfl⟩ := hp
        cases hk : pan u with
        | some o' =>
          obtain ⟨rfl, rfl, rfl⟩ := hst.inj fun b base => (F.pgo b base v u v₁ es₀ hr).1 o' hk
          obtain ⟨w', f1, f2, f3, f4⟩ := hsim trivial hA
          exact ⟨w', fun b base => (F.pgo b base w u w' es₀ f1).1 o hk, f2, F.okp u o hk, good es₀ f4⟩
        | none =>
          have := (F.pgo probe [] v u v₁ es₀ hr).2 hk
          rw [hst] at this
          cases o <;> exact this.elim
      · have := F.bad probe [] v hh v₁ es₀ hr (hm hh v₁ rfl) fun u e => hp ⟨u, e⟩
        rw [hst] at this
        cases o <;> exact this.elim
end

/-! ### alone -/
/-- Below the goroutine's own frames: a frame that can't go on. -/
def Zf : Frame := { (default : Frame) with todo := [.code (.refuse "")], defers := [{ target := .nil, args := #[] }], mode := .run, kind := .normal }
section
variable {P : Program} {fr : Frame} {fs : List Frame} {v v' : World} {es : Array Event}
theorem lone_to {fr' : Frame} {fs' : List Frame} (h : StepsTo P fr fs v (.to fr' fs') v' es) : step P (lone fr (fs ++ [Zf]) v) = .next (lone fr' (fs' ++ [Zf]) v') :=
  step_lone_go (by have := h Zf []; simp only [G, Out.goes] at this; rw [this]; rfl)
theorem lone_back {val : Value} (h : StepsTo P fr fs v (.back val) v' es) : step P (lone fr (fs ++ [Zf]) v) = .next (lone (Zf.finish val) [] v') :=
  step_lone_go (by have := h Zf []; simp only [G, Out.goes] at this; rw [this]; rfl)
theorem lone_fall {c : List PanicEntry} (h : StepsTo P fr fs v (.fall c) v' es) : step P (lone fr (fs ++ [Zf]) v) = .next (lone (Zf.raise c) [] v') :=
  step_lone_go (by have := h Zf []; simp only [G, Out.goes] at this; rw [this]; rfl)
theorem lone_ends (h : Ends1 (stepG P true (G fr (fs ++ [Zf])) v)) : ∃ o w, step P (lone fr (fs ++ [Zf]) v) = .ended o w := by
  cases hs : stepG P true (G fr (fs ++ [Zf])) v with
  | ended o w es => exact ⟨o, w, step_lone_ended (by simp only [G] at hs; rw [hs]; rfl)⟩
  | _ => rw [hs] at h; exact h.elim
theorem lone_Zf (val : Value) (v : World) : ∃ o w, step P (lone (Zf.finish val) [] v) = .ended o w :=
  ⟨_, _, step_lone_ended (by simp [stepG, stepG.exec, Zf, Frame.finish]; exact ⟨rfl, rfl⟩)⟩
theorem lone_Zr (c : List PanicEntry) (v : World) : ∃ o w, step P (lone (Zf.raise c) [] v) = .ended o w :=
  ⟨_, _, step_lone_ended (by simp [stepG, unwind, callDeferred, Zf, Frame.raise]; exact ⟨rfl, rfl⟩)⟩
end
end Go.Proofs.Ytehmobcfbifocaa
/-
  What a lone goroutine comes to on every tape it comes to however its questions are answered from step to step. Nothing of a program.
-/
namespace Go.Proofs.Ytehmobcfbifocaa
open Go Go.Conc

/-- However each step's questions are answered: in the end it returns, and Q holds. -/
inductive Ends (P : Program) (Q : Value → World → Prop) : Frame → List Frame → World → Prop
  | mk {fr : Frame} {fs : List Frame} {v : World} : (∀ τ d, ∃ o v' es, StepsTo P fr fs (v.put τ d) o v' es ∧ (∀ val, o = .back val → Q val v') ∧ ∀ c, o ≠ .fall c) →
      (∀ τ d fr' fs' v' es, StepsTo P fr fs (v.put τ d) (.to fr' fs') v' es → Ends P Q fr' fs' v') → Ends P Q fr fs v

/-- On every tape, alone, it comes to its return. -/
def AllT (P : Program) (Q : Value → World → Prop) (fr : Frame) (fs : List Frame) (v : World) : Prop :=
  ∀ τ d, ∃ n fr' v' val v'' es, runN P n (lone fr (fs ++ [Zf]) (v.put τ d)) = .next (lone fr' [Zf] v') ∧ StepsTo P fr' [] v' (.back val) v'' es ∧ Q val v''

section
variable {P : Program} {ok : Oper → Bool} {K : FuncId → Bool} {Q : Value → World → Prop} {fr : Frame} {fs : List Frame} {v v' w : World}
def none1 : Nat → Prop := fun _ => False
theorem sim_put (v : World) (τ τ' : Nat → Question → Nat) (d d' : Nat) : Sim none1 (v.put τ d) (v.put τ' d') := ⟨rfl, fun _ _ => rfl, fun _ h => h.elim, rfl, rfl⟩
theorem sim_eq {v w : World} (h : Sim none1 v w) : w = v.put w.tape w.drawn := by
  have hh : w.heap = v.heap := Array.ext_getElem? fun i => (h.out i (fun x => x)).symm
  cases w
  simp only at hh
  simp only [World.put, World.mk.injEq, true_and]
  exact ⟨hh, h.os.symm, h.output.symm⟩
theorem put_put (v : World) (τ τ' : Nat → Question → Nat) (d d' : Nat) : (v.put τ d).put τ' d' = v.put τ' d' := rfl
theorem put_self (v : World) : v.put v.tape v.drawn = v := rfl

theorem lone_inj {fr fr' : Frame} {cs cs' : List Frame} {w w' : World} (h : lone fr cs w = lone fr' cs' w') : fr = fr' ∧ cs = cs' ∧ w = w' := by
  simp only [lone, Machine.mk.injEq, Array.mk.injEq, List.cons.injEq, Goroutine.mk.injEq] at h
  exact ⟨h.2.1.1.1, h.2.1.1.2.1, h.1⟩

/-- A step on a path to the return. -/
theorem path_step (H : KOk P ok K) (h : OkF ok K fr) (hfs : ∀ f ∈ fs, OkF ok K f) {n : Nat} {fr' : Frame} {v' : World} (hr : runN P (n + 1) (lone fr (fs ++ [Zf]) v) = .next (lone fr' [Zf] v')) :
    ∃ fr₁ fs₁ v₁ es, StepsTo P fr fs v (.to fr₁ fs₁) v₁ es ∧ OkF ok K fr₁ ∧ (∀ f ∈ fs₁, OkF ok K f) ∧ Kept v v₁ ∧ runN P n (lone fr₁ (fs₁ ++ [Zf]) v₁) = .next (lone fr' [Zf] v') := by
  simp only [runN] at hr
  rcases fac_cases H h hfs v with ⟨o, v₁, es, hst, hok, hk⟩ | he
  · cases o with
    | to fr₁ fs₁ =>
      rw [lone_to hst] at hr
      exact ⟨fr₁, fs₁, v₁, es, hst, hok.1, hok.2, hk, hr⟩
    | back val =>
      exfalso
      rw [lone_back hst] at hr
      cases n with
      | zero =>
        simp only [runN, Stepped.next.injEq] at hr
        have := (lone_inj hr).2.1
        cases this
      | succ n =>
        obtain ⟨o, w, ho⟩ := lone_Zf (P := P) val v₁
        simp only [runN, ho] at hr
        cases hr
    | fall c =>
      exfalso
      rw [lone_fall hst] at hr
      cases n with
      | zero =>
        simp only [runN, Stepped.next.injEq] at hr
        have := (lone_inj hr).2.1
        cases this
      | succ n =>
        obtain ⟨o, w, ho⟩ := lone_Zr (P := P) c v₁
        simp only [runN, ho] at hr
        cases hr
  · obtain ⟨o, w, ho⟩ := lone_ends (he Zf [])
    rw [ho] at hr
    cases hr
/-- A path, on another tape that answers the same. -/
theorem path_sim (H : KOk P ok K) : ∀ (n : Nat) {fr : Frame} {fs : List Frame} {v w : World} {fr' : Frame} {v' : World}, OkF ok K fr → (∀ f ∈ fs, OkF ok K f) → runN P n (lone fr (fs ++ [Zf]) v) = .next (lone fr' [Zf] v') → Sim none1 v w → (∀ k, Agree v w k) →
    ∃ w', runN P n (lone fr (fs ++ [Zf]) w) = .next (lone fr' [Zf] w') ∧ Sim none1 v' w' ∧ (∀ k, Agree v' w' k) ∧ OkF ok K fr' := by
  intro n
  induction n with
  | zero =>
    intro fr fs v w fr' v' h hfs hr hs hA
    simp only [runN, Stepped.next.injEq] at hr
    obtain ⟨rfl, hcs, rfl⟩ := lone_inj hr
    exact ⟨w, by simp only [runN]; rw [hcs], hs, hA, h⟩
  | succ n ih =>
    intro fr fs v w fr' v' h hfs hr hs hA
    obtain ⟨fr₁, fs₁, v₁, es, hst, h1, h2, h3, h4⟩ := path_step H h hfs hr
    obtain ⟨w₁, g1, g2, _, _⟩ := fac_sim H h hfs hst hs (hA _)
    obtain ⟨w', f1, f2, f3, f4⟩ := ih (w := w₁) h1 h2 h4 g2.sim fun k i q hi => by
      have hd := g2.drawn
      have hk := h3.drawn
      rw [g2.kept.tape, h3.tape]
      have := hA (v₁.drawn - v.drawn + i + 1) (v₁.drawn - v.drawn + i) q (by omega)
      rw [show w₁.drawn + i = w.drawn + (v₁.drawn - v.drawn + i) by omega, show v₁.drawn + i = v.drawn + (v₁.drawn - v.drawn + i) by omega]
      exact this
    exact ⟨w', by simp only [runN, lone_to g1]; exact f1, f2, f3, f4⟩
theorem AllT.good (H : KOk P ok K) (h : OkF ok K fr) (hfs : ∀ f ∈ fs, OkF ok K f) (hT : AllT P Q fr fs v) (τ : Nat → Question → Nat) (d : Nat) :
    ∃ o v' es, StepsTo P fr fs (v.put τ d) o v' es ∧ (∀ val, o = .back val → Q val v') ∧ ∀ c, o ≠ .fall c := by
  obtain ⟨n, fr', v', val, v'', es, hr, hst, hq⟩ := hT τ d
  cases n with
  | zero =>
    simp only [runN, Stepped.next.injEq] at hr
    obtain ⟨rfl, hcs, rfl⟩ := lone_inj hr
    obtain rfl : fs = [] := by
      cases fs with
      | nil => rfl
      | cons x l => simp at hcs
    exact ⟨.back val, v'', es, hst, (fun u e => by cases e; exact hq), by simp⟩
  | succ n =>
    obtain ⟨fr₁, fs₁, v₁, es, hst, _⟩ := path_step H h hfs hr
    exact ⟨_, _, _, hst, (fun u e => by cases e), by simp⟩
theorem AllT.step (H : KOk P ok K) (hQ : ∀ val v τ d, Q val v → Q val (v.put τ d)) (h : OkF ok K fr) (hfs : ∀ f ∈ fs, OkF ok K f) (hT : AllT P Q fr fs v) {τ : Nat → Question → Nat} {d : Nat} {fr₁ : Frame} {fs₁ : List Frame} {v₁ : World} {es : Array Event}
    (hst : StepsTo P fr fs (v.put τ d) (.to fr₁ fs₁) v₁ es) : AllT P Q fr₁ fs₁ v₁ := by
  intro τ' d'
  obtain ⟨j, hj⟩ : ∃ j, j = v₁.drawn - d := ⟨_, rfl⟩
  have hk : Kept (v.put τ d) v₁ := by
    rcases fac_cases H h hfs (v.put τ d) with ⟨o, v₂, es₂, hst₂, _, hk⟩ | he
    · obtain ⟨_, rfl, _⟩ := hst.inj hst₂
      exact hk
    · have := he probe []
      rw [hst] at this
      exact this.elim
  have hkd : d ≤ v₁.drawn := hk.drawn
  -- the first step's answers, then the others
  obtain ⟨τ₂, hτ⟩ : ∃ τ₂ : Nat → Question → Nat, τ₂ = fun m q => if m < d + j then τ m q else τ' (d' + (m - (d + j))) q := ⟨_, rfl⟩
  obtain ⟨w₁, g1, g2, hok, _⟩ := fac_sim H h hfs hst (sim_put v τ τ₂ d d) (fun i q hi => by
    show τ₂ (d + i) q = τ (d + i) q
    have hi' : i < v₁.drawn - d := hi
    rw [hτ]
    simp only
    rw [if_pos (by omega)])
  obtain ⟨n, fr', v', val, v'', es', hr, hst', hq⟩ := hT τ₂ d
  cases n with
  | zero =>
    exfalso
    simp only [runN, Stepped.next.injEq] at hr
    obtain ⟨rfl, hcs, rfl⟩ := lone_inj hr
    obtain rfl : fs = [] := by
      cases fs with
      | nil => rfl
      | cons x l => simp at hcs
    have := (g1.inj hst').1
    cases this
  | succ n =>
    obtain ⟨fr₂, fs₂, v₂, es₂, hst₂, h1, h2, h3, h4⟩ := path_step H h hfs hr
    obtain ⟨e, rfl, _⟩ := g1.inj hst₂
    cases e
    have hw := sim_eq g2.sim
    have ht : w₁.tape = τ₂ := g2.kept.tape
    have hd : w₁.drawn = d + j := by
      have h5 := g2.drawn
      have h6 : w₁.drawn + d = d + v₁.drawn := h5
      omega
    have hs1 : Sim none1 w₁ (v₁.put τ' d') := by
      rw [hw]
      exact sim_put v₁ _ _ _ _
    obtain ⟨w', f1, f2, f3, f4⟩ := path_sim H n (w := v₁.put τ' d') h1 h2 h4 hs1 fun k i q _ => by
      show τ' (d' + i) q = w₁.tape (w₁.drawn + i) q
      rw [ht, hd, hτ]
      simp only
      rw [if_neg (by omega), show d' + (d + j + i - (d + j)) = d' + i by omega]
    obtain ⟨w'', k1, k2, _, _⟩ := fac_sim H f4 (fs := []) (by simp) hst' f2 (f3 _)
    refine ⟨n, fr', w', val, w'', es', f1, k1, ?_⟩
    rw [sim_eq k2.sim]
    exact hQ _ _ _ _ hq
end
end Go.Proofs.Ytehmobcfbifocaa
/-
  What a lone goroutine comes to on every tape it comes to however its questions are answered: no endless way, for it would be a tape. Nothing of a program.
-/
namespace Go.Proofs.Ytehmobcfbifocaa
open Go Go.Conc

structure St where
  fr : Frame
  fs : List Frame
  v : World
section
variable {P : Program} {ok : Oper → Bool} {K : FuncId → Bool} {Q : Value → World → Prop}
def StOk (P : Program) (ok : Oper → Bool) (K : FuncId → Bool) (Q : Value → World → Prop) (s : St) : Prop := OkF ok K s.fr ∧ (∀ f ∈ s.fs, OkF ok K f) ∧ AllT P Q s.fr s.fs s.v ∧ ¬ Ends P Q s.fr s.fs s.v
theorem stOk_next (H : KOk P ok K) (hQ : ∀ val v τ d, Q val v → Q val (v.put τ d)) (s : St) (h : StOk P ok K Q s) :
    ∃ (τ : Nat → Question → Nat) (d : Nat) (s' : St) (es : Array Event), StepsTo P s.fr s.fs (s.v.put τ d) (.to s'.fr s'.fs) s'.v es ∧ StOk P ok K Q s' ∧ d ≤ s'.v.drawn := by
  obtain ⟨h1, h2, h3, h4⟩ := h
  refine Classical.byContradiction fun hn => h4 (.mk (h3.good H h1 h2) fun τ d fr' fs' v' es hst => Classical.byContradiction fun he => hn ?_)
  have hk : Kept (s.v.put τ d) v' ∧ OkOut ok K (.to fr' fs') := by
    rcases fac_cases H h1 h2 (s.v.put τ d) with ⟨o, v₂, es₂, hst₂, hok, hk⟩ | he
    · obtain ⟨rfl, rfl, _⟩ := hst.inj hst₂
      exact ⟨hk, hok⟩
    · have := he probe []
      rw [hst] at this
      exact this.elim
  exact ⟨τ, d, ⟨fr', fs', v'⟩, es, hst, ⟨hk.2.1, hk.2.2, h3.step H hQ h1 h2 hst, he⟩, hk.1.drawn⟩

theorem allT_ends (H : KOk P ok K) (hQ : ∀ val v τ d, Q val v → Q val (v.put τ d)) {fr : Frame} {fs : List Frame} {v : World} (h : OkF ok K fr) (hfs : ∀ f ∈ fs, OkF ok K f) (hT : AllT P Q fr fs v) : Ends P Q fr fs v := by
  refine Classical.byContradiction fun hn => ?_
  have hch : ∀ s : { s : St // StOk P ok K Q s }, ∃ (τ : Nat → Question → Nat) (d : Nat) (s' : { s : St // StOk P ok K Q s }) (es : Array Event), StepsTo P s.1.fr s.1.fs (s.1.v.put τ d) (.to s'.1.fr s'.1.fs) s'.1.v es ∧ d ≤ s'.1.v.drawn := fun s =>
    let ⟨τ, d, s', es, a, b, c⟩ := stOk_next H hQ s.1 s.2
    ⟨τ, d, ⟨s', b⟩, es, a, c⟩
  let T : { s : St // StOk P ok K Q s } → Nat → Question → Nat := fun s => (hch s).choose
  let D : { s : St // StOk P ok K Q s } → Nat := fun s => (hch s).choose_spec.choose
  let N : { s : St // StOk P ok K Q s } → { s : St // StOk P ok K Q s } := fun s => (hch s).choose_spec.choose_spec.choose
  have hN : ∀ s, ∃ es, StepsTo P s.1.fr s.1.fs (s.1.v.put (T s) (D s)) (.to (N s).1.fr (N s).1.fs) (N s).1.v es ∧ D s ≤ (N s).1.v.drawn := fun s => (hch s).choose_spec.choose_spec.choose_spec
  let st : Nat → { s : St // StOk P ok K Q s } := fun n => Nat.rec ⟨⟨fr, fs, v⟩, h, hfs, hT, hn⟩ (fun _ s => N s) n
  have st1 : ∀ n, st (n + 1) = N (st n) := fun _ => rfl
  let e : Nat → Nat := fun n => Nat.rec 0 (fun i x => x + ((st (i + 1)).1.v.drawn - D (st i))) n
  have e1 : ∀ n, e (n + 1) = e n + ((st (n + 1)).1.v.drawn - D (st n)) := fun _ => rfl
  have emono : ∀ k n, e n ≤ e (n + k) := by
    intro k
    induction k with
    | zero => exact fun n => Nat.le_refl _
    | succ k ih => exact fun n => Nat.le_trans (ih n) (by rw [show n + (k + 1) = n + k + 1 by omega, e1]; omega)
  have euniq : ∀ m i i', e i ≤ m → m < e (i + 1) → e i' ≤ m → m < e (i' + 1) → i = i' := by
    intro m i i' a1 a2 a3 a4
    rcases Nat.lt_trichotomy i i' with hlt | heq | hgt
    · have := emono (i' - (i + 1)) (i + 1)
      rw [show i + 1 + (i' - (i + 1)) = i' by omega] at this
      omega
    · exact heq
    · have := emono (i - (i' + 1)) (i' + 1)
      rw [show i' + 1 + (i - (i' + 1)) = i by omega] at this
      omega
  -- the tape on which it would go on for ever
  obtain ⟨τ, hτ⟩ : ∃ τ : Nat → Question → Nat, ∀ i k q, k < (st (i + 1)).1.v.drawn - D (st i) → τ (e i + k) q = T (st i) (D (st i) + k) q := by
    classical
    refine ⟨fun m q => if hm : ∃ i, e i ≤ m ∧ m < e (i + 1) then T (st hm.choose) (D (st hm.choose) + (m - e hm.choose)) q else 0, fun i k q hk => ?_⟩
    have hm : ∃ i', e i' ≤ e i + k ∧ e i + k < e (i' + 1) := ⟨i, by omega, by rw [e1]; omega⟩
    have hi : hm.choose = i := euniq (e i + k) _ _ hm.choose_spec.1 hm.choose_spec.2 (by omega) (by rw [e1]; omega)
    simp only
    rw [dif_pos hm, hi, show e i + k - e i = k by omega]
  have hst : ∀ i, ∃ es, StepsTo P (st i).1.fr (st i).1.fs ((st i).1.v.put τ (e i)) (.to (st (i + 1)).1.fr (st (i + 1)).1.fs) ((st (i + 1)).1.v.put τ (e (i + 1))) es := by
    intro i
    obtain ⟨es, h1, h2⟩ := hN (st i)
    obtain ⟨o1, o2, _, _⟩ := (st i).2
    obtain ⟨w', g1, g2, _, _⟩ := fac_sim H o1 o2 h1 (sim_put (st i).1.v (T (st i)) τ (D (st i)) (e i)) (fun k q hk => hτ i k q hk)
    have hw := sim_eq g2.sim
    have ht : w'.tape = τ := g2.kept.tape
    have hd : w'.drawn = e (i + 1) := by
      have h5 : w'.drawn + D (st i) = e i + (N (st i)).1.v.drawn := g2.drawn
      rw [e1, st1]
      omega
    rw [ht, hd] at hw
    rw [hw] at g1
    exact ⟨es, g1⟩
  have hrun : ∀ n, runN P n (lone fr (fs ++ [Zf]) (v.put τ 0)) = .next (lone (st n).1.fr ((st n).1.fs ++ [Zf]) ((st n).1.v.put τ (e n))) := by
    intro n
    induction n with
    | zero => rfl
    | succ n ih =>
      obtain ⟨es, hs⟩ := hst n
      rw [runN_add P n 1, ih]
      simp only [runN, lone_to hs]
  obtain ⟨n, fr', v', val, v'', es, hr, hb, _⟩ := hT τ 0
  rw [hrun n] at hr
  obtain ⟨a1, a2, a3⟩ := lone_inj (Stepped.next.inj hr)
  have a4 : (st n).1.fs = [] := by
    cases hfs' : (st n).1.fs with
    | nil => rfl
    | cons x l => rw [hfs'] at a2; simp at a2
  obtain ⟨es', hs⟩ := hst n
  rw [a1, a4, a3] at hs
  have := (hs.inj hb).1
  cases this
end
end Go.Proofs.Ytehmobcfbifocaa
/-
  What a lone goroutine comes to on every tape it comes to beside goroutines that only leave. Nothing of a program.
-/
namespace Go.Proofs.Ytehmobcfbifocaa
open Go Go.Conc
open Go.ConcN

section
variable {P : Program} {ok : Oper → Bool} {K : FuncId → Bool} {Q : Value → World → Prop}
structure KeptW (v v' : World) : Prop where
  tape : v'.tape = v.tape
  size : v.heap.size ≤ v'.heap.size
  os : v'.os = v.os
  output : v'.output = v.output
theorem KeptW.trans {a b c : World} (h : KeptW a b) (k : KeptW b c) : KeptW a c := ⟨k.tape.trans h.tape, Nat.le_trans h.size k.size, k.os.trans h.os, k.output.trans h.output⟩
/-- Where it stops: back in the caller's frame. -/
def BackAt (c : Nat) (S : Nat → Prop) (b : Frame) (base : List Frame) (Q : Value → World → Prop) (w : World) : BStop := fun c' S' g' w' => c' = c ∧ S' = S ∧ ∃ val v', g' = G (b.finish val) base ∧ Q val v' ∧ Sim S v' w' ∧ KeptW w w'

theorem ends_beside (H : KOk P ok K) {b : Frame} {base : List Frame} {c : Nat} {S : Nat → Prop} {fr : Frame} {fs : List Frame} {v : World} (hE : Ends P Q fr fs v) :
    OkF ok K fr → (∀ f ∈ fs, OkF ok K f) → ∀ w, Sim S v w → BW P c S (G fr (fs ++ b :: base)) w (BackAt c S b base Q w) := by
  induction hE with
  | mk hgood _ ih =>
    rename_i fr fs v hnext
    intro h hfs w hs
    have key : ∀ (M : Nat) (gs : Array Goroutine) (w : World) (sl : Option (Nat × Nat)) (t : Trace) (q : Nat → Nat) (B : Nat), sumTo gs.size q < M → gs[0]? = some (G fr (fs ++ b :: base)) → gs.size ≤ c → B ≤ w.heap.size → Sim S v w → Fr P (ShOf S) B gs t q →
        ∃ (k : Nat) (gs' : Array Goroutine) (g' : Goroutine) (w' : World) (sl' : Option (Nat × Nat)) (t' : Trace) (q' : Nat → Nat) (B' : Nat) (c' : Nat) (Sh' : Nat → Prop),
          runNT P k (crowd gs w sl) t = (.next (crowd gs' w' sl'), t') ∧ gs'[0]? = some g' ∧ gs'.size ≤ c' ∧ B' ≤ w'.heap.size ∧ Fr P (ShOf Sh') B' gs' t' q' ∧ BackAt c S b base Q w c' Sh' g' w' := by
      intro M
      induction M with
      | zero => exact fun gs w sl t q B hM => absurd hM (Nat.not_lt_zero _)
      | succ M ihM =>
        intro gs w sl t q B hM h0 hc hB hs hF
        have haw : ∀ g ∈ gs, awake g := by
          intro g hg
          obtain ⟨i, hi⟩ := Array.mem_iff_getElem?.1 hg
          rcases Nat.eq_zero_or_pos i with rfl | hpos
          · rw [h0] at hi
            obtain rfl := Option.some.inj hi
            exact awake_of (.inl rfl)
          · exact awake_of ((hF.leav.old i _ hpos hi).status.elim .inl fun x => .inr (.inr x))
        obtain ⟨i, g, d, sl', hi, hg, hst⟩ := crowd_pick (P := P) (w := w) (sl := sl) haw ⟨0, _, h0, rfl⟩
        rcases Nat.eq_zero_or_pos i with rfl | hpos
        · obtain rfl : g = G fr (fs ++ b :: base) := by rw [h0] at hi; exact (Option.some.inj hi).symm
          obtain ⟨o, v', es, hs1, hb, hf⟩ := hgood w.tape d
          have hs' : Sim S (v.put w.tape d) (w.at d) := ⟨hs.size, hs.out, hs.sh, hs.os, hs.output⟩
          obtain ⟨w', g1, g2, hok, hev⟩ := fac_sim H h hfs hs1 hs' (fun i q _ => rfl)
          have hk0 : KeptW w w' := ⟨g2.kept.tape, g2.kept.size, g2.kept.os, g2.kept.output⟩
          have hlt : 0 < gs.size := hF.pos
          have hgo := g1 b base
          have hmk : ∀ a', stepG P true (G fr (fs ++ b :: base)) (w.at d) = .go a' w' es →
              runT P (crowd gs (w.at d) sl') 0 = (.next (crowd ((gs.map (woken P (G fr (fs ++ b :: base)) a' w')).setIfInBounds 0 a') w' sl'), MemOp.ofEvents 0 (G fr (fs ++ b :: base)).frame.fn (G fr (fs ++ b :: base)).frame.place es) ∧
              ((gs.map (woken P (G fr (fs ++ b :: base)) a' w')).setIfInBounds 0 a').size = gs.size ∧
              Fr P (ShOf S) w'.heap.size ((gs.map (woken P (G fr (fs ++ b :: base)) a' w')).setIfInBounds 0 a') (t ++ MemOp.ofEvents 0 (G fr (fs ++ b :: base)).frame.fn (G fr (fs ++ b :: base)).frame.place es) q := fun a' he => by
            have hsz : ((gs.map (woken P (G fr (fs ++ b :: base)) a' w')).setIfInBounds 0 a').size = gs.size := by simp
            refine ⟨runT_crowd_go (P := P) (sl := sl') (i := 0) hi (show stepG P (0 == 0) _ (w.at d) = _ from he), hsz, (hF.mono (B' := w'.heap.size) (Nat.le_trans hB hk0.size)).own (fun e hem => by rw [← g2.sim.size]; exact hev e hem) hsz fun j x hj hx => ?_⟩
            rw [get_map_set _ _ _ _ (by omega)] at hx
            obtain ⟨y, hy, rfl⟩ := Option.map_eq_some_iff.1 hx
            rw [woken_quitsD (hF.leav.old j y hj hy)]
            exact hy
          cases o with
          | fall c => exact absurd rfl (hf c)
          | back val =>
            obtain ⟨r1, r2, r3⟩ := hmk _ hgo
            exact ⟨1, _, _, w', sl', _, q, w'.heap.size, c, S, by simp only [runNT, hst, r1], get_map_set_same _ _ _ hlt, by omega, Nat.le_refl _, r3, rfl, rfl, val, v', rfl, hb val rfl, g2.sim, hk0⟩
          | to fr' fs' =>
            obtain ⟨r1, r2, r3⟩ := hmk _ hgo
            obtain ⟨k, gs', g', w'', sl'', t', q', B', c', Sh', e1, e2, e3, e4, e5, e6, e7, val, v'', e8, e9, e10, e11⟩ := ih w.tape d fr' fs' v' es hs1 hok.1 hok.2 w' g2.sim _ sl' _ q w'.heap.size (get_map_set_same _ _ _ hlt) (by omega) (Nat.le_refl _) r3
            exact ⟨k + 1, gs', g', w'', sl'', t', q', B', c', Sh', by simp only [runNT, hst, r1]; exact e1, e2, e3, e4, e5, e6, e7, val, v'', e8, e9, e10, hk0.trans e11⟩
        · have hq := hF.leav.old i g hpos hi
          have hi0 : (i == 0) = false := by simp; omega
          have hlt : i < gs.size := (Array.getElem?_eq_some_iff.1 hi).1
          cases hqi : q i with
          | zero => rw [hqi] at hq; rw [hq.1] at hg; cases hg
          | succ k =>
            rw [hqi] at hq
            rcases hq with ⟨hf, _⟩ | ⟨_, g', es, hm, hstp, hq'⟩
            · rw [hf] at hg; cases hg
            have hr := runT_crowd_go (P := P) (sl := sl') (i := i) hi (by rw [hi0]; exact hstp (w.at d))
            have hsz : ((gs.map (woken P g g' (w.at d))).setIfInBounds i g').size = gs.size := by simp
            have hsum : sumTo gs.size (upd q i k) + (k + 1) = sumTo gs.size q + k := by
              have := sumTo_upd q k id hlt
              simpa [hqi] using this
            obtain ⟨n, gs', a'', w'', sl'', t', q', B', c', Sh', e1, e2, e3, e4, e5, e6, e7, val, v'', e8, e9, e10, e11⟩ := ihM _ (w.at d) sl' _ (upd q i k) B (by rw [hsz]; omega)
              (by rw [get_map_set _ _ _ _ (by omega), h0]; simp [woken_run (show (G fr (fs ++ b :: base)).status = .running from rfl)]) (by omega) hB ⟨hs.size, hs.out, hs.sh, hs.os, hs.output⟩
              (hF.slip (fn := g.frame.fn) (pos := g.frame.place) hpos hlt hm hq' hsz (get_map_set_same _ _ _ hlt) fun j x hj hji hx => by
                rw [get_map_set _ _ _ _ (fun e => hji e.symm)] at hx
                obtain ⟨y, hy, rfl⟩ := Option.map_eq_some_iff.1 hx
                rw [woken_quitsD (hF.leav.old j y hj hy)]
                exact hy)
            exact ⟨n + 1, gs', a'', w'', sl'', t', q', B', c', Sh', by simp only [runNT, hst, hr]; exact e1, e2, e3, e4, e5, e6, e7, val, v'', e8, e9, e10, ⟨e11.tape, e11.size, e11.os, e11.output⟩⟩
    exact fun gs sl t q B h0 hc hB hF => key _ gs w sl t q B (Nat.lt_succ_self _) h0 hc hB hs hF
end
end Go.Proofs.Ytehmobcfbifocaa
