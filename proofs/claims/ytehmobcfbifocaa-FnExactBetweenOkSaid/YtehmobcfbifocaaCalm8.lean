/-
  What a lone goroutine comes to on every tape it comes to however its questions are answered from step to step. Nothing of a program.
-/
import Derived.Test.YtehmobcfbifocaaCalm7
namespace Go.Proofs.Ytehmobcfbifocaa
open Go Go.Conc

/-- However each step's questions are answered: in the end it returns, and Q holds. -/
inductive Ends (P : Program) (Q : Value → World → Prop) : Frame → List Frame → World → Prop
  | mk {fr : Frame} {fs : List Frame} {v : World} : (∀ τ d, ∃ o v' es, StepsTo P fr fs (v.put τ d) o v' es ∧ (∀ val, o = .back val → Q val v') ∧ ∀ c, o ≠ .fall c) →
      (∀ τ d fr' fs' v' es, StepsTo P fr fs (v.put τ d) (.to fr' fs') v' es → Ends P Q fr' fs' v') → Ends P Q fr fs v

/-- On every tape, alone, it comes to its return. -/
def AllT (P : Program) (Q : Value → World → Prop) (fr : Frame) (fs : List Frame) (v : World) : Prop :=
  ∀ τ d, ∃ n fr' v' val v'' es, runN P n (lone fr (fs ++ [Zf]) (v.put τ d)) = .next (lone fr' [Zf] v') ∧ StepsTo P fr' [] v' (.back val) v'' es ∧ Q val v''

section
variable {P : Program} {ok : Oper → Bool} {K : FuncId → Bool} {Q : Value → World → Prop} {fr : Frame} {fs : List Frame} {v v' w : World}
def none1 : Nat → Prop := fun _ => False
theorem sim_put (v : World) (τ τ' : Nat → Question → Nat) (d d' : Nat) : Sim none1 (v.put τ d) (v.put τ' d') := ⟨rfl, fun _ _ => rfl, fun _ h => h.elim, rfl, rfl⟩
theorem sim_eq {v w : World} (h : Sim none1 v w) : w = v.put w.tape w.drawn := by
  have hh : w.heap = v.heap := Array.ext_getElem? fun i => (h.out i (fun x => x)).symm
  cases w
  simp only at hh
  simp only [World.put, World.mk.injEq, true_and]
  exact ⟨hh, h.os.symm, h.output.symm⟩
theorem put_put (v : World) (τ τ' : Nat → Question → Nat) (d d' : Nat) : (v.put τ d).put τ' d' = v.put τ' d' := rfl
theorem put_self (v : World) : v.put v.tape v.drawn = v := rfl

theorem lone_inj {fr fr' : Frame} {cs cs' : List Frame} {w w' : World} (h : lone fr cs w = lone fr' cs' w') : fr = fr' ∧ cs = cs' ∧ w = w' := by
  simp only [lone, Machine.mk.injEq, Array.mk.injEq, List.cons.injEq, Goroutine.mk.injEq] at h
  exact ⟨h.2.1.1.1, h.2.1.1.2.1, h.1⟩

/-- A step on a path to the return. -/
theorem path_step (H : KOk P ok K) (h : OkF ok K fr) (hfs : ∀ f ∈ fs, OkF ok K f) {n : Nat} {fr' : Frame} {v' : World} (hr : runN P (n + 1) (lone fr (fs ++ [Zf]) v) = .next (lone fr' [Zf] v')) :
    ∃ fr₁ fs₁ v₁ es, StepsTo P fr fs v (.to fr₁ fs₁) v₁ es ∧ OkF ok K fr₁ ∧ (∀ f ∈ fs₁, OkF ok K f) ∧ Kept v v₁ ∧ runN P n (lone fr₁ (fs₁ ++ [Zf]) v₁) = .next (lone fr' [Zf] v') := by
  simp only [runN] at hr
  rcases fac_cases H h hfs v with ⟨o, v₁, es, hst, hok, hk⟩ | he
  · cases o with
    | to fr₁ fs₁ =>
      rw [lone_to hst] at hr
      exact ⟨fr₁, fs₁, v₁, es, hst, hok.1, hok.2, hk, hr⟩
    | back val =>
      exfalso
      rw [lone_back hst] at hr
      cases n with
      | zero =>
        simp only [runN, Stepped.next.injEq] at hr
        have := (lone_inj hr).2.1
        cases this
      | succ n =>
        obtain ⟨o, w, ho⟩ := lone_Zf (P := P) val v₁
        simp only [runN, ho] at hr
        cases hr
    | fall c =>
      exfalso
      rw [lone_fall hst] at hr
      cases n with
      | zero =>
        simp only [runN, Stepped.next.injEq] at hr
        have := (lone_inj hr).2.1
        cases this
      | succ n =>
        obtain ⟨o, w, ho⟩ := lone_Zr (P := P) c v₁
        simp only [runN, ho] at hr
        cases hr
  · obtain ⟨o, w, ho⟩ := lone_ends (he Zf [])
    rw [ho] at hr
    cases hr
/-- A path, on another tape that answers the same. -/
theorem path_sim (H : KOk P ok K) : ∀ (n : Nat) {fr : Frame} {fs : List Frame} {v w : World} {fr' : Frame} {v' : World}, OkF ok K fr → (∀ f ∈ fs, OkF ok K f) → runN P n (lone fr (fs ++ [Zf]) v) = .next (lone fr' [Zf] v') → Sim none1 v w → (∀ k, Agree v w k) →
    ∃ w', runN P n (lone fr (fs ++ [Zf]) w) = .next (lone fr' [Zf] w') ∧ Sim none1 v' w' ∧ (∀ k, Agree v' w' k) ∧ OkF ok K fr' := by
  intro n
  induction n with
  | zero =>
    intro fr fs v w fr' v' h hfs hr hs hA
    simp only [runN, Stepped.next.injEq] at hr
    obtain ⟨rfl, hcs, rfl⟩ := lone_inj hr
    exact ⟨w, by simp only [runN]; rw [hcs], hs, hA, h⟩
  | succ n ih =>
    intro fr fs v w fr' v' h hfs hr hs hA
    obtain ⟨fr₁, fs₁, v₁, es, hst, h1, h2, h3, h4⟩ := path_step H h hfs hr
    obtain ⟨w₁, g1, g2, _, _⟩ := fac_sim H h hfs hst hs (hA _)
    obtain ⟨w', f1, f2, f3, f4⟩ := ih (w := w₁) h1 h2 h4 g2.sim fun k i q hi => by
      have hd := g2.drawn
      have hk := h3.drawn
      rw [g2.kept.tape, h3.tape]
      have := hA (v₁.drawn - v.drawn + i + 1) (v₁.drawn - v.drawn + i) q (by omega)
      rw [show w₁.drawn + i = w.drawn + (v₁.drawn - v.drawn + i) by omega, show v₁.drawn + i = v.drawn + (v₁.drawn - v.drawn + i) by omega]
      exact this
    exact ⟨w', by simp only [runN, lone_to g1]; exact f1, f2, f3, f4⟩
theorem AllT.good (H : KOk P ok K) (h : OkF ok K fr) (hfs : ∀ f ∈ fs, OkF ok K f) (hT : AllT P Q fr fs v) (τ : Nat → Question → Nat) (d : Nat) :
    ∃ o v' es, StepsTo P fr fs (v.put τ d) o v' es ∧ (∀ val, o = .back val → Q val v') ∧ ∀ c, o ≠ .fall c := by
  obtain ⟨n, fr', v', val, v'', es, hr, hst, hq⟩ := hT τ d
  cases n with
  | zero =>
    simp only [runN, Stepped.next.injEq] at hr
    obtain ⟨rfl, hcs, rfl⟩ := lone_inj hr
    obtain rfl : fs = [] := by
      cases fs with
      | nil => rfl
      | cons x l => simp at hcs
    exact ⟨.back val, v'', es, hst, (fun u e => by cases e; exact hq), by simp⟩
  | succ n =>
    obtain ⟨fr₁, fs₁, v₁, es, hst, _⟩ := path_step H h hfs hr
    exact ⟨_, _, _, hst, (fun u e => by cases e), by simp⟩
theorem AllT.step (H : KOk P ok K) (hQ : ∀ val v τ d, Q val v → Q val (v.put τ d)) (h : OkF ok K fr) (hfs : ∀ f ∈ fs, OkF ok K f) (hT : AllT P Q fr fs v) {τ : Nat → Question → Nat} {d : Nat} {fr₁ : Frame} {fs₁ : List Frame} {v₁ : World} {es : Array Event}
    (hst : StepsTo P fr fs (v.put τ d) (.to fr₁ fs₁) v₁ es) : AllT P Q fr₁ fs₁ v₁ := by
  intro τ' d'
  obtain ⟨j, hj⟩ : ∃ j, j = v₁.drawn - d := ⟨_, rfl⟩
  have hk : Kept (v.put τ d) v₁ := by
    rcases fac_cases H h hfs (v.put τ d) with ⟨o, v₂, es₂, hst₂, _, hk⟩ | he
    · obtain ⟨_, rfl, _⟩ := hst.inj hst₂
      exact hk
    · have := he probe []
      rw [hst] at this
      exact this.elim
  have hkd : d ≤ v₁.drawn := hk.drawn
  -- the first step's answers, then the others
  obtain ⟨τ₂, hτ⟩ : ∃ τ₂ : Nat → Question → Nat, τ₂ = fun m q => if m < d + j then τ m q else τ' (d' + (m - (d + j))) q := ⟨_, rfl⟩
  obtain ⟨w₁, g1, g2, hok, _⟩ := fac_sim H h hfs hst (sim_put v τ τ₂ d d) (fun i q hi => by
    show τ₂ (d + i) q = τ (d + i) q
    have hi' : i < v₁.drawn - d := hi
    rw [hτ]
    simp only
    rw [if_pos (by omega)])
  obtain ⟨n, fr', v', val, v'', es', hr, hst', hq⟩ := hT τ₂ d
  cases n with
  | zero =>
    exfalso
    simp only [runN, Stepped.next.injEq] at hr
    obtain ⟨rfl, hcs, rfl⟩ := lone_inj hr
    obtain rfl : fs = [] := by
      cases fs with
      | nil => rfl
      | cons x l => simp at hcs
    have := (g1.inj hst').1
    cases this
  | succ n =>
    obtain ⟨fr₂, fs₂, v₂, es₂, hst₂, h1, h2, h3, h4⟩ := path_step H h hfs hr
    obtain ⟨e, rfl, _⟩ := g1.inj hst₂
    cases e
    have hw := sim_eq g2.sim
    have ht : w₁.tape = τ₂ := g2.kept.tape
    have hd : w₁.drawn = d + j := by
      have h5 := g2.drawn
      have h6 : w₁.drawn + d = d + v₁.drawn := h5
      omega
    have hs1 : Sim none1 w₁ (v₁.put τ' d') := by
      rw [hw]
      exact sim_put v₁ _ _ _ _
    obtain ⟨w', f1, f2, f3, f4⟩ := path_sim H n (w := v₁.put τ' d') h1 h2 h4 hs1 fun k i q _ => by
      show τ' (d' + i) q = w₁.tape (w₁.drawn + i) q
      rw [ht, hd, hτ]
      simp only
      rw [if_neg (by omega), show d' + (d + j + i - (d + j)) = d' + i by omega]
    obtain ⟨w'', k1, k2, _, _⟩ := fac_sim H f4 (fs := []) (by simp) hst' f2 (f3 _)
    refine ⟨n, fr', w', val, w'', es', f1, k1, ?_⟩
    rw [sim_eq k2.sim]
    exact hQ _ _ _ _ hq
end
end Go.Proofs.Ytehmobcfbifocaa
