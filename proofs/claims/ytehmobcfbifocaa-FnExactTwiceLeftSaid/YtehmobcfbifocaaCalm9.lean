/-
  What a lone goroutine comes to on every tape it comes to however its questions are answered: no endless way, for it would be a tape. Nothing of a program.
-/
import Derived.Test.YtehmobcfbifocaaCalm8
namespace Go.Proofs.Ytehmobcfbifocaa
open Go Go.Conc

structure St where
  fr : Frame
  fs : List Frame
  v : World
section
variable {P : Program} {ok : Oper → Bool} {K : FuncId → Bool} {Q : Value → World → Prop}
def StOk (P : Program) (ok : Oper → Bool) (K : FuncId → Bool) (Q : Value → World → Prop) (s : St) : Prop := OkF ok K s.fr ∧ (∀ f ∈ s.fs, OkF ok K f) ∧ AllT P Q s.fr s.fs s.v ∧ ¬ Ends P Q s.fr s.fs s.v
theorem stOk_next (H : KOk P ok K) (hQ : ∀ val v τ d, Q val v → Q val (v.put τ d)) (s : St) (h : StOk P ok K Q s) :
    ∃ (τ : Nat → Question → Nat) (d : Nat) (s' : St) (es : Array Event), StepsTo P s.fr s.fs (s.v.put τ d) (.to s'.fr s'.fs) s'.v es ∧ StOk P ok K Q s' ∧ d ≤ s'.v.drawn := by
  obtain ⟨h1, h2, h3, h4⟩ := h
  refine Classical.byContradiction fun hn => h4 (.mk (h3.good H h1 h2) fun τ d fr' fs' v' es hst => Classical.byContradiction fun he => hn ?_)
  have hk : Kept (s.v.put τ d) v' ∧ OkOut ok K (.to fr' fs') := by
    rcases fac_cases H h1 h2 (s.v.put τ d) with ⟨o, v₂, es₂, hst₂, hok, hk⟩ | he
    · obtain ⟨rfl, rfl, _⟩ := hst.inj hst₂
      exact ⟨hk, hok⟩
    · have := he probe []
      rw [hst] at this
      exact this.elim
  exact ⟨τ, d, ⟨fr', fs', v'⟩, es, hst, ⟨hk.2.1, hk.2.2, h3.step H hQ h1 h2 hst, he⟩, hk.1.drawn⟩

theorem allT_ends (H : KOk P ok K) (hQ : ∀ val v τ d, Q val v → Q val (v.put τ d)) {fr : Frame} {fs : List Frame} {v : World} (h : OkF ok K fr) (hfs : ∀ f ∈ fs, OkF ok K f) (hT : AllT P Q fr fs v) : Ends P Q fr fs v := by
  refine Classical.byContradiction fun hn => ?_
  have hch : ∀ s : { s : St // StOk P ok K Q s }, ∃ (τ : Nat → Question → Nat) (d : Nat) (s' : { s : St // StOk P ok K Q s }) (es : Array Event), StepsTo P s.1.fr s.1.fs (s.1.v.put τ d) (.to s'.1.fr s'.1.fs) s'.1.v es ∧ d ≤ s'.1.v.drawn := fun s =>
    let ⟨τ, d, s', es, a, b, c⟩ := stOk_next H hQ s.1 s.2
    ⟨τ, d, ⟨s', b⟩, es, a, c⟩
  let T : { s : St // StOk P ok K Q s } → Nat → Question → Nat := fun s => (hch s).choose
  let D : { s : St // StOk P ok K Q s } → Nat := fun s => (hch s).choose_spec.choose
  let N : { s : St // StOk P ok K Q s } → { s : St // StOk P ok K Q s } := fun s => (hch s).choose_spec.choose_spec.choose
  have hN : ∀ s, ∃ es, StepsTo P s.1.fr s.1.fs (s.1.v.put (T s) (D s)) (.to (N s).1.fr (N s).1.fs) (N s).1.v es ∧ D s ≤ (N s).1.v.drawn := fun s => (hch s).choose_spec.choose_spec.choose_spec
  let st : Nat → { s : St // StOk P ok K Q s } := fun n => Nat.rec ⟨⟨fr, fs, v⟩, h, hfs, hT, hn⟩ (fun _ s => N s) n
  have st1 : ∀ n, st (n + 1) = N (st n) := fun _ => rfl
  let e : Nat → Nat := fun n => Nat.rec 0 (fun i x => x + ((st (i + 1)).1.v.drawn - D (st i))) n
  have e1 : ∀ n, e (n + 1) = e n + ((st (n + 1)).1.v.drawn - D (st n)) := fun _ => rfl
  have emono : ∀ k n, e n ≤ e (n + k) := by
    intro k
    induction k with
    | zero => exact fun n => Nat.le_refl _
    | succ k ih => exact fun n => Nat.le_trans (ih n) (by rw [show n + (k + 1) = n + k + 1 by omega, e1]; omega)
  have euniq : ∀ m i i', e i ≤ m → m < e (i + 1) → e i' ≤ m → m < e (i' + 1) → i = i' := by
    intro m i i' a1 a2 a3 a4
    rcases Nat.lt_trichotomy i i' with hlt | heq | hgt
    · have := emono (i' - (i + 1)) (i + 1)
      rw [show i + 1 + (i' - (i + 1)) = i' by omega] at this
      omega
    · exact heq
    · have := emono (i - (i' + 1)) (i' + 1)
      rw [show i' + 1 + (i - (i' + 1)) = i by omega] at this
      omega
  -- the tape on which it would go on for ever
  obtain ⟨τ, hτ⟩ : ∃ τ : Nat → Question → Nat, ∀ i k q, k < (st (i + 1)).1.v.drawn - D (st i) → τ (e i + k) q = T (st i) (D (st i) + k) q := by
    classical
    refine ⟨fun m q => if hm : ∃ i, e i ≤ m ∧ m < e (i + 1) then T (st hm.choose) (D (st hm.choose) + (m - e hm.choose)) q else 0, fun i k q hk => ?_⟩
    have hm : ∃ i', e i' ≤ e i + k ∧ e i + k < e (i' + 1) := ⟨i, by omega, by rw [e1]; omega⟩
    have hi : hm.choose = i := euniq (e i + k) _ _ hm.choose_spec.1 hm.choose_spec.2 (by omega) (by rw [e1]; omega)
    simp only
    rw [dif_pos hm, hi, show e i + k - e i = k by omega]
  have hst : ∀ i, ∃ es, StepsTo P (st i).1.fr (st i).1.fs ((st i).1.v.put τ (e i)) (.to (st (i + 1)).1.fr (st (i + 1)).1.fs) ((st (i + 1)).1.v.put τ (e (i + 1))) es := by
    intro i
    obtain ⟨es, h1, h2⟩ := hN (st i)
    obtain ⟨o1, o2, _, _⟩ := (st i).2
    obtain ⟨w', g1, g2, _, _⟩ := fac_sim H o1 o2 h1 (sim_put (st i).1.v (T (st i)) τ (D (st i)) (e i)) (fun k q hk => hτ i k q hk)
    have hw := sim_eq g2.sim
    have ht : w'.tape = τ := g2.kept.tape
    have hd : w'.drawn = e (i + 1) := by
      have h5 : w'.drawn + D (st i) = e i + (N (st i)).1.v.drawn := g2.drawn
      rw [e1, st1]
      omega
    rw [ht, hd] at hw
    rw [hw] at g1
    exact ⟨es, g1⟩
  have hrun : ∀ n, runN P n (lone fr (fs ++ [Zf]) (v.put τ 0)) = .next (lone (st n).1.fr ((st n).1.fs ++ [Zf]) ((st n).1.v.put τ (e n))) := by
    intro n
    induction n with
    | zero => rfl
    | succ n ih =>
      obtain ⟨es, hs⟩ := hst n
      rw [runN_add P n 1, ih]
      simp only [runN, lone_to hs]
  obtain ⟨n, fr', v', val, v'', es, hr, hb, _⟩ := hT τ 0
  rw [hrun n] at hr
  obtain ⟨a1, a2, a3⟩ := lone_inj (Stepped.next.inj hr)
  have a4 : (st n).1.fs = [] := by
    cases hfs' : (st n).1.fs with
    | nil => rfl
    | cons x l => rw [hfs'] at a2; simp at a2
  obtain ⟨es', hs⟩ := hst n
  rw [a1, a4, a3] at hs
  have := (hs.inj hb).1
  cases this
end
end Go.Proofs.Ytehmobcfbifocaa
