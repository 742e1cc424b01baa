/-
  A goroutine whose frames hold calm code alone: each of its steps is a calm meaning and what is made of its result, whoever called. Nothing of a program.
-/
import Derived.Test.YtehmobcfbifocaaCalm4
import Derived.Conc.Listed
namespace Go.Proofs.Ytehmobcfbifocaa
open Go Go.Conc

def Ends1 : GStep → Prop
  | .ended _ _ _ => True
  | _ => False
theorem Ends1.after {s : GStep} (h : Ends1 s) (es : Array Event) : Ends1 (GStep.after es s) := by
  cases s <;> first | exact h.elim | trivial
/-- Code of calm operations, that stays within itself. -/
def okCode (ok : Oper → Bool) : Code → Bool
  | .region _ ops _ => ops.all ok
  | .seq a b | .cond _ a b => okCode ok a && okCode ok b
  | .block _ c | .loop c | .scope c => okCode ok c
  | .skip | .label _ | .exit _ | .ret => true
  | _ => false
def okItem (ok : Oper → Bool) : Item → Bool
  | .code c | .inLoop c | .inScope c => okCode ok c
  | .inRegion ops _ => ops.all ok
  | .inBlock _ => true
  | _ => false
structure OkF (ok : Oper → Bool) (K : FuncId → Bool) (fr : Frame) : Prop where
  fn : K fr.fn = true
  todo : ∀ i ∈ fr.todo, okItem ok i = true
  defers : fr.defers = []
  kind : fr.kind = .normal
  round : fr.roundOf = none
/-- What is asked of the program: the functions K hold calm code and call such functions alone. -/
def OkNext (K : FuncId → Bool) (n : Next) : Prop := (∃ v, n = .value v) ∨ n = .skip ∨ ∃ f args, n = .enter f args ∧ K f = true
structure KOk (P : Program) (ok : Oper → Bool) (K : FuncId → Bool) : Prop where
  body : ∀ f, K f = true → ∃ fn c, P.funcs[f]? = some fn ∧ fn.body = some c ∧ okCode ok c = true
  calm : ∀ (fr : Frame) (o : Oper), ok o = true → Calm P (OkNext K) (execOp fr.eval o)
  results : ∀ f fn, K f = true → P.funcs[f]? = some fn → ∀ tmps, Calm P (fun _ => True) (results fn tmps)
  early : ∀ fr cs g w, Ends1 (early P fr cs none g w)

inductive Out where
  | to (fr : Frame) (fs : List Frame)
  | back (v : Value)
  | fall (chain : List PanicEntry)
def Out.goes (o : Out) (b : Frame) (base : List Frame) (w : World) (es : Array Event) : GStep :=
  match o with
  | .to fr fs => .go (G fr (fs ++ b :: base)) w es
  | .back v => .go (G (b.finish v) base) w es
  | .fall c => .go (G (b.raise c) base) w es
def OkOut (ok : Oper → Bool) (K : FuncId → Bool) : Out → Prop
  | .to fr fs => OkF ok K fr ∧ ∀ f ∈ fs, OkF ok K f
  | _ => True

/-- A step, factored. -/
structure Fac (P : Program) (ok : Oper → Bool) (K : FuncId → Bool) (fr : Frame) (fs : List Frame) {α : Type} (Q : α → Prop) (s : Sem α) (kont : α → Option Out) (pan : Value → Option Out) (flt : Array Event → Array Event) : Prop where
  calm : Calm P Q s
  fltIn : ∀ es e, e ∈ flt es → e ∈ es
  okk : ∀ a o, Q a → kont a = some o → OkOut ok K o
  okp : ∀ u o, pan u = some o → OkOut ok K o
  go : ∀ b base w a w' es, s.runT P w #[] = (.ok a w', es) → (∀ o, kont a = some o → stepG P true (G fr (fs ++ b :: base)) w = o.goes b base w' (flt es)) ∧ (kont a = none → Ends1 (stepG P true (G fr (fs ++ b :: base)) w))
  pgo : ∀ b base w u w' es, s.runT P w #[] = (.halt (.panic u) w', es) → (∀ o, pan u = some o → stepG P true (G fr (fs ++ b :: base)) w = o.goes b base w' (flt es)) ∧ (pan u = none → Ends1 (stepG P true (G fr (fs ++ b :: base)) w))
  bad : ∀ b base w h w' es, s.runT P w #[] = (.halt h w', es) → mildHalt h → (∀ u, h ≠ .panic u) → Ends1 (stepG P true (G fr (fs ++ b :: base)) w)
def Facs (P : Program) (ok : Oper → Bool) (K : FuncId → Bool) (fr : Frame) (fs : List Frame) : Prop :=
  ∃ (α : Type) (Q : α → Prop) (s : Sem α) (kont : α → Option Out) (pan : Value → Option Out) (flt : Array Event → Array Event), Fac P ok K fr fs Q s kont pan flt

section
variable {P : Program} {ok : Oper → Bool} {K : FuncId → Bool} {fr : Frame} {fs : List Frame}
theorem facs_pure (o : Out) (ho : OkOut ok K o) (h : ∀ b base w, stepG P true (G fr (fs ++ b :: base)) w = o.goes b base w #[]) : Facs P ok K fr fs := by
  refine ⟨Unit, fun _ => True, .pure (), fun _ => some o, fun _ => none, id, .pure trivial, fun _ _ x => x, (fun _ _ _ e => by cases e; exact ho), (fun _ _ e => by cases e), fun b base w a w' es e => ?_, fun b base w u w' es e => ?_, fun b base w h w' es e => ?_⟩
  · cases e
    exact ⟨(fun o' e => by cases e; exact h b base w), (fun e => by cases e)⟩
  · cases e
  · cases e
theorem facs_end (h : ∀ b base w, Ends1 (stepG P true (G fr (fs ++ b :: base)) w)) : Facs P ok K fr fs := by
  refine ⟨Unit, fun _ => True, .pure (), fun _ => none, fun _ => none, id, .pure trivial, fun _ _ x => x, (fun _ _ _ e => by cases e), (fun _ _ e => by cases e), fun b base w a w' es e => ?_, fun b base w u w' es e => ?_, fun b base w h w' es e => ?_⟩
  · exact ⟨(fun o' e => by cases e), fun _ => h b base w⟩
  · cases e
  · cases e
theorem okItem_exit {id : Nat} : ∀ {k k' : List Item}, exitTo id k = some k' → (∀ i ∈ k, okItem ok i = true) → ∀ i ∈ k', okItem ok i = true := by
  intro k
  induction k with
  | nil => intro k' h; cases h
  | cons x k ih =>
    intro k' h hk
    cases x with
    | inBlock id' =>
      simp only [exitTo] at h
      split at h
      · cases h
        exact fun i hi => hk i (by simp [hi])
      · exact ih h fun i hi => hk i (by simp [hi])
    | _ => exact ih h fun i hi => hk i (by simp [hi])
theorem OkF.with (h : OkF ok K fr) {k : List Item} (hk : ∀ i ∈ k, okItem ok i = true) : OkF ok K { fr with todo := k } := ⟨h.fn, hk, h.defers, h.kind, h.round⟩
theorem OkF.mode (h : OkF ok K fr) (m : FrameMode) : OkF ok K { fr with mode := m } := ⟨h.fn, h.todo, h.defers, h.kind, h.round⟩
theorem OkF.raise (h : OkF ok K fr) (c : List PanicEntry) : OkF ok K (fr.raise c) := by
  unfold Frame.raise
  split <;> exact ⟨h.fn, h.todo, h.defers, h.kind, h.round⟩
theorem OkF.finish (h : OkF ok K fr) (v : Value) : OkF ok K (fr.finish v) := by
  unfold Frame.finish
  split
  · rename_i ops i rest k ht
    refine ⟨h.fn, fun x hx => ?_, h.defers, h.kind, h.round⟩
    have ha := h.todo
    rw [ht] at ha
    rcases List.mem_cons.1 hx with rfl | hx
    · exact ha (.inRegion ops (i :: rest)) (by simp)
    · exact ha x (by simp [hx])
  · rename_i l k ht
    have := h.todo (.inRangeFunc l) (by rw [ht]; simp)
    cases this
  · rename_i k ht
    have := h.todo .beginRound (by rw [ht]; simp)
    cases this
  · rename_i d x r s k ht
    have := h.todo (.call d x r s) (by rw [ht]; simp)
    cases this
  · rename_i r a k ht
    have := h.todo (.extern r a) (by rw [ht]; simp)
    cases this
  · exact h
theorem OkF.enter (H : KOk P ok K) {f : FuncId} (hf : K f = true) (args : Array Value) : OkF ok K (Frame.enter P f args .normal) := by
  obtain ⟨fn, c, h1, h2, h3⟩ := H.body f hf
  refine ⟨hf, fun i hi => ?_, rfl, rfl, rfl⟩
  simp only [Frame.enter, h1, Option.bind_some, h2, Option.getD_some, List.mem_singleton] at hi
  subst hi
  exact h3
end
end Go.Proofs.Ytehmobcfbifocaa
