/-
  A goroutine whose frames hold calm code alone: every step is factored. Nothing of a program.
-/
import Derived.Test.YtehmobcfbifocaaCalm5
namespace Go.Proofs.Ytehmobcfbifocaa
open Go Go.Conc

section
variable {P : Program} {ok : Oper → Bool} {K : FuncId → Bool} {fr : Frame} {fs : List Frame}
theorem facs_panicking (H : KOk P ok K) (h : OkF ok K fr) (hfs : ∀ f ∈ fs, OkF ok K f) {c : List PanicEntry} (hm : fr.mode = .panicking c) : Facs P ok K fr fs := by
  obtain ⟨fn, cd, h1, _, _⟩ := H.body _ h.fn
  have hc : fr.catches P = false := by simp [Frame.catches, h1]
  cases fs with
  | nil => exact facs_pure (.fall c) trivial fun b base w => by simp [stepG, G, unwind, hm, h.defers, hc, Out.goes]
  | cons f fs' => exact facs_pure (.to (f.raise c) fs') ⟨(hfs f (by simp)).raise c, fun x hx => hfs x (by simp [hx])⟩ fun b base w => by simp [stepG, G, unwind, hm, h.defers, hc, Out.goes]
theorem facs_returning (H : KOk P ok K) (h : OkF ok K fr) (hfs : ∀ f ∈ fs, OkF ok K f) (hm : fr.mode = .returning) : Facs P ok K fr fs := by
  obtain ⟨fn, cd, h1, _, _⟩ := H.body _ h.fn
  refine ⟨Value, fun _ => True, results fn fr.tmps, fun v => some (match fs with | [] => .back v | f :: fs' => .to (f.finish v) fs'), fun _ => none, seen P fr.fn, H.results _ fn h.fn h1 _, fun _ _ => mem_seen, fun a o _ e => ?_, (fun _ _ e => by cases e), fun b base w a w' es e => ⟨fun o e' => ?_, fun e' => by cases e'⟩, fun b base w u w' es e => ⟨fun o e' => (by cases e'), fun _ => ?_⟩, fun b base w hh w' es e _ _ => ?_⟩
  · cases e
    cases fs with
    | nil => trivial
    | cons f fs' => exact ⟨(hfs f (by simp)).finish a, fun x hx => hfs x (by simp [hx])⟩
  · cases e'
    cases fs with
    | nil => simp only [stepG, G, hm, unwind, h.defers, h1, e, doReturn, h.kind, List.nil_append, Out.goes, GStep.after, Array.append_empty]
    | cons f fs' => simp only [stepG, G, hm, unwind, h.defers, h1, e, doReturn, h.kind, List.cons_append, Out.goes, GStep.after, Array.append_empty]
  · simp only [stepG, G, hm, unwind, h.defers, h1, e, GStep.after]
    trivial
  · cases hh <;> simp only [stepG, G, hm, unwind, h.defers, h1, e, GStep.after] <;> trivial
theorem okItems_tail {i : Item} {k : List Item} (h : OkF ok K fr) (ht : fr.todo = i :: k) : okItem ok i = true ∧ ∀ x ∈ k, okItem ok x = true := by
  have := h.todo
  rw [ht] at this
  exact ⟨this i (by simp), fun x hx => this x (by simp [hx])⟩
theorem facs_move (h : OkF ok K fr) (hfs : ∀ f ∈ fs, OkF ok K f) {k' : List Item} (hk : ∀ x ∈ k', okItem ok x = true) (hs : ∀ b base w, stepG P true (G fr (fs ++ b :: base)) w = .go (G { fr with todo := k' } (fs ++ b :: base)) w #[]) : Facs P ok K fr fs :=
  facs_pure (.to { fr with todo := k' } fs) ⟨h.with hk, hfs⟩ hs
theorem facs_leave (h : OkF ok K fr) (hfs : ∀ f ∈ fs, OkF ok K f) (hs : ∀ b base w, stepG P true (G fr (fs ++ b :: base)) w = .go (G { fr with mode := .returning } (fs ++ b :: base)) w #[]) : Facs P ok K fr fs :=
  facs_pure (.to { fr with mode := .returning } fs) ⟨h.mode _, hfs⟩ hs
theorem facs_code (h : OkF ok K fr) (hfs : ∀ f ∈ fs, OkF ok K f) (hm : fr.mode = .run) {c : Code} {k : List Item} (ht : fr.todo = .code c :: k) : Facs P ok K fr fs := by
  obtain ⟨hc, hk⟩ := okItems_tail h ht
  have hr := h.round
  cases c with
  | skip => exact facs_move h hfs hk fun b base w => by simp [G, stepG, stepG.exec, hm, ht]
  | label l => exact facs_move h hfs hk fun b base w => by simp [G, stepG, stepG.exec, hm, ht]
  | ret => exact facs_leave h hfs fun b base w => by simp [G, stepG, stepG.exec, hm, ht, hr]
  | seq x y =>
    simp only [okItem, okCode, Bool.and_eq_true] at hc
    refine facs_move (k' := .code x :: .code y :: k) h hfs (fun z hz => ?_) fun b base w => by simp [G, stepG, stepG.exec, hm, ht]
    simp only [List.mem_cons] at hz
    rcases hz with rfl | rfl | hz
    · exact hc.1
    · exact hc.2
    · exact hk z hz
  | block id x =>
    refine facs_move (k' := .code x :: .inBlock id :: k) h hfs (fun z hz => ?_) fun b base w => by simp [G, stepG, stepG.exec, hm, ht]
    simp only [List.mem_cons] at hz
    rcases hz with rfl | rfl | hz
    · exact hc
    · rfl
    · exact hk z hz
  | loop x =>
    refine facs_move (k' := .code x :: .inLoop x :: k) h hfs (fun z hz => ?_) fun b base w => by simp [G, stepG, stepG.exec, hm, ht]
    simp only [List.mem_cons] at hz
    rcases hz with rfl | rfl | hz
    · exact hc
    · exact hc
    · exact hk z hz
  | scope x =>
    refine facs_move (k' := .code x :: .inScope x :: k) h hfs (fun z hz => ?_) fun b base w => by simp [G, stepG, stepG.exec, hm, ht]
    simp only [List.mem_cons] at hz
    rcases hz with rfl | rfl | hz
    · exact hc
    · exact hc
    · exact hk z hz
  | exit id =>
    cases he : exitTo id k with
    | some k' => exact facs_move h hfs (okItem_exit he hk) fun b base w => by simp [G, stepG, stepG.exec, hm, ht, he]
    | none => exact facs_end fun b base w => by simp [G, stepG, stepG.exec, hm, ht, he, hr, Ends1]
  | cond c x y =>
    simp only [okItem, okCode, Bool.and_eq_true] at hc
    by_cases hb : ∃ t, fr.eval c = .bool t
    · obtain ⟨t, hb⟩ := hb
      refine facs_move (k' := .code (if t then x else y) :: k) h hfs (fun z hz => ?_) fun b base w => by simp [G, stepG, stepG.exec, hm, ht, hb]
      simp only [List.mem_cons] at hz
      rcases hz with rfl | hz
      · cases t
        · exact hc.2
        · exact hc.1
      · exact hk z hz
    · refine facs_end fun b base w => ?_
      simp only [G, stepG, stepG.exec, hm, ht]
      split
      · rename_i t e
        exact absurd ⟨t, e⟩ hb
      · trivial
  | region id ops draw =>
    cases draw with
    | false =>
      refine facs_move (k' := .inRegion ops (List.range ops.size) :: k) h hfs (fun z hz => ?_) fun b base w => by simp [G, stepG, stepG.exec, hm, ht]
      simp only [List.mem_cons] at hz
      rcases hz with rfl | hz
      · exact hc
      · exact hk z hz
    | true =>
      refine ⟨Nat, fun _ => True, choose (.order fr.fn id), fun t => some (.to { fr with todo := .inRegion ops (Region.schedule (P.follows .mixedOrders) ops t) :: k } fs), fun _ => none, fun _ => #[], .choose fun _ => .pure trivial, (fun _ _ x => by simp at x), fun a o _ e => ?_, (fun _ _ e => by cases e), fun b base w a w' es e => ⟨fun o e' => ?_, fun e' => by cases e'⟩, fun b base w u w' es e => ?_, fun b base w hh w' es e _ _ => ?_⟩
      · cases e
        refine ⟨h.with fun z hz => ?_, hfs⟩
        simp only [List.mem_cons] at hz
        rcases hz with rfl | hz
        · exact hc
        · exact hk z hz
      · cases e'
        simp only [choose, Sem.runT, Question.forced, Bool.false_eq_true, if_false, Prod.mk.injEq, Result.ok.injEq] at e
        obtain ⟨⟨rfl, rfl⟩, _⟩ := e
        simp [G, stepG, stepG.exec, hm, ht, choose, Sem.run, Question.forced, Out.goes]
      · simp only [choose, Sem.runT, Question.forced, Bool.false_eq_true, if_false, Prod.mk.injEq, reduceCtorEq, false_and] at e
      · simp only [choose, Sem.runT, Question.forced, Bool.false_eq_true, if_false, Prod.mk.injEq, reduceCtorEq, false_and] at e
  | _ => cases hc
theorem facs_op (H : KOk P ok K) (h : OkF ok K fr) (hfs : ∀ f ∈ fs, OkF ok K f) (hm : fr.mode = .run) {ops : Array Oper} {l : List Nat} {k : List Item} (ht : fr.todo = .inRegion ops l :: k) : Facs P ok K fr fs := by
  obtain ⟨hc, hk⟩ := okItems_tail h ht
  have hr := h.round
  have hki : (fr.kind == CallKind.early) = false := by rw [h.kind]; rfl
  cases l with
  | nil => exact facs_move h hfs hk fun b base w => by simp [G, stepG, stepG.exec, hm, ht]
  | cons i rest =>
    by_cases hw : ((ops[i]?).map (Region.wanted · (yielded ops fr.tmps))).getD false = true
    · obtain ⟨o, ho⟩ : ∃ o, ops[i]? = some o := by
        cases hh : ops[i]? with
        | none => rw [hh] at hw; cases hw
        | some o => exact ⟨o, rfl⟩
      have hok : ok o = true := by
        simp only [okItem, Array.all_eq_true'] at hc
        exact hc o (Array.mem_of_getElem? ho)
      have hop : fr.oper? = some o := by simp [Frame.oper?, ht, ho]
      refine ⟨Next, OkNext K, execOp fr.eval o, fun n => match n with | .value v => some (.to (fr.finish v) fs) | .skip => some (.to (fr.finish undef) fs) | .enter f args => some (.to (Frame.enter P f args .normal) (fr :: fs)) | _ => none,
        fun u => some (.to (fr.raise [{ v := u, recovered := false }]) fs), seen P fr.fn, H.calm fr o hok, fun _ _ => mem_seen, fun a o' hq e => ?_, fun u o' e => ?_, fun b base w a w' es e => ?_, fun b base w u w' es e => ⟨fun o' e' => ?_, fun e' => by cases e'⟩, fun b base w hh w' es e hmild hnp => ?_⟩
      · rcases hq with ⟨v, rfl⟩ | rfl | ⟨f, args, rfl, hf⟩
        · cases e; exact ⟨h.finish v, hfs⟩
        · cases e; exact ⟨h.finish undef, hfs⟩
        · cases e
          refine ⟨OkF.enter H hf args, fun x hx => ?_⟩
          rcases List.mem_cons.1 hx with rfl | hx
          · exact h
          · exact hfs x hx
      · cases e
        exact ⟨h.raise _, hfs⟩
      · have hq : OkNext K a := by
          have := (H.calm fr o hok).post w w' e
          exact this
        have base' : stepG P true (G fr (fs ++ b :: base)) w = stepG.apply P true fr (fs ++ b :: base) none (execOp fr.eval o) w := by simp [G, stepG, stepG.exec, stepG.oper, hm, ht, hw, hop, hr]
        rw [base']
        rcases hq with ⟨v, rfl⟩ | rfl | ⟨f, args, rfl, hf⟩
        · refine ⟨fun o' e' => ?_, fun e' => by cases e'⟩
          cases e'
          simp only [stepG.apply, e, if_true, hki, Bool.false_eq_true, if_false, GStep.after, Out.goes, Array.append_empty, G]
        · refine ⟨fun o' e' => ?_, fun e' => by cases e'⟩
          cases e'
          simp only [stepG.apply, e, if_true, hki, Bool.false_eq_true, if_false, GStep.after, Out.goes, Array.append_empty, G]
        · refine ⟨fun o' e' => ?_, fun e' => by cases e'⟩
          cases e'
          simp only [stepG.apply, e, if_true, hki, Bool.false_eq_true, if_false, GStep.after, Out.goes, Array.append_empty, G, ht, List.cons_append]
      · cases e'
        have base' : stepG P true (G fr (fs ++ b :: base)) w = stepG.apply P true fr (fs ++ b :: base) none (execOp fr.eval o) w := by simp [G, stepG, stepG.exec, stepG.oper, hm, ht, hw, hop, hr]
        rw [base']
        simp only [stepG.apply, e, if_true, hki, Bool.false_eq_true, if_false, GStep.after, Out.goes, Array.append_empty, G]
      · have base' : stepG P true (G fr (fs ++ b :: base)) w = stepG.apply P true fr (fs ++ b :: base) none (execOp fr.eval o) w := by simp [G, stepG, stepG.exec, stepG.oper, hm, ht, hw, hop, hr]
        rw [base']
        cases hh with
        | panic u => exact absurd rfl (hnp u)
        | stuck s => simp only [stepG.apply, e, if_true, hki, Bool.false_eq_true, if_false, GStep.after]; trivial
        | unsupported u =>
          cases u with
          | initOrder g => simp only [stepG.apply, e, if_true, hki, Bool.false_eq_true, if_false]; exact (H.early _ _ _ _).after _
          | _ => simp only [stepG.apply, e, if_true, hki, Bool.false_eq_true, if_false, GStep.after]; trivial
        | _ => exact hmild.elim
    · refine facs_pure (.to (fr.finish undef) fs) ⟨h.finish _, hfs⟩ fun b base w => ?_
      have hw' : ((ops[i]?).map (Region.wanted · (yielded ops fr.tmps))).getD false = false := by simpa using hw
      simp [G, stepG, stepG.exec, hm, ht, hw', Out.goes]

/-- Every step is factored. -/
theorem facs (H : KOk P ok K) (h : OkF ok K fr) (hfs : ∀ f ∈ fs, OkF ok K f) : Facs P ok K fr fs := by
  cases hm : fr.mode with
  | panicking c => exact facs_panicking H h hfs hm
  | returning => exact facs_returning H h hfs hm
  | run =>
    cases ht : fr.todo with
    | nil => exact facs_leave h hfs fun b base w => by simp [G, stepG, stepG.exec, hm, ht, h.round]
    | cons i k =>
      obtain ⟨hc, hk⟩ := okItems_tail h ht
      cases i with
      | code c => exact facs_code h hfs hm ht
      | inRegion ops l => exact facs_op H h hfs hm ht
      | inBlock id => exact facs_move h hfs hk fun b base w => by simp [G, stepG, stepG.exec, hm, ht]
      | inScope c => exact facs_move h hfs hk fun b base w => by simp [G, stepG, stepG.exec, hm, ht]
      | inLoop c =>
        refine facs_move (k' := .code c :: .inLoop c :: k) h hfs (fun z hz => ?_) fun b base w => by simp [G, stepG, stepG.exec, hm, ht]
        simp only [List.mem_cons] at hz
        rcases hz with rfl | rfl | hz
        · exact hc
        · exact hc
        · exact hk z hz
      | _ => cases hc
end
end Go.Proofs.Ytehmobcfbifocaa
