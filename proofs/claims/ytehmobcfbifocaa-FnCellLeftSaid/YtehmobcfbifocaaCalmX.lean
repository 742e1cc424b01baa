/-
  More operations that are calm: nil checks, fields, structs. Nothing of a program.
-/
import Derived.Test.YtehmobcfbifocaaCalm16
namespace Go.Proofs.Ytehmobcfbifocaa
open Go Go.Conc

section
variable {P : Program} {K : FuncId → Bool} {α β : Type}
theorem calm_part (t : TypeId) (xs : Array Value) (off : Nat) : Calm P (fun _ => True) (part t xs off) := by
  unfold part
  repeat' (first
    | with_reducible exact calm_ret trivial | with_reducible exact calm_stuck | with_reducible exact calm_uns
    | with_reducible refine calm_bind (calm_sizeOf _) fun _ _ => ?_ | with_reducible refine calm_bind (calm_isAgg _) fun _ _ => ?_ | with_reducible refine calm_bind (calm_underlying _) fun _ _ => ?_
    | split | dsimp only)
theorem calm_followBlind : ∀ (l : List FieldStep) (t : TypeId) (x : Option Value), Calm P (fun _ => True) (followBlind l t x)
  | [], _, _ => calm_ret trivial
  | s :: rest, t, x => by
    unfold followBlind
    repeat' (first
      | with_reducible exact calm_ret trivial | with_reducible exact calm_stuck | with_reducible exact calm_uns
      | with_reducible exact calm_followBlind rest _ _
      | with_reducible refine calm_bind (calm_underlying _) fun _ _ => ?_ | with_reducible refine calm_bind (calm_part _ _ _) fun _ _ => ?_
      | with_reducible refine calm_bind (calm_ret (Q := fun _ => True) trivial) fun _ _ => ?_ | with_reducible refine calm_bind (Q := fun _ => False) calm_stuck fun _ h => h.elim
      | split | dsimp only)
theorem calm_nilAhead : ∀ (n : Nat) (t : TypeId) (v : Value) (s : String), Calm P (fun _ => True) (nilAhead n t v s)
  | 0, _, _, _ => calm_ret trivial
  | n + 1, t, v, s => by
    unfold nilAhead
    repeat' (first
      | with_reducible exact calm_ret trivial | with_reducible exact calm_stuck | with_reducible exact calm_uns
      | with_reducible exact calm_nilAhead n _ _ _
      | with_reducible refine calm_bind (calm_underlying _) fun _ _ => ?_ | with_reducible refine calm_bind (calm_typeInfo _) fun _ _ => ?_ | with_reducible refine calm_bind (calm_followBlind _ _ _) fun _ _ => ?_
      | with_reducible refine calm_bind (calm_ret (Q := fun _ => True) trivial) fun _ _ => ?_ | with_reducible refine calm_bind (Q := fun _ => False) calm_stuck fun _ h => h.elim
      | split | dsimp only)
theorem calm_partAt (a : Addr) (c b : Nat) : Calm P (fun _ => True) (partAt a c b) := by
  unfold partAt
  exact calm_bind (calm_byteOf _) fun _ _ => calm_bind (calm_byteOf _) fun _ _ => calm_ret trivial
theorem calm_fieldPlace (a : Addr) (f : Field) : Calm P (fun _ => True) (fieldPlace a f) := by
  unfold fieldPlace
  refine calm_bind (calm_sizeOf _) fun _ _ => ?_
  split
  · exact calm_partAt _ _ _
  · exact calm_ret trivial
theorem calm_fieldAt (s : TypeId) (x : Value) (f : Nat) : Calm P (fun _ => True) (Instr.fieldAt s x f) := by
  unfold Instr.fieldAt
  repeat' (first
    | with_reducible exact calm_ret trivial | with_reducible exact calm_stuck | with_reducible exact calm_uns
    | with_reducible refine calm_bind (calm_underlying _) fun _ _ => ?_ | with_reducible refine calm_bind (calm_sureAddr _) fun _ _ => ?_ | with_reducible refine calm_bind (calm_fieldPlace _ _) fun _ _ => ?_
    | with_reducible refine calm_bind (calm_ret (Q := fun _ => True) trivial) fun _ _ => ?_ | with_reducible refine calm_bind (Q := fun _ => False) calm_stuck fun _ h => h.elim
    | split | dsimp only)
theorem calm_listMapM {f : α → Sem β} (h : ∀ a, Calm P (fun _ => True) (f a)) : ∀ l : List α, Calm P (fun _ => True) (l.mapM f)
  | [] => by rw [List.mapM_nil]; exact calm_ret trivial
  | a :: l => by
    rw [List.mapM_cons]
    exact calm_bind (h a) fun _ _ => calm_bind (calm_listMapM h l) fun _ _ => calm_ret trivial
theorem calm_mapM {f : α → Sem β} (h : ∀ a, Calm P (fun _ => True) (f a)) (xs : Array α) : Calm P (fun _ => True) (xs.mapM f) := by
  rw [Array.mapM_eq_mapM_toList]
  exact (calm_listMapM h _).bind fun _ _ => .pure trivial
theorem calm_build (t : TypeId) (ps : Array (Nat × Value)) : Calm P (fun _ => True) (Instr.build t ps) := by
  unfold Instr.build
  refine calm_bind (calm_zeroValue _) fun z _ => ?_
  refine calm_bind (calm_underlying _) fun d _ => ?_
  split
  · refine calm_bind (calm_mapM (fun f => calm_bind (calm_sizeOf _) fun _ _ => calm_ret trivial) _) fun _ _ => ?_
    split
    · exact calm_ret trivial
    · exact calm_stuck
  · refine calm_bind (calm_sizeOf _) fun _ _ => ?_
    split
    · exact calm_ret trivial
    · exact calm_stuck
  · exact calm_stuck
def okOp2 (P : Program) (K : FuncId → Bool) (o : Oper) : Bool := okOp P K o || match o.op with
  | .nilCheck _ | .fieldAddr _ _ _ | .build _ _ => true
  | _ => false
theorem calm_exec2 (fr : Frame) (o : Oper) (h : okOp2 P K o = true) : Calm P (OkNext K) (execOp fr.eval o) := by
  unfold okOp2 at h
  rw [Bool.or_eq_true] at h
  rcases h with h | h
  · exact calm_exec fr o h
  · unfold execOp
    cases hop : o.op <;> rw [hop] at h <;> first | exact absurd h Bool.false_ne_true | skip
    case nilCheck x =>
      try dsimp only
      split
      · exact calm_runtimePanic _
      · exact calm_runtimePanic _
      · exact calm_runtimePanic _
      · split
        · exact calm_runtimePanic _
        · refine calm_bind calm_program fun _ _ => ?_
          refine calm_bind (calm_nilAhead _ _ _ _) fun _ _ => ?_
          try dsimp only
          split
          · exact calm_bind (Q := fun _ => False) calm_uns fun _ h => h.elim
          · exact calm_ret (.inl ⟨_, rfl⟩)
        · exact calm_ret (.inl ⟨_, rfl⟩)
      · exact calm_ret (.inl ⟨_, rfl⟩)
    case fieldAddr s x f => exact calm_v (calm_fieldAt _ _ _)
    case build t ps => exact calm_v (calm_build _ _)
end
end Go.Proofs.Ytehmobcfbifocaa
/-
  The draws of chapter 7 hold calm operations alone.
-/
namespace Go.Proofs.Ytehmobcfbifocaa
open Go Go.Conc

def LDK : List FuncId := [18, 21, 24, 13, 27, 30, 31]
def KD (f : FuncId) : Bool := LDK.contains f
theorem calm_results_tmp3 {P : Program} {fn : Func} {t u v : Tmp} (h : fn.results = #[.tmp t, .tmp u, .tmp v]) (tmps : Array Value) : Calm P (fun _ => True) (results fn tmps) := by
  have e : results fn tmps = pure (.tuple #[tmps.getD t undef, tmps.getD u undef, tmps.getD v undef]) := by simp [results, h]
  rw [e]
  exact calm_ret trivial
theorem kokD : KOk Try.prog (okOp2 Try.prog KD) KD := by
  refine ⟨fun f hf => ?_, calm_exec2, fun f fn hf hfn tmps => ?_, early_ends (by kernel_rfl) (by kernel_rfl)⟩
  · have : f = 18 ∨ f = 21 ∨ f = 24 ∨ f = 13 ∨ f = 27 ∨ f = 30 ∨ f = 31 := by simpa [KD, LDK] using hf
    rcases this with rfl | rfl | rfl | rfl | rfl | rfl | rfl
    · exact ⟨_, _, Try.func18, rfl, by kernel_rfl⟩
    · exact ⟨_, _, Try.func21, rfl, by kernel_rfl⟩
    · exact ⟨_, _, Try.func24, rfl, by kernel_rfl⟩
    · exact ⟨_, _, Try.func13, rfl, by kernel_rfl⟩
    · exact ⟨_, _, Try.func27, rfl, by kernel_rfl⟩
    · exact ⟨_, _, Try.func30, rfl, by kernel_rfl⟩
    · exact ⟨_, _, Try.func31, rfl, by kernel_rfl⟩
  · have : f = 18 ∨ f = 21 ∨ f = 24 ∨ f = 13 ∨ f = 27 ∨ f = 30 ∨ f = 31 := by simpa [KD, LDK] using hf
    rcases this with rfl | rfl | rfl | rfl | rfl | rfl | rfl
    · cases hfn.symm.trans Try.func18; exact calm_results_tmp rfl tmps
    · cases hfn.symm.trans Try.func21; exact calm_results_tmp rfl tmps
    · cases hfn.symm.trans Try.func24; exact calm_results_tmp3 rfl tmps
    · cases hfn.symm.trans Try.func13; exact calm_results_tmp3 rfl tmps
    · cases hfn.symm.trans Try.func27; exact calm_results_tmp rfl tmps
    · cases hfn.symm.trans Try.func30; exact calm_results_tmp rfl tmps
    · cases hfn.symm.trans Try.func31; exact calm_results_tmp rfl tmps
end Go.Proofs.Ytehmobcfbifocaa
