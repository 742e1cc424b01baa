/-
  More operations that are calm: == at slices, closures made. Nothing of a program.
-/
import Derived.Test.YtehmobcfbifocaaCalmX
namespace Go.Proofs.Ytehmobcfbifocaa
open Go Go.Conc

section
variable {P : Program} {α β : Type} {Q : α → Prop} {Q' : β → Prop} {t el : TypeId} {K : FuncId → Bool}
theorem calm_eqGuardInS (ht : P.underlying t = some (.slice el)) (d : Nat) (a b : Value) : Calm P (fun _ => True) (Op.eqGuardIn (d + 1) t a b) := by
  unfold Op.eqGuardIn
  refine calm_bind (calm_underlying t) fun dd hd => ?_
  rw [ht] at hd
  cases hd
  exact calm_ret trivial
theorem calm_eqGuardS (ht : P.underlying t = some (.slice el)) (op : BinOp) (x y : Operand) (a b : Value) : Calm P (fun _ => True) (eqGuard op t x y a b) := by
  have hg : ∀ u v, Calm P (fun _ => True) (Op.eqGuardIn Op.maxDepth t u v) := fun u v => calm_eqGuardInS ht 9999 u v
  unfold eqGuard
  repeat' (first
    | with_reducible exact calm_ret trivial | with_reducible exact calm_stuck | with_reducible exact calm_uns | with_reducible exact calm_panic | with_reducible exact calm_runtimePanic _ | with_reducible exact calm_boundsPanic _ _ _ _
    | with_reducible refine calm_bind (calm_underlying _) fun _ _ => ?_ | with_reducible refine calm_bind (calm_sizeOf _) fun _ _ => ?_ | with_reducible refine calm_bind (calm_typeInfo _) fun _ _ => ?_ | with_reducible refine calm_bind (calm_zeroValue _) fun _ _ => ?_
    | with_reducible refine calm_bind (calm_asIntOf _) fun _ _ => ?_ | with_reducible refine calm_bind (calm_asInt _) fun _ _ => ?_ | with_reducible refine calm_bind (calm_sureAddr _) fun _ _ => ?_ | with_reducible refine calm_bind (calm_asAddr _) fun _ _ => ?_ | with_reducible refine calm_bind (calm_asBool _) fun _ _ => ?_
    | with_reducible refine calm_bind (calm_choose _) fun _ _ => ?_ | with_reducible refine calm_bind (calm_map (calm_choose _)) fun _ _ => ?_ | with_reducible refine calm_bind (calm_askRoom _) fun _ _ => ?_ | with_reducible refine calm_bind (calm_newRow _ _) fun _ _ => ?_ | with_reducible refine calm_bind calm_program fun _ _ => ?_
    | with_reducible refine calm_bind (hg _ _) fun _ _ => ?_
    | with_reducible refine calm_ite ?_ ?_
    | with_reducible refine calm_bind (calm_ret (Q := fun _ => True) trivial) fun _ _ => ?_ | with_reducible refine calm_bind (Q := fun _ => False) calm_stuck fun _ h => h.elim | with_reducible refine calm_bind (Q := fun _ => False) calm_uns fun _ h => h.elim
    | with_reducible refine calm_bind (Q := fun _ => False) (calm_runtimePanic _) fun _ h => h.elim | with_reducible refine calm_bind (Q := fun _ => False) (calm_boundsPanic _ _ _ _) fun _ h => h.elim
    | split | dsimp only)
theorem calm_equalS (ht : P.underlying t = some (.slice el)) (a b : Value) : Calm P (fun _ => True) (Op.equal t a b) := by
  show Calm P (fun _ => True) (Op.equalIn (9999 + 1) t a b)
  unfold Op.equalIn
  refine calm_bind (calm_underlying t) fun dd hd => ?_
  rw [ht] at hd
  cases hd
  split <;> first | contradiction | skip
  all_goals
    repeat' (first
      | with_reducible exact calm_ret trivial | with_reducible exact calm_stuck | with_reducible exact calm_uns | with_reducible exact calm_panic | with_reducible exact calm_runtimePanic _ | with_reducible exact calm_boundsPanic _ _ _ _
      | with_reducible refine calm_bind (calm_underlying _) fun _ _ => ?_ | with_reducible refine calm_bind (calm_sizeOf _) fun _ _ => ?_ | with_reducible refine calm_bind (calm_typeInfo _) fun _ _ => ?_ | with_reducible refine calm_bind (calm_zeroValue _) fun _ _ => ?_
      | with_reducible refine calm_bind (calm_asIntOf _) fun _ _ => ?_ | with_reducible refine calm_bind (calm_asInt _) fun _ _ => ?_ | with_reducible refine calm_bind (calm_sureAddr _) fun _ _ => ?_ | with_reducible refine calm_bind (calm_asAddr _) fun _ _ => ?_ | with_reducible refine calm_bind (calm_asBool _) fun _ _ => ?_
      | with_reducible refine calm_bind (calm_choose _) fun _ _ => ?_ | with_reducible refine calm_bind (calm_map (calm_choose _)) fun _ _ => ?_ | with_reducible refine calm_bind (calm_askRoom _) fun _ _ => ?_ | with_reducible refine calm_bind (calm_newRow _ _) fun _ _ => ?_ | with_reducible refine calm_bind calm_program fun _ _ => ?_
      | with_reducible refine calm_bind (calm_behindNumber _) fun _ _ => ?_
      | with_reducible refine calm_bind (calm_byteOf _) fun _ _ => ?_
      | with_reducible refine calm_bind (calm_ret (Q := fun _ => True) trivial) fun _ _ => ?_ | with_reducible refine calm_bind (Q := fun _ => False) calm_stuck fun _ h => h.elim | with_reducible refine calm_bind (Q := fun _ => False) calm_uns fun _ h => h.elim
      | with_reducible refine calm_bind (Q := fun _ => False) (calm_runtimePanic _) fun _ h => h.elim | with_reducible refine calm_bind (Q := fun _ => False) (calm_boundsPanic _ _ _ _) fun _ h => h.elim
      | split | dsimp only)
theorem calm_binOpS (ht : P.underlying t = some (.slice el)) (op : BinOp) (a b : Value) : Calm P (fun _ => True) (binOp op t a b) := by
  unfold binOp
  split
  all_goals
    repeat' (first
      | with_reducible exact calm_ret trivial | with_reducible exact calm_stuck | with_reducible exact calm_uns | with_reducible exact calm_panic | with_reducible exact calm_runtimePanic _ | with_reducible exact calm_boundsPanic _ _ _ _
      | with_reducible refine calm_bind (calm_underlying _) fun _ _ => ?_ | with_reducible refine calm_bind (calm_sizeOf _) fun _ _ => ?_ | with_reducible refine calm_bind (calm_typeInfo _) fun _ _ => ?_ | with_reducible refine calm_bind (calm_zeroValue _) fun _ _ => ?_
      | with_reducible refine calm_bind (calm_asIntOf _) fun _ _ => ?_ | with_reducible refine calm_bind (calm_asInt _) fun _ _ => ?_ | with_reducible refine calm_bind (calm_sureAddr _) fun _ _ => ?_ | with_reducible refine calm_bind (calm_asAddr _) fun _ _ => ?_ | with_reducible refine calm_bind (calm_asBool _) fun _ _ => ?_
      | with_reducible refine calm_bind (calm_choose _) fun _ _ => ?_ | with_reducible refine calm_bind (calm_map (calm_choose _)) fun _ _ => ?_ | with_reducible refine calm_bind (calm_askRoom _) fun _ _ => ?_ | with_reducible refine calm_bind (calm_newRow _ _) fun _ _ => ?_ | with_reducible refine calm_bind calm_program fun _ _ => ?_
      | with_reducible exact calm_shift _ _ _ _ _
      | with_reducible exact calm_intArith _ _ _ _
      | with_reducible exact calm_intDiv _ _ _ _
      | with_reducible exact calm_intBits _ _ _ _
      | with_reducible exact calm_intCmp _ _ _
      | with_reducible exact calm_floatArith _ _ _ _
      | with_reducible exact calm_floatCmp _ _ _ _
      | with_reducible exact calm_complexOp _ _ _ _ _ _
      | with_reducible exact calm_stringOp _ _ _
      | with_reducible refine calm_bind (calm_equalS ht _ _) fun _ _ => ?_
      | with_reducible exact calm_movedPointer _ _ _
      | with_reducible exact calm_movedNumber _ _ _
      | with_reducible refine calm_bind (calm_behindNumber _) fun _ _ => ?_
      | with_reducible exact calm_addrSub _ _ _
      | with_reducible exact calm_addrCmp _ _ _
      | with_reducible exact calm_addrMod _ _ _
      | with_reducible refine calm_bind (calm_ret (Q := fun _ => True) trivial) fun _ _ => ?_ | with_reducible refine calm_bind (Q := fun _ => False) calm_stuck fun _ h => h.elim | with_reducible refine calm_bind (Q := fun _ => False) calm_uns fun _ h => h.elim
      | with_reducible refine calm_bind (Q := fun _ => False) (calm_runtimePanic _) fun _ h => h.elim | with_reducible refine calm_bind (Q := fun _ => False) (calm_boundsPanic _ _ _ _) fun _ h => h.elim
      | split | dsimp only)
def isSliceT (P : Program) (t : TypeId) : Bool := match P.underlying t with
  | some (.slice _) => true
  | _ => false
theorem isSliceT_of {t : TypeId} (h : isSliceT P t = true) : ∃ k, P.underlying t = some (.slice k) := by
  unfold isSliceT at h
  split at h
  · exact ⟨_, ‹_›⟩
  · cases h
def okOp3 (P : Program) (K : FuncId → Bool) (o : Oper) : Bool := okOp2 P K o || match o.op with
  | .makeFunc _ _ _ => true
  | .binOp _ t _ _ _ => isSliceT P t
  | _ => false
theorem calm_exec3 (fr : Frame) (o : Oper) (h : okOp3 P K o = true) : Calm P (OkNext K) (execOp fr.eval o) := by
  unfold okOp3 at h
  rw [Bool.or_eq_true] at h
  rcases h with h | h
  · exact calm_exec2 fr o h
  · unfold execOp
    cases hop : o.op <;> rw [hop] at h <;> first | exact absurd h Bool.false_ne_true | skip
    case makeFunc f a b => exact calm_v (.pure trivial)
    case binOp op t x y t' =>
      obtain ⟨k, hk⟩ := isSliceT_of h
      exact calm_v (calm_bind (calm_eqGuardS hk _ _ _ _ _) fun _ _ => calm_binOpS hk _ _ _)
end
end Go.Proofs.Ytehmobcfbifocaa
/-
  What impl.RowOf calls beside its range: addBefore, slices.Clone, cellAt hold calm operations alone; so does rowsTo.
-/
namespace Go.Proofs.Ytehmobcfbifocaa
open Go Go.Conc

def LRK : List FuncId := [47, 41, 35, 40, 32]
def KR (f : FuncId) : Bool := LRK.contains f
theorem calm_results_none {P : Program} {fn : Func} (h : fn.results = #[]) (tmps : Array Value) : Calm P (fun _ => True) (results fn tmps) := by
  have e : results fn tmps = pure (.tuple #[]) := by simp [results, h]
  rw [e]
  exact calm_ret trivial
theorem kokR : KOk Try.prog (okOp3 Try.prog KR) KR := by
  refine ⟨fun f hf => ?_, calm_exec3, fun f fn hf hfn tmps => ?_, early_ends (by kernel_rfl) (by kernel_rfl)⟩
  · have : f = 47 ∨ f = 41 ∨ f = 35 ∨ f = 40 ∨ f = 32 := by simpa [KR, LRK] using hf
    rcases this with rfl | rfl | rfl | rfl | rfl
    · exact ⟨_, _, Try.func47, rfl, by kernel_rfl⟩
    · exact ⟨_, _, Try.func41, rfl, by kernel_rfl⟩
    · exact ⟨_, _, Try.func35, rfl, by kernel_rfl⟩
    · exact ⟨_, _, Try.func40, rfl, by kernel_rfl⟩
    · exact ⟨_, _, Try.func32, rfl, by kernel_rfl⟩
  · have : f = 47 ∨ f = 41 ∨ f = 35 ∨ f = 40 ∨ f = 32 := by simpa [KR, LRK] using hf
    rcases this with rfl | rfl | rfl | rfl | rfl
    · cases hfn.symm.trans Try.func47; exact calm_results_none rfl tmps
    · cases hfn.symm.trans Try.func41; exact calm_results_tmp rfl tmps
    · cases hfn.symm.trans Try.func35; exact calm_results_tmp rfl tmps
    · cases hfn.symm.trans Try.func40; exact calm_results_tmp rfl tmps
    · cases hfn.symm.trans Try.func32; exact calm_results_tmp rfl tmps
end Go.Proofs.Ytehmobcfbifocaa
