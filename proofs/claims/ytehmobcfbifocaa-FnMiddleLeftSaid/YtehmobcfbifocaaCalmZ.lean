/-
  Which of the model's meanings are calm: memory, numbers, rows. Nothing of a program.
-/
import Derived.Test.YtehmobcfbifocaaCalmB
namespace Go.Proofs.Ytehmobcfbifocaa
open Go Go.Conc

section
variable {P : Program} {α β : Type} {Q : α → Prop} {Q' : β → Prop}
theorem calm_bind {s : Sem α} {f : α → Sem β} (h : Calm P Q s) (hf : ∀ a, Q a → Calm P Q' (f a)) : Calm P Q' (s >>= f) := h.bind hf
theorem calm_ret {a : α} (h : Q a) : Calm P Q (pure a : Sem α) := .pure h
theorem calm_ite {c : Prop} [Decidable c] {s t : Sem α} (h : Calm P Q s) (k : Calm P Q t) : Calm P Q (if c then s else t) := by split <;> assumption
theorem calm_any {s : Sem α} (h : Calm P Q s) : Calm P (fun _ => True) s := h.mono fun _ _ => trivial
theorem calm_stuck {s : String} : Calm P Q (stuck s : Sem α) := .halt trivial
theorem calm_uns {u : Unsupported} : Calm P Q (unsupported u : Sem α) := .halt trivial
theorem calm_panic {v : Value} : Calm P Q (goPanic v : Sem α) := .halt trivial
theorem calm_load (a : Addr) (m : Mode) : Calm P (fun _ => True) (load a m) := .load fun _ => .pure trivial
theorem calm_store (a : Addr) (v : Value) (m : Mode) : Calm P (fun _ => True) (store a v m) := .store (.pure trivial)
theorem calm_new (o : Obj) : Calm P (fun _ => True) (newObj o) := .new fun _ => .pure trivial
theorem calm_choose (q : Question) : Calm P (fun _ => True) (choose q) := .choose fun _ => .pure trivial
theorem calm_program : Calm P (fun p => p = P) program := .program (.pure rfl)
theorem calm_askRoom (n : Nat) : Calm P (fun _ => True) (askRoom n) := by
  unfold askRoom
  split
  · exact .room (.pure trivial)
  · exact .pure trivial
theorem calm_typeInfo (t : TypeId) : Calm P (fun i => P.info? t = some i) (typeInfo t) := by
  unfold typeInfo
  refine calm_bind calm_program fun p hp => ?_
  subst hp
  split
  · exact calm_ret ‹_›
  · exact calm_stuck
theorem calm_underlying (t : TypeId) : Calm P (fun d => P.underlying t = some d) (underlying t) := by
  unfold underlying
  refine calm_bind calm_program fun p hp => ?_
  subst hp
  split
  · exact calm_ret ‹_›
  · exact calm_stuck
theorem calm_zeroValue (t : TypeId) : Calm P (fun _ => True) (zeroValue t) := by
  unfold zeroValue
  refine calm_bind (calm_typeInfo t) fun i _ => ?_
  split
  · exact calm_ret trivial
  · exact calm_uns
theorem calm_sizeOf (t : TypeId) : Calm P (fun _ => True) (sizeOf t) := calm_bind (calm_typeInfo t) fun _ _ => calm_ret trivial
theorem calm_isAgg (t : TypeId) : Calm P (fun _ => True) (isAgg t) := by
  unfold isAgg
  refine calm_bind (calm_underlying t) fun d _ => ?_
  split <;> exact calm_ret trivial
theorem calm_loadCells (a : Addr) : ∀ (n i : Nat) (acc : Array Value), Calm P (fun _ => True) (loadCellsFrom a i n acc)
  | 0, _, _ => calm_ret trivial
  | n + 1, i, acc => calm_bind (calm_load _ _) fun v _ => calm_loadCells a n (i + 1) (acc.push v)
theorem calm_storeCells (a : Addr) : ∀ (vs : List Value) (i : Nat), Calm P (fun _ => True) (storeCells a vs i)
  | [], _ => calm_ret trivial
  | v :: rest, i => calm_bind (calm_store _ v _) fun _ _ => calm_storeCells a rest (i + 1)
theorem calm_loadVar (t : TypeId) (a : Addr) : Calm P (fun _ => True) (loadVar t a) := by
  unfold loadVar
  refine calm_bind (calm_isAgg t) fun b _ => ?_
  split
  · exact calm_bind (calm_sizeOf t) fun n _ => calm_bind (calm_loadCells a n 0 #[]) fun _ _ => calm_ret trivial
  · exact calm_load _ _
theorem calm_storeVar (t : TypeId) (a : Addr) (v : Value) : Calm P (fun _ => True) (storeVar t a v) := by
  unfold storeVar
  refine calm_bind (calm_sizeOf t) fun n _ => ?_
  split
  · exact calm_bind (Q := fun _ => False) calm_stuck fun _ h => h.elim
  · exact calm_bind (calm_ret (Q := fun _ => True) trivial) fun _ _ => calm_storeCells a _ _
theorem calm_newRow (t : TypeId) (c : Array Value) : Calm P (fun _ => True) (newRow t c) := calm_bind (calm_new _) fun _ _ => calm_ret trivial
theorem calm_newVar (t : TypeId) (v : Value) : Calm P (fun _ => True) (newVar t v) := calm_newRow _ _
theorem calm_elemOf (t : TypeId) : Calm P (fun _ => True) (elemOf t) := by
  unfold elemOf
  refine calm_bind (calm_underlying t) fun d _ => ?_
  split
  · exact calm_ret trivial
  · exact calm_stuck
theorem calm_runtimePanic (e : RuntimeError) : Calm P Q (runtimePanic e : Sem α) := by
  unfold runtimePanic
  refine calm_bind calm_program fun p _ => ?_
  dsimp only
  split
  · exact calm_panic
  · exact calm_panic
  · exact calm_panic
  · exact calm_panic
  · exact calm_bind (calm_elemOf _) fun _ _ => calm_bind (calm_newVar _ _) fun _ _ => calm_panic
  · exact calm_bind (calm_elemOf _) fun _ _ => calm_bind (calm_newVar _ _) fun _ _ => calm_panic
  · exact calm_panic
theorem calm_map {f : α → β} {s : Sem α} (h : Calm P Q s) : Calm P (fun _ => True) (f <$> s) := h.bind fun _ _ => .pure trivial
theorem calm_boundsPanic (k : IntKind) (x y : Int) (c : BoundsCode) : Calm P Q (boundsPanic k x y c : Sem α) := by
  unfold boundsPanic
  dsimp only
  split
  · exact calm_bind (calm_map (calm_choose _)) fun _ _ => calm_runtimePanic _
  · exact calm_bind (calm_ret (Q := fun _ => True) trivial) fun _ _ => calm_runtimePanic _
theorem calm_asIntOf (v : Value) : Calm P (fun _ => True) (asIntOf v) := by
  unfold asIntOf
  split
  · exact calm_ret trivial
  · exact calm_uns
  · exact calm_stuck
theorem calm_asInt (v : Value) : Calm P (fun _ => True) (asInt v) := calm_bind (calm_asIntOf v) fun _ _ => calm_ret trivial
theorem calm_asBool (v : Value) : Calm P (fun _ => True) (asBool v) := by
  unfold asBool
  split
  · exact calm_ret trivial
  · exact calm_stuck
theorem calm_sureAddr (v : Value) : Calm P (fun _ => True) (Instr.sureAddr v) := by
  unfold Instr.sureAddr
  split
  · exact calm_ret trivial
  · exact calm_stuck
theorem calm_asAddr (v : Value) : Calm P (fun _ => True) (asAddr v) := by
  unfold asAddr
  split
  · exact calm_ret trivial
  · exact calm_runtimePanic _
  · exact calm_stuck
theorem calm_loadAt (t : TypeId) (v : Value) : Calm P (fun _ => True) (Instr.loadAt t v) := calm_bind (calm_sureAddr v) fun a _ => calm_loadVar t a
theorem calm_storeAt (t : TypeId) (v x : Value) : Calm P (fun _ => True) (Instr.storeAt t v x) := calm_bind (calm_sureAddr v) fun a _ => calm_storeVar t a x
theorem calm_indexAt (t : TypeId) (x i : Value) : Calm P (fun _ => True) (Instr.indexAt t x i) := by
  unfold Instr.indexAt
  repeat' (first
    | with_reducible exact calm_ret trivial | with_reducible exact calm_stuck | with_reducible exact calm_uns | with_reducible exact calm_panic | with_reducible exact calm_runtimePanic _ | with_reducible exact calm_boundsPanic _ _ _ _
    | with_reducible refine calm_bind (calm_underlying _) fun _ _ => ?_ | with_reducible refine calm_bind (calm_sizeOf _) fun _ _ => ?_ | with_reducible refine calm_bind (calm_typeInfo _) fun _ _ => ?_ | with_reducible refine calm_bind (calm_zeroValue _) fun _ _ => ?_
    | with_reducible refine calm_bind (calm_asIntOf _) fun _ _ => ?_ | with_reducible refine calm_bind (calm_asInt _) fun _ _ => ?_ | with_reducible refine calm_bind (calm_sureAddr _) fun _ _ => ?_ | with_reducible refine calm_bind (calm_asAddr _) fun _ _ => ?_ | with_reducible refine calm_bind (calm_asBool _) fun _ _ => ?_
    | with_reducible refine calm_bind (calm_choose _) fun _ _ => ?_ | with_reducible refine calm_bind (calm_map (calm_choose _)) fun _ _ => ?_ | with_reducible refine calm_bind (calm_askRoom _) fun _ _ => ?_ | with_reducible refine calm_bind (calm_newRow _ _) fun _ _ => ?_ | with_reducible refine calm_bind calm_program fun _ _ => ?_
    | with_reducible refine calm_bind (calm_ret (Q := fun _ => True) trivial) fun _ _ => ?_ | with_reducible refine calm_bind (Q := fun _ => False) calm_stuck fun _ h => h.elim | with_reducible refine calm_bind (Q := fun _ => False) calm_uns fun _ h => h.elim
    | with_reducible refine calm_bind (Q := fun _ => False) (calm_runtimePanic _) fun _ h => h.elim | with_reducible refine calm_bind (Q := fun _ => False) (calm_boundsPanic _ _ _ _) fun _ h => h.elim
    | split | dsimp only)
theorem calm_sliceBound (x : Value) (y : Nat) (c : BoundsCode) : Calm P (fun _ => True) (Instr.sliceBound x y c) := by
  unfold Instr.sliceBound
  repeat' (first
    | with_reducible exact calm_ret trivial | with_reducible exact calm_stuck | with_reducible exact calm_uns | with_reducible exact calm_panic | with_reducible exact calm_runtimePanic _ | with_reducible exact calm_boundsPanic _ _ _ _
    | with_reducible refine calm_bind (calm_underlying _) fun _ _ => ?_ | with_reducible refine calm_bind (calm_sizeOf _) fun _ _ => ?_ | with_reducible refine calm_bind (calm_typeInfo _) fun _ _ => ?_ | with_reducible refine calm_bind (calm_zeroValue _) fun _ _ => ?_
    | with_reducible refine calm_bind (calm_asIntOf _) fun _ _ => ?_ | with_reducible refine calm_bind (calm_asInt _) fun _ _ => ?_ | with_reducible refine calm_bind (calm_sureAddr _) fun _ _ => ?_ | with_reducible refine calm_bind (calm_asAddr _) fun _ _ => ?_ | with_reducible refine calm_bind (calm_asBool _) fun _ _ => ?_
    | with_reducible refine calm_bind (calm_choose _) fun _ _ => ?_ | with_reducible refine calm_bind (calm_map (calm_choose _)) fun _ _ => ?_ | with_reducible refine calm_bind (calm_askRoom _) fun _ _ => ?_ | with_reducible refine calm_bind (calm_newRow _ _) fun _ _ => ?_ | with_reducible refine calm_bind calm_program fun _ _ => ?_
    | with_reducible refine calm_bind (calm_ret (Q := fun _ => True) trivial) fun _ _ => ?_ | with_reducible refine calm_bind (Q := fun _ => False) calm_stuck fun _ h => h.elim | with_reducible refine calm_bind (Q := fun _ => False) calm_uns fun _ h => h.elim
    | with_reducible refine calm_bind (Q := fun _ => False) (calm_runtimePanic _) fun _ h => h.elim | with_reducible refine calm_bind (Q := fun _ => False) (calm_boundsPanic _ _ _ _) fun _ h => h.elim
    | split | dsimp only)
theorem calm_sliceBounds (b : Bool) (n c : Nat) (l h m : Option Value) : Calm P (fun _ => True) (Instr.sliceBounds b n c l h m) := by
  unfold Instr.sliceBounds
  repeat' (first
    | with_reducible exact calm_ret trivial | with_reducible exact calm_stuck | with_reducible exact calm_uns | with_reducible exact calm_panic | with_reducible exact calm_runtimePanic _ | with_reducible exact calm_boundsPanic _ _ _ _
    | with_reducible refine calm_bind (calm_underlying _) fun _ _ => ?_ | with_reducible refine calm_bind (calm_sizeOf _) fun _ _ => ?_ | with_reducible refine calm_bind (calm_typeInfo _) fun _ _ => ?_ | with_reducible refine calm_bind (calm_zeroValue _) fun _ _ => ?_
    | with_reducible refine calm_bind (calm_asIntOf _) fun _ _ => ?_ | with_reducible refine calm_bind (calm_asInt _) fun _ _ => ?_ | with_reducible refine calm_bind (calm_sureAddr _) fun _ _ => ?_ | with_reducible refine calm_bind (calm_asAddr _) fun _ _ => ?_ | with_reducible refine calm_bind (calm_asBool _) fun _ _ => ?_
    | with_reducible refine calm_bind (calm_choose _) fun _ _ => ?_ | with_reducible refine calm_bind (calm_map (calm_choose _)) fun _ _ => ?_ | with_reducible refine calm_bind (calm_askRoom _) fun _ _ => ?_ | with_reducible refine calm_bind (calm_newRow _ _) fun _ _ => ?_ | with_reducible refine calm_bind calm_program fun _ _ => ?_
    | with_reducible refine calm_bind (calm_sliceBound _ _ _) fun _ _ => ?_
    | with_reducible refine calm_bind (calm_ret (Q := fun _ => True) trivial) fun _ _ => ?_ | with_reducible refine calm_bind (Q := fun _ => False) calm_stuck fun _ h => h.elim | with_reducible refine calm_bind (Q := fun _ => False) calm_uns fun _ h => h.elim
    | with_reducible refine calm_bind (Q := fun _ => False) (calm_runtimePanic _) fun _ h => h.elim | with_reducible refine calm_bind (Q := fun _ => False) (calm_boundsPanic _ _ _ _) fun _ h => h.elim
    | split | dsimp only)
theorem calm_slice (t : TypeId) (x : Value) (l h m : Option Value) : Calm P (fun _ => True) (Instr.slice t x l h m) := by
  unfold Instr.slice
  repeat' (first
    | with_reducible exact calm_ret trivial | with_reducible exact calm_stuck | with_reducible exact calm_uns | with_reducible exact calm_panic | with_reducible exact calm_runtimePanic _ | with_reducible exact calm_boundsPanic _ _ _ _
    | with_reducible refine calm_bind (calm_underlying _) fun _ _ => ?_ | with_reducible refine calm_bind (calm_sizeOf _) fun _ _ => ?_ | with_reducible refine calm_bind (calm_typeInfo _) fun _ _ => ?_ | with_reducible refine calm_bind (calm_zeroValue _) fun _ _ => ?_
    | with_reducible refine calm_bind (calm_asIntOf _) fun _ _ => ?_ | with_reducible refine calm_bind (calm_asInt _) fun _ _ => ?_ | with_reducible refine calm_bind (calm_sureAddr _) fun _ _ => ?_ | with_reducible refine calm_bind (calm_asAddr _) fun _ _ => ?_ | with_reducible refine calm_bind (calm_asBool _) fun _ _ => ?_
    | with_reducible refine calm_bind (calm_choose _) fun _ _ => ?_ | with_reducible refine calm_bind (calm_map (calm_choose _)) fun _ _ => ?_ | with_reducible refine calm_bind (calm_askRoom _) fun _ _ => ?_ | with_reducible refine calm_bind (calm_newRow _ _) fun _ _ => ?_ | with_reducible refine calm_bind calm_program fun _ _ => ?_
    | with_reducible refine calm_bind (calm_sliceBounds _ _ _ _ _ _) fun _ _ => ?_
    | with_reducible refine calm_bind (calm_ret (Q := fun _ => True) trivial) fun _ _ => ?_ | with_reducible refine calm_bind (Q := fun _ => False) calm_stuck fun _ h => h.elim | with_reducible refine calm_bind (Q := fun _ => False) calm_uns fun _ h => h.elim
    | with_reducible refine calm_bind (Q := fun _ => False) (calm_runtimePanic _) fun _ h => h.elim | with_reducible refine calm_bind (Q := fun _ => False) (calm_boundsPanic _ _ _ _) fun _ h => h.elim
    | split | dsimp only)
theorem calm_sliceAt (t : TypeId) (x : Value) (l h m : Option Value) : Calm P (fun _ => True) (Instr.sliceAt t x l h m) := by
  unfold Instr.sliceAt
  repeat' (first
    | with_reducible exact calm_ret trivial | with_reducible exact calm_stuck | with_reducible exact calm_uns | with_reducible exact calm_panic | with_reducible exact calm_runtimePanic _ | with_reducible exact calm_boundsPanic _ _ _ _
    | with_reducible refine calm_bind (calm_underlying _) fun _ _ => ?_ | with_reducible refine calm_bind (calm_sizeOf _) fun _ _ => ?_ | with_reducible refine calm_bind (calm_typeInfo _) fun _ _ => ?_ | with_reducible refine calm_bind (calm_zeroValue _) fun _ _ => ?_
    | with_reducible refine calm_bind (calm_asIntOf _) fun _ _ => ?_ | with_reducible refine calm_bind (calm_asInt _) fun _ _ => ?_ | with_reducible refine calm_bind (calm_sureAddr _) fun _ _ => ?_ | with_reducible refine calm_bind (calm_asAddr _) fun _ _ => ?_ | with_reducible refine calm_bind (calm_asBool _) fun _ _ => ?_
    | with_reducible refine calm_bind (calm_choose _) fun _ _ => ?_ | with_reducible refine calm_bind (calm_map (calm_choose _)) fun _ _ => ?_ | with_reducible refine calm_bind (calm_askRoom _) fun _ _ => ?_ | with_reducible refine calm_bind (calm_newRow _ _) fun _ _ => ?_ | with_reducible refine calm_bind calm_program fun _ _ => ?_
    | with_reducible exact calm_slice _ _ _ _ _ | with_reducible refine calm_bind (calm_sliceBounds _ _ _ _ _ _) fun _ _ => ?_
    | with_reducible refine calm_bind (calm_ret (Q := fun _ => True) trivial) fun _ _ => ?_ | with_reducible refine calm_bind (Q := fun _ => False) calm_stuck fun _ h => h.elim | with_reducible refine calm_bind (Q := fun _ => False) calm_uns fun _ h => h.elim
    | with_reducible refine calm_bind (Q := fun _ => False) (calm_runtimePanic _) fun _ h => h.elim | with_reducible refine calm_bind (Q := fun _ => False) (calm_boundsPanic _ _ _ _) fun _ h => h.elim
    | split | dsimp only)
theorem calm_buildSlice (t : TypeId) (n : Nat) (ps : Array (Nat × Value)) : Calm P (fun _ => True) (Instr.buildSlice t n ps) := by
  unfold Instr.buildSlice
  repeat' (first
    | with_reducible exact calm_ret trivial | with_reducible exact calm_stuck | with_reducible exact calm_uns | with_reducible exact calm_panic | with_reducible exact calm_runtimePanic _ | with_reducible exact calm_boundsPanic _ _ _ _
    | with_reducible refine calm_bind (calm_underlying _) fun _ _ => ?_ | with_reducible refine calm_bind (calm_sizeOf _) fun _ _ => ?_ | with_reducible refine calm_bind (calm_typeInfo _) fun _ _ => ?_ | with_reducible refine calm_bind (calm_zeroValue _) fun _ _ => ?_
    | with_reducible refine calm_bind (calm_asIntOf _) fun _ _ => ?_ | with_reducible refine calm_bind (calm_asInt _) fun _ _ => ?_ | with_reducible refine calm_bind (calm_sureAddr _) fun _ _ => ?_ | with_reducible refine calm_bind (calm_asAddr _) fun _ _ => ?_ | with_reducible refine calm_bind (calm_asBool _) fun _ _ => ?_
    | with_reducible refine calm_bind (calm_choose _) fun _ _ => ?_ | with_reducible refine calm_bind (calm_map (calm_choose _)) fun _ _ => ?_ | with_reducible refine calm_bind (calm_askRoom _) fun _ _ => ?_ | with_reducible refine calm_bind (calm_newRow _ _) fun _ _ => ?_ | with_reducible refine calm_bind calm_program fun _ _ => ?_
    | with_reducible refine calm_bind (calm_ret (Q := fun _ => True) trivial) fun _ _ => ?_ | with_reducible refine calm_bind (Q := fun _ => False) calm_stuck fun _ h => h.elim | with_reducible refine calm_bind (Q := fun _ => False) calm_uns fun _ h => h.elim
    | with_reducible refine calm_bind (Q := fun _ => False) (calm_runtimePanic _) fun _ h => h.elim | with_reducible refine calm_bind (Q := fun _ => False) (calm_boundsPanic _ _ _ _) fun _ h => h.elim
    | split | dsimp only)
theorem calm_makeSlice (t : TypeId) (l c : Value) : Calm P (fun _ => True) (Instr.makeSlice t l c) := by
  unfold Instr.makeSlice
  repeat' (first
    | with_reducible exact calm_ret trivial | with_reducible exact calm_stuck | with_reducible exact calm_uns | with_reducible exact calm_panic | with_reducible exact calm_runtimePanic _ | with_reducible exact calm_boundsPanic _ _ _ _
    | with_reducible refine calm_bind (calm_underlying _) fun _ _ => ?_ | with_reducible refine calm_bind (calm_sizeOf _) fun _ _ => ?_ | with_reducible refine calm_bind (calm_typeInfo _) fun _ _ => ?_ | with_reducible refine calm_bind (calm_zeroValue _) fun _ _ => ?_
    | with_reducible refine calm_bind (calm_asIntOf _) fun _ _ => ?_ | with_reducible refine calm_bind (calm_asInt _) fun _ _ => ?_ | with_reducible refine calm_bind (calm_sureAddr _) fun _ _ => ?_ | with_reducible refine calm_bind (calm_asAddr _) fun _ _ => ?_ | with_reducible refine calm_bind (calm_asBool _) fun _ _ => ?_
    | with_reducible refine calm_bind (calm_choose _) fun _ _ => ?_ | with_reducible refine calm_bind (calm_map (calm_choose _)) fun _ _ => ?_ | with_reducible refine calm_bind (calm_askRoom _) fun _ _ => ?_ | with_reducible refine calm_bind (calm_newRow _ _) fun _ _ => ?_ | with_reducible refine calm_bind calm_program fun _ _ => ?_
    | with_reducible refine calm_bind (calm_ret (Q := fun _ => True) trivial) fun _ _ => ?_ | with_reducible refine calm_bind (Q := fun _ => False) calm_stuck fun _ h => h.elim | with_reducible refine calm_bind (Q := fun _ => False) calm_uns fun _ h => h.elim
    | with_reducible refine calm_bind (Q := fun _ => False) (calm_runtimePanic _) fun _ h => h.elim | with_reducible refine calm_bind (Q := fun _ => False) (calm_boundsPanic _ _ _ _) fun _ h => h.elim
    | split | dsimp only)
end
end Go.Proofs.Ytehmobcfbifocaa
/-
  Which of the model's meanings are calm: numbers, addresses. Nothing of a program. Made by gen_calm12.py.
-/
namespace Go.Proofs.Ytehmobcfbifocaa
open Go Go.Conc

section
variable {P : Program} {α β : Type} {Q : α → Prop} {Q' : β → Prop}
theorem calm_of_dead {s : Sem α} (h : Dead P s) : Calm P Q s := by
  induction h with
  | stuck => exact .halt trivial
  | unsupported => exact .halt trivial
  | program _ ih => exact .program ih
  | shape h ih => exact .shape ih fun e n => .inr (h _)
  | frozen _ ih => exact .frozen ih
  | room _ ih => exact .room ih
theorem calm_viewAt (r : Nat) : Calm P (fun _ => True) (viewAt r) :=
  .shape (fun s => by
    cases s with
    | none => exact .getObj fun o => by cases o <;> exact .pure trivial
    | some p => exact .pure trivial) fun e n => .inl rfl
theorem calm_numberAt (r : Nat) : Calm P (fun _ => True) (numberAt r) :=
  .shape (fun s => by
    cases s with
    | none => exact .getObj fun o => by cases o <;> exact .pure trivial
    | some p => exact .pure trivial) fun e n => .inl rfl
theorem calm_behindNumber (a : Addr) : Calm P (fun _ => True) (behindNumber a) := calm_bind (calm_numberAt _) fun _ _ => calm_ret trivial
theorem calm_asNumber (a : Addr) (b : Bool) : Calm P (fun _ => True) (asNumber a b) := calm_bind (calm_new _) fun _ _ => calm_ret trivial
theorem calm_noView (a : Addr) : Calm P (fun _ => True) (noView a) := by
  unfold noView
  repeat' (first
    | with_reducible exact calm_ret trivial | with_reducible exact calm_stuck | with_reducible exact calm_uns | with_reducible exact calm_panic | with_reducible exact calm_runtimePanic _ | with_reducible exact calm_boundsPanic _ _ _ _
    | with_reducible refine calm_bind (calm_underlying _) fun _ _ => ?_ | with_reducible refine calm_bind (calm_sizeOf _) fun _ _ => ?_ | with_reducible refine calm_bind (calm_typeInfo _) fun _ _ => ?_ | with_reducible refine calm_bind (calm_zeroValue _) fun _ _ => ?_
    | with_reducible refine calm_bind (calm_asIntOf _) fun _ _ => ?_ | with_reducible refine calm_bind (calm_asInt _) fun _ _ => ?_ | with_reducible refine calm_bind (calm_sureAddr _) fun _ _ => ?_ | with_reducible refine calm_bind (calm_asAddr _) fun _ _ => ?_ | with_reducible refine calm_bind (calm_asBool _) fun _ _ => ?_
    | with_reducible refine calm_bind (calm_choose _) fun _ _ => ?_ | with_reducible refine calm_bind (calm_map (calm_choose _)) fun _ _ => ?_ | with_reducible refine calm_bind (calm_askRoom _) fun _ _ => ?_ | with_reducible refine calm_bind (calm_newRow _ _) fun _ _ => ?_ | with_reducible refine calm_bind calm_program fun _ _ => ?_
    | with_reducible refine calm_bind (calm_viewAt _) fun _ _ => ?_
    | with_reducible refine calm_bind (calm_ret (Q := fun _ => True) trivial) fun _ _ => ?_ | with_reducible refine calm_bind (Q := fun _ => False) calm_stuck fun _ h => h.elim | with_reducible refine calm_bind (Q := fun _ => False) calm_uns fun _ h => h.elim
    | with_reducible refine calm_bind (Q := fun _ => False) (calm_runtimePanic _) fun _ h => h.elim | with_reducible refine calm_bind (Q := fun _ => False) (calm_boundsPanic _ _ _ _) fun _ h => h.elim
    | split | dsimp only)
/-- A row's shape, of which the length is not asked. -/
theorem calm_shape1 {r : Nat} {f : Option (TypeId × Nat) → Sem α} (h : ∀ s, Calm P Q (f s)) (hb : ∀ e n, f (some (e, 0)) = f (some (e, n)) ∨ Dead P (f (some (e, 0)))) : Calm P Q (shape r >>= f) := .shape h hb
theorem calm_byteOf (a : Addr) : Calm P (fun _ => True) (byteOf a) := by
  unfold byteOf
  split
  · exact calm_ret trivial
  · refine calm_bind calm_program fun p _ => ?_
    refine calm_bind (calm_noView a) fun _ _ => ?_
    refine calm_shape1 (fun s => ?_) fun e n => .inl rfl
    split
    · dsimp only
      split
      · exact calm_ret trivial
      · split
        · exact calm_ret trivial
        · exact calm_stuck
    · exact calm_stuck
theorem calm_twoPlaces (a b : Addr) : Calm P (fun _ => True) (Op.twoPlaces a b) := by
  unfold Op.twoPlaces
  repeat' (first
    | with_reducible exact calm_ret trivial | with_reducible exact calm_stuck | with_reducible exact calm_uns | with_reducible exact calm_panic | with_reducible exact calm_runtimePanic _ | with_reducible exact calm_boundsPanic _ _ _ _
    | with_reducible refine calm_bind (calm_underlying _) fun _ _ => ?_ | with_reducible refine calm_bind (calm_sizeOf _) fun _ _ => ?_ | with_reducible refine calm_bind (calm_typeInfo _) fun _ _ => ?_ | with_reducible refine calm_bind (calm_zeroValue _) fun _ _ => ?_
    | with_reducible refine calm_bind (calm_asIntOf _) fun _ _ => ?_ | with_reducible refine calm_bind (calm_asInt _) fun _ _ => ?_ | with_reducible refine calm_bind (calm_sureAddr _) fun _ _ => ?_ | with_reducible refine calm_bind (calm_asAddr _) fun _ _ => ?_ | with_reducible refine calm_bind (calm_asBool _) fun _ _ => ?_
    | with_reducible refine calm_bind (calm_choose _) fun _ _ => ?_ | with_reducible refine calm_bind (calm_map (calm_choose _)) fun _ _ => ?_ | with_reducible refine calm_bind (calm_askRoom _) fun _ _ => ?_ | with_reducible refine calm_bind (calm_newRow _ _) fun _ _ => ?_ | with_reducible refine calm_bind calm_program fun _ _ => ?_
    | with_reducible refine calm_bind (calm_byteOf _) fun _ _ => ?_
    | with_reducible refine calm_bind (calm_ret (Q := fun _ => True) trivial) fun _ _ => ?_ | with_reducible refine calm_bind (Q := fun _ => False) calm_stuck fun _ h => h.elim | with_reducible refine calm_bind (Q := fun _ => False) calm_uns fun _ h => h.elim
    | with_reducible refine calm_bind (Q := fun _ => False) (calm_runtimePanic _) fun _ h => h.elim | with_reducible refine calm_bind (Q := fun _ => False) (calm_boundsPanic _ _ _ _) fun _ h => h.elim
    | split | dsimp only)
theorem calm_addrSub (k : IntKind) (a b : Addr) : Calm P (fun _ => True) (Op.addrSub k a b) := by
  unfold Op.addrSub
  repeat' (first
    | with_reducible exact calm_ret trivial | with_reducible exact calm_stuck | with_reducible exact calm_uns | with_reducible exact calm_panic | with_reducible exact calm_runtimePanic _ | with_reducible exact calm_boundsPanic _ _ _ _
    | with_reducible refine calm_bind (calm_underlying _) fun _ _ => ?_ | with_reducible refine calm_bind (calm_sizeOf _) fun _ _ => ?_ | with_reducible refine calm_bind (calm_typeInfo _) fun _ _ => ?_ | with_reducible refine calm_bind (calm_zeroValue _) fun _ _ => ?_
    | with_reducible refine calm_bind (calm_asIntOf _) fun _ _ => ?_ | with_reducible refine calm_bind (calm_asInt _) fun _ _ => ?_ | with_reducible refine calm_bind (calm_sureAddr _) fun _ _ => ?_ | with_reducible refine calm_bind (calm_asAddr _) fun _ _ => ?_ | with_reducible refine calm_bind (calm_asBool _) fun _ _ => ?_
    | with_reducible refine calm_bind (calm_choose _) fun _ _ => ?_ | with_reducible refine calm_bind (calm_map (calm_choose _)) fun _ _ => ?_ | with_reducible refine calm_bind (calm_askRoom _) fun _ _ => ?_ | with_reducible refine calm_bind (calm_newRow _ _) fun _ _ => ?_ | with_reducible refine calm_bind calm_program fun _ _ => ?_
    | with_reducible refine calm_bind (calm_twoPlaces _ _) fun _ _ => ?_
    | with_reducible refine calm_bind (calm_ret (Q := fun _ => True) trivial) fun _ _ => ?_ | with_reducible refine calm_bind (Q := fun _ => False) calm_stuck fun _ h => h.elim | with_reducible refine calm_bind (Q := fun _ => False) calm_uns fun _ h => h.elim
    | with_reducible refine calm_bind (Q := fun _ => False) (calm_runtimePanic _) fun _ h => h.elim | with_reducible refine calm_bind (Q := fun _ => False) (calm_boundsPanic _ _ _ _) fun _ h => h.elim
    | split | dsimp only)
theorem calm_addrCmp (op : BinOp) (a b : Addr) : Calm P (fun _ => True) (Op.addrCmp op a b) := by
  unfold Op.addrCmp
  repeat' (first
    | with_reducible exact calm_ret trivial | with_reducible exact calm_stuck | with_reducible exact calm_uns | with_reducible exact calm_panic | with_reducible exact calm_runtimePanic _ | with_reducible exact calm_boundsPanic _ _ _ _
    | with_reducible refine calm_bind (calm_underlying _) fun _ _ => ?_ | with_reducible refine calm_bind (calm_sizeOf _) fun _ _ => ?_ | with_reducible refine calm_bind (calm_typeInfo _) fun _ _ => ?_ | with_reducible refine calm_bind (calm_zeroValue _) fun _ _ => ?_
    | with_reducible refine calm_bind (calm_asIntOf _) fun _ _ => ?_ | with_reducible refine calm_bind (calm_asInt _) fun _ _ => ?_ | with_reducible refine calm_bind (calm_sureAddr _) fun _ _ => ?_ | with_reducible refine calm_bind (calm_asAddr _) fun _ _ => ?_ | with_reducible refine calm_bind (calm_asBool _) fun _ _ => ?_
    | with_reducible refine calm_bind (calm_choose _) fun _ _ => ?_ | with_reducible refine calm_bind (calm_map (calm_choose _)) fun _ _ => ?_ | with_reducible refine calm_bind (calm_askRoom _) fun _ _ => ?_ | with_reducible refine calm_bind (calm_newRow _ _) fun _ _ => ?_ | with_reducible refine calm_bind calm_program fun _ _ => ?_
    | with_reducible refine calm_bind (calm_twoPlaces _ _) fun _ _ => ?_
    | with_reducible refine calm_bind (calm_ret (Q := fun _ => True) trivial) fun _ _ => ?_ | with_reducible refine calm_bind (Q := fun _ => False) calm_stuck fun _ h => h.elim | with_reducible refine calm_bind (Q := fun _ => False) calm_uns fun _ h => h.elim
    | with_reducible refine calm_bind (Q := fun _ => False) (calm_runtimePanic _) fun _ h => h.elim | with_reducible refine calm_bind (Q := fun _ => False) (calm_boundsPanic _ _ _ _) fun _ h => h.elim
    | split | dsimp only)
theorem calm_addrMod (k : IntKind) (a : Addr) (n : Int) : Calm P (fun _ => True) (Op.addrMod k a n) := by
  unfold Op.addrMod
  refine calm_shape1 (fun s => ?_) fun e n => .inl rfl
  repeat' (first
    | with_reducible exact calm_ret trivial | with_reducible exact calm_stuck | with_reducible exact calm_uns | with_reducible exact calm_panic | with_reducible exact calm_runtimePanic _ | with_reducible exact calm_boundsPanic _ _ _ _
    | with_reducible refine calm_bind (calm_underlying _) fun _ _ => ?_ | with_reducible refine calm_bind (calm_sizeOf _) fun _ _ => ?_ | with_reducible refine calm_bind (calm_typeInfo _) fun _ _ => ?_ | with_reducible refine calm_bind (calm_zeroValue _) fun _ _ => ?_
    | with_reducible refine calm_bind (calm_asIntOf _) fun _ _ => ?_ | with_reducible refine calm_bind (calm_asInt _) fun _ _ => ?_ | with_reducible refine calm_bind (calm_sureAddr _) fun _ _ => ?_ | with_reducible refine calm_bind (calm_asAddr _) fun _ _ => ?_ | with_reducible refine calm_bind (calm_asBool _) fun _ _ => ?_
    | with_reducible refine calm_bind (calm_choose _) fun _ _ => ?_ | with_reducible refine calm_bind (calm_map (calm_choose _)) fun _ _ => ?_ | with_reducible refine calm_bind (calm_askRoom _) fun _ _ => ?_ | with_reducible refine calm_bind (calm_newRow _ _) fun _ _ => ?_ | with_reducible refine calm_bind calm_program fun _ _ => ?_
    | with_reducible refine calm_bind (calm_byteOf _) fun _ _ => ?_
    | with_reducible refine calm_bind (calm_ret (Q := fun _ => True) trivial) fun _ _ => ?_ | with_reducible refine calm_bind (Q := fun _ => False) calm_stuck fun _ h => h.elim | with_reducible refine calm_bind (Q := fun _ => False) calm_uns fun _ h => h.elim
    | with_reducible refine calm_bind (Q := fun _ => False) (calm_runtimePanic _) fun _ h => h.elim | with_reducible refine calm_bind (Q := fun _ => False) (calm_boundsPanic _ _ _ _) fun _ h => h.elim
    | split | dsimp only)
theorem cellAt_none {p : Program} {d : Nat} {e : TypeId} {off : Nat} {n : Int} (m : Nat) (hm : m = 0) : cellAtBytes p d e m off n = none := by
  subst hm
  unfold cellAtBytes
  simp only [Option.bind_eq_bind, Nat.zero_mul]
  split
  · rfl
  · cases byteOfCell p d e (off % p.cellsOf e) with
    | none => rfl
    | some here =>
      simp only [Option.bind_some]
      rw [if_pos]
      · rfl
      · simp only [Bool.or_eq_true, decide_eq_true_eq]
        rcases Int.lt_or_le (Int.ofNat (off / p.cellsOf e * p.bytesOf e + here) + n) 0 with h | h
        · exact .inl h
        · exact .inr h
theorem calm_unsafeAdd (ts : Array TypeId) (t : TypeId) (x y : Value) : Calm P (fun _ => True) (Builtin.unsafeAdd_ ts t #[x, y]) := by
  cases x <;> (unfold Builtin.unsafeAdd_; dsimp only)
  case pointer ptr =>
    refine calm_bind (calm_asInt _) fun n _ => ?_
    split
    · repeat' (first
        | with_reducible exact calm_ret trivial | with_reducible exact calm_stuck | with_reducible exact calm_uns | with_reducible exact calm_panic | with_reducible exact calm_runtimePanic _ | with_reducible exact calm_boundsPanic _ _ _ _
        | with_reducible refine calm_bind (calm_underlying _) fun _ _ => ?_ | with_reducible refine calm_bind (calm_sizeOf _) fun _ _ => ?_ | with_reducible refine calm_bind (calm_typeInfo _) fun _ _ => ?_ | with_reducible refine calm_bind (calm_zeroValue _) fun _ _ => ?_
        | with_reducible refine calm_bind (calm_asIntOf _) fun _ _ => ?_ | with_reducible refine calm_bind (calm_asInt _) fun _ _ => ?_ | with_reducible refine calm_bind (calm_sureAddr _) fun _ _ => ?_ | with_reducible refine calm_bind (calm_asAddr _) fun _ _ => ?_ | with_reducible refine calm_bind (calm_asBool _) fun _ _ => ?_
        | with_reducible refine calm_bind (calm_choose _) fun _ _ => ?_ | with_reducible refine calm_bind (calm_map (calm_choose _)) fun _ _ => ?_ | with_reducible refine calm_bind (calm_askRoom _) fun _ _ => ?_ | with_reducible refine calm_bind (calm_newRow _ _) fun _ _ => ?_ | with_reducible refine calm_bind calm_program fun _ _ => ?_
        | with_reducible refine calm_bind (calm_viewAt _) fun _ _ => ?_
        | with_reducible refine calm_bind (calm_ret (Q := fun _ => True) trivial) fun _ _ => ?_ | with_reducible refine calm_bind (Q := fun _ => False) calm_stuck fun _ h => h.elim | with_reducible refine calm_bind (Q := fun _ => False) calm_uns fun _ h => h.elim
        | with_reducible refine calm_bind (Q := fun _ => False) (calm_runtimePanic _) fun _ h => h.elim | with_reducible refine calm_bind (Q := fun _ => False) (calm_boundsPanic _ _ _ _) fun _ h => h.elim
        | split | dsimp only)
    · have hsh : ∀ a : Addr, Calm P (fun _ => True) (do
          let __x ← shape a.block
          match __x with
            | some (e, cells) => do
              let p ← program
              match cellAtBytes p p.depth e (cells / p.cellsOf e) a.off n with
                | some off => pure (Value.pointer (some { block := a.block, off := off, spot := a.spot }))
                | none => unsupported (Unsupported.unsafePointer "Add")
            | _ => unsupported (Unsupported.unsafePointer "Add")) := fun a => by
        refine calm_shape1 (fun s => ?_) fun e m => .inr ?_
        · split
          · refine calm_bind calm_program fun p _ => ?_
            split
            · exact calm_ret trivial
            · exact calm_uns
          · exact calm_uns
        · refine .program ?_
          have h0 : cellAtBytes P P.depth e (0 / P.cellsOf e) a.off n = none := cellAt_none _ (Nat.zero_div _)
          simp only [Sem.bind, h0]
          exact .unsupported
      split
      · exact calm_bind (Q := fun _ => False) calm_uns fun _ h => h.elim
      · split
        · exact hsh _
        · exact calm_uns
  all_goals exact calm_stuck
theorem calm_movedPointer (t : TypeId) (x y : Value) : Calm P (fun _ => True) (movedPointer t x y) := by
  unfold movedPointer
  repeat' (first
    | with_reducible exact calm_ret trivial | with_reducible exact calm_stuck | with_reducible exact calm_uns | with_reducible exact calm_panic | with_reducible exact calm_runtimePanic _ | with_reducible exact calm_boundsPanic _ _ _ _
    | with_reducible refine calm_bind (calm_underlying _) fun _ _ => ?_ | with_reducible refine calm_bind (calm_sizeOf _) fun _ _ => ?_ | with_reducible refine calm_bind (calm_typeInfo _) fun _ _ => ?_ | with_reducible refine calm_bind (calm_zeroValue _) fun _ _ => ?_
    | with_reducible refine calm_bind (calm_asIntOf _) fun _ _ => ?_ | with_reducible refine calm_bind (calm_asInt _) fun _ _ => ?_ | with_reducible refine calm_bind (calm_sureAddr _) fun _ _ => ?_ | with_reducible refine calm_bind (calm_asAddr _) fun _ _ => ?_ | with_reducible refine calm_bind (calm_asBool _) fun _ _ => ?_
    | with_reducible refine calm_bind (calm_choose _) fun _ _ => ?_ | with_reducible refine calm_bind (calm_map (calm_choose _)) fun _ _ => ?_ | with_reducible refine calm_bind (calm_askRoom _) fun _ _ => ?_ | with_reducible refine calm_bind (calm_newRow _ _) fun _ _ => ?_ | with_reducible refine calm_bind calm_program fun _ _ => ?_
    | with_reducible refine calm_bind (calm_numberAt _) fun _ _ => ?_
    | with_reducible exact calm_unsafeAdd _ _ _ _
    | with_reducible refine calm_bind (calm_ret (Q := fun _ => True) trivial) fun _ _ => ?_ | with_reducible refine calm_bind (Q := fun _ => False) calm_stuck fun _ h => h.elim | with_reducible refine calm_bind (Q := fun _ => False) calm_uns fun _ h => h.elim
    | with_reducible refine calm_bind (Q := fun _ => False) (calm_runtimePanic _) fun _ h => h.elim | with_reducible refine calm_bind (Q := fun _ => False) (calm_boundsPanic _ _ _ _) fun _ h => h.elim
    | split | dsimp only)
theorem calm_movedNumber (t : TypeId) (x y : Value) : Calm P (fun _ => True) (movedNumber t x y) := by
  unfold movedNumber
  repeat' (first
    | with_reducible exact calm_ret trivial | with_reducible exact calm_stuck | with_reducible exact calm_uns | with_reducible exact calm_panic | with_reducible exact calm_runtimePanic _ | with_reducible exact calm_boundsPanic _ _ _ _
    | with_reducible refine calm_bind (calm_underlying _) fun _ _ => ?_ | with_reducible refine calm_bind (calm_sizeOf _) fun _ _ => ?_ | with_reducible refine calm_bind (calm_typeInfo _) fun _ _ => ?_ | with_reducible refine calm_bind (calm_zeroValue _) fun _ _ => ?_
    | with_reducible refine calm_bind (calm_asIntOf _) fun _ _ => ?_ | with_reducible refine calm_bind (calm_asInt _) fun _ _ => ?_ | with_reducible refine calm_bind (calm_sureAddr _) fun _ _ => ?_ | with_reducible refine calm_bind (calm_asAddr _) fun _ _ => ?_ | with_reducible refine calm_bind (calm_asBool _) fun _ _ => ?_
    | with_reducible refine calm_bind (calm_choose _) fun _ _ => ?_ | with_reducible refine calm_bind (calm_map (calm_choose _)) fun _ _ => ?_ | with_reducible refine calm_bind (calm_askRoom _) fun _ _ => ?_ | with_reducible refine calm_bind (calm_newRow _ _) fun _ _ => ?_ | with_reducible refine calm_bind calm_program fun _ _ => ?_
    | with_reducible refine calm_bind (calm_behindNumber _) fun _ _ => ?_
    | with_reducible refine calm_bind (calm_unsafeAdd _ _ _ _) fun _ _ => ?_
    | with_reducible exact calm_unsafeAdd _ _ _ _
    | with_reducible exact calm_asNumber _ _
    | with_reducible refine calm_bind (calm_ret (Q := fun _ => True) trivial) fun _ _ => ?_ | with_reducible refine calm_bind (Q := fun _ => False) calm_stuck fun _ h => h.elim | with_reducible refine calm_bind (Q := fun _ => False) calm_uns fun _ h => h.elim
    | with_reducible refine calm_bind (Q := fun _ => False) (calm_runtimePanic _) fun _ h => h.elim | with_reducible refine calm_bind (Q := fun _ => False) (calm_boundsPanic _ _ _ _) fun _ h => h.elim
    | split | dsimp only)
theorem calm_intArith (op : BinOp) (k : IntKind) (x y : Int) : Calm P (fun _ => True) (Op.intArith op k x y) := by
  unfold Op.intArith
  repeat' (first
    | with_reducible exact calm_ret trivial | with_reducible exact calm_stuck | with_reducible exact calm_uns | with_reducible exact calm_panic | with_reducible exact calm_runtimePanic _ | with_reducible exact calm_boundsPanic _ _ _ _
    | with_reducible refine calm_bind (calm_underlying _) fun _ _ => ?_ | with_reducible refine calm_bind (calm_sizeOf _) fun _ _ => ?_ | with_reducible refine calm_bind (calm_typeInfo _) fun _ _ => ?_ | with_reducible refine calm_bind (calm_zeroValue _) fun _ _ => ?_
    | with_reducible refine calm_bind (calm_asIntOf _) fun _ _ => ?_ | with_reducible refine calm_bind (calm_asInt _) fun _ _ => ?_ | with_reducible refine calm_bind (calm_sureAddr _) fun _ _ => ?_ | with_reducible refine calm_bind (calm_asAddr _) fun _ _ => ?_ | with_reducible refine calm_bind (calm_asBool _) fun _ _ => ?_
    | with_reducible refine calm_bind (calm_choose _) fun _ _ => ?_ | with_reducible refine calm_bind (calm_map (calm_choose _)) fun _ _ => ?_ | with_reducible refine calm_bind (calm_askRoom _) fun _ _ => ?_ | with_reducible refine calm_bind (calm_newRow _ _) fun _ _ => ?_ | with_reducible refine calm_bind calm_program fun _ _ => ?_
    | with_reducible refine calm_bind (calm_ret (Q := fun _ => True) trivial) fun _ _ => ?_ | with_reducible refine calm_bind (Q := fun _ => False) calm_stuck fun _ h => h.elim | with_reducible refine calm_bind (Q := fun _ => False) calm_uns fun _ h => h.elim
    | with_reducible refine calm_bind (Q := fun _ => False) (calm_runtimePanic _) fun _ h => h.elim | with_reducible refine calm_bind (Q := fun _ => False) (calm_boundsPanic _ _ _ _) fun _ h => h.elim
    | split | dsimp only)
theorem calm_intDiv (op : BinOp) (k : IntKind) (x y : Int) : Calm P (fun _ => True) (Op.intDiv op k x y) := by
  unfold Op.intDiv
  repeat' (first
    | with_reducible exact calm_ret trivial | with_reducible exact calm_stuck | with_reducible exact calm_uns | with_reducible exact calm_panic | with_reducible exact calm_runtimePanic _ | with_reducible exact calm_boundsPanic _ _ _ _
    | with_reducible refine calm_bind (calm_underlying _) fun _ _ => ?_ | with_reducible refine calm_bind (calm_sizeOf _) fun _ _ => ?_ | with_reducible refine calm_bind (calm_typeInfo _) fun _ _ => ?_ | with_reducible refine calm_bind (calm_zeroValue _) fun _ _ => ?_
    | with_reducible refine calm_bind (calm_asIntOf _) fun _ _ => ?_ | with_reducible refine calm_bind (calm_asInt _) fun _ _ => ?_ | with_reducible refine calm_bind (calm_sureAddr _) fun _ _ => ?_ | with_reducible refine calm_bind (calm_asAddr _) fun _ _ => ?_ | with_reducible refine calm_bind (calm_asBool _) fun _ _ => ?_
    | with_reducible refine calm_bind (calm_choose _) fun _ _ => ?_ | with_reducible refine calm_bind (calm_map (calm_choose _)) fun _ _ => ?_ | with_reducible refine calm_bind (calm_askRoom _) fun _ _ => ?_ | with_reducible refine calm_bind (calm_newRow _ _) fun _ _ => ?_ | with_reducible refine calm_bind calm_program fun _ _ => ?_
    | with_reducible refine calm_bind (calm_ret (Q := fun _ => True) trivial) fun _ _ => ?_ | with_reducible refine calm_bind (Q := fun _ => False) calm_stuck fun _ h => h.elim | with_reducible refine calm_bind (Q := fun _ => False) calm_uns fun _ h => h.elim
    | with_reducible refine calm_bind (Q := fun _ => False) (calm_runtimePanic _) fun _ h => h.elim | with_reducible refine calm_bind (Q := fun _ => False) (calm_boundsPanic _ _ _ _) fun _ h => h.elim
    | split | dsimp only)
theorem calm_intBits (op : BinOp) (k : IntKind) (x y : Int) : Calm P (fun _ => True) (Op.intBits op k x y) := by
  unfold Op.intBits
  repeat' (first
    | with_reducible exact calm_ret trivial | with_reducible exact calm_stuck | with_reducible exact calm_uns | with_reducible exact calm_panic | with_reducible exact calm_runtimePanic _ | with_reducible exact calm_boundsPanic _ _ _ _
    | with_reducible refine calm_bind (calm_underlying _) fun _ _ => ?_ | with_reducible refine calm_bind (calm_sizeOf _) fun _ _ => ?_ | with_reducible refine calm_bind (calm_typeInfo _) fun _ _ => ?_ | with_reducible refine calm_bind (calm_zeroValue _) fun _ _ => ?_
    | with_reducible refine calm_bind (calm_asIntOf _) fun _ _ => ?_ | with_reducible refine calm_bind (calm_asInt _) fun _ _ => ?_ | with_reducible refine calm_bind (calm_sureAddr _) fun _ _ => ?_ | with_reducible refine calm_bind (calm_asAddr _) fun _ _ => ?_ | with_reducible refine calm_bind (calm_asBool _) fun _ _ => ?_
    | with_reducible refine calm_bind (calm_choose _) fun _ _ => ?_ | with_reducible refine calm_bind (calm_map (calm_choose _)) fun _ _ => ?_ | with_reducible refine calm_bind (calm_askRoom _) fun _ _ => ?_ | with_reducible refine calm_bind (calm_newRow _ _) fun _ _ => ?_ | with_reducible refine calm_bind calm_program fun _ _ => ?_
    | with_reducible refine calm_bind (calm_ret (Q := fun _ => True) trivial) fun _ _ => ?_ | with_reducible refine calm_bind (Q := fun _ => False) calm_stuck fun _ h => h.elim | with_reducible refine calm_bind (Q := fun _ => False) calm_uns fun _ h => h.elim
    | with_reducible refine calm_bind (Q := fun _ => False) (calm_runtimePanic _) fun _ h => h.elim | with_reducible refine calm_bind (Q := fun _ => False) (calm_boundsPanic _ _ _ _) fun _ h => h.elim
    | split | dsimp only)
theorem calm_intCmp (op : BinOp) (x y : Int) : Calm P (fun _ => True) (Op.intCmp op x y) := by
  unfold Op.intCmp
  repeat' (first
    | with_reducible exact calm_ret trivial | with_reducible exact calm_stuck | with_reducible exact calm_uns | with_reducible exact calm_panic | with_reducible exact calm_runtimePanic _ | with_reducible exact calm_boundsPanic _ _ _ _
    | with_reducible refine calm_bind (calm_underlying _) fun _ _ => ?_ | with_reducible refine calm_bind (calm_sizeOf _) fun _ _ => ?_ | with_reducible refine calm_bind (calm_typeInfo _) fun _ _ => ?_ | with_reducible refine calm_bind (calm_zeroValue _) fun _ _ => ?_
    | with_reducible refine calm_bind (calm_asIntOf _) fun _ _ => ?_ | with_reducible refine calm_bind (calm_asInt _) fun _ _ => ?_ | with_reducible refine calm_bind (calm_sureAddr _) fun _ _ => ?_ | with_reducible refine calm_bind (calm_asAddr _) fun _ _ => ?_ | with_reducible refine calm_bind (calm_asBool _) fun _ _ => ?_
    | with_reducible refine calm_bind (calm_choose _) fun _ _ => ?_ | with_reducible refine calm_bind (calm_map (calm_choose _)) fun _ _ => ?_ | with_reducible refine calm_bind (calm_askRoom _) fun _ _ => ?_ | with_reducible refine calm_bind (calm_newRow _ _) fun _ _ => ?_ | with_reducible refine calm_bind calm_program fun _ _ => ?_
    | with_reducible refine calm_bind (calm_ret (Q := fun _ => True) trivial) fun _ _ => ?_ | with_reducible refine calm_bind (Q := fun _ => False) calm_stuck fun _ h => h.elim | with_reducible refine calm_bind (Q := fun _ => False) calm_uns fun _ h => h.elim
    | with_reducible refine calm_bind (Q := fun _ => False) (calm_runtimePanic _) fun _ h => h.elim | with_reducible refine calm_bind (Q := fun _ => False) (calm_boundsPanic _ _ _ _) fun _ h => h.elim
    | split | dsimp only)
theorem calm_shift (op : BinOp) (k : IntKind) (x : Int) (yk : IntKind) (y : Int) : Calm P (fun _ => True) (Op.shift op k x yk y) := by
  unfold Op.shift
  repeat' (first
    | with_reducible exact calm_ret trivial | with_reducible exact calm_stuck | with_reducible exact calm_uns | with_reducible exact calm_panic | with_reducible exact calm_runtimePanic _ | with_reducible exact calm_boundsPanic _ _ _ _
    | with_reducible refine calm_bind (calm_underlying _) fun _ _ => ?_ | with_reducible refine calm_bind (calm_sizeOf _) fun _ _ => ?_ | with_reducible refine calm_bind (calm_typeInfo _) fun _ _ => ?_ | with_reducible refine calm_bind (calm_zeroValue _) fun _ _ => ?_
    | with_reducible refine calm_bind (calm_asIntOf _) fun _ _ => ?_ | with_reducible refine calm_bind (calm_asInt _) fun _ _ => ?_ | with_reducible refine calm_bind (calm_sureAddr _) fun _ _ => ?_ | with_reducible refine calm_bind (calm_asAddr _) fun _ _ => ?_ | with_reducible refine calm_bind (calm_asBool _) fun _ _ => ?_
    | with_reducible refine calm_bind (calm_choose _) fun _ _ => ?_ | with_reducible refine calm_bind (calm_map (calm_choose _)) fun _ _ => ?_ | with_reducible refine calm_bind (calm_askRoom _) fun _ _ => ?_ | with_reducible refine calm_bind (calm_newRow _ _) fun _ _ => ?_ | with_reducible refine calm_bind calm_program fun _ _ => ?_
    | with_reducible refine calm_bind (calm_ret (Q := fun _ => True) trivial) fun _ _ => ?_ | with_reducible refine calm_bind (Q := fun _ => False) calm_stuck fun _ h => h.elim | with_reducible refine calm_bind (Q := fun _ => False) calm_uns fun _ h => h.elim
    | with_reducible refine calm_bind (Q := fun _ => False) (calm_runtimePanic _) fun _ h => h.elim | with_reducible refine calm_bind (Q := fun _ => False) (calm_boundsPanic _ _ _ _) fun _ h => h.elim
    | split | dsimp only)
theorem calm_floatArith (op : BinOp) (k : FloatKind) (x y : Nat) : Calm P (fun _ => True) (Op.floatArith op k x y) := by
  unfold Op.floatArith
  repeat' (first
    | with_reducible exact calm_ret trivial | with_reducible exact calm_stuck | with_reducible exact calm_uns | with_reducible exact calm_panic | with_reducible exact calm_runtimePanic _ | with_reducible exact calm_boundsPanic _ _ _ _
    | with_reducible refine calm_bind (calm_underlying _) fun _ _ => ?_ | with_reducible refine calm_bind (calm_sizeOf _) fun _ _ => ?_ | with_reducible refine calm_bind (calm_typeInfo _) fun _ _ => ?_ | with_reducible refine calm_bind (calm_zeroValue _) fun _ _ => ?_
    | with_reducible refine calm_bind (calm_asIntOf _) fun _ _ => ?_ | with_reducible refine calm_bind (calm_asInt _) fun _ _ => ?_ | with_reducible refine calm_bind (calm_sureAddr _) fun _ _ => ?_ | with_reducible refine calm_bind (calm_asAddr _) fun _ _ => ?_ | with_reducible refine calm_bind (calm_asBool _) fun _ _ => ?_
    | with_reducible refine calm_bind (calm_choose _) fun _ _ => ?_ | with_reducible refine calm_bind (calm_map (calm_choose _)) fun _ _ => ?_ | with_reducible refine calm_bind (calm_askRoom _) fun _ _ => ?_ | with_reducible refine calm_bind (calm_newRow _ _) fun _ _ => ?_ | with_reducible refine calm_bind calm_program fun _ _ => ?_
    | with_reducible refine calm_bind (calm_ret (Q := fun _ => True) trivial) fun _ _ => ?_ | with_reducible refine calm_bind (Q := fun _ => False) calm_stuck fun _ h => h.elim | with_reducible refine calm_bind (Q := fun _ => False) calm_uns fun _ h => h.elim
    | with_reducible refine calm_bind (Q := fun _ => False) (calm_runtimePanic _) fun _ h => h.elim | with_reducible refine calm_bind (Q := fun _ => False) (calm_boundsPanic _ _ _ _) fun _ h => h.elim
    | split | dsimp only)
theorem calm_floatCmp (op : BinOp) (k : FloatKind) (x y : Nat) : Calm P (fun _ => True) (Op.floatCmp op k x y) := by
  unfold Op.floatCmp
  repeat' (first
    | with_reducible exact calm_ret trivial | with_reducible exact calm_stuck | with_reducible exact calm_uns | with_reducible exact calm_panic | with_reducible exact calm_runtimePanic _ | with_reducible exact calm_boundsPanic _ _ _ _
    | with_reducible refine calm_bind (calm_underlying _) fun _ _ => ?_ | with_reducible refine calm_bind (calm_sizeOf _) fun _ _ => ?_ | with_reducible refine calm_bind (calm_typeInfo _) fun _ _ => ?_ | with_reducible refine calm_bind (calm_zeroValue _) fun _ _ => ?_
    | with_reducible refine calm_bind (calm_asIntOf _) fun _ _ => ?_ | with_reducible refine calm_bind (calm_asInt _) fun _ _ => ?_ | with_reducible refine calm_bind (calm_sureAddr _) fun _ _ => ?_ | with_reducible refine calm_bind (calm_asAddr _) fun _ _ => ?_ | with_reducible refine calm_bind (calm_asBool _) fun _ _ => ?_
    | with_reducible refine calm_bind (calm_choose _) fun _ _ => ?_ | with_reducible refine calm_bind (calm_map (calm_choose _)) fun _ _ => ?_ | with_reducible refine calm_bind (calm_askRoom _) fun _ _ => ?_ | with_reducible refine calm_bind (calm_newRow _ _) fun _ _ => ?_ | with_reducible refine calm_bind calm_program fun _ _ => ?_
    | with_reducible refine calm_bind (calm_ret (Q := fun _ => True) trivial) fun _ _ => ?_ | with_reducible refine calm_bind (Q := fun _ => False) calm_stuck fun _ h => h.elim | with_reducible refine calm_bind (Q := fun _ => False) calm_uns fun _ h => h.elim
    | with_reducible refine calm_bind (Q := fun _ => False) (calm_runtimePanic _) fun _ h => h.elim | with_reducible refine calm_bind (Q := fun _ => False) (calm_boundsPanic _ _ _ _) fun _ h => h.elim
    | split | dsimp only)
theorem calm_stringOp (op : BinOp) (x y : ByteArray) : Calm P (fun _ => True) (Op.stringOp op x y) := by
  unfold Op.stringOp
  repeat' (first
    | with_reducible exact calm_ret trivial | with_reducible exact calm_stuck | with_reducible exact calm_uns | with_reducible exact calm_panic | with_reducible exact calm_runtimePanic _ | with_reducible exact calm_boundsPanic _ _ _ _
    | with_reducible refine calm_bind (calm_underlying _) fun _ _ => ?_ | with_reducible refine calm_bind (calm_sizeOf _) fun _ _ => ?_ | with_reducible refine calm_bind (calm_typeInfo _) fun _ _ => ?_ | with_reducible refine calm_bind (calm_zeroValue _) fun _ _ => ?_
    | with_reducible refine calm_bind (calm_asIntOf _) fun _ _ => ?_ | with_reducible refine calm_bind (calm_asInt _) fun _ _ => ?_ | with_reducible refine calm_bind (calm_sureAddr _) fun _ _ => ?_ | with_reducible refine calm_bind (calm_asAddr _) fun _ _ => ?_ | with_reducible refine calm_bind (calm_asBool _) fun _ _ => ?_
    | with_reducible refine calm_bind (calm_choose _) fun _ _ => ?_ | with_reducible refine calm_bind (calm_map (calm_choose _)) fun _ _ => ?_ | with_reducible refine calm_bind (calm_askRoom _) fun _ _ => ?_ | with_reducible refine calm_bind (calm_newRow _ _) fun _ _ => ?_ | with_reducible refine calm_bind calm_program fun _ _ => ?_
    | with_reducible refine calm_bind (calm_ret (Q := fun _ => True) trivial) fun _ _ => ?_ | with_reducible refine calm_bind (Q := fun _ => False) calm_stuck fun _ h => h.elim | with_reducible refine calm_bind (Q := fun _ => False) calm_uns fun _ h => h.elim
    | with_reducible refine calm_bind (Q := fun _ => False) (calm_runtimePanic _) fun _ h => h.elim | with_reducible refine calm_bind (Q := fun _ => False) (calm_boundsPanic _ _ _ _) fun _ h => h.elim
    | split | dsimp only)
theorem calm_floatToFloat (s : FloatKind) (b : Nat) (d : FloatKind) : Calm P (fun _ => True) (Conv.floatToFloat s b d) := by
  unfold Conv.floatToFloat
  repeat' (first
    | with_reducible exact calm_ret trivial | with_reducible exact calm_stuck | with_reducible exact calm_uns | with_reducible exact calm_panic | with_reducible exact calm_runtimePanic _ | with_reducible exact calm_boundsPanic _ _ _ _
    | with_reducible refine calm_bind (calm_underlying _) fun _ _ => ?_ | with_reducible refine calm_bind (calm_sizeOf _) fun _ _ => ?_ | with_reducible refine calm_bind (calm_typeInfo _) fun _ _ => ?_ | with_reducible refine calm_bind (calm_zeroValue _) fun _ _ => ?_
    | with_reducible refine calm_bind (calm_asIntOf _) fun _ _ => ?_ | with_reducible refine calm_bind (calm_asInt _) fun _ _ => ?_ | with_reducible refine calm_bind (calm_sureAddr _) fun _ _ => ?_ | with_reducible refine calm_bind (calm_asAddr _) fun _ _ => ?_ | with_reducible refine calm_bind (calm_asBool _) fun _ _ => ?_
    | with_reducible refine calm_bind (calm_choose _) fun _ _ => ?_ | with_reducible refine calm_bind (calm_map (calm_choose _)) fun _ _ => ?_ | with_reducible refine calm_bind (calm_askRoom _) fun _ _ => ?_ | with_reducible refine calm_bind (calm_newRow _ _) fun _ _ => ?_ | with_reducible refine calm_bind calm_program fun _ _ => ?_
    | with_reducible refine calm_bind (calm_ret (Q := fun _ => True) trivial) fun _ _ => ?_ | with_reducible refine calm_bind (Q := fun _ => False) calm_stuck fun _ h => h.elim | with_reducible refine calm_bind (Q := fun _ => False) calm_uns fun _ h => h.elim
    | with_reducible refine calm_bind (Q := fun _ => False) (calm_runtimePanic _) fun _ h => h.elim | with_reducible refine calm_bind (Q := fun _ => False) (calm_boundsPanic _ _ _ _) fun _ h => h.elim
    | split | dsimp only)
theorem calm_floatToInt (s : FloatKind) (b : Nat) (d : IntKind) : Calm P (fun _ => True) (Conv.floatToInt s b d) := by
  unfold Conv.floatToInt
  repeat' (first
    | with_reducible exact calm_ret trivial | with_reducible exact calm_stuck | with_reducible exact calm_uns | with_reducible exact calm_panic | with_reducible exact calm_runtimePanic _ | with_reducible exact calm_boundsPanic _ _ _ _
    | with_reducible refine calm_bind (calm_underlying _) fun _ _ => ?_ | with_reducible refine calm_bind (calm_sizeOf _) fun _ _ => ?_ | with_reducible refine calm_bind (calm_typeInfo _) fun _ _ => ?_ | with_reducible refine calm_bind (calm_zeroValue _) fun _ _ => ?_
    | with_reducible refine calm_bind (calm_asIntOf _) fun _ _ => ?_ | with_reducible refine calm_bind (calm_asInt _) fun _ _ => ?_ | with_reducible refine calm_bind (calm_sureAddr _) fun _ _ => ?_ | with_reducible refine calm_bind (calm_asAddr _) fun _ _ => ?_ | with_reducible refine calm_bind (calm_asBool _) fun _ _ => ?_
    | with_reducible refine calm_bind (calm_choose _) fun _ _ => ?_ | with_reducible refine calm_bind (calm_map (calm_choose _)) fun _ _ => ?_ | with_reducible refine calm_bind (calm_askRoom _) fun _ _ => ?_ | with_reducible refine calm_bind (calm_newRow _ _) fun _ _ => ?_ | with_reducible refine calm_bind calm_program fun _ _ => ?_
    | with_reducible refine calm_bind (calm_ret (Q := fun _ => True) trivial) fun _ _ => ?_ | with_reducible refine calm_bind (Q := fun _ => False) calm_stuck fun _ h => h.elim | with_reducible refine calm_bind (Q := fun _ => False) calm_uns fun _ h => h.elim
    | with_reducible refine calm_bind (Q := fun _ => False) (calm_runtimePanic _) fun _ h => h.elim | with_reducible refine calm_bind (Q := fun _ => False) (calm_boundsPanic _ _ _ _) fun _ h => h.elim
    | split | dsimp only)
theorem calm_cArith (op : BinOp) (k : FloatKind) (x y : Nat) : Calm P (fun _ => True) (Op.Complex.arith op k x y) := by
  unfold Op.Complex.arith
  repeat' (first
    | with_reducible exact calm_ret trivial | with_reducible exact calm_stuck | with_reducible exact calm_uns | with_reducible exact calm_panic | with_reducible exact calm_runtimePanic _ | with_reducible exact calm_boundsPanic _ _ _ _
    | with_reducible refine calm_bind (calm_underlying _) fun _ _ => ?_ | with_reducible refine calm_bind (calm_sizeOf _) fun _ _ => ?_ | with_reducible refine calm_bind (calm_typeInfo _) fun _ _ => ?_ | with_reducible refine calm_bind (calm_zeroValue _) fun _ _ => ?_
    | with_reducible refine calm_bind (calm_asIntOf _) fun _ _ => ?_ | with_reducible refine calm_bind (calm_asInt _) fun _ _ => ?_ | with_reducible refine calm_bind (calm_sureAddr _) fun _ _ => ?_ | with_reducible refine calm_bind (calm_asAddr _) fun _ _ => ?_ | with_reducible refine calm_bind (calm_asBool _) fun _ _ => ?_
    | with_reducible refine calm_bind (calm_choose _) fun _ _ => ?_ | with_reducible refine calm_bind (calm_map (calm_choose _)) fun _ _ => ?_ | with_reducible refine calm_bind (calm_askRoom _) fun _ _ => ?_ | with_reducible refine calm_bind (calm_newRow _ _) fun _ _ => ?_ | with_reducible refine calm_bind calm_program fun _ _ => ?_
    | with_reducible refine calm_bind (calm_floatArith _ _ _ _) fun _ _ => ?_
    | with_reducible refine calm_bind (calm_ret (Q := fun _ => True) trivial) fun _ _ => ?_ | with_reducible refine calm_bind (Q := fun _ => False) calm_stuck fun _ h => h.elim | with_reducible refine calm_bind (Q := fun _ => False) calm_uns fun _ h => h.elim
    | with_reducible refine calm_bind (Q := fun _ => False) (calm_runtimePanic _) fun _ h => h.elim | with_reducible refine calm_bind (Q := fun _ => False) (calm_boundsPanic _ _ _ _) fun _ h => h.elim
    | split | dsimp only)
theorem calm_cCmp (op : BinOp) (k : FloatKind) (x y : Nat) : Calm P (fun _ => True) (Op.Complex.cmp op k x y) := by
  unfold Op.Complex.cmp
  repeat' (first
    | with_reducible exact calm_ret trivial | with_reducible exact calm_stuck | with_reducible exact calm_uns | with_reducible exact calm_panic | with_reducible exact calm_runtimePanic _ | with_reducible exact calm_boundsPanic _ _ _ _
    | with_reducible refine calm_bind (calm_underlying _) fun _ _ => ?_ | with_reducible refine calm_bind (calm_sizeOf _) fun _ _ => ?_ | with_reducible refine calm_bind (calm_typeInfo _) fun _ _ => ?_ | with_reducible refine calm_bind (calm_zeroValue _) fun _ _ => ?_
    | with_reducible refine calm_bind (calm_asIntOf _) fun _ _ => ?_ | with_reducible refine calm_bind (calm_asInt _) fun _ _ => ?_ | with_reducible refine calm_bind (calm_sureAddr _) fun _ _ => ?_ | with_reducible refine calm_bind (calm_asAddr _) fun _ _ => ?_ | with_reducible refine calm_bind (calm_asBool _) fun _ _ => ?_
    | with_reducible refine calm_bind (calm_choose _) fun _ _ => ?_ | with_reducible refine calm_bind (calm_map (calm_choose _)) fun _ _ => ?_ | with_reducible refine calm_bind (calm_askRoom _) fun _ _ => ?_ | with_reducible refine calm_bind (calm_newRow _ _) fun _ _ => ?_ | with_reducible refine calm_bind calm_program fun _ _ => ?_
    | with_reducible refine calm_bind (calm_floatCmp _ _ _ _) fun _ _ => ?_
    | with_reducible exact calm_asBool _
    | with_reducible refine calm_bind (calm_ret (Q := fun _ => True) trivial) fun _ _ => ?_ | with_reducible refine calm_bind (Q := fun _ => False) calm_stuck fun _ h => h.elim | with_reducible refine calm_bind (Q := fun _ => False) calm_uns fun _ h => h.elim
    | with_reducible refine calm_bind (Q := fun _ => False) (calm_runtimePanic _) fun _ h => h.elim | with_reducible refine calm_bind (Q := fun _ => False) (calm_boundsPanic _ _ _ _) fun _ h => h.elim
    | split | dsimp only)
theorem calm_cConv (s : FloatKind) (x : Nat) (d : FloatKind) : Calm P (fun _ => True) (Op.Complex.conv s x d) := by
  unfold Op.Complex.conv
  repeat' (first
    | with_reducible exact calm_ret trivial | with_reducible exact calm_stuck | with_reducible exact calm_uns | with_reducible exact calm_panic | with_reducible exact calm_runtimePanic _ | with_reducible exact calm_boundsPanic _ _ _ _
    | with_reducible refine calm_bind (calm_underlying _) fun _ _ => ?_ | with_reducible refine calm_bind (calm_sizeOf _) fun _ _ => ?_ | with_reducible refine calm_bind (calm_typeInfo _) fun _ _ => ?_ | with_reducible refine calm_bind (calm_zeroValue _) fun _ _ => ?_
    | with_reducible refine calm_bind (calm_asIntOf _) fun _ _ => ?_ | with_reducible refine calm_bind (calm_asInt _) fun _ _ => ?_ | with_reducible refine calm_bind (calm_sureAddr _) fun _ _ => ?_ | with_reducible refine calm_bind (calm_asAddr _) fun _ _ => ?_ | with_reducible refine calm_bind (calm_asBool _) fun _ _ => ?_
    | with_reducible refine calm_bind (calm_choose _) fun _ _ => ?_ | with_reducible refine calm_bind (calm_map (calm_choose _)) fun _ _ => ?_ | with_reducible refine calm_bind (calm_askRoom _) fun _ _ => ?_ | with_reducible refine calm_bind (calm_newRow _ _) fun _ _ => ?_ | with_reducible refine calm_bind calm_program fun _ _ => ?_
    | with_reducible refine calm_bind (calm_floatToFloat _ _ _) fun _ _ => ?_
    | with_reducible refine calm_bind (calm_ret (Q := fun _ => True) trivial) fun _ _ => ?_ | with_reducible refine calm_bind (Q := fun _ => False) calm_stuck fun _ h => h.elim | with_reducible refine calm_bind (Q := fun _ => False) calm_uns fun _ h => h.elim
    | with_reducible refine calm_bind (Q := fun _ => False) (calm_runtimePanic _) fun _ h => h.elim | with_reducible refine calm_bind (Q := fun _ => False) (calm_boundsPanic _ _ _ _) fun _ h => h.elim
    | split | dsimp only)
theorem calm_c_add (x y : Nat) : Calm P (fun _ => True) (Op.Complex.add x y) := calm_cArith _ _ _ _
theorem calm_c_sub (x y : Nat) : Calm P (fun _ => True) (Op.Complex.sub x y) := calm_cArith _ _ _ _
theorem calm_c_mul (x y : Nat) : Calm P (fun _ => True) (Op.Complex.mul x y) := calm_cArith _ _ _ _
theorem calm_c_quo (x y : Nat) : Calm P (fun _ => True) (Op.Complex.quo x y) := calm_cArith _ _ _ _
theorem calm_product (a b c d : Nat) : Calm P (fun _ => True) (Op.Complex.product a b c d) := by
  unfold Op.Complex.product
  repeat' (first
    | with_reducible exact calm_ret trivial | with_reducible exact calm_stuck | with_reducible exact calm_uns | with_reducible exact calm_panic | with_reducible exact calm_runtimePanic _ | with_reducible exact calm_boundsPanic _ _ _ _
    | with_reducible refine calm_bind (calm_underlying _) fun _ _ => ?_ | with_reducible refine calm_bind (calm_sizeOf _) fun _ _ => ?_ | with_reducible refine calm_bind (calm_typeInfo _) fun _ _ => ?_ | with_reducible refine calm_bind (calm_zeroValue _) fun _ _ => ?_
    | with_reducible refine calm_bind (calm_asIntOf _) fun _ _ => ?_ | with_reducible refine calm_bind (calm_asInt _) fun _ _ => ?_ | with_reducible refine calm_bind (calm_sureAddr _) fun _ _ => ?_ | with_reducible refine calm_bind (calm_asAddr _) fun _ _ => ?_ | with_reducible refine calm_bind (calm_asBool _) fun _ _ => ?_
    | with_reducible refine calm_bind (calm_choose _) fun _ _ => ?_ | with_reducible refine calm_bind (calm_map (calm_choose _)) fun _ _ => ?_ | with_reducible refine calm_bind (calm_askRoom _) fun _ _ => ?_ | with_reducible refine calm_bind (calm_newRow _ _) fun _ _ => ?_ | with_reducible refine calm_bind calm_program fun _ _ => ?_
    | with_reducible refine calm_bind (calm_c_add _ _) fun _ _ => ?_
    | with_reducible refine calm_bind (calm_c_sub _ _) fun _ _ => ?_
    | with_reducible refine calm_bind (calm_c_mul _ _) fun _ _ => ?_
    | with_reducible refine calm_bind (calm_c_quo _ _) fun _ _ => ?_
    | with_reducible refine calm_bind (calm_cArith _ _ _ _) fun _ _ => ?_
    | with_reducible refine calm_bind (calm_cCmp _ _ _ _) fun _ _ => ?_
    | with_reducible refine calm_bind (calm_cConv _ _ _) fun _ _ => ?_
    | with_reducible refine calm_bind (calm_ret (Q := fun _ => True) trivial) fun _ _ => ?_ | with_reducible refine calm_bind (Q := fun _ => False) calm_stuck fun _ h => h.elim | with_reducible refine calm_bind (Q := fun _ => False) calm_uns fun _ h => h.elim
    | with_reducible refine calm_bind (Q := fun _ => False) (calm_runtimePanic _) fun _ h => h.elim | with_reducible refine calm_bind (Q := fun _ => False) (calm_boundsPanic _ _ _ _) fun _ h => h.elim
    | split | dsimp only)
theorem calm_corrected (s a b c d : Nat) : Calm P (fun _ => True) (Op.Complex.corrected s a b c d) := by
  unfold Op.Complex.corrected
  repeat' (first
    | with_reducible exact calm_ret trivial | with_reducible exact calm_stuck | with_reducible exact calm_uns | with_reducible exact calm_panic | with_reducible exact calm_runtimePanic _ | with_reducible exact calm_boundsPanic _ _ _ _
    | with_reducible refine calm_bind (calm_underlying _) fun _ _ => ?_ | with_reducible refine calm_bind (calm_sizeOf _) fun _ _ => ?_ | with_reducible refine calm_bind (calm_typeInfo _) fun _ _ => ?_ | with_reducible refine calm_bind (calm_zeroValue _) fun _ _ => ?_
    | with_reducible refine calm_bind (calm_asIntOf _) fun _ _ => ?_ | with_reducible refine calm_bind (calm_asInt _) fun _ _ => ?_ | with_reducible refine calm_bind (calm_sureAddr _) fun _ _ => ?_ | with_reducible refine calm_bind (calm_asAddr _) fun _ _ => ?_ | with_reducible refine calm_bind (calm_asBool _) fun _ _ => ?_
    | with_reducible refine calm_bind (calm_choose _) fun _ _ => ?_ | with_reducible refine calm_bind (calm_map (calm_choose _)) fun _ _ => ?_ | with_reducible refine calm_bind (calm_askRoom _) fun _ _ => ?_ | with_reducible refine calm_bind (calm_newRow _ _) fun _ _ => ?_ | with_reducible refine calm_bind calm_program fun _ _ => ?_
    | with_reducible refine calm_bind (calm_c_add _ _) fun _ _ => ?_
    | with_reducible refine calm_bind (calm_c_sub _ _) fun _ _ => ?_
    | with_reducible refine calm_bind (calm_c_mul _ _) fun _ _ => ?_
    | with_reducible refine calm_bind (calm_c_quo _ _) fun _ _ => ?_
    | with_reducible refine calm_bind (calm_cArith _ _ _ _) fun _ _ => ?_
    | with_reducible refine calm_bind (calm_cCmp _ _ _ _) fun _ _ => ?_
    | with_reducible refine calm_bind (calm_cConv _ _ _) fun _ _ => ?_
    | with_reducible refine calm_bind (calm_ret (Q := fun _ => True) trivial) fun _ _ => ?_ | with_reducible refine calm_bind (Q := fun _ => False) calm_stuck fun _ h => h.elim | with_reducible refine calm_bind (Q := fun _ => False) calm_uns fun _ h => h.elim
    | with_reducible refine calm_bind (Q := fun _ => False) (calm_runtimePanic _) fun _ h => h.elim | with_reducible refine calm_bind (Q := fun _ => False) (calm_boundsPanic _ _ _ _) fun _ h => h.elim
    | split | dsimp only)
end
end Go.Proofs.Ytehmobcfbifocaa
/-
  Which of the model's meanings are calm: complex numbers. Nothing of a program. Made by gen_calm13.py.
-/
namespace Go.Proofs.Ytehmobcfbifocaa
open Go Go.Conc

section
variable {P : Program}
set_option maxHeartbeats 4000000 in
theorem calm_quotient (a b c d : Nat) : Calm P (fun _ => True) (Op.Complex.quotient a b c d) := by
  unfold Op.Complex.quotient
  with_reducible refine calm_bind (calm_cCmp _ _ _ _) fun t _ => ?_
  extract_lets jp
  have hjp : ∀ x, Calm P (fun _ => True) (jp x) := by
    rintro ⟨e, f⟩
    dsimp only [jp]
    with_reducible refine calm_bind (calm_cCmp _ _ _ _) fun _ _ => ?_
    with_reducible refine calm_bind (calm_cCmp _ _ _ _) fun _ _ => ?_
    with_reducible refine calm_ite (calm_ret trivial) (calm_ite ?_ (calm_ite (calm_corrected _ _ _ _ _) (calm_ite (calm_corrected _ _ _ _ _) (calm_ret trivial))))
    with_reducible exact calm_bind (calm_c_mul _ _) fun _ _ => calm_bind (calm_c_mul _ _) fun _ _ => calm_ret trivial
  clear_value jp
  with_reducible refine calm_ite ?_ ?_
  all_goals
    repeat' (first
        | with_reducible refine calm_bind (calm_c_add _ _) fun _ _ => ?_
        | with_reducible refine calm_bind (calm_c_sub _ _) fun _ _ => ?_
        | with_reducible refine calm_bind (calm_c_mul _ _) fun _ _ => ?_
        | with_reducible refine calm_bind (calm_c_quo _ _) fun _ _ => ?_
        | with_reducible refine calm_bind (calm_ret (Q := fun _ => True) trivial) fun _ _ => ?_
        | with_reducible exact hjp _)
theorem calm_complexOp (op : BinOp) (k : FloatKind) (a b c d : Nat) : Calm P (fun _ => True) (Op.complexOp op k a b c d) := by
  unfold Op.complexOp
  split
  iterate 2 with_reducible exact calm_bind (calm_cArith _ _ _ _) fun _ _ => calm_bind (calm_cArith _ _ _ _) fun _ _ => calm_ret trivial
  iterate 2
    with_reducible refine calm_bind (calm_cConv _ _ _) fun _ _ => ?_
    with_reducible refine calm_bind (calm_cConv _ _ _) fun _ _ => ?_
    with_reducible refine calm_bind (calm_cConv _ _ _) fun _ _ => ?_
    with_reducible refine calm_bind (calm_cConv _ _ _) fun _ _ => ?_
    extract_lets jp
    have hjp : ∀ x, Calm P (fun _ => True) (jp x) := fun x => calm_bind (calm_cConv _ _ _) fun _ _ => calm_bind (calm_cConv _ _ _) fun _ _ => calm_ret trivial
    clear_value jp
    with_reducible exact calm_ite (calm_bind (calm_product _ _ _ _) fun x _ => hjp x) (calm_bind (calm_quotient _ _ _ _) fun x _ => hjp x)
  iterate 2 with_reducible exact calm_bind (calm_cCmp _ _ _ _) fun _ _ => calm_bind (calm_cCmp _ _ _ _) fun _ _ => calm_ret trivial
  exact calm_stuck
end
end Go.Proofs.Ytehmobcfbifocaa
/-
  Which of the model's meanings are calm: operations on numbers; rows that grow. Nothing of a program. Made by gen_calm14.py.
-/
namespace Go.Proofs.Ytehmobcfbifocaa
open Go Go.Conc

section
variable {P : Program} {α β : Type} {Q : α → Prop} {Q' : β → Prop} {t : TypeId} {ki : IntKind}
theorem calm_eqGuardIn (ht : P.underlying t = some (.int ki)) (d : Nat) (a b : Value) : Calm P (fun _ => True) (Op.eqGuardIn (d + 1) t a b) := by
  unfold Op.eqGuardIn
  refine calm_bind (calm_underlying t) fun dd hd => ?_
  rw [ht] at hd
  cases hd
  exact calm_ret trivial
theorem calm_eqGuard (ht : P.underlying t = some (.int ki)) (op : BinOp) (x y : Operand) (a b : Value) : Calm P (fun _ => True) (eqGuard op t x y a b) := by
  have hg : ∀ u v, Calm P (fun _ => True) (Op.eqGuardIn Op.maxDepth t u v) := fun u v => calm_eqGuardIn ht 9999 u v
  unfold eqGuard
  repeat' (first
    | with_reducible exact calm_ret trivial | with_reducible exact calm_stuck | with_reducible exact calm_uns | with_reducible exact calm_panic | with_reducible exact calm_runtimePanic _ | with_reducible exact calm_boundsPanic _ _ _ _
    | with_reducible refine calm_bind (calm_underlying _) fun _ _ => ?_ | with_reducible refine calm_bind (calm_sizeOf _) fun _ _ => ?_ | with_reducible refine calm_bind (calm_typeInfo _) fun _ _ => ?_ | with_reducible refine calm_bind (calm_zeroValue _) fun _ _ => ?_
    | with_reducible refine calm_bind (calm_asIntOf _) fun _ _ => ?_ | with_reducible refine calm_bind (calm_asInt _) fun _ _ => ?_ | with_reducible refine calm_bind (calm_sureAddr _) fun _ _ => ?_ | with_reducible refine calm_bind (calm_asAddr _) fun _ _ => ?_ | with_reducible refine calm_bind (calm_asBool _) fun _ _ => ?_
    | with_reducible refine calm_bind (calm_choose _) fun _ _ => ?_ | with_reducible refine calm_bind (calm_map (calm_choose _)) fun _ _ => ?_ | with_reducible refine calm_bind (calm_askRoom _) fun _ _ => ?_ | with_reducible refine calm_bind (calm_newRow _ _) fun _ _ => ?_ | with_reducible refine calm_bind calm_program fun _ _ => ?_
    | with_reducible refine calm_bind (hg _ _) fun _ _ => ?_
    | with_reducible refine calm_ite ?_ ?_
    | with_reducible refine calm_bind (calm_ret (Q := fun _ => True) trivial) fun _ _ => ?_ | with_reducible refine calm_bind (Q := fun _ => False) calm_stuck fun _ h => h.elim | with_reducible refine calm_bind (Q := fun _ => False) calm_uns fun _ h => h.elim
    | with_reducible refine calm_bind (Q := fun _ => False) (calm_runtimePanic _) fun _ h => h.elim | with_reducible refine calm_bind (Q := fun _ => False) (calm_boundsPanic _ _ _ _) fun _ h => h.elim
    | split | dsimp only)
theorem calm_equal (ht : P.underlying t = some (.int ki)) (a b : Value) : Calm P (fun _ => True) (Op.equal t a b) := by
  show Calm P (fun _ => True) (Op.equalIn (9999 + 1) t a b)
  unfold Op.equalIn
  refine calm_bind (calm_underlying t) fun dd hd => ?_
  rw [ht] at hd
  cases hd
  split <;> first | contradiction | skip
  all_goals
    repeat' (first
      | with_reducible exact calm_ret trivial | with_reducible exact calm_stuck | with_reducible exact calm_uns | with_reducible exact calm_panic | with_reducible exact calm_runtimePanic _ | with_reducible exact calm_boundsPanic _ _ _ _
      | with_reducible refine calm_bind (calm_underlying _) fun _ _ => ?_ | with_reducible refine calm_bind (calm_sizeOf _) fun _ _ => ?_ | with_reducible refine calm_bind (calm_typeInfo _) fun _ _ => ?_ | with_reducible refine calm_bind (calm_zeroValue _) fun _ _ => ?_
      | with_reducible refine calm_bind (calm_asIntOf _) fun _ _ => ?_ | with_reducible refine calm_bind (calm_asInt _) fun _ _ => ?_ | with_reducible refine calm_bind (calm_sureAddr _) fun _ _ => ?_ | with_reducible refine calm_bind (calm_asAddr _) fun _ _ => ?_ | with_reducible refine calm_bind (calm_asBool _) fun _ _ => ?_
      | with_reducible refine calm_bind (calm_choose _) fun _ _ => ?_ | with_reducible refine calm_bind (calm_map (calm_choose _)) fun _ _ => ?_ | with_reducible refine calm_bind (calm_askRoom _) fun _ _ => ?_ | with_reducible refine calm_bind (calm_newRow _ _) fun _ _ => ?_ | with_reducible refine calm_bind calm_program fun _ _ => ?_
      | with_reducible refine calm_bind (calm_behindNumber _) fun _ _ => ?_
      | with_reducible refine calm_bind (calm_byteOf _) fun _ _ => ?_
      | with_reducible refine calm_bind (calm_ret (Q := fun _ => True) trivial) fun _ _ => ?_ | with_reducible refine calm_bind (Q := fun _ => False) calm_stuck fun _ h => h.elim | with_reducible refine calm_bind (Q := fun _ => False) calm_uns fun _ h => h.elim
      | with_reducible refine calm_bind (Q := fun _ => False) (calm_runtimePanic _) fun _ h => h.elim | with_reducible refine calm_bind (Q := fun _ => False) (calm_boundsPanic _ _ _ _) fun _ h => h.elim
      | split | dsimp only)
theorem calm_binOp (ht : P.underlying t = some (.int ki)) (op : BinOp) (a b : Value) : Calm P (fun _ => True) (binOp op t a b) := by
  unfold binOp
  split
  all_goals
    repeat' (first
      | with_reducible exact calm_ret trivial | with_reducible exact calm_stuck | with_reducible exact calm_uns | with_reducible exact calm_panic | with_reducible exact calm_runtimePanic _ | with_reducible exact calm_boundsPanic _ _ _ _
      | with_reducible refine calm_bind (calm_underlying _) fun _ _ => ?_ | with_reducible refine calm_bind (calm_sizeOf _) fun _ _ => ?_ | with_reducible refine calm_bind (calm_typeInfo _) fun _ _ => ?_ | with_reducible refine calm_bind (calm_zeroValue _) fun _ _ => ?_
      | with_reducible refine calm_bind (calm_asIntOf _) fun _ _ => ?_ | with_reducible refine calm_bind (calm_asInt _) fun _ _ => ?_ | with_reducible refine calm_bind (calm_sureAddr _) fun _ _ => ?_ | with_reducible refine calm_bind (calm_asAddr _) fun _ _ => ?_ | with_reducible refine calm_bind (calm_asBool _) fun _ _ => ?_
      | with_reducible refine calm_bind (calm_choose _) fun _ _ => ?_ | with_reducible refine calm_bind (calm_map (calm_choose _)) fun _ _ => ?_ | with_reducible refine calm_bind (calm_askRoom _) fun _ _ => ?_ | with_reducible refine calm_bind (calm_newRow _ _) fun _ _ => ?_ | with_reducible refine calm_bind calm_program fun _ _ => ?_
      | with_reducible exact calm_shift _ _ _ _ _
      | with_reducible exact calm_intArith _ _ _ _
      | with_reducible exact calm_intDiv _ _ _ _
      | with_reducible exact calm_intBits _ _ _ _
      | with_reducible exact calm_intCmp _ _ _
      | with_reducible exact calm_floatArith _ _ _ _
      | with_reducible exact calm_floatCmp _ _ _ _
      | with_reducible exact calm_complexOp _ _ _ _ _ _
      | with_reducible exact calm_stringOp _ _ _
      | with_reducible refine calm_bind (calm_equal ht _ _) fun _ _ => ?_
      | with_reducible exact calm_movedPointer _ _ _
      | with_reducible exact calm_movedNumber _ _ _
      | with_reducible refine calm_bind (calm_behindNumber _) fun _ _ => ?_
      | with_reducible exact calm_addrSub _ _ _
      | with_reducible exact calm_addrCmp _ _ _
      | with_reducible exact calm_addrMod _ _ _
      | with_reducible refine calm_bind (calm_ret (Q := fun _ => True) trivial) fun _ _ => ?_ | with_reducible refine calm_bind (Q := fun _ => False) calm_stuck fun _ h => h.elim | with_reducible refine calm_bind (Q := fun _ => False) calm_uns fun _ h => h.elim
      | with_reducible refine calm_bind (Q := fun _ => False) (calm_runtimePanic _) fun _ h => h.elim | with_reducible refine calm_bind (Q := fun _ => False) (calm_boundsPanic _ _ _ _) fun _ h => h.elim
      | split | dsimp only)
theorem calm_unary (op : UnOp) (a : Value) : Calm P (fun _ => True) (Op.unary op a) := by
  unfold Op.unary
  repeat' (first
    | with_reducible exact calm_ret trivial | with_reducible exact calm_stuck | with_reducible exact calm_uns | with_reducible exact calm_panic | with_reducible exact calm_runtimePanic _ | with_reducible exact calm_boundsPanic _ _ _ _
    | with_reducible refine calm_bind (calm_underlying _) fun _ _ => ?_ | with_reducible refine calm_bind (calm_sizeOf _) fun _ _ => ?_ | with_reducible refine calm_bind (calm_typeInfo _) fun _ _ => ?_ | with_reducible refine calm_bind (calm_zeroValue _) fun _ _ => ?_
    | with_reducible refine calm_bind (calm_asIntOf _) fun _ _ => ?_ | with_reducible refine calm_bind (calm_asInt _) fun _ _ => ?_ | with_reducible refine calm_bind (calm_sureAddr _) fun _ _ => ?_ | with_reducible refine calm_bind (calm_asAddr _) fun _ _ => ?_ | with_reducible refine calm_bind (calm_asBool _) fun _ _ => ?_
    | with_reducible refine calm_bind (calm_choose _) fun _ _ => ?_ | with_reducible refine calm_bind (calm_map (calm_choose _)) fun _ _ => ?_ | with_reducible refine calm_bind (calm_askRoom _) fun _ _ => ?_ | with_reducible refine calm_bind (calm_newRow _ _) fun _ _ => ?_ | with_reducible refine calm_bind calm_program fun _ _ => ?_
    | with_reducible exact calm_intArith _ _ _ _
    | with_reducible exact calm_intBits _ _ _ _
    | with_reducible refine calm_bind (calm_ret (Q := fun _ => True) trivial) fun _ _ => ?_ | with_reducible refine calm_bind (Q := fun _ => False) calm_stuck fun _ h => h.elim | with_reducible refine calm_bind (Q := fun _ => False) calm_uns fun _ h => h.elim
    | with_reducible refine calm_bind (Q := fun _ => False) (calm_runtimePanic _) fun _ h => h.elim | with_reducible refine calm_bind (Q := fun _ => False) (calm_boundsPanic _ _ _ _) fun _ h => h.elim
    | split | dsimp only)
theorem calm_convert {s d : TypeId} {ki kj : IntKind} (hs : P.underlying s = some (.int ki)) (hd : P.underlying d = some (.int kj)) (x : Value) : Calm P (fun _ => True) (convert s d x) := by
  unfold convert
  refine calm_bind (calm_underlying s) fun d1 h1 => ?_
  rw [hs] at h1
  cases h1
  refine calm_bind (calm_underlying d) fun d2 h2 => ?_
  rw [hd] at h2
  cases h2
  split
  all_goals first | contradiction | exact calm_uns | exact calm_floatToInt _ _ _ | exact calm_ret trivial
theorem dead_holds {f : Bool → Sem α} (hf : ∀ b, Dead P (f b)) (a : Addr) (n : Nat) : Dead P (Builtin.holdsCells a n >>= f) :=
  .shape fun s => by cases s <;> exact hf _
theorem dead_share {f : Bool → Sem α} (hf : ∀ b, Dead P (f b)) (z l n : Nat) (b : Option Addr) (x : Value) : Dead P (Builtin.mayShare z l n b x >>= f) := by
  have tail : ∀ there : Bool, Dead P ((if (!there) = true then pure true else match x with | .slice (some c) _ _ => do pure (!(← Builtin.holdsCells c (n * z)) || b.any (·.block == c.block)) | _ => pure false : Sem Bool) >>= f) := by
    intro there
    cases there with
    | false => exact hf _
    | true =>
      cases x with
      | slice c _ _ =>
        cases c with
        | none => exact hf _
        | some c => exact .shape fun s => by cases s <;> exact hf _
      | _ => exact hf _
  cases b with
  | none => exact tail true
  | some a =>
    refine .shape fun s => ?_
    cases s with
    | none => exact .frozen fun b => tail (false && !b)
    | some p => exact .frozen fun b => tail (_ && !b)
theorem calm_shareOut {g : β → Sem α} {u : Unsupported} (z l n : Nat) (b : Option Addr) (x : Value) :
    Calm P Q ((do
      let s ← Builtin.mayShare z l n b x
      if (!s) = true then do
        mark Mark.noRoom
        (unsupported u : Sem β)
      else unsupported u) >>= g) :=
  calm_of_dead (Dead.bind (dead_share (fun b => by cases b <;> first | exact .room .unsupported | exact .unsupported) z l n b x))
theorem calm_getObj (r : Nat) : Calm P (fun _ => True) (getObj r) := .getObj fun _ => .pure trivial
theorem calm_loadCells0 (a : Addr) (n : Nat) : Calm P (fun _ => True) (loadCells a n) := calm_loadCells a n 0 #[]
theorem calm_lenOf (v : Value) : Calm P (fun _ => True) (Builtin.lenOf v) := by
  unfold Builtin.lenOf
  repeat' (first
    | with_reducible exact calm_ret trivial | with_reducible exact calm_stuck | with_reducible exact calm_uns | with_reducible exact calm_panic | with_reducible exact calm_runtimePanic _ | with_reducible exact calm_boundsPanic _ _ _ _
    | with_reducible refine calm_bind (calm_underlying _) fun _ _ => ?_ | with_reducible refine calm_bind (calm_sizeOf _) fun _ _ => ?_ | with_reducible refine calm_bind (calm_typeInfo _) fun _ _ => ?_ | with_reducible refine calm_bind (calm_zeroValue _) fun _ _ => ?_
    | with_reducible refine calm_bind (calm_asIntOf _) fun _ _ => ?_ | with_reducible refine calm_bind (calm_asInt _) fun _ _ => ?_ | with_reducible refine calm_bind (calm_sureAddr _) fun _ _ => ?_ | with_reducible refine calm_bind (calm_asAddr _) fun _ _ => ?_ | with_reducible refine calm_bind (calm_asBool _) fun _ _ => ?_
    | with_reducible refine calm_bind (calm_choose _) fun _ _ => ?_ | with_reducible refine calm_bind (calm_map (calm_choose _)) fun _ _ => ?_ | with_reducible refine calm_bind (calm_askRoom _) fun _ _ => ?_ | with_reducible refine calm_bind (calm_newRow _ _) fun _ _ => ?_ | with_reducible refine calm_bind calm_program fun _ _ => ?_
    | with_reducible refine calm_bind (calm_ret (Q := fun _ => True) trivial) fun _ _ => ?_ | with_reducible refine calm_bind (Q := fun _ => False) calm_stuck fun _ h => h.elim | with_reducible refine calm_bind (Q := fun _ => False) calm_uns fun _ h => h.elim
    | with_reducible refine calm_bind (Q := fun _ => False) (calm_runtimePanic _) fun _ h => h.elim | with_reducible refine calm_bind (Q := fun _ => False) (calm_boundsPanic _ _ _ _) fun _ h => h.elim
    | split | dsimp only)
theorem calm_firstCells (z n : Nat) (v : Value) : Calm P (fun _ => True) (Builtin.firstCells z n v) := by
  unfold Builtin.firstCells
  repeat' (first
    | with_reducible exact calm_ret trivial | with_reducible exact calm_stuck | with_reducible exact calm_uns | with_reducible exact calm_panic | with_reducible exact calm_runtimePanic _ | with_reducible exact calm_boundsPanic _ _ _ _
    | with_reducible refine calm_bind (calm_underlying _) fun _ _ => ?_ | with_reducible refine calm_bind (calm_sizeOf _) fun _ _ => ?_ | with_reducible refine calm_bind (calm_typeInfo _) fun _ _ => ?_ | with_reducible refine calm_bind (calm_zeroValue _) fun _ _ => ?_
    | with_reducible refine calm_bind (calm_asIntOf _) fun _ _ => ?_ | with_reducible refine calm_bind (calm_asInt _) fun _ _ => ?_ | with_reducible refine calm_bind (calm_sureAddr _) fun _ _ => ?_ | with_reducible refine calm_bind (calm_asAddr _) fun _ _ => ?_ | with_reducible refine calm_bind (calm_asBool _) fun _ _ => ?_
    | with_reducible refine calm_bind (calm_choose _) fun _ _ => ?_ | with_reducible refine calm_bind (calm_map (calm_choose _)) fun _ _ => ?_ | with_reducible refine calm_bind (calm_askRoom _) fun _ _ => ?_ | with_reducible refine calm_bind (calm_newRow _ _) fun _ _ => ?_ | with_reducible refine calm_bind calm_program fun _ _ => ?_
    | with_reducible exact calm_loadCells0 _ _
    | with_reducible refine calm_bind (calm_ret (Q := fun _ => True) trivial) fun _ _ => ?_ | with_reducible refine calm_bind (Q := fun _ => False) calm_stuck fun _ h => h.elim | with_reducible refine calm_bind (Q := fun _ => False) calm_uns fun _ h => h.elim
    | with_reducible refine calm_bind (Q := fun _ => False) (calm_runtimePanic _) fun _ h => h.elim | with_reducible refine calm_bind (Q := fun _ => False) (calm_boundsPanic _ _ _ _) fun _ h => h.elim
    | split | dsimp only)
set_option maxHeartbeats 1000000 in
theorem calm_append (ts : Array TypeId) (t : TypeId) (args : Array Value) : Calm P (fun _ => True) (Builtin.append_ ts t args) := by
  unfold Builtin.append_
  repeat' (first
    | with_reducible exact calm_ret trivial | with_reducible exact calm_stuck | with_reducible exact calm_uns | with_reducible exact calm_panic | with_reducible exact calm_runtimePanic _ | with_reducible exact calm_boundsPanic _ _ _ _
    | with_reducible refine calm_bind (calm_underlying _) fun _ _ => ?_ | with_reducible refine calm_bind (calm_sizeOf _) fun _ _ => ?_ | with_reducible refine calm_bind (calm_typeInfo _) fun _ _ => ?_ | with_reducible refine calm_bind (calm_zeroValue _) fun _ _ => ?_
    | with_reducible refine calm_bind (calm_asIntOf _) fun _ _ => ?_ | with_reducible refine calm_bind (calm_asInt _) fun _ _ => ?_ | with_reducible refine calm_bind (calm_sureAddr _) fun _ _ => ?_ | with_reducible refine calm_bind (calm_asAddr _) fun _ _ => ?_ | with_reducible refine calm_bind (calm_asBool _) fun _ _ => ?_
    | with_reducible refine calm_bind (calm_choose _) fun _ _ => ?_ | with_reducible refine calm_bind (calm_map (calm_choose _)) fun _ _ => ?_ | with_reducible refine calm_bind (calm_askRoom _) fun _ _ => ?_ | with_reducible refine calm_bind (calm_newRow _ _) fun _ _ => ?_ | with_reducible refine calm_bind calm_program fun _ _ => ?_
    | with_reducible refine calm_bind (calm_lenOf _) fun _ _ => ?_
    | with_reducible refine calm_bind (calm_firstCells _ _ _) fun _ _ => ?_
    | with_reducible refine calm_bind (calm_storeCells _ _ _) fun _ _ => ?_
    | with_reducible exact calm_shareOut _ _ _ _ _
    | with_reducible refine calm_bind (calm_ite (calm_firstCells _ _ _) (calm_ite (calm_ret trivial) (calm_bind (calm_zeroValue _) fun _ _ => calm_ret trivial))) fun _ _ => ?_
    | with_reducible refine calm_ite ?_ ?_
    | with_reducible refine calm_bind (calm_ret (Q := fun _ => True) trivial) fun _ _ => ?_ | with_reducible refine calm_bind (Q := fun _ => False) calm_stuck fun _ h => h.elim | with_reducible refine calm_bind (Q := fun _ => False) calm_uns fun _ h => h.elim
    | with_reducible refine calm_bind (Q := fun _ => False) (calm_runtimePanic _) fun _ h => h.elim | with_reducible refine calm_bind (Q := fun _ => False) (calm_boundsPanic _ _ _ _) fun _ h => h.elim
    | split | dsimp only)
theorem calm_len (ts : Array TypeId) (t : TypeId) (args : Array Value) : Calm P (fun _ => True) (Builtin.len_ ts t args) := by
  unfold Builtin.len_
  repeat' (first
    | with_reducible exact calm_ret trivial | with_reducible exact calm_stuck | with_reducible exact calm_uns | with_reducible exact calm_panic | with_reducible exact calm_runtimePanic _ | with_reducible exact calm_boundsPanic _ _ _ _
    | with_reducible refine calm_bind (calm_underlying _) fun _ _ => ?_ | with_reducible refine calm_bind (calm_sizeOf _) fun _ _ => ?_ | with_reducible refine calm_bind (calm_typeInfo _) fun _ _ => ?_ | with_reducible refine calm_bind (calm_zeroValue _) fun _ _ => ?_
    | with_reducible refine calm_bind (calm_asIntOf _) fun _ _ => ?_ | with_reducible refine calm_bind (calm_asInt _) fun _ _ => ?_ | with_reducible refine calm_bind (calm_sureAddr _) fun _ _ => ?_ | with_reducible refine calm_bind (calm_asAddr _) fun _ _ => ?_ | with_reducible refine calm_bind (calm_asBool _) fun _ _ => ?_
    | with_reducible refine calm_bind (calm_choose _) fun _ _ => ?_ | with_reducible refine calm_bind (calm_map (calm_choose _)) fun _ _ => ?_ | with_reducible refine calm_bind (calm_askRoom _) fun _ _ => ?_ | with_reducible refine calm_bind (calm_newRow _ _) fun _ _ => ?_ | with_reducible refine calm_bind calm_program fun _ _ => ?_
    | with_reducible refine calm_bind (calm_getObj _) fun _ _ => ?_
    | with_reducible refine calm_bind (calm_ret (Q := fun _ => True) trivial) fun _ _ => ?_ | with_reducible refine calm_bind (Q := fun _ => False) calm_stuck fun _ h => h.elim | with_reducible refine calm_bind (Q := fun _ => False) calm_uns fun _ h => h.elim
    | with_reducible refine calm_bind (Q := fun _ => False) (calm_runtimePanic _) fun _ h => h.elim | with_reducible refine calm_bind (Q := fun _ => False) (calm_boundsPanic _ _ _ _) fun _ h => h.elim
    | split | dsimp only)
end
end Go.Proofs.Ytehmobcfbifocaa
/-
  Which operations are calm; a program's functions that hold such operations alone. Nothing of a program.
-/
namespace Go.Proofs.Ytehmobcfbifocaa
open Go Go.Conc

def isIntT (P : Program) (t : TypeId) : Bool := match P.underlying t with
  | some (.int _) => true
  | _ => false
def goodFn (P : Program) (f : FuncId) : Bool := match P.funcs[f]? with
  | some fn => !(fn.name == "runtime.NumGoroutine") && fn.body.isSome
  | none => false
def okOp (P : Program) (K : FuncId → Bool) (o : Oper) : Bool := match o.op with
  | .move _ | .assign _ | .pick _ _ _ | .load _ _ | .store _ _ _ | .box _ _ | .alloc _ | .buildSlice _ _ _ | .indexAddr _ _ _ | .slice _ _ _ _ _ | .makeSlice _ _ _ | .unOp _ _ _ => true
  | .binOp _ t _ _ _ => isIntT P t
  | .convert s d _ => isIntT P s && isIntT P d
  | .call c => match c.callee with
    | .value (.func f) => K f && goodFn P f
    | .builtin .len | .builtin .append => true
    | _ => false
  | _ => false
section
variable {P : Program} {K : FuncId → Bool}
theorem isIntT_of {t : TypeId} (h : isIntT P t = true) : ∃ k, P.underlying t = some (.int k) := by
  unfold isIntT at h
  split at h
  · exact ⟨_, ‹_›⟩
  · cases h
theorem calm_v {s : Sem Value} (h : Calm P (fun _ => True) s) : Calm P (OkNext K) (do pure (.value (← s))) := calm_bind h fun v _ => calm_ret (.inl ⟨v, rfl⟩)
theorem calm_u {s : Sem Unit} (h : Calm P (fun _ => True) s) : Calm P (OkNext K) (do s; pure .skip) := calm_bind h fun _ _ => calm_ret (.inr (.inl rfl))
theorem calm_alloc (t : TypeId) (b : Bool) (v : Value) : Calm P (fun _ => True) (Instr.alloc t b v) := by
  unfold Instr.alloc
  refine calm_bind (calm_zeroValue t) fun z _ => ?_
  split
  · exact calm_bind (calm_storeVar _ _ _) fun _ _ => calm_ret trivial
  · exact calm_bind (calm_newVar _ _) fun _ _ => calm_ret trivial
theorem calm_box (t : TypeId) (v : Value) : Calm P (fun _ => True) (Instr.box t v) := calm_bind (calm_newVar _ _) fun _ _ => calm_ret trivial
theorem calm_callFunc {f : FuncId} (hk : K f = true) (hg : goodFn P f = true) (args : Array Value) : Calm P (OkNext K) (callFunc f args) := by
  unfold goodFn at hg
  unfold callFunc
  refine calm_bind calm_program fun p hp => ?_
  subst hp
  split at hg
  · rename_i fn hf
    simp only [Bool.and_eq_true, Bool.not_eq_true'] at hg
    have hb : fn.body.isNone = false := by
      cases h : fn.body with
      | none => rw [h] at hg; cases hg.2
      | some c => rfl
    rw [hf]
    simp only [hg.1, hb, Bool.false_eq_true, if_false]
    exact calm_ret (.inr (.inr ⟨f, args, rfl, hk⟩))
  · cases hg
theorem calm_exec (fr : Frame) (o : Oper) (h : okOp P K o = true) : Calm P (OkNext K) (execOp fr.eval o) := by
  unfold okOp at h
  unfold execOp
  cases hop : o.op <;> rw [hop] at h <;> first | exact absurd h Bool.false_ne_true | skip
  case move x => exact calm_ret (.inl ⟨_, rfl⟩)
  case assign x => exact calm_ret (.inl ⟨_, rfl⟩)
  case pick c a b => exact calm_bind (calm_asBool _) fun _ _ => calm_ret (.inl ⟨_, rfl⟩)
  case load t a => exact calm_v (calm_loadAt _ _)
  case store t a x => exact calm_u (calm_storeAt _ _ _)
  case box t x => exact calm_v (calm_box _ _)
  case alloc t => exact calm_v (calm_alloc _ _ _)
  case buildSlice t n ps => exact calm_v (calm_buildSlice _ _ _)
  case indexAddr t x i => exact calm_v (calm_indexAt _ _ _)
  case slice t x l h m => exact calm_v (calm_sliceAt _ _ _ _ _)
  case makeSlice t l c => exact calm_v (calm_makeSlice _ _ _)
  case unOp op t x => exact calm_v (calm_unary _ _)
  case binOp op t x y t' =>
    obtain ⟨k, hk⟩ := isIntT_of h
    exact calm_v (calm_bind (calm_eqGuard hk _ _ _ _ _) fun _ _ => calm_binOp hk _ _ _)
  case convert s d x =>
    simp only [Bool.and_eq_true] at h
    obtain ⟨k, hk⟩ := isIntT_of h.1
    obtain ⟨k', hk'⟩ := isIntT_of h.2
    exact calm_v (calm_convert hk hk' _)
  case call c =>
    obtain ⟨callee, args, ats⟩ := c
    cases callee with
    | invoke r n => cases h
    | builtin b =>
      cases b <;> first | exact absurd h Bool.false_ne_true | skip
      · exact calm_v (calm_append _ _ _)
      · exact calm_v (calm_len _ _ _)
    | value x =>
      cases x with
      | func f =>
        simp only [Bool.and_eq_true] at h
        exact calm_callFunc h.1 h.2 _
      | _ => cases h
end
end Go.Proofs.Ytehmobcfbifocaa
