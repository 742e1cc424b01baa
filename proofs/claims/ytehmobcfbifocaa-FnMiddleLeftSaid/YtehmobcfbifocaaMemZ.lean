/-
  A range over a function is entered: one step, whichever goroutine. Nothing of a program.
-/
import Derived.Test.YtehmobcfbifocaaBeside
import Derived.RangeFuncRecord
import Derived.Test.YtehmobcfbifocaaBeside3
namespace Go.Proofs.Ytehmobcfbifocaa
open Go Go.Conc Go.ConcN Go.RowKit

section
variable {P : Program} {main : Bool} {b : Frame} {a : Act} {k : List Item} {cs : List Frame} {w : World}
/-- The loop is entered: two objects are made, the iterator is called. -/
theorem stepG_rangeFunc {f : Operand} {params : Array Tmp} {assign body : Code} {F : FuncId} {cap : Array Value} {fn : Func} (hk : b.kind ≠ .early) (hf : a.eval f = .func (.func F) #[] cap) (hfn : P.funcs[F]? = some fn) (hname : (fn.name == "runtime.NumGoroutine") = false) (hbody : fn.body.isNone = false) :
    stepG P main (G (b.at a (.code (.rangeFunc f params assign body) :: k)) cs) w =
      .go (G (Frame.enter P F (#[.func (.yield (w.heap.size + 1)) #[] #[]] ++ cap) .normal) (b.at ⟨a.tmps, { target := .collected w.heap.size, args := #[] } :: a.defers⟩ (.inRangeFunc (w.heap.size + 1) :: k) :: cs))
        ((w.alloc (.deferred (some []))).alloc (.loop { state := .ready, pending := none, fn := b.fn, tmps := a.tmps, params, assign, body, defers := w.heap.size })) #[] := by
  have hk' : (b.kind == CallKind.early) = false := by simpa using hk
  have he : ({ fn := b.fn, tmps := a.tmps, todo := Item.inRangeFunc (w.heap.size + 1) :: k, defers := { target := Target.collected w.heap.size, args := #[] } :: a.defers, mode := FrameMode.run, kind := b.kind } : Frame).eval f = .func (.func F) #[] cap := by
    rw [← hf]
    cases f <;> rfl
  have hname' : ¬ fn.name = "runtime.NumGoroutine" := by simpa using hname
  have hbody' : ¬ fn.body = none := fun h => by rw [h] at hbody; cases hbody
  have hv : ∀ (fr : Frame) (v : Value), fr.eval (.const v) = v := fun _ _ => rfl
  simp [stepG, stepG.exec, stepG.apply, G, Frame.at, hk', Instr.enterLoop, Sem.runT_eq, GStep.after, seen_none, resolve, Deferred.ofValue, invoke, callFunc, he, hv, hfn, hname', hbody']
/-- What a look at a loop's record and a write to it list. -/
def loopEv (l : Nat) : Array Event := #[⟨.obj l, false, false⟩, ⟨.obj l, true, false⟩]
/-- A frame of a round of loop l. -/
def RB (l : Nat) (b : Frame) (a : Act) (todo : List Item) : Frame := { b.at a todo with roundOf := some l }
theorem RB_eval (l : Nat) (b : Frame) (a : Act) (k : List Item) : (RB l b a k).eval = a.eval := by
  have h := Frame.eval_at' b a k
  rw [← h]
  funext x
  cases x <;> rfl
variable {l : Nat}
theorem stepR_region {id : Nat} {ops : Array Oper} : stepG P main (G (RB l b a (.code (.region id ops false) :: k)) cs) w = .go (G (RB l b a (.inRegion ops (List.range ops.size) :: k)) cs) w := by simp [RB, G, stepG, stepG.exec, Frame.at]
theorem stepR_region_end {ops : Array Oper} : stepG P main (G (RB l b a (.inRegion ops [] :: k)) cs) w = .go (G (RB l b a k) cs) w := by simp [RB, G, stepG, stepG.exec, Frame.at]
theorem stepR_seq {x y : Code} : stepG P main (G (RB l b a (.code (.seq x y) :: k)) cs) w = .go (G (RB l b a (.code x :: .code y :: k)) cs) w := by simp [RB, G, stepG, stepG.exec, Frame.at]
theorem stepR_block {id : Nat} {c : Code} : stepG P main (G (RB l b a (.code (.block id c) :: k)) cs) w = .go (G (RB l b a (.code c :: .inBlock id :: k)) cs) w := by simp [RB, G, stepG, stepG.exec, Frame.at]
theorem stepR_inBlock {id : Nat} : stepG P main (G (RB l b a (.inBlock id :: k)) cs) w = .go (G (RB l b a k) cs) w := by simp [RB, G, stepG, stepG.exec, Frame.at]
theorem stepR_skip : stepG P main (G (RB l b a (.code .skip :: k)) cs) w = .go (G (RB l b a k) cs) w := by simp [RB, G, stepG, stepG.exec, Frame.at]
theorem ev_getObj {r : Loop} {es : Array Event} (hl : w.heap[l]? = some (.loop r)) : (getObj l).events P w es = es.push ⟨.obj l, false, false⟩ := by
  simp [getObj, Sem.events, Sem.runT, hl, Obj.isChan, -Sem.runT_eq]
theorem ev_setObj {r r' : Loop} {es : Array Event} (hl : w.heap[l]? = some (.loop r)) : (setObj l (.loop r')).events P w es = es.push ⟨.obj l, true, false⟩ := by
  simp [setObj, Sem.events, Sem.runT, hl, Obj.isChan, -Sem.runT_eq]
theorem ev_getLoop {r : Loop} {es : Array Event} (hl : w.heap[l]? = some (.loop r)) : (Instr.getLoop l).events P w es = es.push ⟨.obj l, false, false⟩ := by
  simp [Instr.getLoop, run_getObj_loop hl, ev_getObj hl]
theorem stepR_begin {r : Loop} (hk : b.kind ≠ .early) (hl : w.heap[l]? = some (.loop r)) (hs : r.state = .ready) :
    stepG P main (G (RB l b a (.beginRound :: k)) cs) w = .go (G (RB l b a k) cs) (w.putObj l (.loop { r with state := .busy })) (seen P b.fn (loopEv l)) := by
  have hk' : (b.kind == CallKind.early) = false := by simpa using hk
  have hr := run_beginRound (P := P) hl hs
  have he : (Instr.beginRound l).events P w #[] = loopEv l := by simp [Instr.beginRound, ev_getLoop hl, run_getLoop hl, run_setObj_loop _ hl, ev_setObj hl, hs, loopEv]
  simp [RB, G, stepG, stepG.exec, stepG.apply, Frame.at, hk', Sem.runT_eq, GStep.after, hr, he, Frame.finish]
/-- The round is over: the caller's call of yield hands back true. -/
theorem stepR_end {r : Loop} {c : Frame} {cs' : List Frame} (hn : b.kind = .normal) (hl : w.heap[l]? = some (.loop r)) :
    stepG P main (G (RB l b a []) (c :: cs')) w = .go (G (c.finish (.bool true)) cs') (w.putObj l (.loop { r with state := .ready, pending := none })) (seen P b.fn (loopEv l)) := by
  have hr := run_endRound (P := P) none hl
  have he : (Instr.endRound l none).events P w #[] = loopEv l := by simp [Instr.endRound, ev_getLoop hl, run_getLoop hl, ev_setObj hl, loopEv]
  simp [RB, G, stepG, stepG.exec, Frame.at, hn, Sem.runT_eq, GStep.after, hr, he, doReturn]
/-- The loop is over. -/
theorem stepG_endRangeFunc {r : Loop} (hl : w.heap[l]? = some (.loop r)) (hb : r.state ≠ .busy) (hp : r.pending = none) :
    stepG P main (G (b.at a (.endRangeFunc l :: k)) cs) w = .go (G (b.at a k) cs) (w.putObj l (.loop { r with state := .exhausted })) (seen P b.fn (loopEv l)) := by
  have hr := run_endLoop (P := P) hl hb
  have he : (Instr.endLoop l).events P w #[] = loopEv l := by simp [Instr.endLoop, ev_getLoop hl, run_getLoop hl, ev_setObj hl, hb, loopEv]
  simp [G, stepG, stepG.exec, Frame.at, Sem.runT_eq, GStep.after, hr, he, hp]
/-- An operation of a round that hands back a value. -/
theorem stepR_value {ops : Array Oper} {i : Nat} {rest : List Nat} {o : Oper} {v : Value} {w' : World} (ho : ops[i]? = some o) (hw : Region.wanted o (yielded ops a.tmps) = true) (hdf : ∀ c, o.op ≠ .defer c)
    (hk : b.kind ≠ .early) (hr : (execOp a.eval o).run P w = .ok (.value v) w') :
    stepG P main (G (RB l b a (.inRegion ops (i :: rest) :: k)) cs) w = .go (G (RB l b (a.put o.dst v) (.inRegion ops rest :: k)) cs) w' (listed P b.fn a o w) := by
  have hk' : (b.kind == CallKind.early) = false := by simpa using hk
  have he := RB_eval l b a (.inRegion ops (i :: rest) :: k)
  simp only [RB, Frame.at] at he
  obtain ⟨d, op, ty, pos, af, gd⟩ := o
  cases d <;> cases op <;> first
    | exact (hdf _ rfl).elim
    | simp [RB, G, stepG, stepG.exec, stepG.oper, stepG.apply, Frame.at, Frame.oper?, ho, hw, hk', he, Sem.runT_eq, GStep.after, hr, Frame.finish, listed, Act.put]
/-- An operation of a round that hands back nothing. -/
theorem stepR_none {ops : Array Oper} {i : Nat} {rest : List Nat} {o : Oper} {w' : World} (ho : ops[i]? = some o) (hw : Region.wanted o (yielded ops a.tmps) = true) (hdf : ∀ c, o.op ≠ .defer c)
    (hk : b.kind ≠ .early) (hr : (execOp a.eval o).run P w = .ok .skip w') :
    stepG P main (G (RB l b a (.inRegion ops (i :: rest) :: k)) cs) w = .go (G (RB l b (a.put o.dst undef) (.inRegion ops rest :: k)) cs) w' (listed P b.fn a o w) := by
  have hk' : (b.kind == CallKind.early) = false := by simpa using hk
  have he := RB_eval l b a (.inRegion ops (i :: rest) :: k)
  simp only [RB, Frame.at] at he
  obtain ⟨d, op, ty, pos, af, gd⟩ := o
  cases d <;> cases op <;> first
    | exact (hdf _ rfl).elim
    | simp [RB, G, stepG, stepG.exec, stepG.oper, stepG.apply, Frame.at, Frame.oper?, ho, hw, hk', he, Sem.runT_eq, GStep.after, hr, Frame.finish, listed, Act.put]
/-- The iterator calls yield: a round's frame. -/
theorem stepG_yield {ops : Array Oper} {i : Nat} {rest : List Nat} {o : Oper} {f : Operand} {as : Array Operand} {ats : Array TypeId} {r : Loop} (ho : ops[i]? = some o) (hw : Region.wanted o (yielded ops a.tmps) = true) (hk : b.kind ≠ .early)
    (hop : o.op = .call { callee := .value f, args := as, argTypes := ats }) (hf : a.eval f = .func (.yield l) #[] #[]) (hl : w.heap[l]? = some (.loop r)) (hs : as.size = r.params.size) :
    stepG P main (G (b.at a (.inRegion ops (i :: rest) :: k)) cs) w =
      .go (G (RB l (base r.fn) ⟨(r.params.zip (as.map a.eval)).foldl (fun tmps (t, x) => tmps.setIfInBounds t x) r.tmps, []⟩ [.code r.assign, .beginRound, .code r.body]) (b.at a (.inRegion ops (i :: rest) :: k) :: cs)) w (listed P b.fn a o w) := by
  have hr : (execOp a.eval o).run P w = .ok (.round l r.fn ((r.params.zip (as.map a.eval)).foldl (fun tmps (t, x) => tmps.setIfInBounds t x) r.tmps) r.assign r.body) w := by
    have := run_yield (P := P) (args := as.map a.eval) hl (by simpa using hs)
    simp [execOp, hop, resolve, Deferred.ofValue, hf, invoke, this]
  have hk' : (b.kind == CallKind.early) = false := by simpa using hk
  rw [stepG_oper ho hw]
  simp [stepG.apply, hr, G, Frame.at, hk', GStep.after, listed, Frame.round, RB, base]
/-- On the way out: the mark of the rounds' deferred calls is come to. -/
theorem stepG_collected {blk : Nat} {x : Array Value} {ds dl : List Deferred} {t : Array Value} {todo : List Item} (hb : w.heap[blk]? = some (.deferred (some ds))) :
    stepG P main (G { b.at ⟨t, { target := .collected blk, args := x } :: dl⟩ todo with mode := .returning } cs) w = .go (G { b.at ⟨t, ds ++ dl⟩ todo with mode := .returning } cs) (w.putObj blk (.deferred none)) (seen P b.fn (loopEv blk)) := by
  have hr := run_takeDeferred (P := P) hb
  have h1 : ∀ es : Array Event, (getObj blk).events P w es = es.push ⟨.obj blk, false, false⟩ := fun es => by simp [getObj, Sem.events, Sem.runT, hb, Obj.isChan, -Sem.runT_eq]
  have h2 : ∀ es : Array Event, (setObj blk (.deferred none)).events P w es = es.push ⟨.obj blk, true, false⟩ := fun es => by simp [setObj, Sem.events, Sem.runT, hb, Obj.isChan, -Sem.runT_eq]
  have h3 : (getObj blk).run P w = .ok (.deferred (some ds)) w := by simp [getObj, Sem.run, hb]
  have he : (Instr.takeDeferred blk).events P w #[] = loopEv blk := by simp [Instr.takeDeferred, h1, h2, h3, loopEv]
  simp [G, stepG, unwind, Frame.at, Sem.runT_eq, GStep.after, hr, he]
end
end Go.Proofs.Ytehmobcfbifocaa
/-
  Lone calls beside leavers that write one row of their own, or hand back a row of their own; an operation of a round. Nothing of a program.
-/
namespace Go.Proofs.Ytehmobcfbifocaa
open Go Go.Conc Go.ConcN Go.RowKit

section
variable {P : Program} {main : Bool} {b : Frame} {a : Act} {k : List Item} {cs : List Frame} {w : World} {l : Nat}
theorem goesR_oper_k {ops : Array Oper} {i : Nat} {rest : List Nat} {o : Oper} {K : Goroutine → World → Array Event → Prop}
    (ho : ops[i]? = some o) (hw : Region.wanted o (yielded ops a.tmps) = true) (hdf : ∀ c, o.op ≠ .defer c) (hk : b.kind ≠ .early)
    (h : ∀ K' : Act → World → Prop, (∀ a' w', K (G (RB l b a' (.inRegion ops rest :: k)) cs) w' (listed P b.fn a o w) → K' a' w') → uponK o a K' ((execOp a.eval o).run P w)) :
    (stepG P main (G (RB l b a (.inRegion ops (i :: rest) :: k)) cs) w).goes K := by
  have := h (fun a' w' => K (G (RB l b a' (.inRegion ops rest :: k)) cs) w' (listed P b.fn a o w)) (fun _ _ x => x)
  generalize hr : (execOp a.eval o).run P w = r at this
  match r, this with
  | .ok (.value v) w', h => rw [stepR_value ho hw hdf hk hr]; exact h
  | .ok .skip w', h => rw [stepR_none ho hw hdf hk hr]; exact h
theorem finish_range (v : Value) : (b.at a (.inRangeFunc l :: k)).finish v = b.at a (.endRangeFunc l :: k) := rfl
/-- The accesses of a loop's record. -/
theorem df_loop {S : Nat → Prop} {N : Nat} {w w' : World} {fn : FuncId} (h : l < N) : DF S N w w' (seen P fn (loopEv l)) := by
  intro e he
  have := mem_seen he
  simp only [loopEv, List.mem_toArray, List.mem_cons, List.not_mem_nil, or_false] at this
  rcases this with rfl | rfl <;> exact evF_obj h
end

/-- What is kept of the world by a call that writes row g alone. -/
structure GrownAt (c : Nat) (S : Nat → Prop) (b : Frame) (base : List Frame) (g : Nat) (R : Obj → Prop) (w : World) (c' : Nat) (S' : Nat → Prop) (g' : Goroutine) (w' : World) : Prop where
  ec : c' = c
  eS : S' = S
  eg : ∃ x, g' = G (b.finish x) base
  obj : ∃ o, w'.heap[g]? = some o ∧ R o
  kept : KeptW w w'
  low : ∀ k, k < w.heap.size → ¬ S k → k ≠ g → w'.heap[k]? = w.heap[k]?
  rows : Rows1 S w'
section
variable {P : Program} {ok : Oper → Bool} {K : FuncId → Bool} {f : FuncId} {args : Array Value} {w : World} {S : Nat → Prop} {b : Frame} {base : List Frame} {c : Nat}
theorem grown_beside (H : KOk P ok K) (hf : K f = true) {g : Nat} (hg : ¬ S g) {R : Obj → Prop}
    (hC : ∀ v : World, v.heap.size = w.heap.size → v.heap[g]? = w.heap[g]? → Calls P f args v fun e v' => (∃ x, e = .returned x) ∧ (∃ o, v'.heap[g]? = some o ∧ R o) ∧ v.grownBy v' (some g)) (h : Rows1 S w) :
    BW P c S (G (Frame.enter P f args .normal) (b :: base)) w (GrownAt c S b base g R w) := by
  have hs := sim_poison h
  refine (calls_beside H hf (v := poison S w) (Q := fun val v' => (∃ o, v'.heap[g]? = some o ∧ R o) ∧ ∀ k, k < w.heap.size → k ≠ g → v'.heap[k]? = (poison S w).heap[k]?) (fun _ _ _ _ h => h) (fun τ d => ?_) hs).mono ?_
  · intro cs
    obtain ⟨e, w', fr, ⟨⟨x, rfl⟩, ho, hB⟩, r⟩ := hC ((poison S w).put τ d) hs.size (hs.out g hg) cs
    exact ⟨_, w', fr, ⟨x, rfl, ho, fun k hk hne => hB.block k (by rw [← hs.size] at hk; exact hk) (fun e => hne (Option.some.inj e))⟩, r⟩
  · rintro c' S' g' w' ⟨rfl, rfl, val, v', rfl, ⟨⟨o, ho, hR⟩, hb⟩, hsim, hk⟩
    exact ⟨rfl, rfl, ⟨val, rfl⟩, ⟨o, by rw [← hsim.out g hg]; exact ho, hR⟩, hk, fun k hk1 hk2 hk3 => by rw [← hsim.out k hk2, hb k hk1 hk3, hs.out k hk2], hsim.rows⟩
/-- Behind a call that hands back something of a new block. -/
structure FreshAt (c : Nat) (S : Nat → Prop) (b : Frame) (base : List Frame) (R : Value → Nat → Obj → Prop) (w : World) (c' : Nat) (S' : Nat → Prop) (g' : Goroutine) (w' : World) : Prop where
  ec : c' = c
  eS : S' = S
  ex : ∃ x g o, g' = G (b.finish x) base ∧ w.heap.size ≤ g ∧ w'.heap[g]? = some o ∧ R x g o
  kept : KeptW w w'
  low : ∀ k, k < w.heap.size → ¬ S k → w'.heap[k]? = w.heap[k]?
  rows : Rows1 S w'
theorem fresh_beside (H : KOk P ok K) (hf : K f = true) {R : Value → Nat → Obj → Prop}
    (hC : ∀ v : World, v.heap.size = w.heap.size → (∀ k, ¬ S k → v.heap[k]? = w.heap[k]?) → Calls P f args v fun e v' => ∃ x g o, e = .returned x ∧ w.heap.size ≤ g ∧ v'.heap[g]? = some o ∧ R x g o ∧ Below v.heap.size v v') (h : Rows1 S w) :
    BW P c S (G (Frame.enter P f args .normal) (b :: base)) w (FreshAt c S b base R w) := by
  have hs := sim_poison h
  have hS : ∀ k, S k → k < w.heap.size := fun k hk => by
    obtain ⟨c, e, fr, h1⟩ := h k hk
    exact (Array.getElem?_eq_some_iff.1 h1).1
  refine (calls_beside H hf (v := poison S w) (Q := fun val v' => (∃ g o, w.heap.size ≤ g ∧ v'.heap[g]? = some o ∧ R val g o) ∧ ∀ k, k < w.heap.size → v'.heap[k]? = (poison S w).heap[k]?) (fun _ _ _ _ h => h) (fun τ d => ?_) hs).mono ?_
  · intro cs
    obtain ⟨e, w', fr, ⟨x, g, o, rfl, h1, h2, h3, hB⟩, r⟩ := hC ((poison S w).put τ d) hs.size (fun k hk => hs.out k hk) cs
    exact ⟨_, w', fr, ⟨x, rfl, ⟨g, o, h1, h2, h3⟩, fun k hk => hB.block k (by rw [← hs.size] at hk; exact hk)⟩, r⟩
  · rintro c' S' g' w' ⟨rfl, rfl, val, v', rfl, ⟨⟨g, o, h1, h2, h3⟩, hb⟩, hsim, hk⟩
    refine ⟨rfl, rfl, ⟨val, g, o, rfl, h1, ?_, h3⟩, hk, fun k hk1 hk2 => by rw [← hsim.out k hk2, hb k hk1, hs.out k hk2], hsim.rows⟩
    rw [← hsim.out g (fun hg => by have := hS g hg; omega)]
    exact h2
/-- Behind a call that makes just these new objects. -/
structure MadeAt (c : Nat) (S : Nat → Prop) (b : Frame) (base : List Frame) (x : Value) (os : Array Obj) (w : World) (c' : Nat) (S' : Nat → Prop) (g' : Goroutine) (w' : World) : Prop where
  ec : c' = c
  eS : S' = S
  eg : g' = G (b.finish x) base
  kept : KeptW w w'
  size : w'.heap.size = w.heap.size + os.size
  new : ∀ k, k < os.size → w'.heap[w.heap.size + k]? = os[k]?
  low : ∀ k, k < w.heap.size → ¬ S k → w'.heap[k]? = w.heap[k]?
  rows : Rows1 S w'
theorem made_beside (H : KOk P ok K) (hf : K f = true) {x : Value} {os : Array Obj}
    (hC : ∀ v : World, v.heap.size = w.heap.size → (∀ k, ¬ S k → v.heap[k]? = w.heap[k]?) → Calls P f args v fun e v' => e = .returned x ∧ v'.heap = v.heap ++ os) (h : Rows1 S w) :
    BW P c S (G (Frame.enter P f args .normal) (b :: base)) w (MadeAt c S b base x os w) := by
  have hs := sim_poison h
  have hS : ∀ k, S k → k < w.heap.size := fun k hk => by
    obtain ⟨c, e, fr, h1⟩ := h k hk
    exact (Array.getElem?_eq_some_iff.1 h1).1
  refine (calls_beside H hf (v := poison S w) (Q := fun val v' => val = x ∧ v'.heap = (poison S w).heap ++ os) (fun _ _ _ _ h => h) (fun τ d => ?_) hs).mono ?_
  · intro cs
    obtain ⟨e, w', fr, ⟨rfl, hB⟩, r⟩ := hC ((poison S w).put τ d) hs.size (fun k hk => hs.out k hk) cs
    exact ⟨_, w', fr, ⟨x, rfl, rfl, hB⟩, r⟩
  · rintro c' S' g' w' ⟨rfl, rfl, val, v', rfl, ⟨rfl, hb⟩, hsim, hk⟩
    have hz := hs.size
    refine ⟨rfl, rfl, rfl, hk, by rw [← hsim.size, hb, Array.size_append, hz], fun k hk1 => ?_, fun k hk1 hk2 => ?_, hsim.rows⟩
    · rw [← hsim.out _ (fun hg => by have := hS _ hg; omega), hb, Array.getElem?_append_right (by omega), hz, show w.heap.size + k - w.heap.size = k by omega]
    · rw [← hsim.out k hk2, hb, Array.getElem?_append_left (by omega), hs.out k hk2]
end
end Go.Proofs.Ytehmobcfbifocaa
