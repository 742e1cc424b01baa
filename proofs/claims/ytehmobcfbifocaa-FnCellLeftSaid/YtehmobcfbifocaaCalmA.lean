/-
  What a lone goroutine does it does beside others too: meanings that touch no shunned block, say no word of the library's and ask nothing of the outside; how such a meaning runs in two worlds that differ in shunned blocks and tapes alone. Nothing of a program.
-/
import Derived.Test.YtehmobcfbifocaaBw
import Derived.Conc.Listed
namespace Go.Proofs.Ytehmobcfbifocaa
open Go Go.Conc

/-- A halt that is a panic, or ends the run. -/
def mildHalt : Halt → Prop
  | .panic _ | .unsupported _ | .stuck _ => True
  | _ => False
/-- It only halts, and by no panic. -/
inductive Dead (P : Program) {α : Type} : Sem α → Prop
  | stuck {s : String} : Dead P (.halt (.stuck s))
  | unsupported {u : Unsupported} : Dead P (.halt (.unsupported u))
  | program {k : Program → Sem α} : Dead P (k P) → Dead P (.program k)
  | shape {r : Nat} {k : Option (TypeId × Nat) → Sem α} : (∀ s, Dead P (k s)) → Dead P (.shape r k)
  | frozen {a : Addr} {k : Bool → Sem α} : (∀ b, Dead P (k b)) → Dead P (.frozen a k)
  | room {k : Sem α} : Dead P k → Dead P (.mark .noRoom k)

inductive Calm (P : Program) {α : Type} (Q : α → Prop) : Sem α → Prop
  | pure {a : α} : Q a → Calm P Q (.pure a)
  | load {m : Mode} {a : Addr} {k : Value → Sem α} : (∀ v, Calm P Q (k v)) → Calm P Q (.load m a k)
  | store {m : Mode} {a : Addr} {v : Value} {k : Sem α} : Calm P Q k → Calm P Q (.store m a v k)
  | new {o : Obj} {k : Nat → Sem α} : (∀ r, Calm P Q (k r)) → Calm P Q (.new o k)
  | shape {r : Nat} {k : Option (TypeId × Nat) → Sem α} : (∀ s, Calm P Q (k s)) → (∀ e n, k (some (e, 0)) = k (some (e, n)) ∨ Dead P (k (some (e, 0)))) → Calm P Q (.shape r k)
  | frozen {a : Addr} {k : Bool → Sem α} : (∀ b, Calm P Q (k b)) → Calm P Q (.frozen a k)
  | getObj {r : Nat} {k : Obj → Sem α} : (∀ o, Calm P Q (k o)) → Calm P Q (.getObj r k)
  | setObj {r : Nat} {o : Obj} {k : Sem α} : Calm P Q k → Calm P Q (.setObj r o k)
  | choose {q : Question} {k : Nat → Sem α} : (∀ n, Calm P Q (k n)) → Calm P Q (.choose q k)
  | program {k : Program → Sem α} : Calm P Q (k P) → Calm P Q (.program k)
  | room {k : Sem α} : Calm P Q k → Calm P Q (.mark .noRoom k)
  | halt {h : Halt} : mildHalt h → Calm P Q (.halt h)

section
variable {P : Program} {α β : Type} {Q : α → Prop} {Q' : β → Prop}
theorem Dead.bind {s : Sem α} {f : α → Sem β} (h : Dead P s) : Dead P (s.bind f) := by
  induction h with
  | stuck => exact .stuck
  | unsupported => exact .unsupported
  | program _ ih => exact .program ih
  | shape _ ih => exact .shape ih
  | frozen _ ih => exact .frozen ih
  | room _ ih => exact .room ih
theorem Calm.bind {s : Sem α} {f : α → Sem β} (h : Calm P Q s) (hf : ∀ a, Q a → Calm P Q' (f a)) : Calm P Q' (s.bind f) := by
  induction h with
  | pure h => exact hf _ h
  | load _ ih => exact .load ih
  | store _ ih => exact .store ih
  | new _ ih => exact .new ih
  | shape _ hb ih => exact .shape ih fun e n => (hb e n).imp (fun x => by rw [x]) Dead.bind
  | frozen _ ih => exact .frozen ih
  | getObj _ ih => exact .getObj ih
  | setObj _ ih => exact .setObj ih
  | choose _ ih => exact .choose ih
  | program _ ih => exact .program ih
  | room _ ih => exact .room ih
  | halt h => exact .halt h
theorem Calm.mono {Q₂ : α → Prop} {s : Sem α} (h : Calm P Q s) (hq : ∀ a, Q a → Q₂ a) : Calm P Q₂ s := by
  induction h with
  | pure h => exact .pure (hq _ h)
  | load _ ih => exact .load ih
  | store _ ih => exact .store ih
  | new _ ih => exact .new ih
  | shape _ hb ih => exact .shape ih hb
  | frozen _ ih => exact .frozen ih
  | getObj _ ih => exact .getObj ih
  | setObj _ ih => exact .setObj ih
  | choose _ ih => exact .choose ih
  | program _ ih => exact .program ih
  | room _ ih => exact .room ih
  | halt h => exact .halt h
end

def _root_.Go.Result.world {α : Type} : Result α → World
  | .ok _ w | .halt _ w => w
def _root_.Go.Result.into {α : Type} (r : Result α) (w : World) : Result α :=
  match r with
  | .ok a _ => .ok a w
  | .halt h _ => .halt h w
/-- It goes on: by a value or by a panic. -/
def _root_.Go.Result.live {α : Type} : Result α → Prop
  | .ok _ _ | .halt (.panic _) _ => True
  | _ => False

/-- v: as w, but that the shunned blocks are empty rows there; the tapes are apart. -/
structure Sim (S : Nat → Prop) (v w : World) : Prop where
  size : v.heap.size = w.heap.size
  out : ∀ b, ¬ S b → v.heap[b]? = w.heap[b]?
  sh : ∀ b, S b → ∃ e c fr, v.heap[b]? = some (.cells #[] e fr) ∧ w.heap[b]? = some (.cells c e fr)
  os : v.os = w.os
  output : v.output = w.output
/-- The next n answers are the same. -/
def Agree (v w : World) (n : Nat) : Prop := ∀ k q, k < n → w.tape (w.drawn + k) q = v.tape (v.drawn + k) q
theorem Sim.drew {S : Nat → Prop} {v w : World} (h : Sim S v w) (d d' : Nat) : Sim S { v with drawn := d } { w with drawn := d' } := ⟨h.size, h.out, h.sh, h.os, h.output⟩

section
variable {S : Nat → Prop} {v w : World}
theorem Sim.bound (h : Sim S v w) {b : Nat} (hb : S b) : b < v.heap.size := by
  obtain ⟨e, c, fr, h1, _⟩ := h.sh b hb
  exact (Array.getElem?_eq_some_iff.1 h1).1
theorem Sim.cell (h : Sim S v w) {a : Addr} {x : Value} (hx : v.cell? a = some x) : w.cell? a = some x ∧ ¬ S a.block ∧ a.block < v.heap.size := by
  have hn : ¬ S a.block := fun hs => by
    obtain ⟨e, c, fr, h1, _⟩ := h.sh _ hs
    simp [World.cell?, h1] at hx
  have e := h.out _ hn
  refine ⟨?_, hn, ?_⟩
  · simp only [World.cell?, ← e]
    exact hx
  · simp only [World.cell?] at hx
    cases hh : v.heap[a.block]? with
    | none => rw [hh] at hx; cases hx
    | some o => exact (Array.getElem?_eq_some_iff.1 hh).1
theorem Sim.noCell (h : Sim S v w) {a : Addr} (hn : ¬ S a.block) : w.cell? a = v.cell? a := by simp only [World.cell?, ← h.out _ hn]
theorem Sim.frozen (h : Sim S v w) (a : Addr) : v.frozen? a = w.frozen? a := by
  by_cases hs : S a.block
  · obtain ⟨e, c, fr, h1, h2⟩ := h.sh _ hs
    simp [World.frozen?, h1, h2]
  · simp only [World.frozen?, ← h.out _ hs]
theorem Sim.push (h : Sim S v w) (o : Obj) : Sim S { v with heap := v.heap.push o } { w with heap := w.heap.push o } := by
  refine ⟨by simp [h.size], fun b hb => ?_, fun b hb => ?_, h.os, h.output⟩
  · simp only [Array.getElem?_push, h.size]
    by_cases e : b = w.heap.size
    · rw [if_pos e, if_pos e]
    · rw [if_neg e, if_neg e]
      exact h.out b hb
  · have hlt := h.bound hb
    obtain ⟨e, c, fr, h1, h2⟩ := h.sh b hb
    refine ⟨e, c, fr, ?_, ?_⟩
    · simp only [Array.getElem?_push]
      rw [if_neg (by omega)]
      exact h1
    · simp only [Array.getElem?_push]
      rw [if_neg (by rw [← h.size]; omega)]
      exact h2
theorem Sim.put (h : Sim S v w) {r : Nat} (hr : ¬ S r) (o : Obj) : Sim S { v with heap := v.heap.setIfInBounds r o } { w with heap := w.heap.setIfInBounds r o } := by
  refine ⟨by simp [h.size], fun b hb => ?_, fun b hb => ?_, h.os, h.output⟩
  · by_cases e : r = b
    · subst e
      simp only [Array.getElem?_setIfInBounds_self, h.size]
    · simp only [Array.getElem?_setIfInBounds_ne e]
      exact h.out b hb
  · have e : r ≠ b := fun e => hr (e ▸ hb)
    obtain ⟨e', c, fr, h1, h2⟩ := h.sh b hb
    exact ⟨e', c, fr, by simp only [Array.getElem?_setIfInBounds_ne e]; exact h1, by simp only [Array.getElem?_setIfInBounds_ne e]; exact h2⟩
theorem Sim.setCell (h : Sim S v w) {a : Addr} (hn : ¬ S a.block) (x : Value) : Sim S (v.setCell a x) (w.setCell a x) := by
  refine ⟨by simp [World.setCell, h.size], fun b hb => ?_, fun b hb => ?_, h.os, h.output⟩
  · by_cases e : b = a.block
    · subst e
      simp only [World.setCell, Array.getElem?_modify, if_true, h.out _ hn]
    · rw [(aside_setCell v a x).block b e, (aside_setCell w a x).block b e]
      exact h.out b hb
  · have e : b ≠ a.block := fun e => hn (e ▸ hb)
    obtain ⟨e', c, fr, h1, h2⟩ := h.sh b hb
    exact ⟨e', c, fr, by rw [(aside_setCell v a x).block b e]; exact h1, by rw [(aside_setCell w a x).block b e]; exact h2⟩
end
end Go.Proofs.Ytehmobcfbifocaa
/-
  A memory seen as another type: what lies in an empty row is never seen. Nothing of a program.
-/
namespace Go.Proofs.Ytehmobcfbifocaa
open Go Go.Conc

theorem leBytes_length : ∀ (s n : Nat), (leBytes s n).length = s
  | 0, _ => rfl
  | s + 1, n => by simp [leBytes, leBytes_length s]
theorem bytes_some {v : Value} {l : List UInt8} (h : v.bytes? = some l) : 1 ≤ l.length := by
  cases v <;> simp only [Value.bytes?, Option.some.injEq, reduceCtorEq] at h
  case bool => subst h; simp
  case int k n => subst h; rw [leBytes_length]; cases k <;> decide
  case float k n => subst h; rw [leBytes_length]; cases k <;> decide
  case complex k a b => subst h; simp only [List.length_append, leBytes_length]; cases k <;> decide
theorem seenCells_empty {p : Program} {e : TypeId} (f x stop : Nat) (h : x < stop) : ∃ why, seenCells p #[] e (f + 1) x stop = .error why := by
  unfold seenCells
  rw [if_neg (by omega)]
  dsimp only
  split
  · exact ⟨_, rfl⟩
  split
  · exact ⟨_, rfl⟩
  · simp only [List.getElem?_toArray, List.getElem?_nil]
    exact ⟨_, rfl⟩
theorem seen_poison {p : Program} {w : World} {at_ : Addr} {u : TypeId} {k : Addr} {atomic : Bool} {e : TypeId} {fr : Nat × Nat} (h : w.heap[at_.block]? = some (.cells #[] e fr)) (x : Array Value × TypeId × (Nat × Nat) × Nat × Value × List (Nat × Nat × List UInt8)) : w.seen p at_ u k atomic ≠ .ok x := by
  intro hx
  unfold World.seen at hx
  have thr : ∀ {α : Type} (s : String), (MonadExcept.throw s : Except String α) = .error s := fun _ => rfl
  simp only [h, bind, Except.bind, pure, Except.pure, thr] at hx
  split at hx
  · cases hx
  split at hx
  · split at hx
    · rename_i size hs
      obtain ⟨l, hl, rfl⟩ := Option.map_eq_some_iff.1 hs
      have h1 := bytes_some hl
      split at hx
      · split at hx
        · cases hx
        · split at hx
          · rename_i β _ _ _ b0 _
            obtain ⟨why, hw⟩ := seenCells_empty (p := p) (e := e) l.length (at_.off / p.cellsOf e * p.bytesOf e + b0 + β) (at_.off / p.cellsOf e * p.bytesOf e + b0 + β + l.length) (by omega)
            rw [hw] at hx
            cases hx
          · cases hx
      · cases hx
    · cases hx
  · cases hx
theorem seen_lives {p : Program} {w : World} {at_ : Addr} {u : TypeId} {k : Addr} {atomic : Bool} (h : w.heap[at_.block]? = none) (x : Array Value × TypeId × (Nat × Nat) × Nat × Value × List (Nat × Nat × List UInt8)) : w.seen p at_ u k atomic ≠ .ok x := by
  intro hx
  unfold World.seen at hx
  have thr : ∀ {α : Type} (s : String), (MonadExcept.throw s : Except String α) = .error s := fun _ => rfl
  simp only [h, bind, Except.bind, thr] at hx
  split at hx
  · cases hx
  split at hx
  · split at hx
    · split at hx <;> cases hx
    · cases hx
  · cases hx
/-- What is seen hangs on the seen row alone. -/
theorem seen_same {p : Program} {v w : World} {at_ : Addr} {u : TypeId} {k : Addr} {atomic : Bool} (h : v.heap[at_.block]? = w.heap[at_.block]?) : v.seen p at_ u k atomic = w.seen p at_ u k atomic := by
  unfold World.seen
  rw [h]
theorem viewLoad_ok {p : Program} {w : World} {at_ : Addr} {u : TypeId} {k : Addr} {atomic : Bool} {r : Value × List Addr} (h : w.viewLoad p at_ u k atomic = .ok r) :
    (∃ x, w.seen p at_ u k atomic = .ok x) ∧ (∀ a ∈ r.2, a.block = at_.block) ∧ ∀ v : World, v.heap[at_.block]? = w.heap[at_.block]? → v.viewLoad p at_ u k atomic = .ok r := by
  refine ⟨?_, ?_, fun v hv => ?_⟩
  · unfold World.viewLoad at h
    cases hs : w.seen p at_ u k atomic with
    | ok x => exact ⟨x, rfl⟩
    | error e => rw [hs] at h; cases h
  · unfold World.viewLoad at h
    cases hs : w.seen p at_ u k atomic with
    | error e => rw [hs] at h; cases h
    | ok x =>
      rw [hs] at h
      obtain ⟨a1, a2, a3, a4, a5, a6⟩ := x
      simp only [bind, Except.bind, pure, Except.pure] at h
      split at h
      · cases h
        intro a ha
        obtain ⟨y, _, rfl⟩ := List.mem_map.1 ha
        rfl
      · cases h
  · unfold World.viewLoad at h ⊢
    rw [seen_same hv]
    exact h
theorem viewStore_ok {p : Program} {w w' : World} {at_ : Addr} {u : TypeId} {k : Addr} {x : Value} {atomic : Bool} {l : List Addr} (h : w.viewStore p at_ u k x atomic = .ok (w', l)) :
    (∃ y, w.seen p at_ u k atomic = .ok y) ∧ (∀ a ∈ l, a.block = at_.block) ∧ ∃ o, w' = { w with heap := w.heap.setIfInBounds at_.block o } ∧ ∀ v : World, v.heap[at_.block]? = w.heap[at_.block]? → v.viewStore p at_ u k x atomic = .ok ({ v with heap := v.heap.setIfInBounds at_.block o }, l) := by
  have thr : ∀ {α : Type} (s : String), (MonadExcept.throw s : Except String α) = .error s := fun _ => rfl
  unfold World.viewStore at h
  simp only [bind, Except.bind, pure, Except.pure, thr] at h
  split at h
  · cases h
  rename_i ht
  cases hs : w.seen p at_ u k atomic with
  | error e => rw [hs] at h; cases h
  | ok y =>
    rw [hs] at h
    obtain ⟨a1, a2, a3, a4, a5, a6⟩ := y
    simp only at h
    split at h
    · rename_i bytes hb
      split at h
      · cases h
      rename_i hsz
      split at h
      · cases h
      rename_i c hc
      simp only [Except.ok.injEq, Prod.mk.injEq] at h
      obtain ⟨rfl, rfl⟩ := h
      refine ⟨⟨_, rfl⟩, fun a ha => ?_, _, rfl, fun v hv => ?_⟩
      · obtain ⟨z, _, rfl⟩ := List.mem_map.1 ha
        rfl
      · unfold World.viewStore
        rw [seen_same hv, hs]
        simp only [bind, Except.bind, pure, Except.pure, thr]
        rw [if_neg ht]
        simp only [hb]
        rw [if_neg hsz]
        rw [hc]
    · cases h
end Go.Proofs.Ytehmobcfbifocaa
/-
  A calm meaning runs alike in two worlds that differ in shunned blocks and tapes alone; what it lists. Nothing of a program.
-/
namespace Go.Proofs.Ytehmobcfbifocaa
open Go Go.Conc

structure Kept (v v' : World) : Prop where
  tape : v'.tape = v.tape
  drawn : v.drawn ≤ v'.drawn
  size : v.heap.size ≤ v'.heap.size
  os : v'.os = v.os
  output : v'.output = v.output
theorem Kept.refl (v : World) : Kept v v := ⟨rfl, Nat.le_refl _, Nat.le_refl _, rfl, rfl⟩
theorem Kept.trans {a b c : World} (h : Kept a b) (k : Kept b c) : Kept a c := ⟨k.tape.trans h.tape, Nat.le_trans h.drawn k.drawn, Nat.le_trans h.size k.size, k.os.trans h.os, k.output.trans h.output⟩
theorem Kept.set (v : World) (a : Addr) (x : Value) : Kept v (v.setCell a x) := ⟨rfl, Nat.le_refl _, Nat.le_of_eq (by simp [World.setCell]), rfl, rfl⟩
theorem Kept.push (v : World) (o : Obj) : Kept v { v with heap := v.heap.push o } := ⟨rfl, Nat.le_refl _, by simp, rfl, rfl⟩
theorem Kept.put (v : World) (r : Nat) (o : Obj) : Kept v { v with heap := v.heap.setIfInBounds r o } := ⟨rfl, Nat.le_refl _, by simp, rfl, rfl⟩
theorem Kept.draw (v : World) : Kept v { v with drawn := v.drawn + 1 } := ⟨rfl, Nat.le_succ _, Nat.le_refl _, rfl, rfl⟩

def GoodEs (S : Nat → Prop) (N : Nat) (es es' : Array Event) : Prop := ∃ new : Array Event, es' = es ++ new ∧ ∀ e ∈ new, EvF (ShOf S) N e
section
variable {S : Nat → Prop} {N : Nat} {es es₁ es' : Array Event}
theorem GoodEs.refl : GoodEs S N es es := ⟨#[], by simp, by simp⟩
theorem GoodEs.more {new : Array Event} (hn : ∀ e ∈ new, EvF (ShOf S) N e) (h : GoodEs S N (es ++ new) es') : GoodEs S N es es' := by
  obtain ⟨n2, rfl, h2⟩ := h
  exact ⟨new ++ n2, by simp, fun e he => (Array.mem_append.1 he).elim (hn e) (h2 e)⟩
theorem GoodEs.push {x : Event} (hx : EvF (ShOf S) N x) (h : GoodEs S N (es.push x) es') : GoodEs S N es es' := by
  refine GoodEs.more (new := #[x]) (fun e he => ?_) (by simpa using h)
  rw [Array.mem_singleton] at he
  exact he ▸ hx
theorem evF_obj {r : Nat} {wr s : Bool} (h : r < N) : EvF (ShOf S) N ⟨.obj r, wr, s⟩ := by
  refine ⟨fun x hx => ?_, by simp, by simp⟩
  cases wr <;> cases s <;> simp only [MemAct.ofEvent, MemAct.touch?, Option.some.injEq, reduceCtorEq] at hx
  all_goals
    subst hx
    refine ⟨?_, h⟩
    rintro ⟨a, ha, _⟩
    cases ha
theorem evF_room : EvF (ShOf S) N ⟨.mark .noRoom, false, true⟩ := by
  refine ⟨fun x hx => ?_, by simp, by simp⟩
  simp [MemAct.ofEvent, MemAct.touch?] at hx
theorem farLoad_sim {P : Program} {v w : World} {a : Addr} {m : Bool} {x : Value} {l : List Addr} (h : Sim S v w) (hc : v.cell? a = none) (hl : v.farLoad P a m = .ok (x, l)) :
    w.cell? a = none ∧ w.farLoad P a m = .ok (x, l) ∧ ∀ b ∈ l, ¬ S b.block ∧ b.block < v.heap.size := by
  have hn : ¬ S a.block := fun hs => by
    obtain ⟨e, c, fr, h1, _⟩ := h.sh _ hs
    simp [World.farLoad, h1] at hl
  unfold World.farLoad at hl ⊢
  rw [← h.out _ hn]
  split at hl
  · rename_i at_ u hv
    cases hvl : v.viewLoad P at_ u a m with
    | error why => rw [hvl] at hl; cases hl
    | ok r =>
      rw [hvl] at hl
      obtain rfl := Except.ok.inj hl
      obtain ⟨⟨y, hy⟩, hb, hsame⟩ := viewLoad_ok hvl
      have hna : ¬ S at_.block := fun hs => by
        obtain ⟨e, c, fr, h1, _⟩ := h.sh _ hs
        exact seen_poison h1 y hy
      have hlt : at_.block < v.heap.size := by
        cases hh : v.heap[at_.block]? with
        | none => exact absurd hy (seen_lives hh y)
        | some o => exact (Array.getElem?_eq_some_iff.1 hh).1
      refine ⟨by rw [h.noCell hn]; exact hc, ?_, fun b hb' => by rw [hb b hb']; exact ⟨hna, hlt⟩⟩
      simp only [hsame w (h.out _ hna).symm]
  · cases hl
theorem farStore_sim {P : Program} {v w v' : World} {a : Addr} {m : Bool} {x : Value} {l : List Addr} (h : Sim S v w) (hc : v.cell? a = none) (hl : v.farStore P a x m = .ok (v', l)) :
    w.cell? a = none ∧ (∃ w', w.farStore P a x m = .ok (w', l) ∧ Sim S v' w' ∧ Kept w w' ∧ w'.drawn = w.drawn) ∧ Kept v v' ∧ v'.drawn = v.drawn ∧ ∀ b ∈ l, ¬ S b.block ∧ b.block < v.heap.size := by
  have hn : ¬ S a.block := fun hs => by
    obtain ⟨e, c, fr, h1, _⟩ := h.sh _ hs
    simp [World.farStore, h1] at hl
  unfold World.farStore at hl ⊢
  rw [← h.out _ hn]
  split at hl
  · rename_i at_ u hv
    cases hvl : v.viewStore P at_ u a x m with
    | error why => rw [hvl] at hl; cases hl
    | ok r =>
      rw [hvl] at hl
      obtain rfl := Except.ok.inj hl
      obtain ⟨⟨y, hy⟩, hb, o, rfl, hsame⟩ := viewStore_ok hvl
      have hna : ¬ S at_.block := fun hs => by
        obtain ⟨e, c, fr, h1, _⟩ := h.sh _ hs
        exact seen_poison h1 y hy
      have hlt : at_.block < v.heap.size := by
        cases hh : v.heap[at_.block]? with
        | none => exact absurd hy (seen_lives hh y)
        | some o => exact (Array.getElem?_eq_some_iff.1 hh).1
      refine ⟨by rw [h.noCell hn]; exact hc, ⟨_, ?_, h.put hna o, Kept.put w _ _, rfl⟩, Kept.put v _ _, rfl, fun b hb' => by rw [hb b hb']; exact ⟨hna, hlt⟩⟩
      simp only [hsame w (h.out _ hna).symm]
  · cases hl
end

section
variable {P : Program} {α : Type} {Q : α → Prop} {S : Nat → Prop}
theorem Dead.run {s : Sem α} (h : Dead P s) : ∀ (v : World) (es : Array Event), ¬ (s.runT P v es).1.live := by
  induction h with
  | stuck => exact fun v es h => h
  | unsupported => exact fun v es h => h
  | program _ ih => exact fun v es h => ih v es h
  | shape _ ih => exact fun v es h => ih _ v es h
  | frozen _ ih => exact fun v es h => ih _ v es h
  | room _ ih => exact fun v es h => ih v _ h
theorem noCell_mild (v : World) (a : Addr) (s : String) : mildHalt (v.noCell a s) := by
  unfold World.noCell
  split <;> trivial
theorem farLoad_mild {v : World} {a : Addr} {m : Bool} {h : Halt} (e : v.farLoad P a m = .error h) : mildHalt h ∧ ∀ u, h ≠ .panic u := by
  unfold World.farLoad at e
  split at e
  · split at e
    · cases e
    · cases e; exact ⟨trivial, by simp⟩
  · cases e
    refine ⟨noCell_mild _ _ _, fun u hu => ?_⟩
    unfold World.noCell at hu
    split at hu <;> cases hu
theorem farStore_mild {v : World} {a : Addr} {x : Value} {m : Bool} {h : Halt} (e : v.farStore P a x m = .error h) : mildHalt h ∧ ∀ u, h ≠ .panic u := by
  unfold World.farStore at e
  split at e
  · split at e
    · cases e
    · cases e; exact ⟨trivial, by simp⟩
  · cases e
    refine ⟨noCell_mild _ _ _, fun u hu => ?_⟩
    unfold World.noCell at hu
    split at hu <;> cases hu

/-- A store, by what it stores. -/
theorem runT_store {m : Mode} {a : Addr} {x : Value} {k : Sem α} : (∀ (v : World) (es : Array Event), (Sem.store m a x k).runT P v es = (.halt (.stuck "store: not the value of one cell") v, es)) ∨
    ∀ (v : World) (es : Array Event), (v.cell? a ≠ none → v.frozen? a = false → (Sem.store m a x k).runT P v es = k.runT P (v.setCell a x) (es.push ⟨.cell a, true, m == .atomic⟩)) ∧
      (v.cell? a ≠ none → v.frozen? a = true → ∃ u, (Sem.store m a x k).runT P v es = (.halt (.unsupported u) v, es)) ∧
      (v.cell? a = none → ∀ h, v.farStore P a x (m == .atomic) = .error h → (Sem.store m a x k).runT P v es = (.halt h v, es)) ∧
      (v.cell? a = none → ∀ v₁ l, v.farStore P a x (m == .atomic) = .ok (v₁, l) → (Sem.store m a x k).runT P v es = k.runT P v₁ (es ++ l.toArray.map (⟨.cell ·, true, m == .atomic⟩))) := by
  cases x <;> first | exact .inl fun _ _ => rfl | skip
  all_goals
    refine .inr fun v es => ⟨fun h1 h2 => ?_, fun h1 h2 => ?_, fun h1 h h2 => ?_, fun h1 v₁ l h2 => ?_⟩
    · obtain ⟨y, hy⟩ := Option.ne_none_iff_exists'.1 h1
      simp [Sem.runT, hy, h2]
    · obtain ⟨y, hy⟩ := Option.ne_none_iff_exists'.1 h1
      exact ⟨_, by simp [Sem.runT, hy, h2]; rfl⟩
    · simp [Sem.runT, h1, h2]
    · simp [Sem.runT, h1, h2]
/-- Whatever comes out: what is kept; a halt is mild. -/
theorem Calm.kept {s : Sem α} (hc : Calm P Q s) : ∀ (v : World) (es : Array Event), Kept v (s.runT P v es).1.world ∧ ∀ h v', (s.runT P v es).1 = .halt h v' → mildHalt h := by
  induction hc with
  | pure _ => exact fun v es => ⟨.refl v, fun h v' e => by cases e⟩
  | load _ ih =>
    rename_i m a k _
    intro v es
    simp only [Sem.runT]
    cases v.cell? a with
    | some x => exact ih x v _
    | none =>
      simp only
      cases hf : v.farLoad P a (m == .atomic) with
      | error h => exact ⟨.refl v, fun h' v' e => by cases e; exact (farLoad_mild hf).1⟩
      | ok r => exact ih _ v _
  | store _ ih =>
    rename_i m a x k _
    intro v es
    rcases runT_store (P := P) (m := m) (a := a) (x := x) (k := k) with hs | hs
    · rw [hs v es]
      exact ⟨.refl v, fun h' v' e => by cases e; trivial⟩
    obtain ⟨s1, s2, s3, s4⟩ := hs v es
    by_cases hcell : v.cell? a = none
    · cases hf : v.farStore P a x (m == .atomic) with
      | error h =>
        rw [s3 hcell h hf]
        exact ⟨.refl v, fun h' v' e => by cases e; exact (farStore_mild hf).1⟩
      | ok r =>
        obtain ⟨v₁, l⟩ := r
        rw [s4 hcell v₁ l hf]
        obtain ⟨h1, h2⟩ := ih v₁ (es ++ l.toArray.map (⟨.cell ·, true, m == .atomic⟩))
        refine ⟨Kept.trans ?_ h1, h2⟩
        unfold World.farStore at hf
        split at hf
        · split at hf
          · rename_i hv
            obtain rfl := Except.ok.inj hf
            obtain ⟨_, _, o, rfl, _⟩ := viewStore_ok hv
            exact Kept.put v _ _
          · cases hf
        · cases hf
    · cases hfr : v.frozen? a with
      | true =>
        obtain ⟨u, hu⟩ := s2 hcell hfr
        rw [hu]
        exact ⟨.refl v, fun h' v' e => by cases e; trivial⟩
      | false =>
        rw [s1 hcell hfr]
        obtain ⟨h1, h2⟩ := ih (v.setCell a x) (es.push ⟨.cell a, true, m == .atomic⟩)
        exact ⟨(Kept.set v a x).trans h1, h2⟩
  | new _ ih =>
    rename_i o k _
    intro v es
    obtain ⟨h1, h2⟩ := ih v.heap.size { v with heap := v.heap.push o } es
    exact ⟨(Kept.push v o).trans h1, h2⟩
  | shape _ _ ih => exact fun v es => ih _ v es
  | frozen _ ih => exact fun v es => ih _ v es
  | getObj _ ih =>
    rename_i r k _
    intro v es
    simp only [Sem.runT]
    split
    · exact ⟨.refl v, fun h' v' e => by cases e; trivial⟩
    · exact ih _ v _
    · exact ⟨.refl v, fun h' v' e => by cases e; trivial⟩
  | setObj _ ih =>
    rename_i r o k _
    intro v es
    simp only [Sem.runT]
    split
    · exact ⟨.refl v, fun h' v' e => by cases e; trivial⟩
    · obtain ⟨h1, h2⟩ := ih { v with heap := v.heap.setIfInBounds r o } (es.push ⟨.obj r, true, o.isChan⟩)
      exact ⟨(Kept.put v r o).trans h1, h2⟩
    · exact ⟨.refl v, fun h' v' e => by cases e; trivial⟩
  | choose _ ih =>
    rename_i q k _
    intro v es
    simp only [Sem.runT]
    split
    · exact ih 0 v es
    · obtain ⟨h1, h2⟩ := ih (q.cut (v.tape v.drawn q)) { v with drawn := v.drawn + 1 } es
      exact ⟨(Kept.draw v).trans h1, h2⟩
  | program _ ih => exact fun v es => ih v es
  | room _ ih => exact fun v es => ih v _
  | halt h => exact fun v es => ⟨.refl v, fun h' v' e => by cases e; exact h⟩
end
end Go.Proofs.Ytehmobcfbifocaa
/-
  A calm meaning runs alike in two worlds that differ in shunned blocks and tapes alone. Nothing of a program.
-/
namespace Go.Proofs.Ytehmobcfbifocaa
open Go Go.Conc

section
variable {P : Program} {α : Type} {Q : α → Prop} {S : Nat → Prop}
/-- How far the two have come. -/
structure Par (S : Nat → Prop) (v w v' w' : World) : Prop where
  sim : Sim S v' w'
  kept : Kept w w'
  drawn : w'.drawn + v.drawn = w.drawn + v'.drawn
theorem Par.refl {v w : World} (h : Sim S v w) : Par S v w v w := ⟨h, .refl w, rfl⟩
theorem Par.trans {v w v₁ w₁ v₂ w₂ : World} (h : Kept w w₁) (hd : w₁.drawn + v.drawn = w.drawn + v₁.drawn) (k : Par S v₁ w₁ v₂ w₂) : Par S v w v₂ w₂ :=
  ⟨k.sim, h.trans k.kept, by have := k.drawn; omega⟩
theorem evF_marks {N : Nat} {l : List Addr} {wr s : Bool} (h : ∀ b ∈ l, ¬ S b.block ∧ b.block < N) : ∀ e ∈ l.toArray.map (fun a => (⟨.cell a, wr, s⟩ : Event)), EvF (ShOf S) N e := by
  intro e he
  obtain ⟨a, ha, rfl⟩ := Array.mem_map.1 he
  obtain ⟨h1, h2⟩ := h a (by simpa using ha)
  exact evF_cell h1 h2

theorem Calm.sim {s : Sem α} (hc : Calm P Q s) : ∀ (v w : World) (es : Array Event), Sim S v w → (s.runT P v es).1.live → Agree v w ((s.runT P v es).1.world.drawn - v.drawn) →
    ∃ w', s.runT P w es = ((s.runT P v es).1.into w', (s.runT P v es).2) ∧ Par S v w (s.runT P v es).1.world w' ∧ (∀ a v', (s.runT P v es).1 = .ok a v' → Q a) ∧ GoodEs S (s.runT P v es).1.world.heap.size es (s.runT P v es).2 := by
  induction hc with
  | pure h => exact fun v w es hs _ _ => ⟨w, rfl, .refl hs, fun a v' e => by cases e; exact h, .refl⟩
  | load hk ih =>
    rename_i m a k
    intro v w es hs hl hA
    cases hx : v.cell? a with
    | some x =>
      obtain ⟨h1, h2, h3⟩ := hs.cell hx
      have e1 : ∀ es', (Sem.load m a k).runT P v es' = (k x).runT P v (es'.push ⟨.cell a, false, m == .atomic⟩) := fun es' => by simp only [Sem.runT, hx]
      have e2 : ∀ es', (Sem.load m a k).runT P w es' = (k x).runT P w (es'.push ⟨.cell a, false, m == .atomic⟩) := fun es' => by simp only [Sem.runT, h1]
      rw [e1] at hl hA ⊢
      rw [e2]
      obtain ⟨w', f1, f2, f3, f4⟩ := ih x v w _ hs hl hA
      exact ⟨w', f1, f2, f3, .push (evF_cell h2 (Nat.lt_of_lt_of_le h3 ((hk x).kept v _).1.size)) f4⟩
    | none =>
      cases hf : v.farLoad P a (m == .atomic) with
      | error h =>
        exfalso
        have e1 : (Sem.load m a k).runT P v es = (.halt h v, es) := by simp only [Sem.runT, hx, hf]
        rw [e1] at hl
        have := (farLoad_mild hf).2
        cases h <;> first | exact hl | exact this _ rfl
      | ok r =>
        obtain ⟨x, l⟩ := r
        obtain ⟨h1, h2, h3⟩ := farLoad_sim hs hx hf
        have e1 : ∀ es', (Sem.load m a k).runT P v es' = (k x).runT P v (es' ++ l.toArray.map (⟨.cell ·, false, m == .atomic⟩)) := fun es' => by simp only [Sem.runT, hx, hf]
        have e2 : ∀ es', (Sem.load m a k).runT P w es' = (k x).runT P w (es' ++ l.toArray.map (⟨.cell ·, false, m == .atomic⟩)) := fun es' => by simp only [Sem.runT, h1, h2]
        rw [e1] at hl hA ⊢
        rw [e2]
        obtain ⟨w', f1, f2, f3, f4⟩ := ih x v w _ hs hl hA
        exact ⟨w', f1, f2, f3, .more (evF_marks fun b hb => ⟨(h3 b hb).1, Nat.lt_of_lt_of_le (h3 b hb).2 ((hk x).kept v _).1.size⟩) f4⟩
  | store hk ih =>
    rename_i m a x k
    intro v w es hs hl hA
    rcases runT_store (P := P) (m := m) (a := a) (x := x) (k := k) with hr | hr
    · rw [hr v es] at hl
      exact hl.elim
    obtain ⟨s1, s2, s3, s4⟩ := hr v es
    obtain ⟨t1, t2, t3, t4⟩ := hr w es
    by_cases hcell : v.cell? a = none
    · cases hf : v.farStore P a x (m == .atomic) with
      | error h =>
        rw [s3 hcell h hf] at hl
        have := (farStore_mild hf).2
        cases h <;> first | exact hl.elim | exact (this _ rfl).elim
      | ok r =>
        obtain ⟨v₁, l⟩ := r
        obtain ⟨h1, ⟨w₁, h2, h3, h4, h4'⟩, h5, h5', h6⟩ := farStore_sim hs hcell hf
        rw [s4 hcell v₁ l hf] at hl hA ⊢
        rw [t4 h1 w₁ l h2]
        obtain ⟨w', f1, f2, f3, f4⟩ := ih v₁ w₁ _ h3 hl (by rw [h5']; intro i q hi; rw [h4', h4.tape, h5', h5.tape]; exact hA i q hi)
        exact ⟨w', f1, .trans h4 (by rw [h4', h5']) f2, f3, .more (evF_marks fun b hb => ⟨(h6 b hb).1, Nat.lt_of_lt_of_le (h6 b hb).2 (Nat.le_trans h5.size (hk.kept v₁ _).1.size)⟩) f4⟩
    · obtain ⟨y, hy⟩ := Option.ne_none_iff_exists'.1 hcell
      obtain ⟨h1, h2, h3⟩ := hs.cell hy
      cases hfr : v.frozen? a with
      | true =>
        obtain ⟨u, hu⟩ := s2 hcell hfr
        rw [hu] at hl
        exact hl.elim
      | false =>
        rw [s1 hcell hfr] at hl hA ⊢
        rw [t1 (by rw [h1]; simp) (by rw [← hs.frozen]; exact hfr)]
        obtain ⟨w', f1, f2, f3, f4⟩ := ih (v.setCell a x) (w.setCell a x) _ (hs.setCell h2 x) hl hA
        exact ⟨w', f1, .trans (v₁ := v.setCell a x) (Kept.set w a x) rfl f2, f3, .push (evF_cell h2 (Nat.lt_of_lt_of_le h3 (Nat.le_trans (Kept.set v a x).size (hk.kept (v.setCell a x) _).1.size))) f4⟩
  | new hk ih =>
    rename_i o k
    intro v w es hs hl hA
    have e1 : (Sem.new o k).runT P v es = (k v.heap.size).runT P { v with heap := v.heap.push o } es := rfl
    have e2 : (Sem.new o k).runT P w es = (k v.heap.size).runT P { w with heap := w.heap.push o } es := by rw [hs.size]; rfl
    rw [e1] at hl hA ⊢
    rw [e2]
    obtain ⟨w', f1, f2, f3, f4⟩ := ih v.heap.size { v with heap := v.heap.push o } { w with heap := w.heap.push o } es (hs.push o) hl hA
    exact ⟨w', f1, .trans (v₁ := { v with heap := v.heap.push o }) (Kept.push w o) rfl f2, f3, f4⟩
  | shape hk hb ih =>
    rename_i r k
    intro v w es hs hl hA
    by_cases hS : S r
    · obtain ⟨e, c, fr, h1, h2⟩ := hs.sh r hS
      have e1 : ∀ es', (Sem.shape r k).runT P v es' = (k (some (e, 0))).runT P v es' := fun es' => by simp [Sem.runT, World.shape?, h1]
      have e2 : ∀ es', (Sem.shape r k).runT P w es' = (k (some (e, c.size))).runT P w es' := fun es' => by simp [Sem.runT, World.shape?, h2]
      rw [e1] at hl hA ⊢
      rw [e2]
      rcases hb e c.size with hbl | hdead
      · rw [← hbl]
        exact ih _ v w es hs hl hA
      · exact (hdead.run v es hl).elim
    · have e2 : (Sem.shape r k).runT P w es = (k (v.shape? r)).runT P w es := by
        have : w.shape? r = v.shape? r := by simp only [World.shape?, ← hs.out r hS]
        simp only [Sem.runT, this]
      rw [e2]
      exact ih _ v w es hs hl hA
  | frozen hk ih =>
    rename_i a k
    intro v w es hs hl hA
    have e2 : (Sem.frozen a k).runT P w es = (k (v.frozen? a)).runT P w es := by rw [hs.frozen]; rfl
    rw [e2]
    exact ih _ v w es hs hl hA
  | getObj hk ih =>
    rename_i r k
    intro v w es hs hl hA
    by_cases hS : S r
    · obtain ⟨e, c, fr, h1, h2⟩ := hs.sh r hS
      have e1 : (Sem.getObj r k).runT P v es = (.halt (.stuck "getObj: a row of cells") v, es) := by simp only [Sem.runT, h1]
      rw [e1] at hl
      exact hl.elim
    · have ho := hs.out r hS
      cases hv : v.heap[r]? with
      | none =>
        have e1 : (Sem.getObj r k).runT P v es = (.halt (.stuck "getObj: no such block") v, es) := by simp only [Sem.runT, hv]
        rw [e1] at hl
        exact hl.elim
      | some o =>
        rw [hv] at ho
        by_cases hcl : ∃ c e fr, o = .cells c e fr
        · obtain ⟨c, e, fr, rfl⟩ := hcl
          have e1 : (Sem.getObj r k).runT P v es = (.halt (.stuck "getObj: a row of cells") v, es) := by simp only [Sem.runT, hv]
          rw [e1] at hl
          exact hl.elim
        · have e1 : ∀ x : World, x.heap[r]? = some o → ∀ es', (Sem.getObj r k).runT P x es' = (k o).runT P x (es'.push ⟨.obj r, false, o.isChan⟩) := fun x hx es' => by
            simp only [Sem.runT, hx]
            cases o <;> first | rfl | exact (hcl ⟨_, _, _, rfl⟩).elim
          rw [e1 v hv] at hl hA ⊢
          rw [e1 w ho.symm]
          obtain ⟨w', f1, f2, f3, f4⟩ := ih o v w _ hs hl hA
          exact ⟨w', f1, f2, f3, .push (evF_obj (Nat.lt_of_lt_of_le (Array.getElem?_eq_some_iff.1 hv).1 ((hk o).kept v _).1.size)) f4⟩
  | setObj hk ih =>
    rename_i r o k
    intro v w es hs hl hA
    by_cases hS : S r
    · obtain ⟨e, c, fr, h1, h2⟩ := hs.sh r hS
      have e1 : (Sem.setObj r o k).runT P v es = (.halt (.stuck "setObj: a row of cells") v, es) := by simp only [Sem.runT, h1]
      rw [e1] at hl
      exact hl.elim
    · have ho := hs.out r hS
      cases hv : v.heap[r]? with
      | none =>
        have e1 : (Sem.setObj r o k).runT P v es = (.halt (.stuck "setObj: no such block") v, es) := by simp only [Sem.runT, hv]
        rw [e1] at hl
        exact hl.elim
      | some o' =>
        rw [hv] at ho
        by_cases hcl : ∃ c e fr, o' = .cells c e fr
        · obtain ⟨c, e, fr, rfl⟩ := hcl
          have e1 : (Sem.setObj r o k).runT P v es = (.halt (.stuck "setObj: a row of cells") v, es) := by simp only [Sem.runT, hv]
          rw [e1] at hl
          exact hl.elim
        · have e1 : ∀ x : World, x.heap[r]? = some o' → ∀ es', (Sem.setObj r o k).runT P x es' = k.runT P { x with heap := x.heap.setIfInBounds r o } (es'.push ⟨.obj r, true, o.isChan⟩) := fun x hx es' => by
            simp only [Sem.runT, hx]
            cases o' <;> first | rfl | exact (hcl ⟨_, _, _, rfl⟩).elim
          rw [e1 v hv] at hl hA ⊢
          rw [e1 w ho.symm]
          obtain ⟨w', f1, f2, f3, f4⟩ := ih { v with heap := v.heap.setIfInBounds r o } { w with heap := w.heap.setIfInBounds r o } _ (hs.put hS o) hl hA
          exact ⟨w', f1, .trans (v₁ := { v with heap := v.heap.setIfInBounds r o }) (Kept.put w r o) rfl f2, f3, .push (evF_obj (Nat.lt_of_lt_of_le (Array.getElem?_eq_some_iff.1 hv).1 (Nat.le_trans (Kept.put v r o).size (hk.kept { v with heap := v.heap.setIfInBounds r o } _).1.size))) f4⟩
  | choose hk ih =>
    rename_i q k
    intro v w es hs hl hA
    by_cases hf : q.forced = true
    · have e1 : ∀ x : World, ∀ es', (Sem.choose q k).runT P x es' = (k 0).runT P x es' := fun x es' => by simp only [Sem.runT, hf, if_true]
      rw [e1] at hl hA ⊢
      rw [e1]
      exact ih 0 v w es hs hl hA
    · have e1 : ∀ x : World, ∀ es', (Sem.choose q k).runT P x es' = (k (q.cut (x.tape x.drawn q))).runT P { x with drawn := x.drawn + 1 } es' := fun x es' => by
        simp only [Sem.runT]
        rw [if_neg hf]
      rw [e1] at hl hA ⊢
      rw [e1]
      have hk' := ((hk (q.cut (v.tape v.drawn q))).kept { v with drawn := v.drawn + 1 } es).1.drawn
      have hd : v.drawn + 1 ≤ ((k (q.cut (v.tape v.drawn q))).runT P { v with drawn := v.drawn + 1 } es).1.world.drawn := hk'
      have ha := hA 0 q (by omega)
      simp only [Nat.add_zero] at ha
      rw [ha]
      obtain ⟨w', f1, f2, f3, f4⟩ := ih (q.cut (v.tape v.drawn q)) { v with drawn := v.drawn + 1 } { w with drawn := w.drawn + 1 } es (hs.drew _ _) hl (fun i q' hi => by
        have := hA (i + 1) q' (by simp only at hi; omega)
        simp only
        rw [show w.drawn + 1 + i = w.drawn + (i + 1) by omega, show v.drawn + 1 + i = v.drawn + (i + 1) by omega]
        exact this)
      exact ⟨w', f1, .trans (Kept.draw w) (by simp only; omega) f2, f3, f4⟩
  | program _ ih => exact fun v w es hs hl hA => ih v w es hs hl hA
  | room _ ih =>
    intro v w es hs hl hA
    obtain ⟨w', f1, f2, f3, f4⟩ := ih v w _ hs hl hA
    exact ⟨w', f1, f2, f3, .push evF_room f4⟩
  | halt hm => exact fun v w es hs _ _ => ⟨w, rfl, .refl hs, (fun a v' e => by cases e), .refl⟩
/-- What comes out is as said. -/
theorem Calm.post {s : Sem α} (hc : Calm P Q s) {es' : Array Event} {a : α} (v v' : World) {es : Array Event} (h : s.runT P v es = (.ok a v', es')) : Q a := by
  obtain ⟨w', _, _, f, _⟩ := hc.sim (S := fun _ => False) v v es ⟨rfl, fun _ _ => rfl, fun _ h => h.elim, rfl, rfl⟩ (by rw [h]; trivial) (fun _ _ _ => rfl)
  rw [h] at f
  exact f a v' rfl
end
end Go.Proofs.Ytehmobcfbifocaa
/-
  A goroutine whose frames hold calm code alone: each of its steps is a calm meaning and what is made of its result, whoever called. Nothing of a program.
-/
namespace Go.Proofs.Ytehmobcfbifocaa
open Go Go.Conc

def Ends1 : GStep → Prop
  | .ended _ _ _ => True
  | _ => False
theorem Ends1.after {s : GStep} (h : Ends1 s) (es : Array Event) : Ends1 (GStep.after es s) := by
  cases s <;> first | exact h.elim | trivial
/-- Code of calm operations, that stays within itself. -/
def okCode (ok : Oper → Bool) : Code → Bool
  | .region _ ops _ => ops.all ok
  | .seq a b | .cond _ a b => okCode ok a && okCode ok b
  | .block _ c | .loop c | .scope c => okCode ok c
  | .skip | .label _ | .exit _ | .ret => true
  | _ => false
def okItem (ok : Oper → Bool) : Item → Bool
  | .code c | .inLoop c | .inScope c => okCode ok c
  | .inRegion ops _ => ops.all ok
  | .inBlock _ => true
  | _ => false
structure OkF (ok : Oper → Bool) (K : FuncId → Bool) (fr : Frame) : Prop where
  fn : K fr.fn = true
  todo : ∀ i ∈ fr.todo, okItem ok i = true
  defers : fr.defers = []
  kind : fr.kind = .normal
  round : fr.roundOf = none
/-- What is asked of the program: the functions K hold calm code and call such functions alone. -/
def OkNext (K : FuncId → Bool) (n : Next) : Prop := (∃ v, n = .value v) ∨ n = .skip ∨ ∃ f args, n = .enter f args ∧ K f = true
structure KOk (P : Program) (ok : Oper → Bool) (K : FuncId → Bool) : Prop where
  body : ∀ f, K f = true → ∃ fn c, P.funcs[f]? = some fn ∧ fn.body = some c ∧ okCode ok c = true
  calm : ∀ (fr : Frame) (o : Oper), ok o = true → Calm P (OkNext K) (execOp fr.eval o)
  results : ∀ f fn, K f = true → P.funcs[f]? = some fn → ∀ tmps, Calm P (fun _ => True) (results fn tmps)
  early : ∀ fr cs g w, Ends1 (early P fr cs none g w)

inductive Out where
  | to (fr : Frame) (fs : List Frame)
  | back (v : Value)
  | fall (chain : List PanicEntry)
def Out.goes (o : Out) (b : Frame) (base : List Frame) (w : World) (es : Array Event) : GStep :=
  match o with
  | .to fr fs => .go (G fr (fs ++ b :: base)) w es
  | .back v => .go (G (b.finish v) base) w es
  | .fall c => .go (G (b.raise c) base) w es
def OkOut (ok : Oper → Bool) (K : FuncId → Bool) : Out → Prop
  | .to fr fs => OkF ok K fr ∧ ∀ f ∈ fs, OkF ok K f
  | _ => True

/-- A step, factored. -/
structure Fac (P : Program) (ok : Oper → Bool) (K : FuncId → Bool) (fr : Frame) (fs : List Frame) {α : Type} (Q : α → Prop) (s : Sem α) (kont : α → Option Out) (pan : Value → Option Out) (flt : Array Event → Array Event) : Prop where
  calm : Calm P Q s
  fltIn : ∀ es e, e ∈ flt es → e ∈ es
  okk : ∀ a o, Q a → kont a = some o → OkOut ok K o
  okp : ∀ u o, pan u = some o → OkOut ok K o
  go : ∀ b base w a w' es, s.runT P w #[] = (.ok a w', es) → (∀ o, kont a = some o → stepG P true (G fr (fs ++ b :: base)) w = o.goes b base w' (flt es)) ∧ (kont a = none → Ends1 (stepG P true (G fr (fs ++ b :: base)) w))
  pgo : ∀ b base w u w' es, s.runT P w #[] = (.halt (.panic u) w', es) → (∀ o, pan u = some o → stepG P true (G fr (fs ++ b :: base)) w = o.goes b base w' (flt es)) ∧ (pan u = none → Ends1 (stepG P true (G fr (fs ++ b :: base)) w))
  bad : ∀ b base w h w' es, s.runT P w #[] = (.halt h w', es) → mildHalt h → (∀ u, h ≠ .panic u) → Ends1 (stepG P true (G fr (fs ++ b :: base)) w)
def Facs (P : Program) (ok : Oper → Bool) (K : FuncId → Bool) (fr : Frame) (fs : List Frame) : Prop :=
  ∃ (α : Type) (Q : α → Prop) (s : Sem α) (kont : α → Option Out) (pan : Value → Option Out) (flt : Array Event → Array Event), Fac P ok K fr fs Q s kont pan flt

section
variable {P : Program} {ok : Oper → Bool} {K : FuncId → Bool} {fr : Frame} {fs : List Frame}
theorem facs_pure (o : Out) (ho : OkOut ok K o) (h : ∀ b base w, stepG P true (G fr (fs ++ b :: base)) w = o.goes b base w #[]) : Facs P ok K fr fs := by
  refine ⟨Unit, fun _ => True, .pure (), fun _ => some o, fun _ => none, id, .pure trivial, fun _ _ x => x, (fun _ _ _ e => by cases e; exact ho), (fun _ _ e => by cases e), fun b base w a w' es e => ?_, fun b base w u w' es e => ?_, fun b base w h w' es e => ?_⟩
  · cases e
    exact ⟨(fun o' e => by cases e; exact h b base w), (fun e => by cases e)⟩
  · cases e
  · cases e
theorem facs_end (h : ∀ b base w, Ends1 (stepG P true (G fr (fs ++ b :: base)) w)) : Facs P ok K fr fs := by
  refine ⟨Unit, fun _ => True, .pure (), fun _ => none, fun _ => none, id, .pure trivial, fun _ _ x => x, (fun _ _ _ e => by cases e), (fun _ _ e => by cases e), fun b base w a w' es e => ?_, fun b base w u w' es e => ?_, fun b base w h w' es e => ?_⟩
  · exact ⟨(fun o' e => by cases e), fun _ => h b base w⟩
  · cases e
  · cases e
theorem okItem_exit {id : Nat} : ∀ {k k' : List Item}, exitTo id k = some k' → (∀ i ∈ k, okItem ok i = true) → ∀ i ∈ k', okItem ok i = true := by
  intro k
  induction k with
  | nil => intro k' h; cases h
  | cons x k ih =>
    intro k' h hk
    cases x with
    | inBlock id' =>
      simp only [exitTo] at h
      split at h
      · cases h
        exact fun i hi => hk i (by simp [hi])
      · exact ih h fun i hi => hk i (by simp [hi])
    | _ => exact ih h fun i hi => hk i (by simp [hi])
theorem OkF.with (h : OkF ok K fr) {k : List Item} (hk : ∀ i ∈ k, okItem ok i = true) : OkF ok K { fr with todo := k } := ⟨h.fn, hk, h.defers, h.kind, h.round⟩
theorem OkF.mode (h : OkF ok K fr) (m : FrameMode) : OkF ok K { fr with mode := m } := ⟨h.fn, h.todo, h.defers, h.kind, h.round⟩
theorem OkF.raise (h : OkF ok K fr) (c : List PanicEntry) : OkF ok K (fr.raise c) := by
  unfold Frame.raise
  split <;> exact ⟨h.fn, h.todo, h.defers, h.kind, h.round⟩
theorem OkF.finish (h : OkF ok K fr) (v : Value) : OkF ok K (fr.finish v) := by
  unfold Frame.finish
  split
  · rename_i ops i rest k ht
    refine ⟨h.fn, fun x hx => ?_, h.defers, h.kind, h.round⟩
    have ha := h.todo
    rw [ht] at ha
    rcases List.mem_cons.1 hx with rfl | hx
    · exact ha (.inRegion ops (i :: rest)) (by simp)
    · exact ha x (by simp [hx])
  · rename_i l k ht
    have := h.todo (.inRangeFunc l) (by rw [ht]; simp)
    cases this
  · rename_i k ht
    have := h.todo .beginRound (by rw [ht]; simp)
    cases this
  · rename_i d x r s k ht
    have := h.todo (.call d x r s) (by rw [ht]; simp)
    cases this
  · rename_i r a k ht
    have := h.todo (.extern r a) (by rw [ht]; simp)
    cases this
  · exact h
theorem OkF.enter (H : KOk P ok K) {f : FuncId} (hf : K f = true) (args : Array Value) : OkF ok K (Frame.enter P f args .normal) := by
  obtain ⟨fn, c, h1, h2, h3⟩ := H.body f hf
  refine ⟨hf, fun i hi => ?_, rfl, rfl, rfl⟩
  simp only [Frame.enter, h1, Option.bind_some, h2, Option.getD_some, List.mem_singleton] at hi
  subst hi
  exact h3
end
end Go.Proofs.Ytehmobcfbifocaa
/-
  A goroutine whose frames hold calm code alone: every step is factored. Nothing of a program.
-/
namespace Go.Proofs.Ytehmobcfbifocaa
open Go Go.Conc

section
variable {P : Program} {ok : Oper → Bool} {K : FuncId → Bool} {fr : Frame} {fs : List Frame}
theorem facs_panicking (H : KOk P ok K) (h : OkF ok K fr) (hfs : ∀ f ∈ fs, OkF ok K f) {c : List PanicEntry} (hm : fr.mode = .panicking c) : Facs P ok K fr fs := by
  obtain ⟨fn, cd, h1, _, _⟩ := H.body _ h.fn
  have hc : fr.catches P = false := by simp [Frame.catches, h1]
  cases fs with
  | nil => exact facs_pure (.fall c) trivial fun b base w => by simp [stepG, G, unwind, hm, h.defers, hc, Out.goes]
  | cons f fs' => exact facs_pure (.to (f.raise c) fs') ⟨(hfs f (by simp)).raise c, fun x hx => hfs x (by simp [hx])⟩ fun b base w => by simp [stepG, G, unwind, hm, h.defers, hc, Out.goes]
theorem facs_returning (H : KOk P ok K) (h : OkF ok K fr) (hfs : ∀ f ∈ fs, OkF ok K f) (hm : fr.mode = .returning) : Facs P ok K fr fs := by
  obtain ⟨fn, cd, h1, _, _⟩ := H.body _ h.fn
  refine ⟨Value, fun _ => True, results fn fr.tmps, fun v => some (match fs with | [] => .back v | f :: fs' => .to (f.finish v) fs'), fun _ => none, seen P fr.fn, H.results _ fn h.fn h1 _, fun _ _ => mem_seen, fun a o _ e => ?_, (fun _ _ e => by cases e), fun b base w a w' es e => ⟨fun o e' => ?_, fun e' => by cases e'⟩, fun b base w u w' es e => ⟨fun o e' => (by cases e'), fun _ => ?_⟩, fun b base w hh w' es e _ _ => ?_⟩
  · cases e
    cases fs with
    | nil => trivial
    | cons f fs' => exact ⟨(hfs f (by simp)).finish a, fun x hx => hfs x (by simp [hx])⟩
  · cases e'
    cases fs with
    | nil => simp only [stepG, G, hm, unwind, h.defers, h1, e, doReturn, h.kind, List.nil_append, Out.goes, GStep.after, Array.append_empty]
    | cons f fs' => simp only [stepG, G, hm, unwind, h.defers, h1, e, doReturn, h.kind, List.cons_append, Out.goes, GStep.after, Array.append_empty]
  · simp only [stepG, G, hm, unwind, h.defers, h1, e, GStep.after]
    trivial
  · cases hh <;> simp only [stepG, G, hm, unwind, h.defers, h1, e, GStep.after] <;> trivial
theorem okItems_tail {i : Item} {k : List Item} (h : OkF ok K fr) (ht : fr.todo = i :: k) : okItem ok i = true ∧ ∀ x ∈ k, okItem ok x = true := by
  have := h.todo
  rw [ht] at this
  exact ⟨this i (by simp), fun x hx => this x (by simp [hx])⟩
theorem facs_move (h : OkF ok K fr) (hfs : ∀ f ∈ fs, OkF ok K f) {k' : List Item} (hk : ∀ x ∈ k', okItem ok x = true) (hs : ∀ b base w, stepG P true (G fr (fs ++ b :: base)) w = .go (G { fr with todo := k' } (fs ++ b :: base)) w #[]) : Facs P ok K fr fs :=
  facs_pure (.to { fr with todo := k' } fs) ⟨h.with hk, hfs⟩ hs
theorem facs_leave (h : OkF ok K fr) (hfs : ∀ f ∈ fs, OkF ok K f) (hs : ∀ b base w, stepG P true (G fr (fs ++ b :: base)) w = .go (G { fr with mode := .returning } (fs ++ b :: base)) w #[]) : Facs P ok K fr fs :=
  facs_pure (.to { fr with mode := .returning } fs) ⟨h.mode _, hfs⟩ hs
theorem facs_code (h : OkF ok K fr) (hfs : ∀ f ∈ fs, OkF ok K f) (hm : fr.mode = .run) {c : Code} {k : List Item} (ht : fr.todo = .code c :: k) : Facs P ok K fr fs := by
  obtain ⟨hc, hk⟩ := okItems_tail h ht
  have hr := h.round
  cases c with
  | skip => exact facs_move h hfs hk fun b base w => by simp [G, stepG, stepG.exec, hm, ht]
  | label l => exact facs_move h hfs hk fun b base w => by simp [G, stepG, stepG.exec, hm, ht]
  | ret => exact facs_leave h hfs fun b base w => by simp [G, stepG, stepG.exec, hm, ht, hr]
  | seq x y =>
    simp only [okItem, okCode, Bool.and_eq_true] at hc
    refine facs_move (k' := .code x :: .code y :: k) h hfs (fun z hz => ?_) fun b base w => by simp [G, stepG, stepG.exec, hm, ht]
    simp only [List.mem_cons] at hz
    rcases hz with rfl | rfl | hz
    · exact hc.1
    · exact hc.2
    · exact hk z hz
  | block id x =>
    refine facs_move (k' := .code x :: .inBlock id :: k) h hfs (fun z hz => ?_) fun b base w => by simp [G, stepG, stepG.exec, hm, ht]
    simp only [List.mem_cons] at hz
    rcases hz with rfl | rfl | hz
    · exact hc
    · rfl
    · exact hk z hz
  | loop x =>
    refine facs_move (k' := .code x :: .inLoop x :: k) h hfs (fun z hz => ?_) fun b base w => by simp [G, stepG, stepG.exec, hm, ht]
    simp only [List.mem_cons] at hz
    rcases hz with rfl | rfl | hz
    · exact hc
    · exact hc
    · exact hk z hz
  | scope x =>
    refine facs_move (k' := .code x :: .inScope x :: k) h hfs (fun z hz => ?_) fun b base w => by simp [G, stepG, stepG.exec, hm, ht]
    simp only [List.mem_cons] at hz
    rcases hz with rfl | rfl | hz
    · exact hc
    · exact hc
    · exact hk z hz
  | exit id =>
    cases he : exitTo id k with
    | some k' => exact facs_move h hfs (okItem_exit he hk) fun b base w => by simp [G, stepG, stepG.exec, hm, ht, he]
    | none => exact facs_end fun b base w => by simp [G, stepG, stepG.exec, hm, ht, he, hr, Ends1]
  | cond c x y =>
    simp only [okItem, okCode, Bool.and_eq_true] at hc
    by_cases hb : ∃ t, fr.eval c = .bool t
    · obtain ⟨t, hb⟩ := hb
      refine facs_move (k' := .code (if t then x else y) :: k) h hfs (fun z hz => ?_) fun b base w => by simp [G, stepG, stepG.exec, hm, ht, hb]
      simp only [List.mem_cons] at hz
      rcases hz with rfl | hz
      · cases t
        · exact hc.2
        · exact hc.1
      · exact hk z hz
    · refine facs_end fun b base w => ?_
      simp only [G, stepG, stepG.exec, hm, ht]
      split
      · rename_i t e
        exact absurd ⟨t, e⟩ hb
      · trivial
  | region id ops draw =>
    cases draw with
    | false =>
      refine facs_move (k' := .inRegion ops (List.range ops.size) :: k) h hfs (fun z hz => ?_) fun b base w => by simp [G, stepG, stepG.exec, hm, ht]
      simp only [List.mem_cons] at hz
      rcases hz with rfl | hz
      · exact hc
      · exact hk z hz
    | true =>
      refine ⟨Nat, fun _ => True, choose (.order fr.fn id), fun t => some (.to { fr with todo := .inRegion ops (Region.schedule (P.follows .mixedOrders) ops t) :: k } fs), fun _ => none, fun _ => #[], .choose fun _ => .pure trivial, (fun _ _ x => by simp at x), fun a o _ e => ?_, (fun _ _ e => by cases e), fun b base w a w' es e => ⟨fun o e' => ?_, fun e' => by cases e'⟩, fun b base w u w' es e => ?_, fun b base w hh w' es e _ _ => ?_⟩
      · cases e
        refine ⟨h.with fun z hz => ?_, hfs⟩
        simp only [List.mem_cons] at hz
        rcases hz with rfl | hz
        · exact hc
        · exact hk z hz
      · cases e'
        simp only [choose, Sem.runT, Question.forced, Bool.false_eq_true, if_false, Prod.mk.injEq, Result.ok.injEq] at e
        obtain ⟨⟨rfl, rfl⟩, _⟩ := e
        simp [G, stepG, stepG.exec, hm, ht, choose, Sem.run, Question.forced, Out.goes]
      · simp only [choose, Sem.runT, Question.forced, Bool.false_eq_true, if_false, Prod.mk.injEq, reduceCtorEq, false_and] at e
      · simp only [choose, Sem.runT, Question.forced, Bool.false_eq_true, if_false, Prod.mk.injEq, reduceCtorEq, false_and] at e
  | _ => cases hc
theorem facs_op (H : KOk P ok K) (h : OkF ok K fr) (hfs : ∀ f ∈ fs, OkF ok K f) (hm : fr.mode = .run) {ops : Array Oper} {l : List Nat} {k : List Item} (ht : fr.todo = .inRegion ops l :: k) : Facs P ok K fr fs := by
  obtain ⟨hc, hk⟩ := okItems_tail h ht
  have hr := h.round
  have hki : (fr.kind == CallKind.early) = false := by rw [h.kind]; rfl
  cases l with
  | nil => exact facs_move h hfs hk fun b base w => by simp [G, stepG, stepG.exec, hm, ht]
  | cons i rest =>
    by_cases hw : ((ops[i]?).map (Region.wanted · (yielded ops fr.tmps))).getD false = true
    · obtain ⟨o, ho⟩ : ∃ o, ops[i]? = some o := by
        cases hh : ops[i]? with
        | none => rw [hh] at hw; cases hw
        | some o => exact ⟨o, rfl⟩
      have hok : ok o = true := by
        simp only [okItem, Array.all_eq_true'] at hc
        exact hc o (Array.mem_of_getElem? ho)
      have hop : fr.oper? = some o := by simp [Frame.oper?, ht, ho]
      refine ⟨Next, OkNext K, execOp fr.eval o, fun n => match n with | .value v => some (.to (fr.finish v) fs) | .skip => some (.to (fr.finish undef) fs) | .enter f args => some (.to (Frame.enter P f args .normal) (fr :: fs)) | _ => none,
        fun u => some (.to (fr.raise [{ v := u, recovered := false }]) fs), seen P fr.fn, H.calm fr o hok, fun _ _ => mem_seen, fun a o' hq e => ?_, fun u o' e => ?_, fun b base w a w' es e => ?_, fun b base w u w' es e => ⟨fun o' e' => ?_, fun e' => by cases e'⟩, fun b base w hh w' es e hmild hnp => ?_⟩
      · rcases hq with ⟨v, rfl⟩ | rfl | ⟨f, args, rfl, hf⟩
        · cases e; exact ⟨h.finish v, hfs⟩
        · cases e; exact ⟨h.finish undef, hfs⟩
        · cases e
          refine ⟨OkF.enter H hf args, fun x hx => ?_⟩
          rcases List.mem_cons.1 hx with rfl | hx
          · exact h
          · exact hfs x hx
      · cases e
        exact ⟨h.raise _, hfs⟩
      · have hq : OkNext K a := by
          have := (H.calm fr o hok).post w w' e
          exact this
        have base' : stepG P true (G fr (fs ++ b :: base)) w = stepG.apply P true fr (fs ++ b :: base) none (execOp fr.eval o) w := by simp [G, stepG, stepG.exec, stepG.oper, hm, ht, hw, hop, hr]
        rw [base']
        rcases hq with ⟨v, rfl⟩ | rfl | ⟨f, args, rfl, hf⟩
        · refine ⟨fun o' e' => ?_, fun e' => by cases e'⟩
          cases e'
          simp only [stepG.apply, e, if_true, hki, Bool.false_eq_true, if_false, GStep.after, Out.goes, Array.append_empty, G]
        · refine ⟨fun o' e' => ?_, fun e' => by cases e'⟩
          cases e'
          simp only [stepG.apply, e, if_true, hki, Bool.false_eq_true, if_false, GStep.after, Out.goes, Array.append_empty, G]
        · refine ⟨fun o' e' => ?_, fun e' => by cases e'⟩
          cases e'
          simp only [stepG.apply, e, if_true, hki, Bool.false_eq_true, if_false, GStep.after, Out.goes, Array.append_empty, G, ht, List.cons_append]
      · cases e'
        have base' : stepG P true (G fr (fs ++ b :: base)) w = stepG.apply P true fr (fs ++ b :: base) none (execOp fr.eval o) w := by simp [G, stepG, stepG.exec, stepG.oper, hm, ht, hw, hop, hr]
        rw [base']
        simp only [stepG.apply, e, if_true, hki, Bool.false_eq_true, if_false, GStep.after, Out.goes, Array.append_empty, G]
      · have base' : stepG P true (G fr (fs ++ b :: base)) w = stepG.apply P true fr (fs ++ b :: base) none (execOp fr.eval o) w := by simp [G, stepG, stepG.exec, stepG.oper, hm, ht, hw, hop, hr]
        rw [base']
        cases hh with
        | panic u => exact absurd rfl (hnp u)
        | stuck s => simp only [stepG.apply, e, if_true, hki, Bool.false_eq_true, if_false, GStep.after]; trivial
        | unsupported u =>
          cases u with
          | initOrder g => simp only [stepG.apply, e, if_true, hki, Bool.false_eq_true, if_false]; exact (H.early _ _ _ _).after _
          | _ => simp only [stepG.apply, e, if_true, hki, Bool.false_eq_true, if_false, GStep.after]; trivial
        | _ => exact hmild.elim
    · refine facs_pure (.to (fr.finish undef) fs) ⟨h.finish _, hfs⟩ fun b base w => ?_
      have hw' : ((ops[i]?).map (Region.wanted · (yielded ops fr.tmps))).getD false = false := by simpa using hw
      simp [G, stepG, stepG.exec, hm, ht, hw', Out.goes]

/-- Every step is factored. -/
theorem facs (H : KOk P ok K) (h : OkF ok K fr) (hfs : ∀ f ∈ fs, OkF ok K f) : Facs P ok K fr fs := by
  cases hm : fr.mode with
  | panicking c => exact facs_panicking H h hfs hm
  | returning => exact facs_returning H h hfs hm
  | run =>
    cases ht : fr.todo with
    | nil => exact facs_leave h hfs fun b base w => by simp [G, stepG, stepG.exec, hm, ht, h.round]
    | cons i k =>
      obtain ⟨hc, hk⟩ := okItems_tail h ht
      cases i with
      | code c => exact facs_code h hfs hm ht
      | inRegion ops l => exact facs_op H h hfs hm ht
      | inBlock id => exact facs_move h hfs hk fun b base w => by simp [G, stepG, stepG.exec, hm, ht]
      | inScope c => exact facs_move h hfs hk fun b base w => by simp [G, stepG, stepG.exec, hm, ht]
      | inLoop c =>
        refine facs_move (k' := .code c :: .inLoop c :: k) h hfs (fun z hz => ?_) fun b base w => by simp [G, stepG, stepG.exec, hm, ht]
        simp only [List.mem_cons] at hz
        rcases hz with rfl | rfl | hz
        · exact hc
        · exact hc
        · exact hk z hz
      | _ => cases hc
end
end Go.Proofs.Ytehmobcfbifocaa
