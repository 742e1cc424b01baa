/-
  A memory seen as another type: what lies in an empty row is never seen. Nothing of a program.
-/
import Derived.Test.YtehmobcfbifocaaCalm1
namespace Go.Proofs.Ytehmobcfbifocaa
open Go Go.Conc

theorem leBytes_length : ∀ (s n : Nat), (leBytes s n).length = s
  | 0, _ => rfl
  | s + 1, n => by simp [leBytes, leBytes_length s]
theorem bytes_some {v : Value} {l : List UInt8} (h : v.bytes? = some l) : 1 ≤ l.length := by
  cases v <;> simp only [Value.bytes?, Option.some.injEq, reduceCtorEq] at h
  case bool => subst h; simp
  case int k n => subst h; rw [leBytes_length]; cases k <;> decide
  case float k n => subst h; rw [leBytes_length]; cases k <;> decide
  case complex k a b => subst h; simp only [List.length_append, leBytes_length]; cases k <;> decide
theorem seenCells_empty {p : Program} {e : TypeId} (f x stop : Nat) (h : x < stop) : ∃ why, seenCells p #[] e (f + 1) x stop = .error why := by
  unfold seenCells
  rw [if_neg (by omega)]
  dsimp only
  split
  · exact ⟨_, rfl⟩
  split
  · exact ⟨_, rfl⟩
  · simp only [List.getElem?_toArray, List.getElem?_nil]
    exact ⟨_, rfl⟩
theorem seen_poison {p : Program} {w : World} {at_ : Addr} {u : TypeId} {k : Addr} {atomic : Bool} {e : TypeId} {fr : Nat × Nat} (h : w.heap[at_.block]? = some (.cells #[] e fr)) (x : Array Value × TypeId × (Nat × Nat) × Nat × Value × List (Nat × Nat × List UInt8)) : w.seen p at_ u k atomic ≠ .ok x := by
  intro hx
  unfold World.seen at hx
  have thr : ∀ {α : Type} (s : String), (MonadExcept.throw s : Except String α) = .error s := fun _ => rfl
  simp only [h, bind, Except.bind, pure, Except.pure, thr] at hx
  split at hx
  · cases hx
  split at hx
  · split at hx
    · rename_i size hs
      obtain ⟨l, hl, rfl⟩ := Option.map_eq_some_iff.1 hs
      have h1 := bytes_some hl
      split at hx
      · split at hx
        · cases hx
        · split at hx
          · rename_i β _ _ _ b0 _
            obtain ⟨why, hw⟩ := seenCells_empty (p := p) (e := e) l.length (at_.off / p.cellsOf e * p.bytesOf e + b0 + β) (at_.off / p.cellsOf e * p.bytesOf e + b0 + β + l.length) (by omega)
            rw [hw] at hx
            cases hx
          · cases hx
      · cases hx
    · cases hx
  · cases hx
theorem seen_lives {p : Program} {w : World} {at_ : Addr} {u : TypeId} {k : Addr} {atomic : Bool} (h : w.heap[at_.block]? = none) (x : Array Value × TypeId × (Nat × Nat) × Nat × Value × List (Nat × Nat × List UInt8)) : w.seen p at_ u k atomic ≠ .ok x := by
  intro hx
  unfold World.seen at hx
  have thr : ∀ {α : Type} (s : String), (MonadExcept.throw s : Except String α) = .error s := fun _ => rfl
  simp only [h, bind, Except.bind, thr] at hx
  split at hx
  · cases hx
  split at hx
  · split at hx
    · split at hx <;> cases hx
    · cases hx
  · cases hx
/-- What is seen hangs on the seen row alone. -/
theorem seen_same {p : Program} {v w : World} {at_ : Addr} {u : TypeId} {k : Addr} {atomic : Bool} (h : v.heap[at_.block]? = w.heap[at_.block]?) : v.seen p at_ u k atomic = w.seen p at_ u k atomic := by
  unfold World.seen
  rw [h]
theorem viewLoad_ok {p : Program} {w : World} {at_ : Addr} {u : TypeId} {k : Addr} {atomic : Bool} {r : Value × List Addr} (h : w.viewLoad p at_ u k atomic = .ok r) :
    (∃ x, w.seen p at_ u k atomic = .ok x) ∧ (∀ a ∈ r.2, a.block = at_.block) ∧ ∀ v : World, v.heap[at_.block]? = w.heap[at_.block]? → v.viewLoad p at_ u k atomic = .ok r := by
  refine ⟨?_, ?_, fun v hv => ?_⟩
  · unfold World.viewLoad at h
    cases hs : w.seen p at_ u k atomic with
    | ok x => exact ⟨x, rfl⟩
    | error e => rw [hs] at h; cases h
  · unfold World.viewLoad at h
    cases hs : w.seen p at_ u k atomic with
    | error e => rw [hs] at h; cases h
    | ok x =>
      rw [hs] at h
      obtain ⟨a1, a2, a3, a4, a5, a6⟩ := x
      simp only [bind, Except.bind, pure, Except.pure] at h
      split at h
      · cases h
        intro a ha
        obtain ⟨y, _, rfl⟩ := List.mem_map.1 ha
        rfl
      · cases h
  · unfold World.viewLoad at h ⊢
    rw [seen_same hv]
    exact h
theorem viewStore_ok {p : Program} {w w' : World} {at_ : Addr} {u : TypeId} {k : Addr} {x : Value} {atomic : Bool} {l : List Addr} (h : w.viewStore p at_ u k x atomic = .ok (w', l)) :
    (∃ y, w.seen p at_ u k atomic = .ok y) ∧ (∀ a ∈ l, a.block = at_.block) ∧ ∃ o, w' = { w with heap := w.heap.setIfInBounds at_.block o } ∧ ∀ v : World, v.heap[at_.block]? = w.heap[at_.block]? → v.viewStore p at_ u k x atomic = .ok ({ v with heap := v.heap.setIfInBounds at_.block o }, l) := by
  have thr : ∀ {α : Type} (s : String), (MonadExcept.throw s : Except String α) = .error s := fun _ => rfl
  unfold World.viewStore at h
  simp only [bind, Except.bind, pure, Except.pure, thr] at h
  split at h
  · cases h
  rename_i ht
  cases hs : w.seen p at_ u k atomic with
  | error e => rw [hs] at h; cases h
  | ok y =>
    rw [hs] at h
    obtain ⟨a1, a2, a3, a4, a5, a6⟩ := y
    simp only at h
    split at h
    · rename_i bytes hb
      split at h
      · cases h
      rename_i hsz
      split at h
      · cases h
      rename_i c hc
      simp only [Except.ok.injEq, Prod.mk.injEq] at h
      obtain ⟨rfl, rfl⟩ := h
      refine ⟨⟨_, rfl⟩, fun a ha => ?_, _, rfl, fun v hv => ?_⟩
      · obtain ⟨z, _, rfl⟩ := List.mem_map.1 ha
        rfl
      · unfold World.viewStore
        rw [seen_same hv, hs]
        simp only [bind, Except.bind, pure, Except.pure, thr]
        rw [if_neg ht]
        simp only [hb]
        rw [if_neg hsz]
        rw [hc]
    · cases h
end Go.Proofs.Ytehmobcfbifocaa
