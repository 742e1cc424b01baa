/-
  A calm meaning runs alike in two worlds that differ in shunned blocks and tapes alone; what it lists. Nothing of a program.
-/
import Derived.Test.YtehmobcfbifocaaCalm2
namespace Go.Proofs.Ytehmobcfbifocaa
open Go Go.Conc

structure Kept (v v' : World) : Prop where
  tape : v'.tape = v.tape
  drawn : v.drawn ≤ v'.drawn
  size : v.heap.size ≤ v'.heap.size
  os : v'.os = v.os
  output : v'.output = v.output
theorem Kept.refl (v : World) : Kept v v := ⟨rfl, Nat.le_refl _, Nat.le_refl _, rfl, rfl⟩
theorem Kept.trans {a b c : World} (h : Kept a b) (k : Kept b c) : Kept a c := ⟨k.tape.trans h.tape, Nat.le_trans h.drawn k.drawn, Nat.le_trans h.size k.size, k.os.trans h.os, k.output.trans h.output⟩
theorem Kept.set (v : World) (a : Addr) (x : Value) : Kept v (v.setCell a x) := ⟨rfl, Nat.le_refl _, Nat.le_of_eq (by simp [World.setCell]), rfl, rfl⟩
theorem Kept.push (v : World) (o : Obj) : Kept v { v with heap := v.heap.push o } := ⟨rfl, Nat.le_refl _, by simp, rfl, rfl⟩
theorem Kept.put (v : World) (r : Nat) (o : Obj) : Kept v { v with heap := v.heap.setIfInBounds r o } := ⟨rfl, Nat.le_refl _, by simp, rfl, rfl⟩
theorem Kept.draw (v : World) : Kept v { v with drawn := v.drawn + 1 } := ⟨rfl, Nat.le_succ _, Nat.le_refl _, rfl, rfl⟩

def GoodEs (S : Nat → Prop) (N : Nat) (es es' : Array Event) : Prop := ∃ new : Array Event, es' = es ++ new ∧ ∀ e ∈ new, EvF (ShOf S) N e
section
variable {S : Nat → Prop} {N : Nat} {es es₁ es' : Array Event}
theorem GoodEs.refl : GoodEs S N es es := ⟨#[], by simp, by simp⟩
theorem GoodEs.more {new : Array Event} (hn : ∀ e ∈ new, EvF (ShOf S) N e) (h : GoodEs S N (es ++ new) es') : GoodEs S N es es' := by
  obtain ⟨n2, rfl, h2⟩ := h
  exact ⟨new ++ n2, by simp, fun e he => (Array.mem_append.1 he).elim (hn e) (h2 e)⟩
theorem GoodEs.push {x : Event} (hx : EvF (ShOf S) N x) (h : GoodEs S N (es.push x) es') : GoodEs S N es es' := by
  refine GoodEs.more (new := #[x]) (fun e he => ?_) (by simpa using h)
  rw [Array.mem_singleton] at he
  exact he ▸ hx
theorem evF_obj {r : Nat} {wr s : Bool} (h : r < N) : EvF (ShOf S) N ⟨.obj r, wr, s⟩ := by
  refine ⟨fun x hx => ?_, by simp, by simp⟩
  cases wr <;> cases s <;> simp only [MemAct.ofEvent, MemAct.touch?, Option.some.injEq, reduceCtorEq] at hx
  all_goals
    subst hx
    refine ⟨?_, h⟩
    rintro ⟨a, ha, _⟩
    cases ha
theorem evF_room : EvF (ShOf S) N ⟨.mark .noRoom, false, true⟩ := by
  refine ⟨fun x hx => ?_, by simp, by simp⟩
  simp [MemAct.ofEvent, MemAct.touch?] at hx
theorem farLoad_sim {P : Program} {v w : World} {a : Addr} {m : Bool} {x : Value} {l : List Addr} (h : Sim S v w) (hc : v.cell? a = none) (hl : v.farLoad P a m = .ok (x, l)) :
    w.cell? a = none ∧ w.farLoad P a m = .ok (x, l) ∧ ∀ b ∈ l, ¬ S b.block ∧ b.block < v.heap.size := by
  have hn : ¬ S a.block := fun hs => by
    obtain ⟨e, c, fr, h1, _⟩ := h.sh _ hs
    simp [World.farLoad, h1] at hl
  unfold World.farLoad at hl ⊢
  rw [← h.out _ hn]
  split at hl
  · rename_i at_ u hv
    cases hvl : v.viewLoad P at_ u a m with
    | error why => rw [hvl] at hl; cases hl
    | ok r =>
      rw [hvl] at hl
      obtain rfl := Except.ok.inj hl
      obtain ⟨⟨y, hy⟩, hb, hsame⟩ := viewLoad_ok hvl
      have hna : ¬ S at_.block := fun hs => by
        obtain ⟨e, c, fr, h1, _⟩ := h.sh _ hs
        exact seen_poison h1 y hy
      have hlt : at_.block < v.heap.size := by
        cases hh : v.heap[at_.block]? with
        | none => exact absurd hy (seen_lives hh y)
        | some o => exact (Array.getElem?_eq_some_iff.1 hh).1
      refine ⟨by rw [h.noCell hn]; exact hc, ?_, fun b hb' => by rw [hb b hb']; exact ⟨hna, hlt⟩⟩
      simp only [hsame w (h.out _ hna).symm]
  · cases hl
theorem farStore_sim {P : Program} {v w v' : World} {a : Addr} {m : Bool} {x : Value} {l : List Addr} (h : Sim S v w) (hc : v.cell? a = none) (hl : v.farStore P a x m = .ok (v', l)) :
    w.cell? a = none ∧ (∃ w', w.farStore P a x m = .ok (w', l) ∧ Sim S v' w' ∧ Kept w w' ∧ w'.drawn = w.drawn) ∧ Kept v v' ∧ v'.drawn = v.drawn ∧ ∀ b ∈ l, ¬ S b.block ∧ b.block < v.heap.size := by
  have hn : ¬ S a.block := fun hs => by
    obtain ⟨e, c, fr, h1, _⟩ := h.sh _ hs
    simp [World.farStore, h1] at hl
  unfold World.farStore at hl ⊢
  rw [← h.out _ hn]
  split at hl
  · rename_i at_ u hv
    cases hvl : v.viewStore P at_ u a x m with
    | error why => rw [hvl] at hl; cases hl
    | ok r =>
      rw [hvl] at hl
      obtain rfl := Except.ok.inj hl
      obtain ⟨⟨y, hy⟩, hb, o, rfl, hsame⟩ := viewStore_ok hvl
      have hna : ¬ S at_.block := fun hs => by
        obtain ⟨e, c, fr, h1, _⟩ := h.sh _ hs
        exact seen_poison h1 y hy
      have hlt : at_.block < v.heap.size := by
        cases hh : v.heap[at_.block]? with
        | none => exact absurd hy (seen_lives hh y)
        | some o => exact (Array.getElem?_eq_some_iff.1 hh).1
      refine ⟨by rw [h.noCell hn]; exact hc, ⟨_, ?_, h.put hna o, Kept.put w _ _, rfl⟩, Kept.put v _ _, rfl, fun b hb' => by rw [hb b hb']; exact ⟨hna, hlt⟩⟩
      simp only [hsame w (h.out _ hna).symm]
  · cases hl
end

section
variable {P : Program} {α : Type} {Q : α → Prop} {S : Nat → Prop}
theorem Dead.run {s : Sem α} (h : Dead P s) : ∀ (v : World) (es : Array Event), ¬ (s.runT P v es).1.live := by
  induction h with
  | stuck => exact fun v es h => h
  | unsupported => exact fun v es h => h
  | program _ ih => exact fun v es h => ih v es h
  | shape _ ih => exact fun v es h => ih _ v es h
  | frozen _ ih => exact fun v es h => ih _ v es h
  | room _ ih => exact fun v es h => ih v _ h
theorem noCell_mild (v : World) (a : Addr) (s : String) : mildHalt (v.noCell a s) := by
  unfold World.noCell
  split <;> trivial
theorem farLoad_mild {v : World} {a : Addr} {m : Bool} {h : Halt} (e : v.farLoad P a m = .error h) : mildHalt h ∧ ∀ u, h ≠ .panic u := by
  unfold World.farLoad at e
  split at e
  · split at e
    · cases e
    · cases e; exact ⟨trivial, by simp⟩
  · cases e
    refine ⟨noCell_mild _ _ _, fun u hu => ?_⟩
    unfold World.noCell at hu
    split at hu <;> cases hu
theorem farStore_mild {v : World} {a : Addr} {x : Value} {m : Bool} {h : Halt} (e : v.farStore P a x m = .error h) : mildHalt h ∧ ∀ u, h ≠ .panic u := by
  unfold World.farStore at e
  split at e
  · split at e
    · cases e
    · cases e; exact ⟨trivial, by simp⟩
  · cases e
    refine ⟨noCell_mild _ _ _, fun u hu => ?_⟩
    unfold World.noCell at hu
    split at hu <;> cases hu

/-- A store, by what it stores. -/
theorem runT_store {m : Mode} {a : Addr} {x : Value} {k : Sem α} : (∀ (v : World) (es : Array Event), (Sem.store m a x k).runT P v es = (.halt (.stuck "store: not the value of one cell") v, es)) ∨
    ∀ (v : World) (es : Array Event), (v.cell? a ≠ none → v.frozen? a = false → (Sem.store m a x k).runT P v es = k.runT P (v.setCell a x) (es.push ⟨.cell a, true, m == .atomic⟩)) ∧
      (v.cell? a ≠ none → v.frozen? a = true → ∃ u, (Sem.store m a x k).runT P v es = (.halt (.unsupported u) v, es)) ∧
      (v.cell? a = none → ∀ h, v.farStore P a x (m == .atomic) = .error h → (Sem.store m a x k).runT P v es = (.halt h v, es)) ∧
      (v.cell? a = none → ∀ v₁ l, v.farStore P a x (m == .atomic) = .ok (v₁, l) → (Sem.store m a x k).runT P v es = k.runT P v₁ (es ++ l.toArray.map (⟨.cell ·, true, m == .atomic⟩))) := by
  cases x <;> first | exact .inl fun _ _ => rfl | skip
  all_goals
    refine .inr fun v es => ⟨fun h1 h2 => ?_, fun h1 h2 => ?_, fun h1 h h2 => ?_, fun h1 v₁ l h2 => ?_⟩
    · obtain ⟨y, hy⟩ := Option.ne_none_iff_exists'.1 h1
      simp [Sem.runT, hy, h2]
    · obtain ⟨y, hy⟩ := Option.ne_none_iff_exists'.1 h1
      exact ⟨_, by simp [Sem.runT, hy, h2]; rfl⟩
    · simp [Sem.runT, h1, h2]
    · simp [Sem.runT, h1, h2]
/-- Whatever comes out: what is kept; a halt is mild. -/
theorem Calm.kept {s : Sem α} (hc : Calm P Q s) : ∀ (v : World) (es : Array Event), Kept v (s.runT P v es).1.world ∧ ∀ h v', (s.runT P v es).1 = .halt h v' → mildHalt h := by
  induction hc with
  | pure _ => exact fun v es => ⟨.refl v, fun h v' e => by cases e⟩
  | load _ ih =>
    rename_i m a k _
    intro v es
    simp only [Sem.runT]
    cases v.cell? a with
    | some x => exact ih x v _
    | none =>
      simp only
      cases hf : v.farLoad P a (m == .atomic) with
      | error h => exact ⟨.refl v, fun h' v' e => by cases e; exact (farLoad_mild hf).1⟩
      | ok r => exact ih _ v _
  | store _ ih =>
    rename_i m a x k _
    intro v es
    rcases runT_store (P := P) (m := m) (a := a) (x := x) (k := k) with hs | hs
    · rw [hs v es]
      exact ⟨.refl v, fun h' v' e => by cases e; trivial⟩
    obtain ⟨s1, s2, s3, s4⟩ := hs v es
    by_cases hcell : v.cell? a = none
    · cases hf : v.farStore P a x (m == .atomic) with
      | error h =>
        rw [s3 hcell h hf]
        exact ⟨.refl v, fun h' v' e => by cases e; exact (farStore_mild hf).1⟩
      | ok r =>
        obtain ⟨v₁, l⟩ := r
        rw [s4 hcell v₁ l hf]
        obtain ⟨h1, h2⟩ := ih v₁ (es ++ l.toArray.map (⟨.cell ·, true, m == .atomic⟩))
        refine ⟨Kept.trans ?_ h1, h2⟩
        unfold World.farStore at hf
        split at hf
        · split at hf
          · rename_i hv
            obtain rfl := Except.ok.inj hf
            obtain ⟨_, _, o, rfl, _⟩ := viewStore_ok hv
            exact Kept.put v _ _
          · cases hf
        · cases hf
    · cases hfr : v.frozen? a with
      | true =>
        obtain ⟨u, hu⟩ := s2 hcell hfr
        rw [hu]
        exact ⟨.refl v, fun h' v' e => by cases e; trivial⟩
      | false =>
        rw [s1 hcell hfr]
        obtain ⟨h1, h2⟩ := ih (v.setCell a x) (es.push ⟨.cell a, true, m == .atomic⟩)
        exact ⟨(Kept.set v a x).trans h1, h2⟩
  | new _ ih =>
    rename_i o k _
    intro v es
    obtain ⟨h1, h2⟩ := ih v.heap.size { v with heap := v.heap.push o } es
    exact ⟨(Kept.push v o).trans h1, h2⟩
  | shape _ _ ih => exact fun v es => ih _ v es
  | frozen _ ih => exact fun v es => ih _ v es
  | getObj _ ih =>
    rename_i r k _
    intro v es
    simp only [Sem.runT]
    split
    · exact ⟨.refl v, fun h' v' e => by cases e; trivial⟩
    · exact ih _ v _
    · exact ⟨.refl v, fun h' v' e => by cases e; trivial⟩
  | setObj _ ih =>
    rename_i r o k _
    intro v es
    simp only [Sem.runT]
    split
    · exact ⟨.refl v, fun h' v' e => by cases e; trivial⟩
    · obtain ⟨h1, h2⟩ := ih { v with heap := v.heap.setIfInBounds r o } (es.push ⟨.obj r, true, o.isChan⟩)
      exact ⟨(Kept.put v r o).trans h1, h2⟩
    · exact ⟨.refl v, fun h' v' e => by cases e; trivial⟩
  | choose _ ih =>
    rename_i q k _
    intro v es
    simp only [Sem.runT]
    split
    · exact ih 0 v es
    · obtain ⟨h1, h2⟩ := ih (q.cut (v.tape v.drawn q)) { v with drawn := v.drawn + 1 } es
      exact ⟨(Kept.draw v).trans h1, h2⟩
  | program _ ih => exact fun v es => ih v es
  | room _ ih => exact fun v es => ih v _
  | halt h => exact fun v es => ⟨.refl v, fun h' v' e => by cases e; exact h⟩
end
end Go.Proofs.Ytehmobcfbifocaa
