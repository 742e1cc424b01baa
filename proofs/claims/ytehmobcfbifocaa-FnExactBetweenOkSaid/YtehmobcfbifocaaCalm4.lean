/-
  A calm meaning runs alike in two worlds that differ in shunned blocks and tapes alone. Nothing of a program.
-/
import Derived.Test.YtehmobcfbifocaaCalm3
namespace Go.Proofs.Ytehmobcfbifocaa
open Go Go.Conc

section
variable {P : Program} {α : Type} {Q : α → Prop} {S : Nat → Prop}
/-- How far the two have come. -/
structure Par (S : Nat → Prop) (v w v' w' : World) : Prop where
  sim : Sim S v' w'
  kept : Kept w w'
  drawn : w'.drawn + v.drawn = w.drawn + v'.drawn
theorem Par.refl {v w : World} (h : Sim S v w) : Par S v w v w := ⟨h, .refl w, rfl⟩
theorem Par.trans {v w v₁ w₁ v₂ w₂ : World} (h : Kept w w₁) (hd : w₁.drawn + v.drawn = w.drawn + v₁.drawn) (k : Par S v₁ w₁ v₂ w₂) : Par S v w v₂ w₂ :=
  ⟨k.sim, h.trans k.kept, by have := k.drawn; omega⟩
theorem evF_marks {N : Nat} {l : List Addr} {wr s : Bool} (h : ∀ b ∈ l, ¬ S b.block ∧ b.block < N) : ∀ e ∈ l.toArray.map (fun a => (⟨.cell a, wr, s⟩ : Event)), EvF (ShOf S) N e := by
  intro e he
  obtain ⟨a, ha, rfl⟩ := Array.mem_map.1 he
  obtain ⟨h1, h2⟩ := h a (by simpa using ha)
  exact evF_cell h1 h2

theorem Calm.sim {s : Sem α} (hc : Calm P Q s) : ∀ (v w : World) (es : Array Event), Sim S v w → (s.runT P v es).1.live → Agree v w ((s.runT P v es).1.world.drawn - v.drawn) →
    ∃ w', s.runT P w es = ((s.runT P v es).1.into w', (s.runT P v es).2) ∧ Par S v w (s.runT P v es).1.world w' ∧ (∀ a v', (s.runT P v es).1 = .ok a v' → Q a) ∧ GoodEs S (s.runT P v es).1.world.heap.size es (s.runT P v es).2 := by
  induction hc with
  | pure h => exact fun v w es hs _ _ => ⟨w, rfl, .refl hs, fun a v' e => by cases e; exact h, .refl⟩
  | load hk ih =>
    rename_i m a k
    intro v w es hs hl hA
    cases hx : v.cell? a with
    | some x =>
      obtain ⟨h1, h2, h3⟩ := hs.cell hx
      have e1 : ∀ es', (Sem.load m a k).runT P v es' = (k x).runT P v (es'.push ⟨.cell a, false, m == .atomic⟩) := fun es' => by simp only [Sem.runT, hx]
      have e2 : ∀ es', (Sem.load m a k).runT P w es' = (k x).runT P w (es'.push ⟨.cell a, false, m == .atomic⟩) := fun es' => by simp only [Sem.runT, h1]
      rw [e1] at hl hA ⊢
      rw [e2]
      obtain ⟨w', f1, f2, f3, f4⟩ := ih x v w _ hs hl hA
      exact ⟨w', f1, f2, f3, .push (evF_cell h2 (Nat.lt_of_lt_of_le h3 ((hk x).kept v _).1.size)) f4⟩
    | none =>
      cases hf : v.farLoad P a (m == .atomic) with
      | error h =>
        exfalso
        have e1 : (Sem.load m a k).runT P v es = (.halt h v, es) := by simp only [Sem.runT, hx, hf]
        rw [e1] at hl
        have := (farLoad_mild hf).2
        cases h <;> first | exact hl | exact this _ rfl
      | ok r =>
        obtain ⟨x, l⟩ := r
        obtain ⟨h1, h2, h3⟩ := farLoad_sim hs hx hf
        have e1 : ∀ es', (Sem.load m a k).runT P v es' = (k x).runT P v (es' ++ l.toArray.map (⟨.cell ·, false, m == .atomic⟩)) := fun es' => by simp only [Sem.runT, hx, hf]
        have e2 : ∀ es', (Sem.load m a k).runT P w es' = (k x).runT P w (es' ++ l.toArray.map (⟨.cell ·, false, m == .atomic⟩)) := fun es' => by simp only [Sem.runT, h1, h2]
        rw [e1] at hl hA ⊢
        rw [e2]
        obtain ⟨w', f1, f2, f3, f4⟩ := ih x v w _ hs hl hA
        exact ⟨w', f1, f2, f3, .more (evF_marks fun b hb => ⟨(h3 b hb).1, Nat.lt_of_lt_of_le (h3 b hb).2 ((hk x).kept v _).1.size⟩) f4⟩
  | store hk ih =>
    rename_i m a x k
    intro v w es hs hl hA
    rcases runT_store (P := P) (m := m) (a := a) (x := x) (k := k) with hr | hr
    · rw [hr v es] at hl
      exact hl.elim
    obtain ⟨s1, s2, s3, s4⟩ := hr v es
    obtain ⟨t1, t2, t3, t4⟩ := hr w es
    by_cases hcell : v.cell? a = none
    · cases hf : v.farStore P a x (m == .atomic) with
      | error h =>
        rw [s3 hcell h hf] at hl
        have := (farStore_mild hf).2
        cases h <;> first | exact hl.elim | exact (this _ rfl).elim
      | ok r =>
        obtain ⟨v₁, l⟩ := r
        obtain ⟨h1, ⟨w₁, h2, h3, h4, h4'⟩, h5, h5', h6⟩ := farStore_sim hs hcell hf
        rw [s4 hcell v₁ l hf] at hl hA ⊢
        rw [t4 h1 w₁ l h2]
        obtain ⟨w', f1, f2, f3, f4⟩ := ih v₁ w₁ _ h3 hl (by rw [h5']; intro i q hi; rw [h4', h4.tape, h5', h5.tape]; exact hA i q hi)
        exact ⟨w', f1, .trans h4 (by rw [h4', h5']) f2, f3, .more (evF_marks fun b hb => ⟨(h6 b hb).1, Nat.lt_of_lt_of_le (h6 b hb).2 (Nat.le_trans h5.size (hk.kept v₁ _).1.size)⟩) f4⟩
    · obtain ⟨y, hy⟩ := Option.ne_none_iff_exists'.1 hcell
      obtain ⟨h1, h2, h3⟩ := hs.cell hy
      cases hfr : v.frozen? a with
      | true =>
        obtain ⟨u, hu⟩ := s2 hcell hfr
        rw [hu] at hl
        exact hl.elim
      | false =>
        rw [s1 hcell hfr] at hl hA ⊢
        rw [t1 (by rw [h1]; simp) (by rw [← hs.frozen]; exact hfr)]
        obtain ⟨w', f1, f2, f3, f4⟩ := ih (v.setCell a x) (w.setCell a x) _ (hs.setCell h2 x) hl hA
        exact ⟨w', f1, .trans (v₁ := v.setCell a x) (Kept.set w a x) rfl f2, f3, .push (evF_cell h2 (Nat.lt_of_lt_of_le h3 (Nat.le_trans (Kept.set v a x).size (hk.kept (v.setCell a x) _).1.size))) f4⟩
  | new hk ih =>
    rename_i o k
    intro v w es hs hl hA
    have e1 : (Sem.new o k).runT P v es = (k v.heap.size).runT P { v with heap := v.heap.push o } es := rfl
    have e2 : (Sem.new o k).runT P w es = (k v.heap.size).runT P { w with heap := w.heap.push o } es := by rw [hs.size]; rfl
    rw [e1] at hl hA ⊢
    rw [e2]
    obtain ⟨w', f1, f2, f3, f4⟩ := ih v.heap.size { v with heap := v.heap.push o } { w with heap := w.heap.push o } es (hs.push o) hl hA
    exact ⟨w', f1, .trans (v₁ := { v with heap := v.heap.push o }) (Kept.push w o) rfl f2, f3, f4⟩
  | shape hk hb ih =>
    rename_i r k
    intro v w es hs hl hA
    by_cases hS : S r
    · obtain ⟨e, c, fr, h1, h2⟩ := hs.sh r hS
      have e1 : ∀ es', (Sem.shape r k).runT P v es' = (k (some (e, 0))).runT P v es' := fun es' => by simp [Sem.runT, World.shape?, h1]
      have e2 : ∀ es', (Sem.shape r k).runT P w es' = (k (some (e, c.size))).runT P w es' := fun es' => by simp [Sem.runT, World.shape?, h2]
      rw [e1] at hl hA ⊢
      rw [e2]
      rcases hb e c.size with hbl | hdead
      · rw [← hbl]
        exact ih _ v w es hs hl hA
      · exact (hdead.run v es hl).elim
    · have e2 : (Sem.shape r k).runT P w es = (k (v.shape? r)).runT P w es := by
        have : w.shape? r = v.shape? r := by simp only [World.shape?, ← hs.out r hS]
        simp only [Sem.runT, this]
      rw [e2]
      exact ih _ v w es hs hl hA
  | frozen hk ih =>
    rename_i a k
    intro v w es hs hl hA
    have e2 : (Sem.frozen a k).runT P w es = (k (v.frozen? a)).runT P w es := by rw [hs.frozen]; rfl
    rw [e2]
    exact ih _ v w es hs hl hA
  | getObj hk ih =>
    rename_i r k
    intro v w es hs hl hA
    by_cases hS : S r
    · obtain ⟨e, c, fr, h1, h2⟩ := hs.sh r hS
      have e1 : (Sem.getObj r k).runT P v es = (.halt (.stuck "getObj: a row of cells") v, es) := by simp only [Sem.runT, h1]
      rw [e1] at hl
      exact hl.elim
    · have ho := hs.out r hS
      cases hv : v.heap[r]? with
      | none =>
        have e1 : (Sem.getObj r k).runT P v es = (.halt (.stuck "getObj: no such block") v, es) := by simp only [Sem.runT, hv]
        rw [e1] at hl
        exact hl.elim
      | some o =>
        rw [hv] at ho
        by_cases hcl : ∃ c e fr, o = .cells c e fr
        · obtain ⟨c, e, fr, rfl⟩ := hcl
          have e1 : (Sem.getObj r k).runT P v es = (.halt (.stuck "getObj: a row of cells") v, es) := by simp only [Sem.runT, hv]
          rw [e1] at hl
          exact hl.elim
        · have e1 : ∀ x : World, x.heap[r]? = some o → ∀ es', (Sem.getObj r k).runT P x es' = (k o).runT P x (es'.push ⟨.obj r, false, o.isChan⟩) := fun x hx es' => by
            simp only [Sem.runT, hx]
            cases o <;> first | rfl | exact (hcl ⟨_, _, _, rfl⟩).elim
          rw [e1 v hv] at hl hA ⊢
          rw [e1 w ho.symm]
          obtain ⟨w', f1, f2, f3, f4⟩ := ih o v w _ hs hl hA
          exact ⟨w', f1, f2, f3, .push (evF_obj (Nat.lt_of_lt_of_le (Array.getElem?_eq_some_iff.1 hv).1 ((hk o).kept v _).1.size)) f4⟩
  | setObj hk ih =>
    rename_i r o k
    intro v w es hs hl hA
    by_cases hS : S r
    · obtain ⟨e, c, fr, h1, h2⟩ := hs.sh r hS
      have e1 : (Sem.setObj r o k).runT P v es = (.halt (.stuck "setObj: a row of cells") v, es) := by simp only [Sem.runT, h1]
      rw [e1] at hl
      exact hl.elim
    · have ho := hs.out r hS
      cases hv : v.heap[r]? with
      | none =>
        have e1 : (Sem.setObj r o k).runT P v es = (.halt (.stuck "setObj: no such block") v, es) := by simp only [Sem.runT, hv]
        rw [e1] at hl
        exact hl.elim
      | some o' =>
        rw [hv] at ho
        by_cases hcl : ∃ c e fr, o' = .cells c e fr
        · obtain ⟨c, e, fr, rfl⟩ := hcl
          have e1 : (Sem.setObj r o k).runT P v es = (.halt (.stuck "setObj: a row of cells") v, es) := by simp only [Sem.runT, hv]
          rw [e1] at hl
          exact hl.elim
        · have e1 : ∀ x : World, x.heap[r]? = some o' → ∀ es', (Sem.setObj r o k).runT P x es' = k.runT P { x with heap := x.heap.setIfInBounds r o } (es'.push ⟨.obj r, true, o.isChan⟩) := fun x hx es' => by
            simp only [Sem.runT, hx]
            cases o' <;> first | rfl | exact (hcl ⟨_, _, _, rfl⟩).elim
          rw [e1 v hv] at hl hA ⊢
          rw [e1 w ho.symm]
          obtain ⟨w', f1, f2, f3, f4⟩ := ih { v with heap := v.heap.setIfInBounds r o } { w with heap := w.heap.setIfInBounds r o } _ (hs.put hS o) hl hA
          exact ⟨w', f1, .trans (v₁ := { v with heap := v.heap.setIfInBounds r o }) (Kept.put w r o) rfl f2, f3, .push (evF_obj (Nat.lt_of_lt_of_le (Array.getElem?_eq_some_iff.1 hv).1 (Nat.le_trans (Kept.put v r o).size (hk.kept { v with heap := v.heap.setIfInBounds r o } _).1.size))) f4⟩
  | choose hk ih =>
    rename_i q k
    intro v w es hs hl hA
    by_cases hf : q.forced = true
    · have e1 : ∀ x : World, ∀ es', (Sem.choose q k).runT P x es' = (k 0).runT P x es' := fun x es' => by simp only [Sem.runT, hf, if_true]
      rw [e1] at hl hA ⊢
      rw [e1]
      exact ih 0 v w es hs hl hA
    · have e1 : ∀ x : World, ∀ es', (Sem.choose q k).runT P x es' = (k (q.cut (x.tape x.drawn q))).runT P { x with drawn := x.drawn + 1 } es' := fun x es' => by
        simp only [Sem.runT]
        rw [if_neg hf]
      rw [e1] at hl hA ⊢
      rw [e1]
      have hk' := ((hk (q.cut (v.tape v.drawn q))).kept { v with drawn := v.drawn + 1 } es).1.drawn
      have hd : v.drawn + 1 ≤ ((k (q.cut (v.tape v.drawn q))).runT P { v with drawn := v.drawn + 1 } es).1.world.drawn := hk'
      have ha := hA 0 q (by omega)
      simp only [Nat.add_zero] at ha
      rw [ha]
      obtain ⟨w', f1, f2, f3, f4⟩ := ih (q.cut (v.tape v.drawn q)) { v with drawn := v.drawn + 1 } { w with drawn := w.drawn + 1 } es (hs.drew _ _) hl (fun i q' hi => by
        have := hA (i + 1) q' (by simp only at hi; omega)
        simp only
        rw [show w.drawn + 1 + i = w.drawn + (i + 1) by omega, show v.drawn + 1 + i = v.drawn + (i + 1) by omega]
        exact this)
      exact ⟨w', f1, .trans (Kept.draw w) (by simp only; omega) f2, f3, f4⟩
  | program _ ih => exact fun v w es hs hl hA => ih v w es hs hl hA
  | room _ ih =>
    intro v w es hs hl hA
    obtain ⟨w', f1, f2, f3, f4⟩ := ih v w _ hs hl hA
    exact ⟨w', f1, f2, f3, .push evF_room f4⟩
  | halt hm => exact fun v w es hs _ _ => ⟨w, rfl, .refl hs, (fun a v' e => by cases e), .refl⟩
/-- What comes out is as said. -/
theorem Calm.post {s : Sem α} (hc : Calm P Q s) {es' : Array Event} {a : α} (v v' : World) {es : Array Event} (h : s.runT P v es = (.ok a v', es')) : Q a := by
  obtain ⟨w', _, _, f, _⟩ := hc.sim (S := fun _ => False) v v es ⟨rfl, fun _ _ => rfl, fun _ h => h.elim, rfl, rfl⟩ (by rw [h]; trivial) (fun _ _ _ => rfl)
  rw [h] at f
  exact f a v' rfl
end
end Go.Proofs.Ytehmobcfbifocaa
