/-
  A law on ranging over a function whose iterator makes memory of its own as it goes (boxes, loops of its own: a recursive iterator): which blocks are the iterator's is a set U that grows; it writes these alone, and a round keeps them. Nothing of this program is in it.
-/
import Derived.Test.YtkcbfiglmjdaiaaDoorBaseZ
namespace Go.Proofs.YtkcbfiglmjdaiaaDoor
open Go Go.RowKit

/-- J abides the turn of a block of T or of U; what is new may come to U. -/
def AbidesDyn {β : Type} (T : Nat → Prop) (J : (Nat → Prop) → β → World → Prop) : Prop :=
  ∀ U U' s A B (row : Option Nat), J U s A → A.grownBy B row → (∀ r, row = some r → T r ∨ U r) → (∀ k, U' k → U k ∨ (A.heap.size ≤ k ∧ k < B.heap.size)) → J U' s B
theorem AbidesDyn.put {β : Type} {T : Nat → Prop} {J : (Nat → Prop) → β → World → Prop} (h : AbidesDyn T J) {U : Nat → Prop} {s : β} {A B : World} {row : Option Nat} (h1 : J U s A) (hg : A.grownBy B row) (hr : ∀ r, row = some r → T r ∨ U r) : J U s B := h U U s A B row h1 hg hr (fun _ hk => .inl hk)

/-- The contract of an iterator value: it hands out xs. -/
def SeqDyn {α : Type} (n : Nat) (P : Program) (g : Nat) (lb : Array Value) (encs : α → Array Value) (K : Nat → Prop) (xs : List α) (w : World) : Prop :=
  ∀ (l : Nat) (J Jx : (Nat → Prop) → List α → World → Prop) (W : World), Below w.heap.size w W →
    AbidesDyn (fun _ => False) J → AbidesDyn (fun _ => False) Jx →
    (∀ U pre x post W1, xs = pre ++ x :: post → J U pre W1 → YieldAt Fence.wide (n - 1) P l (encs x) W1 fun e W' =>
      (e = .returned (.bool true) ∧ J U (pre ++ [x]) W' ∧ KeepsSet (fun k => K k ∨ U k) W1 W') ∨ (e = .returned (.bool false) ∧ Jx U (pre ++ [x]) W' ∧ KeepsSet (fun k => K k ∨ U k) W1 W')) →
    J (fun _ => False) [] W →
    CallsIn Fence.wide n P g (#[.func (.yield l) #[] #[]] ++ lb) W fun e W' => (∃ v, e = .returned v) ∧ ((∃ U, J U xs W') ∨ (∃ U pre, pre <+: xs ∧ Jx U pre W'))

theorem roundIn_any {n m : Nat} {P : Program} {l : Nat} {f : FuncId} {tmps : Array Value} {assign body : Code} {w : World} {R : Ending → World → Prop}
    (h : RoundIn Fence.wide n P l f tmps assign body w R) : RoundIn Fence.wide m P l f tmps assign body w R := ⟨h.1, fun c cs _ => h.2 c cs (room_wide _)⟩

variable {n : Nat} {P : Program}

/-- THE LAW. -/
theorem wpIn_rangeFunc_dyn {α : Type} {g : Operand} {ps : Array Tmp} {assign body : Code} {Q : Exit → Act → World → Prop} {a : Act} {w : World}
    {gf : Nat} {lb : Array Value} (hg : a.eval g = .func (.func gf) #[] lb) (eg : ∀ args w, (callFunc gf args).run P w = .ok (.enter gf args) w)
    {encs : α → Array Value} {K : Nat → Prop} {xs : List α}
    (hseq : SeqDyn (n - 1) P gf lb encs K xs w) (hps : ∀ x, (encs x).size = ps.size)
    (hKn : ¬ K (w.heap.size + 1))
    (I : (Nat → Prop) → List α → World → Prop) (Ix : Code → (Nat → Prop) → List α → World → Prop)
    (hI : AbidesDyn (fun r => r = w.heap.size ∨ r = w.heap.size + 1) I) (hIx : ∀ c, AbidesDyn (fun r => r = w.heap.size ∨ r = w.heap.size + 1) (Ix c)) (h0 : I (fun _ => False) [] w) (a₁ : α → Act)
    (hassign : ∀ (l : Nat) (x : α) (W : World) (K : Act → World → Prop), K (a₁ x) W →
      assign.wpIn (Fence.wide.inRound l) (n - 1 - 1) P (Exit.then K (fun _ _ _ => False)) { tmps := (ps.zip (encs x)).foldl (fun t (p, v) => t.setIfInBounds p v) a.tmps, defers := [] } W)
    (hbody : ∀ (l : Nat) (U : Nat → Prop) (pre : List α) (x : α) (post : List α) (W : World), xs = pre ++ x :: post → w.heap.size + 1 < W.heap.size → (∀ k, U k → w.heap.size + 2 ≤ k) → I U pre W →
      body.wpIn (Fence.wide.inRound l) (n - 1 - 1) P (postMem (fun k => k = w.heap.size ∨ k = w.heap.size + 1 ∨ K k ∨ U k) (I U) (fun c => Ix c U) (pre ++ [x]) W) (a₁ x) W)
    (hdone : ∀ (U : Nat → Prop) (W : World), I U xs W → W.heap[w.heap.size]? = some (.deferred (some [])) → Q .normal { a with defers := { target := .collected w.heap.size, args := #[] } :: a.defers } W)
    (hstop : ∀ (c : Code) (U : Nat → Prop) (pre : List α) (W : World), pre <+: xs → Ix c U pre W → W.heap[w.heap.size]? = some (.deferred (some [])) → c.wpIn Fence.wide n P Q { a with defers := { target := .collected w.heap.size, args := #[] } :: a.defers } W) :
    (Code.rangeFunc g ps assign body).wpIn Fence.wide n P Q a w := by
  refine wpIn_rangeFunc ?_
  intro fn hfn
  obtain ⟨rec, hrec⟩ : ∃ rec : LoopState → Option Code → Loop, rec = fun st pe => { state := st, pending := pe, fn, tmps := a.tmps, params := ps, assign, body, defers := w.heap.size } := ⟨_, rfl⟩
  obtain ⟨W1, hW1⟩ : ∃ W1, (w.alloc (.deferred (some []))).alloc (.loop (rec .ready none)) = W1 := ⟨_, rfl⟩
  have hL1 : W1.heap[w.heap.size + 1]? = some (.loop (rec .ready none)) := by
    rw [← hW1]; have := World.alloc_heap_new (w.alloc (.deferred (some []))) (.loop (rec .ready none)); rwa [World.size_alloc] at this
  have hK1 : W1.heap[w.heap.size]? = some (.deferred (some [])) := by
    rw [← hW1]; exact (Below.heap_alloc _ _ _ (by simp)).trans (World.alloc_heap_new w _)
  have hI1 : I (fun _ => False) [] W1 := by
    rw [← hW1]
    exact hI.put (hI.put h0 (World.grownBy_alloc w _ none) (fun _ h => by cases h)) (World.grownBy_alloc _ _ none) (fun _ h => by cases h)
  have hb1 : Below w.heap.size w W1 := by
    rw [← hW1]; exact ((Below.refl _ w).alloc (Nat.le_refl _) _).alloc (by simp) _
  have hsz : W1.heap.size = w.heap.size + 2 := by rw [← hW1]; simp
  have putI : ∀ (J : (Nat → Prop) → List α → World → Prop) (U : Nat → Prop) (s : List α) (W : World) (o : Obj), AbidesDyn (fun r => r = w.heap.size ∨ r = w.heap.size + 1) J → J U s W → J U s (W.putObj (w.heap.size + 1) o) := fun J U s W o hJ hs =>
    hJ.put hs (grownBy_putObj' W _ o) (fun r e => by cases e; exact .inl (.inr rfl))
  refine ⟨w.heap.size + 1, [{ target := .collected w.heap.size, args := #[] }], W1, { target := .fn (.func gf) lb, args := #[.func (.yield (w.heap.size + 1)) #[] #[]] }, W1, gf,
    #[.func (.yield (w.heap.size + 1)) #[] #[]] ++ lb, W1, ?_, ?_, ?_, ?_, fun h => by simp [Fence.wide] at h, ?_⟩
  · rw [← hW1, hrec]; exact run_enterLoop_outer _ _ _ _ _
  · simp only [resolve, hg]
    simp [go_sem]
  · intro f' _; trivial
  · simp [invoke, go_sem, eg]
  · have hkeep : ∀ {U : Nat → Prop} {A B : World} {row : Option Nat} {k : Nat} {o : Obj}, (∀ k, U k → w.heap.size + 2 ≤ k) → A.grownBy B row → (∀ r, row = some r → False ∨ U r) → k < w.heap.size + 2 → A.heap[k]? = some o → B.heap[k]? = some o := fun hU hg hr hk ho =>
      (hg.block _ (Array.getElem?_eq_some_iff.1 ho).1 (fun e => by have := hU _ ((hr _ e.symm).resolve_left (fun h => h)); omega)).trans ho
    have hnew : ∀ {U U' : Nat → Prop} {A B : World} {o : Obj}, (∀ k, U k → w.heap.size + 2 ≤ k) → A.heap[w.heap.size + 1]? = some o → (∀ k, U' k → U k ∨ (A.heap.size ≤ k ∧ k < B.heap.size)) → ∀ k, U' k → w.heap.size + 2 ≤ k := fun hU ho hu k hk => by
      have := (Array.getElem?_eq_some_iff.1 ho).1
      rcases hu k hk with h | h
      · exact hU k h
      · omega
    have H := hseq (w.heap.size + 1)
      (fun U pre W => I U pre W ∧ W.heap[w.heap.size + 1]? = some (.loop (rec .ready none)) ∧ W.heap[w.heap.size]? = some (.deferred (some [])) ∧ ∀ k, U k → w.heap.size + 2 ≤ k)
      (fun U pre W => ∃ c, Ix c U pre W ∧ W.heap[w.heap.size + 1]? = some (.loop (rec .done (some c))) ∧ W.heap[w.heap.size]? = some (.deferred (some [])) ∧ ∀ k, U k → w.heap.size + 2 ≤ k)
      W1 hb1
      (fun U U' s A B row hs hg' hr hu => ⟨hI U U' s A B row hs.1 hg' (fun r e => .inr ((hr r e).resolve_left (fun h => h))) hu, hkeep hs.2.2.2 hg' hr (by omega) hs.2.1, hkeep hs.2.2.2 hg' hr (by omega) hs.2.2.1, hnew hs.2.2.2 hs.2.1 hu⟩)
      (fun U U' s A B row hs hg' hr hu => by
        obtain ⟨c, hc, hl, hk, hU⟩ := hs
        exact ⟨c, hIx c U U' s A B row hc hg' (fun r e => .inr ((hr r e).resolve_left (fun h => h))) hu, hkeep hU hg' hr (by omega) hl, hkeep hU hg' hr (by omega) hk, hnew hU hl hu⟩)
    refine (H ?_ ⟨hI1, hL1, hK1, fun _ h => h.elim⟩).mono ?_
    · -- one round
      rintro U pre x post W hxs ⟨hi, hl, hk, hU⟩
      have hlt : w.heap.size + 1 < W.heap.size := (Array.getElem?_eq_some_iff.1 hl).1
      have hy := run_yield (P := P) (args := encs x) hl (by rw [hrec]; exact hps x)
      rw [hrec] at hy
      refine ⟨fn, _, assign, body, hy, roundIn_of_wpIn hfn (hassign _ x W _ ⟨_, run_beginRound hl (by rw [hrec]), ?_⟩)⟩
      have hl2 : (W.putObj (w.heap.size + 1) (.loop { rec .ready none with state := .busy })).heap[w.heap.size + 1]? = some (.loop { rec .ready none with state := .busy }) := World.putObj_heap_same hlt
      have hk2 : (W.putObj (w.heap.size + 1) (.loop { rec .ready none with state := .busy })).heap[w.heap.size]? = some (.deferred (some [])) := (World.putObj_heap_other (by omega)).trans hk
      have hnU : ¬ (K (w.heap.size + 1) ∨ U (w.heap.size + 1)) := fun h => h.elim hKn (fun h => by have := hU _ h; omega)
      have hput : ∀ (W : World) (o : Obj), KeepsSet (fun k => K k ∨ U k) W (W.putObj (w.heap.size + 1) o) := fun W o => KeepsSet.of_grownBy (grownBy_putObj' W _ o) (fun r e => by cases e; exact hnU)
      refine wpIn_mono (hbody _ U pre x post _ hxs (by simpa using hlt) hU (putI I U _ _ _ hI hi)) ?_
      have fin : ∀ (jump : Option Code) (W3 : World), KeepsSet (fun k => k = w.heap.size ∨ k = w.heap.size + 1 ∨ K k ∨ U k) (W.putObj (w.heap.size + 1) (.loop { rec .ready none with state := .busy })) W3 →
          (Instr.endRound (w.heap.size + 1) jump).run P W3 = .ok (.bool jump.isNone) (W3.putObj (w.heap.size + 1) (.loop (rec (if jump.isNone then .ready else .done) jump))) ∧
          (W3.putObj (w.heap.size + 1) (.loop (rec (if jump.isNone then .ready else .done) jump))).heap[w.heap.size + 1]? = some (.loop (rec (if jump.isNone then .ready else .done) jump)) ∧
          (W3.putObj (w.heap.size + 1) (.loop (rec (if jump.isNone then .ready else .done) jump))).heap[w.heap.size]? = some (.deferred (some [])) ∧
          KeepsSet (fun k => K k ∨ U k) W (W3.putObj (w.heap.size + 1) (.loop (rec (if jump.isNone then .ready else .done) jump))) := fun jump W3 hk3 => by
        have hl3 := (hk3.same (w.heap.size + 1) (by simpa using hlt) (.inr (.inl rfl))).trans hl2
        have hk4 := (hk3.same w.heap.size (by simp; omega) (.inl rfl)).trans hk2
        have := run_endRound (P := P) jump hl3
        rw [hrec] at this ⊢
        exact ⟨this, World.putObj_heap_same (Array.getElem?_eq_some_iff.1 hl3).1, (World.putObj_heap_other (by omega)).trans hk4, (hput _ _).trans ((hk3.mono (fun k h => .inr (.inr h))).trans (hput _ _))⟩
      rintro e a3 W3 hp
      cases e with
      | normal =>
        obtain ⟨hk3, hi3⟩ := hp
        obtain ⟨hr, hl4, hk4, hkk⟩ := fin none W3 hk3
        exact ⟨_, _, hr, .inl ⟨rfl, ⟨putI I _ _ _ _ hI hi3, hl4, hk4, hU⟩, hkk⟩⟩
      | ret =>
        obtain ⟨hk3, hi3⟩ := hp
        obtain ⟨hr, hl4, hk4, hkk⟩ := fin (some .ret) W3 hk3
        exact ⟨_, _, hr, .inr ⟨rfl, ⟨.ret, putI (Ix .ret) _ _ _ _ (hIx _) hi3, hl4, hk4, hU⟩, hkk⟩⟩
      | exit id =>
        obtain ⟨hk3, hi3⟩ := hp
        obtain ⟨hr, hl4, hk4, hkk⟩ := fin (some (.exit id)) W3 hk3
        exact ⟨_, _, hr, .inr ⟨rfl, ⟨.exit id, putI (Ix (.exit id)) _ _ _ _ (hIx _) hi3, hl4, hk4, hU⟩, hkk⟩⟩
      | goto t =>
        obtain ⟨hk3, hi3⟩ := hp
        obtain ⟨hr, hl4, hk4, hkk⟩ := fin (some (.goto t)) W3 hk3
        exact ⟨_, _, hr, .inr ⟨rfl, ⟨.goto t, putI (Ix (.goto t)) _ _ _ _ (hIx _) hi3, hl4, hk4, hU⟩, hkk⟩⟩
      | panic ch => exact hp.elim
      | outgrown => exact hp.elim
    · -- behind the iterator
      rintro e W2 ⟨⟨v, rfl⟩, (⟨U, hi, hl, hk, hU⟩ | ⟨U, pre, hpx, c, hi, hl, hk, hU⟩)⟩
      · exact ⟨none, _, by have := run_endLoop (P := P) hl (by rw [hrec]; simp); rw [hrec] at this; exact this, hdone U _ (putI I _ _ _ _ hI hi) ((World.putObj_heap_other (by omega)).trans hk)⟩
      · exact ⟨some c, _, by have := run_endLoop (P := P) hl (by rw [hrec]; simp); rw [hrec] at this; exact this, hstop c U pre _ hpx (putI (Ix c) _ _ _ _ (hIx c) hi) ((World.putObj_heap_other (by omega)).trans hk)⟩
theorem grownBy_new {A B : World} {r : Nat} (hg : A.grownBy B (some r)) (h : A.heap.size ≤ r) : A.grownBy B none := ⟨hg.os, hg.tape, hg.output, hg.size, fun k hk _ => hg.block k hk (by intro e; cases e; omega)⟩
/-- Within an iterator that ranges over another: what is known between the inner rounds. J is the outer word, 'opre' has come before; O: the iterator's own blocks, all below D, where the inner loop begins; V1: the world then. -/
structure InnerI {α : Type} (J : (Nat → Prop) → List α → World → Prop) (opre : List α) (O : Nat → Prop) (D : Nat) (V1 : World) (U : Nat → Prop) (pre : List α) (V : World) : Prop where
  word : ∃ Uo : Nat → Prop, J Uo (opre ++ pre) V ∧ ∀ k, k < V.heap.size → (O k ∨ k = D ∨ k = D + 1 ∨ U k) → Uo k
  same : ∀ k, O k → V.heap[k]? = V1.heap[k]?
  size : D ≤ V.heap.size
  mine : ∀ k, U k → D ≤ k ∧ k < V.heap.size
theorem InnerI.abides {α : Type} {J : (Nat → Prop) → List α → World → Prop} (hJ : AbidesDyn (fun _ => False) J) {opre : List α} {O : Nat → Prop} {D : Nat} {V1 : World} (hO : ∀ k, O k → k < D) :
    AbidesDyn (fun r => r = D ∨ r = D + 1) (InnerI J opre O D V1) := by
  rintro U U' s A B row ⟨⟨Uo, h1, h2⟩, h3, h4, h5⟩ hg hr hu
  have hsz := hg.size
  have hmine : ∀ k, U' k → D ≤ k ∧ k < B.heap.size := fun k hk => by
    rcases hu k hk with h | h
    · have := h5 k h; omega
    · omega
  have hrow : ∀ r, row = some r → D ≤ r := fun r e => by
    rcases hr r e with (h | h) | h
    · omega
    · omega
    · exact (h5 r h).1
  have hcov : ∀ k, k < B.heap.size → (O k ∨ k = D ∨ k = D + 1 ∨ U' k) → (Uo k ∨ (A.heap.size ≤ k ∧ k < B.heap.size)) := fun k hk h => by
    by_cases hkA : k < A.heap.size
    · refine .inl (h2 k hkA ?_)
      rcases h with h | h | h | h
      · exact .inl h
      · exact .inr (.inl h)
      · exact .inr (.inr (.inl h))
      · rcases hu k h with h | h
        · exact .inr (.inr (.inr h))
        · omega
    · exact .inr ⟨by omega, hk⟩
  have hJB : J (fun k => Uo k ∨ (A.heap.size ≤ k ∧ k < B.heap.size)) (opre ++ s) B := by
    cases row with
    | none => exact hJ _ _ _ _ _ none h1 hg (fun _ e => by cases e) (fun k hk => hk)
    | some r =>
      by_cases hrA : r < A.heap.size
      · have hor : O r ∨ r = D ∨ r = D + 1 ∨ U r := by
          rcases hr r rfl with (h | h) | h
          · exact .inr (.inl h)
          · exact .inr (.inr (.inl h))
          · exact .inr (.inr (.inr h))
        exact hJ _ _ _ _ _ (some r) h1 hg (fun r' e => by cases e; exact .inr (h2 r hrA hor)) (fun k hk => hk)
      · exact hJ _ _ _ _ _ none h1 (grownBy_new hg (by omega)) (fun _ e => by cases e) (fun k hk => hk)
  refine ⟨⟨_, hJB, hcov⟩, fun k hk => ?_, Nat.le_trans h4 hg.size, hmine⟩
  have hkD := hO k hk
  exact (hg.block k (by omega) (fun e => by have := hrow k e.symm; omega)).trans (h3 k hk)
/-- What a round that keeps the outer word keeps of the inner one. -/
theorem InnerI.next {α : Type} {J J' : (Nat → Prop) → List α → World → Prop} {opre : List α} {O : Nat → Prop} {D : Nat} {V1 V V' : World} {U Uo K Kx : Nat → Prop} {pre pre' : List α} (hO : ∀ k, O k → k < D)
    (hI : InnerI J opre O D V1 U pre V) (h : ∀ k, k < V.heap.size → (O k ∨ k = D ∨ k = D + 1 ∨ U k) → Uo k) (hD : D + 1 < V.heap.size)
    (hk : KeepsSet (fun k => K k ∨ Uo k) V V') (hJ' : J' Uo (opre ++ pre') V') (hKx : ∀ k, Kx k → O k) :
    KeepsSet (fun k => k = D ∨ k = D + 1 ∨ Kx k ∨ U k) V V' ∧ InnerI J' opre O D V1 U pre' V' := by
  have hkeep : ∀ k, k < V.heap.size → (O k ∨ k = D ∨ k = D + 1 ∨ U k) → V'.heap[k]? = V.heap[k]? := fun k hk1 hk2 => hk.same k hk1 (.inr (h k hk1 hk2))
  have hsz := hk.size
  refine ⟨⟨hk.size, fun k hk1 hk2 => hkeep k hk1 ?_⟩, ⟨⟨Uo, hJ', fun k hk1 hk2 => h k ?_ hk2⟩, fun k hk1 => ?_, by omega, fun k hk1 => by have := hI.mine k hk1; omega⟩⟩
  · rcases hk2 with h | h | h | h
    · exact .inr (.inl h)
    · exact .inr (.inr (.inl h))
    · exact .inl (hKx k h)
    · exact .inr (.inr (.inr h))
  · rcases hk2 with h | h | h | h
    · have := hO k h; omega
    · omega
    · omega
    · exact (hI.mine k h).2
  · have := hO k hk1
    exact (hkeep k (by omega) (.inl hk1)).trans (hI.same k hk1)
end Go.Proofs.YtkcbfiglmjdaiaaDoor
