/-
  A law on ranging over a function whose iterator writes a variable that it has captured (strings.Lines: what is left of the text). Nothing of this program is in it.
-/
import Derived.Test.YtkcbfiglmjdaiaaDoorRangeD
namespace Go.Proofs.YtkcbfiglmjdaiaaDoor
open Go Go.RowKit

variable {n : Nat} {P : Program}

/-- The contract of an iterator value: it hands out xs; it writes blocks K of its own that were there before (a captured variable). -/
def SeqMut {α : Type} (n : Nat) (P : Program) (g : Nat) (lb : Array Value) (encs : α → Array Value) (K : Nat → Prop) (xs : List α) (w : World) : Prop :=
  ∀ (l : Nat) (J Jx : (Nat → Prop) → List α → World → Prop) (W : World), Below w.heap.size w W →
    AbidesDyn K J → AbidesDyn K Jx →
    (∀ U pre x post W1, xs = pre ++ x :: post → J U pre W1 → YieldAt Fence.wide (n - 1) P l (encs x) W1 fun e W' =>
      (e = .returned (.bool true) ∧ J U (pre ++ [x]) W' ∧ KeepsSet (fun k => K k ∨ U k) W1 W') ∨ (e = .returned (.bool false) ∧ Jx U (pre ++ [x]) W' ∧ KeepsSet (fun k => K k ∨ U k) W1 W')) →
    J (fun _ => False) [] W →
    CallsIn Fence.wide n P g (#[.func (.yield l) #[] #[]] ++ lb) W fun e W' => (∃ v, e = .returned v) ∧ ((∃ U, J U xs W') ∨ (∃ U pre, pre <+: xs ∧ Jx U pre W'))

/-- THE LAW. -/
theorem wpIn_rangeFunc_mut {α : Type} {g : Operand} {ps : Array Tmp} {assign body : Code} {Q : Exit → Act → World → Prop} {a : Act} {w : World}
    {gf : Nat} {lb : Array Value} (hg : a.eval g = .func (.func gf) #[] lb) (eg : ∀ args w, (callFunc gf args).run P w = .ok (.enter gf args) w)
    {encs : α → Array Value} {K : Nat → Prop} {xs : List α}
    (hseq : SeqMut (n - 1) P gf lb encs K xs w) (hps : ∀ x, (encs x).size = ps.size)
    (hKl : ∀ k, K k → k < w.heap.size)
    (I : (Nat → Prop) → List α → World → Prop) (Ix : Code → (Nat → Prop) → List α → World → Prop)
    (hI : AbidesDyn (fun r => K r ∨ r = w.heap.size ∨ r = w.heap.size + 1) I) (hIx : ∀ c, AbidesDyn (fun r => K r ∨ r = w.heap.size ∨ r = w.heap.size + 1) (Ix c)) (h0 : I (fun _ => False) [] w) (a₁ : α → Act)
    (hassign : ∀ (l : Nat) (x : α) (W : World) (K : Act → World → Prop), K (a₁ x) W →
      assign.wpIn (Fence.wide.inRound l) (n - 1 - 1) P (Exit.then K (fun _ _ _ => False)) { tmps := (ps.zip (encs x)).foldl (fun t (p, v) => t.setIfInBounds p v) a.tmps, defers := [] } W)
    (hbody : ∀ (l : Nat) (U : Nat → Prop) (pre : List α) (x : α) (post : List α) (W : World), xs = pre ++ x :: post → w.heap.size + 1 < W.heap.size → (∀ k, U k → w.heap.size + 2 ≤ k) → I U pre W →
      body.wpIn (Fence.wide.inRound l) (n - 1 - 1) P (postMem (fun k => k = w.heap.size ∨ k = w.heap.size + 1 ∨ K k ∨ U k) (I U) (fun c => Ix c U) (pre ++ [x]) W) (a₁ x) W)
    (hdone : ∀ (U : Nat → Prop) (W : World), I U xs W → W.heap[w.heap.size]? = some (.deferred (some [])) → Q .normal { a with defers := { target := .collected w.heap.size, args := #[] } :: a.defers } W)
    (hstop : ∀ (c : Code) (U : Nat → Prop) (pre : List α) (W : World), pre <+: xs → Ix c U pre W → W.heap[w.heap.size]? = some (.deferred (some [])) → c.wpIn Fence.wide n P Q { a with defers := { target := .collected w.heap.size, args := #[] } :: a.defers } W) :
    (Code.rangeFunc g ps assign body).wpIn Fence.wide n P Q a w := by
  have hKn : ¬ K (w.heap.size + 1) := fun h => by have := hKl _ h; omega
  refine wpIn_rangeFunc ?_
  intro fn hfn
  obtain ⟨rec, hrec⟩ : ∃ rec : LoopState → Option Code → Loop, rec = fun st pe => { state := st, pending := pe, fn, tmps := a.tmps, params := ps, assign, body, defers := w.heap.size } := ⟨_, rfl⟩
  obtain ⟨W1, hW1⟩ : ∃ W1, (w.alloc (.deferred (some []))).alloc (.loop (rec .ready none)) = W1 := ⟨_, rfl⟩
  have hL1 : W1.heap[w.heap.size + 1]? = some (.loop (rec .ready none)) := by
    rw [← hW1]; have := World.alloc_heap_new (w.alloc (.deferred (some []))) (.loop (rec .ready none)); rwa [World.size_alloc] at this
  have hK1 : W1.heap[w.heap.size]? = some (.deferred (some [])) := by
    rw [← hW1]; exact (Below.heap_alloc _ _ _ (by simp)).trans (World.alloc_heap_new w _)
  have hI1 : I (fun _ => False) [] W1 := by
    rw [← hW1]
    exact hI.put (hI.put h0 (World.grownBy_alloc w _ none) (fun _ h => by cases h)) (World.grownBy_alloc _ _ none) (fun _ h => by cases h)
  have hb1 : Below w.heap.size w W1 := by
    rw [← hW1]; exact ((Below.refl _ w).alloc (Nat.le_refl _) _).alloc (by simp) _
  have hsz : W1.heap.size = w.heap.size + 2 := by rw [← hW1]; simp
  have putI : ∀ (J : (Nat → Prop) → List α → World → Prop) (U : Nat → Prop) (s : List α) (W : World) (o : Obj), AbidesDyn (fun r => K r ∨ r = w.heap.size ∨ r = w.heap.size + 1) J → J U s W → J U s (W.putObj (w.heap.size + 1) o) := fun J U s W o hJ hs =>
    hJ.put hs (grownBy_putObj' W _ o) (fun r e => by cases e; exact .inl (.inr (.inr rfl)))
  refine ⟨w.heap.size + 1, [{ target := .collected w.heap.size, args := #[] }], W1, { target := .fn (.func gf) lb, args := #[.func (.yield (w.heap.size + 1)) #[] #[]] }, W1, gf,
    #[.func (.yield (w.heap.size + 1)) #[] #[]] ++ lb, W1, ?_, ?_, ?_, ?_, fun h => by simp [Fence.wide] at h, ?_⟩
  · rw [← hW1, hrec]; exact run_enterLoop_outer _ _ _ _ _
  · simp only [resolve, hg]
    simp [go_sem]
  · intro f' _; trivial
  · simp [invoke, go_sem, eg]
  · have hkeep : ∀ {U : Nat → Prop} {A B : World} {row : Option Nat} {k : Nat} {o : Obj}, (∀ k, U k → w.heap.size + 2 ≤ k) → A.grownBy B row → (∀ r, row = some r → K r ∨ U r) → w.heap.size ≤ k → k < w.heap.size + 2 → A.heap[k]? = some o → B.heap[k]? = some o := fun hU hg hr hk0 hk ho =>
      (hg.block _ (Array.getElem?_eq_some_iff.1 ho).1 (fun e => by rcases hr _ e.symm with h | h; · have := hKl _ h; omega
                                                                   · have := hU _ h; omega)).trans ho
    have hnew : ∀ {U U' : Nat → Prop} {A B : World} {o : Obj}, (∀ k, U k → w.heap.size + 2 ≤ k) → A.heap[w.heap.size + 1]? = some o → (∀ k, U' k → U k ∨ (A.heap.size ≤ k ∧ k < B.heap.size)) → ∀ k, U' k → w.heap.size + 2 ≤ k := fun hU ho hu k hk => by
      have := (Array.getElem?_eq_some_iff.1 ho).1
      rcases hu k hk with h | h
      · exact hU k h
      · omega
    have H := hseq (w.heap.size + 1)
      (fun U pre W => I U pre W ∧ W.heap[w.heap.size + 1]? = some (.loop (rec .ready none)) ∧ W.heap[w.heap.size]? = some (.deferred (some [])) ∧ ∀ k, U k → w.heap.size + 2 ≤ k)
      (fun U pre W => ∃ c, Ix c U pre W ∧ W.heap[w.heap.size + 1]? = some (.loop (rec .done (some c))) ∧ W.heap[w.heap.size]? = some (.deferred (some [])) ∧ ∀ k, U k → w.heap.size + 2 ≤ k)
      W1 hb1
      (fun U U' s A B row hs hg' hr hu => ⟨hI U U' s A B row hs.1 hg' (fun r e => (hr r e).imp .inl id) hu, hkeep hs.2.2.2 hg' hr (by omega) (by omega) hs.2.1, hkeep hs.2.2.2 hg' hr (by omega) (by omega) hs.2.2.1, hnew hs.2.2.2 hs.2.1 hu⟩)
      (fun U U' s A B row hs hg' hr hu => by
        obtain ⟨c, hc, hl, hk, hU⟩ := hs
        exact ⟨c, hIx c U U' s A B row hc hg' (fun r e => (hr r e).imp .inl id) hu, hkeep hU hg' hr (by omega) (by omega) hl, hkeep hU hg' hr (by omega) (by omega) hk, hnew hU hl hu⟩)
    refine (H ?_ ⟨hI1, hL1, hK1, fun _ h => h.elim⟩).mono ?_
    · -- one round
      rintro U pre x post W hxs ⟨hi, hl, hk, hU⟩
      have hlt : w.heap.size + 1 < W.heap.size := (Array.getElem?_eq_some_iff.1 hl).1
      have hy := run_yield (P := P) (args := encs x) hl (by rw [hrec]; exact hps x)
      rw [hrec] at hy
      refine ⟨fn, _, assign, body, hy, roundIn_of_wpIn hfn (hassign _ x W _ ⟨_, run_beginRound hl (by rw [hrec]), ?_⟩)⟩
      have hl2 : (W.putObj (w.heap.size + 1) (.loop { rec .ready none with state := .busy })).heap[w.heap.size + 1]? = some (.loop { rec .ready none with state := .busy }) := World.putObj_heap_same hlt
      have hk2 : (W.putObj (w.heap.size + 1) (.loop { rec .ready none with state := .busy })).heap[w.heap.size]? = some (.deferred (some [])) := (World.putObj_heap_other (by omega)).trans hk
      have hnU : ¬ (K (w.heap.size + 1) ∨ U (w.heap.size + 1)) := fun h => h.elim hKn (fun h => by have := hU _ h; omega)
      have hput : ∀ (W : World) (o : Obj), KeepsSet (fun k => K k ∨ U k) W (W.putObj (w.heap.size + 1) o) := fun W o => KeepsSet.of_grownBy (grownBy_putObj' W _ o) (fun r e => by cases e; exact hnU)
      refine wpIn_mono (hbody _ U pre x post _ hxs (by simpa using hlt) hU (putI I U _ _ _ hI hi)) ?_
      have fin : ∀ (jump : Option Code) (W3 : World), KeepsSet (fun k => k = w.heap.size ∨ k = w.heap.size + 1 ∨ K k ∨ U k) (W.putObj (w.heap.size + 1) (.loop { rec .ready none with state := .busy })) W3 →
          (Instr.endRound (w.heap.size + 1) jump).run P W3 = .ok (.bool jump.isNone) (W3.putObj (w.heap.size + 1) (.loop (rec (if jump.isNone then .ready else .done) jump))) ∧
          (W3.putObj (w.heap.size + 1) (.loop (rec (if jump.isNone then .ready else .done) jump))).heap[w.heap.size + 1]? = some (.loop (rec (if jump.isNone then .ready else .done) jump)) ∧
          (W3.putObj (w.heap.size + 1) (.loop (rec (if jump.isNone then .ready else .done) jump))).heap[w.heap.size]? = some (.deferred (some [])) ∧
          KeepsSet (fun k => K k ∨ U k) W (W3.putObj (w.heap.size + 1) (.loop (rec (if jump.isNone then .ready else .done) jump))) := fun jump W3 hk3 => by
        have hl3 := (hk3.same (w.heap.size + 1) (by simpa using hlt) (.inr (.inl rfl))).trans hl2
        have hk4 := (hk3.same w.heap.size (by simp; omega) (.inl rfl)).trans hk2
        have := run_endRound (P := P) jump hl3
        rw [hrec] at this ⊢
        exact ⟨this, World.putObj_heap_same (Array.getElem?_eq_some_iff.1 hl3).1, (World.putObj_heap_other (by omega)).trans hk4, (hput _ _).trans ((hk3.mono (fun k h => .inr (.inr h))).trans (hput _ _))⟩
      rintro e a3 W3 hp
      cases e with
      | normal =>
        obtain ⟨hk3, hi3⟩ := hp
        obtain ⟨hr, hl4, hk4, hkk⟩ := fin none W3 hk3
        exact ⟨_, _, hr, .inl ⟨rfl, ⟨putI I _ _ _ _ hI hi3, hl4, hk4, hU⟩, hkk⟩⟩
      | ret =>
        obtain ⟨hk3, hi3⟩ := hp
        obtain ⟨hr, hl4, hk4, hkk⟩ := fin (some .ret) W3 hk3
        exact ⟨_, _, hr, .inr ⟨rfl, ⟨.ret, putI (Ix .ret) _ _ _ _ (hIx _) hi3, hl4, hk4, hU⟩, hkk⟩⟩
      | exit id =>
        obtain ⟨hk3, hi3⟩ := hp
        obtain ⟨hr, hl4, hk4, hkk⟩ := fin (some (.exit id)) W3 hk3
        exact ⟨_, _, hr, .inr ⟨rfl, ⟨.exit id, putI (Ix (.exit id)) _ _ _ _ (hIx _) hi3, hl4, hk4, hU⟩, hkk⟩⟩
      | goto t =>
        obtain ⟨hk3, hi3⟩ := hp
        obtain ⟨hr, hl4, hk4, hkk⟩ := fin (some (.goto t)) W3 hk3
        exact ⟨_, _, hr, .inr ⟨rfl, ⟨.goto t, putI (Ix (.goto t)) _ _ _ _ (hIx _) hi3, hl4, hk4, hU⟩, hkk⟩⟩
      | panic ch => exact hp.elim
      | outgrown => exact hp.elim
    · -- behind the iterator
      rintro e W2 ⟨⟨v, rfl⟩, (⟨U, hi, hl, hk, hU⟩ | ⟨U, pre, hpx, c, hi, hl, hk, hU⟩)⟩
      · exact ⟨none, _, by have := run_endLoop (P := P) hl (by rw [hrec]; simp); rw [hrec] at this; exact this, hdone U _ (putI I _ _ _ _ hI hi) ((World.putObj_heap_other (by omega)).trans hk)⟩
      · exact ⟨some c, _, by have := run_endLoop (P := P) hl (by rw [hrec]; simp); rw [hrec] at this; exact this, hstop c U pre _ hpx (putI (Ix c) _ _ _ _ (hIx c) hi) ((World.putObj_heap_other (by omega)).trans hk)⟩
end Go.Proofs.YtkcbfiglmjdaiaaDoor
