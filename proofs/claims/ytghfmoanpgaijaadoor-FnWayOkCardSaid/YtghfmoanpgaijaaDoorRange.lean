/-
  A law on ranging over a function whose iterator hands out memory of its own: between two rounds the iterator may write its own m blocks (those that it lays first), it tells what they hold when it hands out an element and when it is done, and it names the blocks that the round must keep. Nothing of this program is in it.
-/
import Derived.RangeFuncNested
import Derived.RangeFuncBound
import Derived.RangeFuncCalls
import Derived.RangeFuncLeaves
import Derived.WalkKit
import Derived.OwnWalkIn
namespace Go.Proofs.YtghfmoanpgaijaaDoor
open Go Go.RowKit

/-- J abides new blocks, and the turn of a block of the set. -/
def AbidesSet {β : Type} (T : Nat → Prop) (J : β → World → Prop) : Prop :=
  ∀ s A B (row : Option Nat), J s A → A.grownBy B row → (∀ r, row = some r → T r) → J s B

/-- The blocks of the set lie as they lay. -/
structure KeepsSet (T : Nat → Prop) (W W' : World) : Prop where
  size : W.heap.size ≤ W'.heap.size
  same : ∀ k, k < W.heap.size → T k → W'.heap[k]? = W.heap[k]?

theorem KeepsSet.refl (T : Nat → Prop) (W : World) : KeepsSet T W W := ⟨Nat.le_refl _, fun _ _ _ => rfl⟩
theorem KeepsSet.trans {T : Nat → Prop} {A B C : World} (h : KeepsSet T A B) (k : KeepsSet T B C) : KeepsSet T A C :=
  ⟨Nat.le_trans h.size k.size, fun i hi ht => (k.same i (Nat.lt_of_lt_of_le hi h.size) ht).trans (h.same i hi ht)⟩
theorem KeepsSet.of_grownBy {T : Nat → Prop} {W W' : World} {row : Option Nat} (hg : W.grownBy W' row) (hr : ∀ r, row = some r → ¬ T r) : KeepsSet T W W' :=
  ⟨hg.size, fun k hk ht => hg.block k hk (fun e => hr k e.symm ht)⟩
theorem KeepsSet.alloc (T : Nat → Prop) (W : World) (o : Obj) : KeepsSet T W (W.alloc o) := KeepsSet.of_grownBy (World.grownBy_alloc W o none) (fun _ h => by cases h)
theorem KeepsSet.setCell {T : Nat → Prop} (W : World) (b : Nat) (v : Value) (h : ¬ T b) : KeepsSet T W (W.setCell ⟨b, 0, none⟩ v) := KeepsSet.of_grownBy (grownBy_setCell' W b v) (fun _ e => by cases e; exact h)
theorem KeepsSet.drew (T : Nat → Prop) (W : World) : KeepsSet T W W.drew := ⟨Nat.le_refl _, fun _ _ _ => rfl⟩
theorem KeepsSet.mono {T T' : Nat → Prop} {W W' : World} (h : KeepsSet T W W') (ht : ∀ k, T' k → T k) : KeepsSet T' W W' := ⟨h.size, fun k hk hk' => h.same k hk (ht k hk')⟩
/-- What lies below B lies as it lay. -/
theorem KeepsSet.of_below {T : Nat → Prop} {B : Nat} {W W' : World} (h : Below B W W') (ht : ∀ k, T k → k < B) : KeepsSet T W W' := ⟨h.size, fun k _ hk => h.block k (ht k hk)⟩

/-- The contract of an iterator value. -/
def SeqMem {α : Type} (F : Fence) (n : Nat) (P : Program) (g : Nat) (lb : Array Value) (m : Nat) (encs : Nat → α → Array Value) (Hd : Nat → List α → α → World → Prop)
    (K : Nat → Nat → Prop) (S Sp : Nat → List α → World → Prop) (w : World) : Prop :=
  ∀ (l : Nat) (J Jx : List α → World → Prop) (W : World), Below w.heap.size w W →
    AbidesSet (fun r => W.heap.size ≤ r ∧ r < W.heap.size + m) J → AbidesSet (fun r => W.heap.size ≤ r ∧ r < W.heap.size + m) Jx →
    (∀ pre x W1, J pre W1 → Hd W.heap.size pre x W1 → YieldAt F (n - 1) P l (encs W.heap.size x) W1 fun e W' =>
      (e = .returned (.bool true) ∧ J (pre ++ [x]) W' ∧ KeepsSet (K W.heap.size) W1 W') ∨ (e = .returned (.bool false) ∧ Jx (pre ++ [x]) W' ∧ KeepsSet (K W.heap.size) W1 W')) →
    J [] W →
    CallsIn F n P g (#[.func (.yield l) #[] #[]] ++ lb) W fun e W' => (∃ v, e = .returned v) ∧ ((∃ xs, S W.heap.size xs W' ∧ J xs W') ∨ (∃ pre, Sp W.heap.size pre W' ∧ Jx pre W'))

theorem SeqMem.inRound {α : Type} {F : Fence} {n : Nat} {P : Program} {g : Nat} {lb : Array Value} {m : Nat} {encs : Nat → α → Array Value} {Hd : Nat → List α → α → World → Prop}
    {K : Nat → Nat → Prop} {S Sp : Nat → List α → World → Prop} {w : World} (l : Nat) (h : SeqMem F n P g lb m encs Hd K S Sp w) : SeqMem (F.inRound l) n P g lb m encs Hd K S Sp w := h

/-- How a round's body may be left. -/
def postMem {α : Type} (T : Nat → Prop) (I : List α → World → Prop) (Ix : Code → List α → World → Prop) (xs : List α) (W : World) : Exit → Act → World → Prop
  | .normal, _, W' => KeepsSet T W W' ∧ I xs W'
  | .ret, _, W' => KeepsSet T W W' ∧ Ix .ret xs W'
  | .exit id, _, W' => KeepsSet T W W' ∧ Ix (.exit id) xs W'
  | .goto t, _, W' => KeepsSet T W W' ∧ Ix (.goto t) xs W'
  | .panic _, _, _ => False
  | .outgrown, _, _ => False

variable {F : Fence} {n : Nat} {P : Program}

/-- THE LAW. -/
theorem wpIn_rangeFunc_mem {α : Type} {g : Operand} {ps : Array Tmp} {assign body : Code} {Q : Exit → Act → World → Prop} {a : Act} {w : World}
    (hro : F.round = none) (h1 : 1 ≤ n) {gf : Nat} {lb : Array Value} (hg : a.eval g = .func (.func gf) #[] lb) (hFg : F.fn gf) (eg : ∀ args w, (callFunc gf args).run P w = .ok (.enter gf args) w)
    {m : Nat} {encs : Nat → α → Array Value} {Hd : Nat → List α → α → World → Prop} {K : Nat → Nat → Prop} {S Sp : Nat → List α → World → Prop}
    (hseq : SeqMem F (n - 1) P gf lb m encs Hd K S Sp w) (hps : ∀ b x, (encs b x).size = ps.size)
    (hKn : ¬ K (w.heap.size + 2) (w.heap.size + 1))
    (hHd : ∀ pre x W o, Hd (w.heap.size + 2) pre x W → Hd (w.heap.size + 2) pre x (W.putObj (w.heap.size + 1) o))
    (hS : ∀ xs W o, S (w.heap.size + 2) xs W → S (w.heap.size + 2) xs (W.putObj (w.heap.size + 1) o))
    (hSp : ∀ xs W o, Sp (w.heap.size + 2) xs W → Sp (w.heap.size + 2) xs (W.putObj (w.heap.size + 1) o))
    (I : List α → World → Prop) (Ix : Code → List α → World → Prop)
    (hI : AbidesSet (fun r => w.heap.size ≤ r ∧ r < w.heap.size + 2 + m) I) (hIx : ∀ c, AbidesSet (fun r => w.heap.size ≤ r ∧ r < w.heap.size + 2 + m) (Ix c)) (h0 : I [] w) (a₁ : α → Act)
    (hassign : ∀ (l : Nat) (x : α) (W : World) (K : Act → World → Prop), K (a₁ x) W →
      assign.wpIn (F.inRound l) (n - 1 - 1) P (Exit.then K (fun _ _ _ => False)) { tmps := (ps.zip (encs (w.heap.size + 2) x)).foldl (fun t (p, v) => t.setIfInBounds p v) a.tmps, defers := [] } W)
    (hbody : ∀ (l : Nat) (pre : List α) (x : α) (W : World), w.heap.size + 1 < W.heap.size → I pre W → Hd (w.heap.size + 2) pre x W →
      body.wpIn (F.inRound l) (n - 1 - 1) P (postMem (fun k => k = w.heap.size ∨ k = w.heap.size + 1 ∨ K (w.heap.size + 2) k) I Ix (pre ++ [x]) W) (a₁ x) W)
    (hdone : ∀ (xs : List α) (W : World), S (w.heap.size + 2) xs W → I xs W → W.heap[w.heap.size]? = some (.deferred (some [])) → Q .normal { a with defers := { target := .collected w.heap.size, args := #[] } :: a.defers } W)
    (hstop : ∀ (c : Code) (pre : List α) (W : World), Sp (w.heap.size + 2) pre W → Ix c pre W → W.heap[w.heap.size]? = some (.deferred (some [])) → c.wpIn F n P Q { a with defers := { target := .collected w.heap.size, args := #[] } :: a.defers } W) :
    (Code.rangeFunc g ps assign body).wpIn F n P Q a w := by
  refine wpIn_rangeFunc ?_
  intro fn hfn
  rw [hro]
  obtain ⟨rec, hrec⟩ : ∃ rec : LoopState → Option Code → Loop, rec = fun st pe => { state := st, pending := pe, fn, tmps := a.tmps, params := ps, assign, body, defers := w.heap.size } := ⟨_, rfl⟩
  obtain ⟨W1, hW1⟩ : ∃ W1, (w.alloc (.deferred (some []))).alloc (.loop (rec .ready none)) = W1 := ⟨_, rfl⟩
  have hL1 : W1.heap[w.heap.size + 1]? = some (.loop (rec .ready none)) := by
    rw [← hW1]; have := World.alloc_heap_new (w.alloc (.deferred (some []))) (.loop (rec .ready none)); rwa [World.size_alloc] at this
  have hK1 : W1.heap[w.heap.size]? = some (.deferred (some [])) := by
    rw [← hW1]; exact (Below.heap_alloc _ _ _ (by simp)).trans (World.alloc_heap_new w _)
  have hI1 : I [] W1 := by
    rw [← hW1]
    exact hI _ _ _ _ (hI _ _ _ _ h0 (World.grownBy_alloc w _ none) (fun _ h => by cases h)) (World.grownBy_alloc _ _ none) (fun _ h => by cases h)
  have hb1 : Below w.heap.size w W1 := by
    rw [← hW1]; exact ((Below.refl _ w).alloc (Nat.le_refl _) _).alloc (by simp) _
  have hsz : W1.heap.size = w.heap.size + 2 := by rw [← hW1]; simp
  have putI : ∀ (J : List α → World → Prop) (s : List α) (W : World) (o : Obj), AbidesSet (fun r => w.heap.size ≤ r ∧ r < w.heap.size + 2 + m) J → J s W → J s (W.putObj (w.heap.size + 1) o) := fun J s W o hJ hs =>
    hJ _ _ _ (some (w.heap.size + 1)) hs (grownBy_putObj' W _ o) (fun r e => by cases e; omega)
  refine ⟨w.heap.size + 1, [{ target := .collected w.heap.size, args := #[] }], W1, { target := .fn (.func gf) lb, args := #[.func (.yield (w.heap.size + 1)) #[] #[]] }, W1, gf,
    #[.func (.yield (w.heap.size + 1)) #[] #[]] ++ lb, W1, ?_, ?_, ?_, ?_, fun _ => h1, ?_⟩
  · rw [← hW1, hrec]; exact run_enterLoop_outer _ _ _ _ _
  · simp only [resolve, hg]
    simp [go_sem]
  · intro f' hf'; simp [Target.leads] at hf'; subst hf'; exact hFg
  · simp [invoke, go_sem, eg]
  · have hkeep : ∀ {A B : World} {row : Option Nat} {k : Nat} {o : Obj}, A.grownBy B row → (∀ r, row = some r → W1.heap.size ≤ r ∧ r < W1.heap.size + m) → k < w.heap.size + 2 → A.heap[k]? = some o → B.heap[k]? = some o := fun hg hr hk ho =>
      (hg.block _ (Array.getElem?_eq_some_iff.1 ho).1 (fun e => by have := (hr _ e.symm).1; omega)).trans ho
    have hwide : ∀ {row : Option Nat}, (∀ r, row = some r → W1.heap.size ≤ r ∧ r < W1.heap.size + m) → (∀ r, row = some r → w.heap.size ≤ r ∧ r < w.heap.size + 2 + m) := fun hr r e => by have := hr r e; omega
    have H := hseq (w.heap.size + 1)
      (fun pre W => I pre W ∧ W.heap[w.heap.size + 1]? = some (.loop (rec .ready none)) ∧ W.heap[w.heap.size]? = some (.deferred (some [])))
      (fun pre W => ∃ c, Ix c pre W ∧ W.heap[w.heap.size + 1]? = some (.loop (rec .done (some c))) ∧ W.heap[w.heap.size]? = some (.deferred (some [])))
      W1 hb1
      (fun s A B row hs hg' hr => ⟨hI s A B row hs.1 hg' (hwide hr), hkeep hg' hr (by omega) hs.2.1, hkeep hg' hr (by omega) hs.2.2⟩)
      (fun s A B row hs hg' hr => by
        obtain ⟨c, hc, hl, hk⟩ := hs
        exact ⟨c, hIx c s A B row hc hg' (hwide hr), hkeep hg' hr (by omega) hl, hkeep hg' hr (by omega) hk⟩)
    rw [hsz] at H
    refine (H ?_ ⟨hI1, hL1, hK1⟩).mono ?_
    · -- one round
      rintro pre x W ⟨hi, hl, hk⟩ hhd
      have hlt : w.heap.size + 1 < W.heap.size := (Array.getElem?_eq_some_iff.1 hl).1
      have hy := run_yield (P := P) (args := encs (w.heap.size + 2) x) hl (by rw [hrec]; exact hps _ x)
      rw [hrec] at hy
      refine ⟨fn, _, assign, body, hy, roundIn_of_wpIn hfn (hassign _ x W _ ⟨_, run_beginRound hl (by rw [hrec]), ?_⟩)⟩
      have hl2 : (W.putObj (w.heap.size + 1) (.loop { rec .ready none with state := .busy })).heap[w.heap.size + 1]? = some (.loop { rec .ready none with state := .busy }) := World.putObj_heap_same hlt
      have hk2 : (W.putObj (w.heap.size + 1) (.loop { rec .ready none with state := .busy })).heap[w.heap.size]? = some (.deferred (some [])) := (World.putObj_heap_other (by omega)).trans hk
      have hput : ∀ (W : World) (o : Obj), KeepsSet (K (w.heap.size + 2)) W (W.putObj (w.heap.size + 1) o) := fun W o => KeepsSet.of_grownBy (grownBy_putObj' W _ o) (fun r e => by cases e; exact hKn)
      refine wpIn_mono (hbody _ pre x _ (by simpa using hlt) (putI I _ _ _ hI hi) (hHd _ _ _ _ hhd)) ?_
      have fin : ∀ (jump : Option Code) (W3 : World), KeepsSet (fun k => k = w.heap.size ∨ k = w.heap.size + 1 ∨ K (w.heap.size + 2) k) (W.putObj (w.heap.size + 1) (.loop { rec .ready none with state := .busy })) W3 →
          (Instr.endRound (w.heap.size + 1) jump).run P W3 = .ok (.bool jump.isNone) (W3.putObj (w.heap.size + 1) (.loop (rec (if jump.isNone then .ready else .done) jump))) ∧
          (W3.putObj (w.heap.size + 1) (.loop (rec (if jump.isNone then .ready else .done) jump))).heap[w.heap.size + 1]? = some (.loop (rec (if jump.isNone then .ready else .done) jump)) ∧
          (W3.putObj (w.heap.size + 1) (.loop (rec (if jump.isNone then .ready else .done) jump))).heap[w.heap.size]? = some (.deferred (some [])) ∧
          KeepsSet (K (w.heap.size + 2)) W (W3.putObj (w.heap.size + 1) (.loop (rec (if jump.isNone then .ready else .done) jump))) := fun jump W3 hk3 => by
        have hl3 := (hk3.same (w.heap.size + 1) (by simpa using hlt) (.inr (.inl rfl))).trans hl2
        have hk4 := (hk3.same w.heap.size (by simp; omega) (.inl rfl)).trans hk2
        have := run_endRound (P := P) jump hl3
        rw [hrec] at this ⊢
        exact ⟨this, World.putObj_heap_same (Array.getElem?_eq_some_iff.1 hl3).1, (World.putObj_heap_other (by omega)).trans hk4, (hput _ _).trans ((hk3.mono (fun k h => .inr (.inr h))).trans (hput _ _))⟩
      rintro e a3 W3 hp
      cases e with
      | normal =>
        obtain ⟨hk3, hi3⟩ := hp
        obtain ⟨hr, hl4, hk4, hkk⟩ := fin none W3 hk3
        exact ⟨_, _, hr, .inl ⟨rfl, ⟨putI I _ _ _ hI hi3, hl4, hk4⟩, hkk⟩⟩
      | ret =>
        obtain ⟨hk3, hi3⟩ := hp
        obtain ⟨hr, hl4, hk4, hkk⟩ := fin (some .ret) W3 hk3
        exact ⟨_, _, hr, .inr ⟨rfl, ⟨.ret, putI (Ix .ret) _ _ _ (hIx _) hi3, hl4, hk4⟩, hkk⟩⟩
      | exit id =>
        obtain ⟨hk3, hi3⟩ := hp
        obtain ⟨hr, hl4, hk4, hkk⟩ := fin (some (.exit id)) W3 hk3
        exact ⟨_, _, hr, .inr ⟨rfl, ⟨.exit id, putI (Ix (.exit id)) _ _ _ (hIx _) hi3, hl4, hk4⟩, hkk⟩⟩
      | goto t =>
        obtain ⟨hk3, hi3⟩ := hp
        obtain ⟨hr, hl4, hk4, hkk⟩ := fin (some (.goto t)) W3 hk3
        exact ⟨_, _, hr, .inr ⟨rfl, ⟨.goto t, putI (Ix (.goto t)) _ _ _ (hIx _) hi3, hl4, hk4⟩, hkk⟩⟩
      | panic ch => exact hp.elim
      | outgrown => exact hp.elim
    · -- behind the iterator
      rintro e W2 ⟨⟨v, rfl⟩, (⟨xs, hSx, hi, hl, hk⟩ | ⟨pre, hSx, c, hi, hl, hk⟩)⟩
      · exact ⟨none, _, by have := run_endLoop (P := P) hl (by rw [hrec]; simp); rw [hrec] at this; exact this, hdone xs _ (hS _ _ _ hSx) (putI I _ _ _ hI hi) ((World.putObj_heap_other (by omega)).trans hk)⟩
      · exact ⟨some c, _, by have := run_endLoop (P := P) hl (by rw [hrec]; simp); rw [hrec] at this; exact this, hstop c pre _ (hSp _ _ _ hSx) (putI (Ix c) _ _ _ (hIx c) hi) ((World.putObj_heap_other (by omega)).trans hk)⟩
end Go.Proofs.YtghfmoanpgaijaaDoor
