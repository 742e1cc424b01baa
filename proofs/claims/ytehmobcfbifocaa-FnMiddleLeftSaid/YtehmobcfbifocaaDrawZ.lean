/-
  A law on ranging over a function whose iterator hands out memory of its own: between two rounds the iterator may write its own m blocks (those that it lays first), it tells what they hold when it hands out an element and when it is done, and it names the blocks that the round must keep. Nothing of this program is in it.
-/
import Derived.RangeFuncNested
import Derived.RangeFuncBound
import Derived.RangeFuncCalls
import Derived.RangeFuncLeaves
import Derived.WalkKit
import Derived.OwnWalkIn
import Derived.Test.YtehmobcfbifocaaBase
import Derived.BigRegion
import Derived.Deep.QuietTactic
import Derived.BigQuiet
import Derived.Deep.RegionWith
namespace Go.Proofs.Ytehmobcfbifocaa
open Go Go.RowKit

/-- J abides new blocks, and the turn of a block of the set. -/
def AbidesSet {β : Type} (T : Nat → Prop) (J : β → World → Prop) : Prop :=
  ∀ s A B (row : Option Nat), J s A → A.grownBy B row → (∀ r, row = some r → T r) → J s B

/-- The blocks of the set lie as they lay. -/
structure KeepsSet (T : Nat → Prop) (W W' : World) : Prop where
  size : W.heap.size ≤ W'.heap.size
  same : ∀ k, k < W.heap.size → T k → W'.heap[k]? = W.heap[k]?

theorem KeepsSet.refl (T : Nat → Prop) (W : World) : KeepsSet T W W := ⟨Nat.le_refl _, fun _ _ _ => rfl⟩
theorem KeepsSet.trans {T : Nat → Prop} {A B C : World} (h : KeepsSet T A B) (k : KeepsSet T B C) : KeepsSet T A C :=
  ⟨Nat.le_trans h.size k.size, fun i hi ht => (k.same i (Nat.lt_of_lt_of_le hi h.size) ht).trans (h.same i hi ht)⟩
theorem KeepsSet.of_grownBy {T : Nat → Prop} {W W' : World} {row : Option Nat} (hg : W.grownBy W' row) (hr : ∀ r, row = some r → ¬ T r) : KeepsSet T W W' :=
  ⟨hg.size, fun k hk ht => hg.block k hk (fun e => hr k e.symm ht)⟩
theorem KeepsSet.alloc (T : Nat → Prop) (W : World) (o : Obj) : KeepsSet T W (W.alloc o) := KeepsSet.of_grownBy (World.grownBy_alloc W o none) (fun _ h => by cases h)
theorem KeepsSet.setCell {T : Nat → Prop} (W : World) (b : Nat) (v : Value) (h : ¬ T b) : KeepsSet T W (W.setCell ⟨b, 0, none⟩ v) := KeepsSet.of_grownBy (grownBy_setCell' W b v) (fun _ e => by cases e; exact h)
theorem KeepsSet.drew (T : Nat → Prop) (W : World) : KeepsSet T W W.drew := ⟨Nat.le_refl _, fun _ _ _ => rfl⟩
theorem KeepsSet.mono {T T' : Nat → Prop} {W W' : World} (h : KeepsSet T W W') (ht : ∀ k, T' k → T k) : KeepsSet T' W W' := ⟨h.size, fun k hk hk' => h.same k hk (ht k hk')⟩
/-- What lies below B lies as it lay. -/
theorem KeepsSet.of_below {T : Nat → Prop} {B : Nat} {W W' : World} (h : Below B W W') (ht : ∀ k, T k → k < B) : KeepsSet T W W' := ⟨h.size, fun k _ hk => h.block k (ht k hk)⟩

/-- The contract of an iterator value. -/
def SeqMem {α : Type} (F : Fence) (n : Nat) (P : Program) (g : Nat) (lb : Array Value) (m : Nat) (encs : Nat → α → Array Value) (Hd : Nat → List α → α → World → Prop)
    (K : Nat → Nat → Prop) (S Sp : Nat → List α → World → Prop) (w : World) : Prop :=
  ∀ (l : Nat) (J Jx : List α → World → Prop) (W : World), Below w.heap.size w W →
    AbidesSet (fun r => W.heap.size ≤ r ∧ r < W.heap.size + m) J → AbidesSet (fun r => W.heap.size ≤ r ∧ r < W.heap.size + m) Jx →
    (∀ pre x W1, J pre W1 → Hd W.heap.size pre x W1 → YieldAt F (n - 1) P l (encs W.heap.size x) W1 fun e W' =>
      (e = .returned (.bool true) ∧ J (pre ++ [x]) W' ∧ KeepsSet (K W.heap.size) W1 W') ∨ (e = .returned (.bool false) ∧ Jx (pre ++ [x]) W' ∧ KeepsSet (K W.heap.size) W1 W')) →
    J [] W →
    CallsIn F n P g (#[.func (.yield l) #[] #[]] ++ lb) W fun e W' => (∃ v, e = .returned v) ∧ ((∃ xs, S W.heap.size xs W' ∧ J xs W') ∨ (∃ pre, Sp W.heap.size pre W' ∧ Jx pre W'))

theorem SeqMem.inRound {α : Type} {F : Fence} {n : Nat} {P : Program} {g : Nat} {lb : Array Value} {m : Nat} {encs : Nat → α → Array Value} {Hd : Nat → List α → α → World → Prop}
    {K : Nat → Nat → Prop} {S Sp : Nat → List α → World → Prop} {w : World} (l : Nat) (h : SeqMem F n P g lb m encs Hd K S Sp w) : SeqMem (F.inRound l) n P g lb m encs Hd K S Sp w := h

/-- How a round's body may be left. -/
def postMem {α : Type} (T : Nat → Prop) (I : List α → World → Prop) (Ix : Code → List α → World → Prop) (xs : List α) (W : World) : Exit → Act → World → Prop
  | .normal, _, W' => KeepsSet T W W' ∧ I xs W'
  | .ret, _, W' => KeepsSet T W W' ∧ Ix .ret xs W'
  | .exit id, _, W' => KeepsSet T W W' ∧ Ix (.exit id) xs W'
  | .goto t, _, W' => KeepsSet T W W' ∧ Ix (.goto t) xs W'
  | .panic _, _, _ => False
  | .outgrown, _, _ => False

variable {F : Fence} {n : Nat} {P : Program}

/-- THE LAW. -/
theorem wpIn_rangeFunc_mem {α : Type} {g : Operand} {ps : Array Tmp} {assign body : Code} {Q : Exit → Act → World → Prop} {a : Act} {w : World}
    (hro : F.round = none) (h1 : 1 ≤ n) {gf : Nat} {lb : Array Value} (hg : a.eval g = .func (.func gf) #[] lb) (hFg : F.fn gf) (eg : ∀ args w, (callFunc gf args).run P w = .ok (.enter gf args) w)
    {m : Nat} {encs : Nat → α → Array Value} {Hd : Nat → List α → α → World → Prop} {K : Nat → Nat → Prop} {S Sp : Nat → List α → World → Prop}
    (hseq : SeqMem F (n - 1) P gf lb m encs Hd K S Sp w) (hps : ∀ b x, (encs b x).size = ps.size)
    (hKn : ¬ K (w.heap.size + 2) (w.heap.size + 1))
    (hHd : ∀ pre x W o, Hd (w.heap.size + 2) pre x W → Hd (w.heap.size + 2) pre x (W.putObj (w.heap.size + 1) o))
    (hS : ∀ xs W o, S (w.heap.size + 2) xs W → S (w.heap.size + 2) xs (W.putObj (w.heap.size + 1) o))
    (hSp : ∀ xs W o, Sp (w.heap.size + 2) xs W → Sp (w.heap.size + 2) xs (W.putObj (w.heap.size + 1) o))
    (I : List α → World → Prop) (Ix : Code → List α → World → Prop)
    (hI : AbidesSet (fun r => w.heap.size ≤ r ∧ r < w.heap.size + 2 + m) I) (hIx : ∀ c, AbidesSet (fun r => w.heap.size ≤ r ∧ r < w.heap.size + 2 + m) (Ix c)) (h0 : I [] w) (a₁ : α → Act)
    (hassign : ∀ (l : Nat) (x : α) (W : World) (K : Act → World → Prop), K (a₁ x) W →
      assign.wpIn (F.inRound l) (n - 1 - 1) P (Exit.then K (fun _ _ _ => False)) { tmps := (ps.zip (encs (w.heap.size + 2) x)).foldl (fun t (p, v) => t.setIfInBounds p v) a.tmps, defers := [] } W)
    (hbody : ∀ (l : Nat) (pre : List α) (x : α) (W : World), w.heap.size + 1 < W.heap.size → I pre W → Hd (w.heap.size + 2) pre x W →
      body.wpIn (F.inRound l) (n - 1 - 1) P (postMem (fun k => k = w.heap.size ∨ k = w.heap.size + 1 ∨ K (w.heap.size + 2) k) I Ix (pre ++ [x]) W) (a₁ x) W)
    (hdone : ∀ (xs : List α) (W : World), S (w.heap.size + 2) xs W → I xs W → W.heap[w.heap.size]? = some (.deferred (some [])) → Q .normal { a with defers := { target := .collected w.heap.size, args := #[] } :: a.defers } W)
    (hstop : ∀ (c : Code) (pre : List α) (W : World), Sp (w.heap.size + 2) pre W → Ix c pre W → W.heap[w.heap.size]? = some (.deferred (some [])) → c.wpIn F n P Q { a with defers := { target := .collected w.heap.size, args := #[] } :: a.defers } W) :
    (Code.rangeFunc g ps assign body).wpIn F n P Q a w := by
  refine wpIn_rangeFunc ?_
  intro fn hfn
  rw [hro]
  obtain ⟨rec, hrec⟩ : ∃ rec : LoopState → Option Code → Loop, rec = fun st pe => { state := st, pending := pe, fn, tmps := a.tmps, params := ps, assign, body, defers := w.heap.size } := ⟨_, rfl⟩
  obtain ⟨W1, hW1⟩ : ∃ W1, (w.alloc (.deferred (some []))).alloc (.loop (rec .ready none)) = W1 := ⟨_, rfl⟩
  have hL1 : W1.heap[w.heap.size + 1]? = some (.loop (rec .ready none)) := by
    rw [← hW1]; have := World.alloc_heap_new (w.alloc (.deferred (some []))) (.loop (rec .ready none)); rwa [World.size_alloc] at this
  have hK1 : W1.heap[w.heap.size]? = some (.deferred (some [])) := by
    rw [← hW1]; exact (Below.heap_alloc _ _ _ (by simp)).trans (World.alloc_heap_new w _)
  have hI1 : I [] W1 := by
    rw [← hW1]
    exact hI _ _ _ _ (hI _ _ _ _ h0 (World.grownBy_alloc w _ none) (fun _ h => by cases h)) (World.grownBy_alloc _ _ none) (fun _ h => by cases h)
  have hb1 : Below w.heap.size w W1 := by
    rw [← hW1]; exact ((Below.refl _ w).alloc (Nat.le_refl _) _).alloc (by simp) _
  have hsz : W1.heap.size = w.heap.size + 2 := by rw [← hW1]; simp
  have putI : ∀ (J : List α → World → Prop) (s : List α) (W : World) (o : Obj), AbidesSet (fun r => w.heap.size ≤ r ∧ r < w.heap.size + 2 + m) J → J s W → J s (W.putObj (w.heap.size + 1) o) := fun J s W o hJ hs =>
    hJ _ _ _ (some (w.heap.size + 1)) hs (grownBy_putObj' W _ o) (fun r e => by cases e; omega)
  refine ⟨w.heap.size + 1, [{ target := .collected w.heap.size, args := #[] }], W1, { target := .fn (.func gf) lb, args := #[.func (.yield (w.heap.size + 1)) #[] #[]] }, W1, gf,
    #[.func (.yield (w.heap.size + 1)) #[] #[]] ++ lb, W1, ?_, ?_, ?_, ?_, fun _ => h1, ?_⟩
  · rw [← hW1, hrec]; exact run_enterLoop_outer _ _ _ _ _
  · simp only [resolve, hg]
    simp [go_sem]
  · intro f' hf'; simp [Target.leads] at hf'; subst hf'; exact hFg
  · simp [invoke, go_sem, eg]
  · have hkeep : ∀ {A B : World} {row : Option Nat} {k : Nat} {o : Obj}, A.grownBy B row → (∀ r, row = some r → W1.heap.size ≤ r ∧ r < W1.heap.size + m) → k < w.heap.size + 2 → A.heap[k]? = some o → B.heap[k]? = some o := fun hg hr hk ho =>
      (hg.block _ (Array.getElem?_eq_some_iff.1 ho).1 (fun e => by have := (hr _ e.symm).1; omega)).trans ho
    have hwide : ∀ {row : Option Nat}, (∀ r, row = some r → W1.heap.size ≤ r ∧ r < W1.heap.size + m) → (∀ r, row = some r → w.heap.size ≤ r ∧ r < w.heap.size + 2 + m) := fun hr r e => by have := hr r e; omega
    have H := hseq (w.heap.size + 1)
      (fun pre W => I pre W ∧ W.heap[w.heap.size + 1]? = some (.loop (rec .ready none)) ∧ W.heap[w.heap.size]? = some (.deferred (some [])))
      (fun pre W => ∃ c, Ix c pre W ∧ W.heap[w.heap.size + 1]? = some (.loop (rec .done (some c))) ∧ W.heap[w.heap.size]? = some (.deferred (some [])))
      W1 hb1
      (fun s A B row hs hg' hr => ⟨hI s A B row hs.1 hg' (hwide hr), hkeep hg' hr (by omega) hs.2.1, hkeep hg' hr (by omega) hs.2.2⟩)
      (fun s A B row hs hg' hr => by
        obtain ⟨c, hc, hl, hk⟩ := hs
        exact ⟨c, hIx c s A B row hc hg' (hwide hr), hkeep hg' hr (by omega) hl, hkeep hg' hr (by omega) hk⟩)
    rw [hsz] at H
    refine (H ?_ ⟨hI1, hL1, hK1⟩).mono ?_
    · -- one round
      rintro pre x W ⟨hi, hl, hk⟩ hhd
      have hlt : w.heap.size + 1 < W.heap.size := (Array.getElem?_eq_some_iff.1 hl).1
      have hy := run_yield (P := P) (args := encs (w.heap.size + 2) x) hl (by rw [hrec]; exact hps _ x)
      rw [hrec] at hy
      refine ⟨fn, _, assign, body, hy, roundIn_of_wpIn hfn (hassign _ x W _ ⟨_, run_beginRound hl (by rw [hrec]), ?_⟩)⟩
      have hl2 : (W.putObj (w.heap.size + 1) (.loop { rec .ready none with state := .busy })).heap[w.heap.size + 1]? = some (.loop { rec .ready none with state := .busy }) := World.putObj_heap_same hlt
      have hk2 : (W.putObj (w.heap.size + 1) (.loop { rec .ready none with state := .busy })).heap[w.heap.size]? = some (.deferred (some [])) := (World.putObj_heap_other (by omega)).trans hk
      have hput : ∀ (W : World) (o : Obj), KeepsSet (K (w.heap.size + 2)) W (W.putObj (w.heap.size + 1) o) := fun W o => KeepsSet.of_grownBy (grownBy_putObj' W _ o) (fun r e => by cases e; exact hKn)
      refine wpIn_mono (hbody _ pre x _ (by simpa using hlt) (putI I _ _ _ hI hi) (hHd _ _ _ _ hhd)) ?_
      have fin : ∀ (jump : Option Code) (W3 : World), KeepsSet (fun k => k = w.heap.size ∨ k = w.heap.size + 1 ∨ K (w.heap.size + 2) k) (W.putObj (w.heap.size + 1) (.loop { rec .ready none with state := .busy })) W3 →
          (Instr.endRound (w.heap.size + 1) jump).run P W3 = .ok (.bool jump.isNone) (W3.putObj (w.heap.size + 1) (.loop (rec (if jump.isNone then .ready else .done) jump))) ∧
          (W3.putObj (w.heap.size + 1) (.loop (rec (if jump.isNone then .ready else .done) jump))).heap[w.heap.size + 1]? = some (.loop (rec (if jump.isNone then .ready else .done) jump)) ∧
          (W3.putObj (w.heap.size + 1) (.loop (rec (if jump.isNone then .ready else .done) jump))).heap[w.heap.size]? = some (.deferred (some [])) ∧
          KeepsSet (K (w.heap.size + 2)) W (W3.putObj (w.heap.size + 1) (.loop (rec (if jump.isNone then .ready else .done) jump))) := fun jump W3 hk3 => by
        have hl3 := (hk3.same (w.heap.size + 1) (by simpa using hlt) (.inr (.inl rfl))).trans hl2
        have hk4 := (hk3.same w.heap.size (by simp; omega) (.inl rfl)).trans hk2
        have := run_endRound (P := P) jump hl3
        rw [hrec] at this ⊢
        exact ⟨this, World.putObj_heap_same (Array.getElem?_eq_some_iff.1 hl3).1, (World.putObj_heap_other (by omega)).trans hk4, (hput _ _).trans ((hk3.mono (fun k h => .inr (.inr h))).trans (hput _ _))⟩
      rintro e a3 W3 hp
      cases e with
      | normal =>
        obtain ⟨hk3, hi3⟩ := hp
        obtain ⟨hr, hl4, hk4, hkk⟩ := fin none W3 hk3
        exact ⟨_, _, hr, .inl ⟨rfl, ⟨putI I _ _ _ hI hi3, hl4, hk4⟩, hkk⟩⟩
      | ret =>
        obtain ⟨hk3, hi3⟩ := hp
        obtain ⟨hr, hl4, hk4, hkk⟩ := fin (some .ret) W3 hk3
        exact ⟨_, _, hr, .inr ⟨rfl, ⟨.ret, putI (Ix .ret) _ _ _ (hIx _) hi3, hl4, hk4⟩, hkk⟩⟩
      | exit id =>
        obtain ⟨hk3, hi3⟩ := hp
        obtain ⟨hr, hl4, hk4, hkk⟩ := fin (some (.exit id)) W3 hk3
        exact ⟨_, _, hr, .inr ⟨rfl, ⟨.exit id, putI (Ix (.exit id)) _ _ _ (hIx _) hi3, hl4, hk4⟩, hkk⟩⟩
      | goto t =>
        obtain ⟨hk3, hi3⟩ := hp
        obtain ⟨hr, hl4, hk4, hkk⟩ := fin (some (.goto t)) W3 hk3
        exact ⟨_, _, hr, .inr ⟨rfl, ⟨.goto t, putI (Ix (.goto t)) _ _ _ (hIx _) hi3, hl4, hk4⟩, hkk⟩⟩
      | panic ch => exact hp.elim
      | outgrown => exact hp.elim
    · -- behind the iterator
      rintro e W2 ⟨⟨v, rfl⟩, (⟨xs, hSx, hi, hl, hk⟩ | ⟨pre, hSx, c, hi, hl, hk⟩)⟩
      · exact ⟨none, _, by have := run_endLoop (P := P) hl (by rw [hrec]; simp); rw [hrec] at this; exact this, hdone xs _ (hS _ _ _ hSx) (putI I _ _ _ hI hi) ((World.putObj_heap_other (by omega)).trans hk)⟩
      · exact ⟨some c, _, by have := run_endLoop (P := P) hl (by rw [hrec]; simp); rw [hrec] at this; exact this, hstop c pre _ (hSp _ _ _ hSx) (putI (Ix c) _ _ _ (hIx c) hi) ((World.putObj_heap_other (by omega)).trans hk)⟩
end Go.Proofs.Ytehmobcfbifocaa
/-
  A block of integer cells, known whole: 'RowAt w g N f': block g holds f 0 .. f (N-1). And the contract of addBefore.
-/
namespace Go.Proofs.Ytehmobcfbifocaa
open Go.RowKit

def RowAt (w : World) (g N : Nat) (f : Nat → Int) : Prop :=
  ∃ cur : Array Value, w.heap[g]? = some (.cells cur 3 (0, 0)) ∧ N ≤ cur.size ∧ ∀ i, i < N → cur[i]? = some (.int .i64 (f i))

theorem RowAt.lt {w : World} {g N : Nat} {f : Nat → Int} (h : RowAt w g N f) : g < w.heap.size := by
  obtain ⟨cur, h1, _⟩ := h; exact (Array.getElem?_eq_some_iff.1 h1).1
theorem RowAt.cell {w : World} {g N : Nat} {f : Nat → Int} (h : RowAt w g N f) {i : Nat} (hi : i < N) : w.cell? ⟨g, i, none⟩ = some (.int .i64 (f i)) := by
  obtain ⟨cur, h1, h2, h3⟩ := h
  rw [cell_of_row w g i cur 3 (0, 0) h1]; exact h3 i hi
theorem RowAt.frozen {w : World} {g N : Nat} {f : Nat → Int} (h : RowAt w g N f) (i : Nat) : w.frozen? ⟨g, i, none⟩ = false := by
  obtain ⟨cur, h1, _⟩ := h
  simp [World.frozen?, h1]
theorem RowAt.congr {w : World} {g N : Nat} {f f' : Nat → Int} (h : RowAt w g N f) (he : ∀ i, i < N → f i = f' i) : RowAt w g N f' := by
  obtain ⟨cur, h1, h2, h3⟩ := h
  exact ⟨cur, h1, h2, fun i hi => by rw [← he i hi]; exact h3 i hi⟩
theorem RowAt.set {w : World} {g N : Nat} {f : Nat → Int} (h : RowAt w g N f) {p : Nat} (z : Int) : RowAt (w.setCell ⟨g, p, none⟩ (.int .i64 z)) g N (fun i => if i = p then z else f i) := by
  obtain ⟨cur, h1, h2, h3⟩ := h
  obtain ⟨hlt, hk⟩ := Array.getElem?_eq_some_iff.1 h1
  have h2' : ∀ i, i < N → i < cur.size := fun i hi => Nat.lt_of_lt_of_le hi h2
  refine ⟨cur.setIfInBounds p (.int .i64 z), ?_, by simpa using h2, fun i hi => ?_⟩
  · show (w.heap.modify g _)[g]? = _
    rw [Array.getElem?_eq_getElem (by rw [Array.size_modify]; exact hlt), Array.getElem_modify_self, hk]; rfl
  · rw [Array.getElem?_setIfInBounds]
    by_cases e : p = i
    · subst e; simp [h2' _ hi]
    · rw [if_neg e, h3 i hi]; simp only []; rw [if_neg (fun h : i = p => e h.symm)]
theorem RowAt.of_block {w w' : World} {g N : Nat} {f : Nat → Int} (h : RowAt w g N f) (hb : w'.heap[g]? = w.heap[g]?) : RowAt w' g N f := by
  obtain ⟨cur, h1, h2, h3⟩ := h
  exact ⟨cur, hb.trans h1, h2, h3⟩
theorem RowAt.kept {w w' : World} {g N : Nat} {f : Nat → Int} {row : Option Nat} (h : RowAt w g N f) (hg : w.grownBy w' row) (hr : some g ≠ row) : RowAt w' g N f := h.of_block (hg.block g h.lt hr)
theorem RowAt.of_owns {w : World} {base n : Nat} {v : Value} {xs : List Int} (h : w.ownsRow base 3 1 v n (xs.map (Value.int .i64))) (hn : 0 < n) :
    ∃ g cap, v = .slice (some ⟨g, 0, none⟩) n cap ∧ base ≤ g ∧ RowAt w g n (fun i => xs.getD i 0) := by
  have hl : xs.length = n := by have := h.1; simpa using this
  rcases h.2 with ⟨_, h0⟩ | ⟨g, cap, cur, rfl, hb, hgb, hc, _, hs, ht⟩
  · omega
  · refine ⟨g, cap, rfl, hb, cur, hgb, by omega, fun i hi => ?_⟩
    have h1 : (cur.toList.take (n * 1))[i]? = some (.int .i64 (xs.getD i 0)) := by
      rw [ht, List.getElem?_map, List.getElem?_eq_getElem (by omega)]; simp [List.getD, hl, hi]
    rw [List.getElem?_take, if_pos (by omega)] at h1
    rw [← Array.getElem?_toList]; exact h1
theorem grownBy_drew {w w' : World} {row : Option Nat} (h : w.grownBy w' row) : w.grownBy w'.drew row := ⟨h.os, h.tape, h.output, h.size, h.block⟩
theorem grownBy_set {w w' : World} {g : Nat} (h : w.grownBy w' (some g)) (p : Nat) (v : Value) : w.grownBy (w'.setCell ⟨g, p, none⟩ v) (some g) :=
  ⟨h.os, h.tape, h.output, by simp [World.setCell]; exact h.size, fun k hk hr => (Below.heap_setCell _ _ _ k (fun e => hr (by rw [e]))).trans (h.block k hk hr)⟩
theorem grownBy_refl (w : World) (row : Option Nat) : w.grownBy w row := ⟨rfl, rfl, rfl, Nat.le_refl _, fun _ _ _ => rfl⟩

set_option maxHeartbeats 400000 in
/-- addBefore: each cell but the first gets the one before it added. -/
theorem addBefore_in (g n N : Nat) (f : Nat → Int) (w : World) (hn : 1 ≤ n) (hnN : n ≤ N) (hN : N ≤ 1000000) (hf : ∀ i, -2305843009213693952 ≤ f i ∧ f i ≤ 2305843009213693952) (hr : RowAt w g N f) :
    Calls Try.prog 47 #[.slice (some ⟨g, 0, none⟩) n N] w fun e w' =>
      (∃ v, e = .returned v) ∧ RowAt w' g N (fun i => if 0 < i ∧ i < n then f i + f (i - 1) else f i) ∧ w.grownBy w' (some g) := by
  go_enter Try.func47, Try.ntmps47
  go_wp2
  go_loopw [2] (fun p wr => ∃ k : Nat, k < n ∧ p = .int .i64 k ∧ RowAt wr g N (fun i => if k < i ∧ i < n then f i + f (i - 1) else f i) ∧ w.grownBy wr (some g)) (fun p _ => (intOf p).toNat)
  case atStart => exact ⟨n - 1, by omega, by go_num, hr.congr (fun i _ => by rw [if_neg (by omega)]), grownBy_refl _ _⟩
  case round =>
    obtain ⟨k, hk, rfl, hrow, hg⟩ := hrel
    by_cases hk0 : k = 0
    · subst hk0
      go_wp2
      go_end0
      exact ⟨⟨_, rfl⟩, hrow, hg⟩
    · obtain ⟨j, rfl⟩ : ∃ j, k = j + 1 := ⟨k - 1, by omega⟩
      have hca := hrow.cell (i := j + 1) (by omega)
      have hcb := hrow.cell (i := j) (by omega)
      rw [if_neg (by omega)] at hca hcb
      have hfr := hrow.frozen (j + 1)
      have h1 := hf (j + 1)
      have h2 := hf j
      go_wp2
      have hw1 : IntKind.i64.wrap (j : Int) = j := IntWalk.i64_in _ (by omega)
      have hw2 : IntKind.i64.wrap (f (j + 1) + f j) = f (j + 1) + f j := IntWalk.i64_in _ (by omega)
      have hw3 : ((j : Int) + 1).toNat = j + 1 := by omega
      have hw4 : (j : Int) + 1 < n := by omega
      have hw5 : (0 : Int) ≤ (j : Int) + 1 := by omega
      have hw6 : j < n := by omega
      go_region
      all_goals
        go_wp2

        go_roundw
        case rel =>
          refine ⟨j, by omega, by go_num, (hrow.of_block (w' := wr.drew) rfl).set _ |>.congr (fun i hi => ?_), grownBy_set (grownBy_drew hg) _ _⟩
          by_cases e : i = j + 1
          · subst e; rw [if_pos rfl, if_pos (by omega)]; rfl
          · rw [if_neg e]
            by_cases e2 : j + 1 < i ∧ i < n
            · rw [if_pos e2, if_pos (by omega)]
            · rw [if_neg e2, if_neg (by omega)]
        case measure => simp [intOf]
end Go.Proofs.Ytehmobcfbifocaa
/-
  Contracts of the draws: a reader's pick hands back a number within its bounds and writes its own block alone; l20Open; l20Row.
-/
namespace Go.Proofs.Ytehmobcfbifocaa
open Go.RowKit

/-- The bytes that came in: none, or a row of cells that lay when the law began. -/
def Bytes (W0 : World) (a : Option Addr) (len : Nat) : Prop :=
  len ≤ 2000 ∧ (0 < len → ∃ b off, a = some ⟨b, off, none⟩ ∧ b < W0.heap.size ∧ ∃ z : Nat → Int, (∀ i, 0 ≤ z i ∧ z i ≤ 255) ∧ ∀ i, i < len → W0.cell? ⟨b, off + i, none⟩ = some (.int .u8 (z i)))

/-- The reader in block R: the bytes, and how many have been picked. -/
def Rd (W0 : World) (R : Nat) (a : Option Addr) (len cap : Nat) (w : World) (p : Nat) : Prop :=
  Below W0.heap.size W0 w ∧ W0.heap.size ≤ R ∧ w.heap[R]? = some (.cells #[.slice a len cap, .int .i64 p] 43 (0, 0))

theorem Rd.cell0 {W0 w : World} {R len cap p : Nat} {a : Option Addr} (h : Rd W0 R a len cap w p) : w.cell? ⟨R, 0, none⟩ = some (.slice a len cap) := by
  rw [cell_of_row w R 0 _ _ _ h.2.2]; rfl
theorem Rd.cell1 {W0 w : World} {R len cap p : Nat} {a : Option Addr} (h : Rd W0 R a len cap w p) : w.cell? ⟨R, 1, none⟩ = some (.int .i64 p) := by
  rw [cell_of_row w R 1 _ _ _ h.2.2]; rfl
theorem Rd.frozen {W0 w : World} {R len cap p : Nat} {a : Option Addr} (h : Rd W0 R a len cap w p) (i : Nat) : w.frozen? ⟨R, i, none⟩ = false := by
  simp [World.frozen?, h.2.2]
theorem Rd.set {W0 w : World} {R len cap p : Nat} {a : Option Addr} (h : Rd W0 R a len cap w p) (q : Nat) : Rd W0 R a len cap (w.setCell ⟨R, 1, none⟩ (.int .i64 q)) q := by
  obtain ⟨h1, h2, h3⟩ := h
  obtain ⟨hlt, hk⟩ := Array.getElem?_eq_some_iff.1 h3
  refine ⟨h1.setCell h2 _, h2, ?_⟩
  show (w.heap.modify R _)[R]? = _
  rw [Array.getElem?_eq_getElem (by rw [Array.size_modify]; exact hlt), Array.getElem_modify_self, hk]; rfl
theorem Rd.kept {W0 w w' : World} {R len cap p : Nat} {a : Option Addr} {row : Option Nat} (h : Rd W0 R a len cap w p) (hg : w.grownBy w' row) (hr : some R ≠ row) (hrow : ∀ k, row = some k → W0.heap.size ≤ k) : Rd W0 R a len cap w' p := by
  obtain ⟨h1, h2, h3⟩ := h
  exact ⟨h1.grown hg h1.size hrow, h2, (hg.block R (Array.getElem?_eq_some_iff.1 h3).1 hr).trans h3⟩

theorem xor_i64 (a b : Nat) (ha : a < 4294967296) (hb : b < 4294967296) : bits .xor .i64 (a : Int) (b : Int) = ((a ^^^ b : Nat) : Int) := by
  have hx : a ^^^ b < 2 ^ 32 := Nat.xor_lt_two_pow (by omega) (by omega)
  have h1 : (BitVec.ofInt 64 (a : Int)).toNat = a := by
    rw [BitVec.ofInt_natCast, BitVec.toNat_ofNat]; exact Nat.mod_eq_of_lt (by omega)
  have h2 : (BitVec.ofInt 64 (b : Int)).toNat = b := by
    rw [BitVec.ofInt_natCast, BitVec.toNat_ofNat]; exact Nat.mod_eq_of_lt (by omega)
  show IntKind.i64.wrap ((BitVec.ofInt 64 (a : Int) ^^^ BitVec.ofInt 64 (b : Int)).toNat : Int) = _
  rw [BitVec.toNat_xor, h1, h2]
  exact IntWalk.i64_in _ (by omega)
theorem xor_nonneg (T : Int) (h0 : 0 ≤ T) (h1 : T ≤ 2000000000) : 0 ≤ bits .xor .i64 T (T / 64) := by
  obtain ⟨t, rfl⟩ : ∃ t : Nat, T = t := ⟨T.toNat, by omega⟩
  rw [show (t : Int) / 64 = ((t / 64 : Nat) : Int) by omega, xor_i64 _ _ (by omega) (by omega)]
  omega

theorem Rd.alloc {W0 w : World} {R len cap p : Nat} {a : Option Addr} (h : Rd W0 R a len cap w p) (o : Obj) : Rd W0 R a len cap (w.alloc o) p := h.kept (World.grownBy_alloc w o none) (by simp) (fun _ h => by cases h)
theorem Rd.drew {W0 w : World} {R len cap p : Nat} {a : Option Addr} (h : Rd W0 R a len cap w p) : Rd W0 R a len cap w.drew p := ⟨⟨h.1.os, h.1.tape, h.1.output, h.1.size, h.1.block⟩, h.2.1, h.2.2⟩
theorem Rd.ne {W0 w : World} {R len cap p : Nat} {a : Option Addr} (h : Rd W0 R a len cap w p) : (w.heap.size = R) = False := by
  have := (Array.getElem?_eq_some_iff.1 h.2.2).1
  simp; omega
/-- All blocks but R lie as they lay, and none is new. -/
def Only (R : Nat) (w w' : World) : Prop := ∀ k, k ≠ R → w'.heap[k]? = w.heap[k]?
theorem only_cells {W w' : World} {R : Nat} (h : Only R W w') : ∀ b o, b ≠ R → w'.cell? ⟨b, o, none⟩ = W.cell? ⟨b, o, none⟩ :=
  fun b _ hb => World.cell?_of_block (w := W) (h b hb)
theorem only_set (w : World) (R : Nat) (v : Value) : Only R w (w.setCell ⟨R, 1, none⟩ v) := fun k hk => Below.heap_setCell _ _ _ k hk

/-- What pick leaves. -/
def Picked (W0 : World) (R : Nat) (a : Option Addr) (len cap p : Nat) (n : Int) (w : World) (e : Ending) (w' : World) : Prop :=
  ∃ x : Int, e = .returned (.int .i64 x) ∧ 0 ≤ x ∧ (n < 1 → x = 0) ∧ (1 ≤ n → x < n) ∧ Rd W0 R a len cap w' (p + 1) ∧ w.grownBy w' (some R) ∧ Only R w w'

set_option maxHeartbeats 400000 in
theorem pick_in (W0 : World) (R len cap p : Nat) (a : Option Addr) (n : Int) (w : World) (hb : Bytes W0 a len) (h : Rd W0 R a len cap w p) (hp : p ≤ 1000000) :
    Calls Try.prog 31 #[.pointer (some ⟨R, 0, none⟩), .int .i64 n] w (Picked W0 R a len cap p n w) := by
  have hc0 := h.cell0
  have hc1 := h.cell1
  have hf1 := h.frozen 1
  have hset := h.set (p + 1)
  have hd0 : (w.setCell ⟨R, 1, none⟩ (.int .i64 ((p : Int) + 1))).cell? ⟨R, 0, none⟩ = some (.slice a len cap) := hset.cell0
  have hd1 : (w.setCell ⟨R, 1, none⟩ (.int .i64 ((p : Int) + 1))).cell? ⟨R, 1, none⟩ = some (.int .i64 ((p : Int) + 1)) := hset.cell1
  have hgr : w.grownBy (w.setCell ⟨R, 1, none⟩ (.int .i64 ((p : Int) + 1))) (some R) := grownBy_set (grownBy_refl _ _) _ _
  by_cases hn1 : n < 1
  · go_enter Try.func31, Try.ntmps31
    go_wp2
    go_ret
    exact ⟨0, rfl, by omega, fun _ => rfl, fun h => by omega, hset, hgr, only_set _ _ _⟩
  · by_cases hl : len = 0
    · subst hl
      go_enter Try.func31, Try.ntmps31
      go_wp2
      go_ret
      exact ⟨0, rfl, by omega, fun _ => rfl, fun h => by omega, hset, hgr, only_set _ _ _⟩
    · obtain ⟨hlen, hbb⟩ := hb
      obtain ⟨b, off, rfl, hbW, z, hz, hcells⟩ := hbb (by omega)
      have hl1 : ((len : Int) == 0) = false := by simp; omega
      by_cases hpl : p < len
      · have hcp : (w.setCell ⟨R, 1, none⟩ (.int .i64 ((p : Int) + 1))).cell? ⟨b, off + p, none⟩ = some (.int .u8 (z p)) := (hset.1.cell (by exact hbW)).trans (hcells p hpl)
        have hzp := hz p
        generalize z p = zp at hcp hzp
        clear hcells hz hbb
        go_enter Try.func31, Try.ntmps31
        go_wp2
        go_ret
        exact ⟨zp % n, rfl, Int.emod_nonneg _ (by omega), fun h => by omega, fun _ => Int.emod_lt_of_pos _ (by omega), hset, hgr, only_set _ _ _⟩
      · obtain ⟨m1, hm1, hq1⟩ : ∃ m1 : Nat, m1 < len ∧ Int.tmod (p : Int) (len : Int) = (m1 : Int) := ⟨p % len, Nat.mod_lt _ (by omega), by rw [Int.tmod_eq_emod_of_nonneg (by omega)]; rfl⟩
        obtain ⟨m2, hm2, hq2⟩ : ∃ m2 : Nat, m2 < len ∧ Int.tmod ((p : Int) * 7 + 3) (len : Int) = (m2 : Int) := ⟨(p * 7 + 3) % len, Nat.mod_lt _ (by omega), by rw [Int.tmod_eq_emod_of_nonneg (by omega)]; rfl⟩
        obtain ⟨q, hq0, hqp, hq3⟩ : ∃ q : Int, 0 ≤ q ∧ q ≤ 1000000 ∧ Int.tdiv (p : Int) (len : Int) = q := ⟨_, Int.tdiv_nonneg (by omega) (by omega), by rw [Int.tdiv_eq_ediv_of_nonneg (by omega)]; have := Int.ediv_le_self (a := (p : Int)) (len : Int) (by omega); omega, rfl⟩
        have hcp1 : (w.setCell ⟨R, 1, none⟩ (.int .i64 ((p : Int) + 1))).cell? ⟨b, off + m1, none⟩ = some (.int .u8 (z m1)) := (hset.1.cell (by exact hbW)).trans (hcells m1 hm1)
        have hcp2 : (w.setCell ⟨R, 1, none⟩ (.int .i64 ((p : Int) + 1))).cell? ⟨b, off + m2, none⟩ = some (.int .u8 (z m2)) := (hset.1.cell (by exact hbW)).trans (hcells m2 hm2)
        have hz1 := hz m1
        have hz2 := hz m2
        generalize z m1 = z1 at hcp1 hz1
        generalize z m2 = z2 at hcp2 hz2
        clear hcells hz hbb
        have hw1 : IntKind.i64.wrap (z1 * 131) = z1 * 131 := IntWalk.i64_in _ (by omega)
        have hw2 : IntKind.i64.wrap (z2 * 1117) = z2 * 1117 := IntWalk.i64_in _ (by omega)
        have hw3 : IntKind.i64.wrap (z1 * 131 + z2 * 1117) = z1 * 131 + z2 * 1117 := IntWalk.i64_in _ (by omega)
        have hw4 : IntKind.i64.wrap ((p : Int) * 29) = (p : Int) * 29 := IntWalk.i64_in _ (by omega)
        have hw5 : IntKind.i64.wrap (z1 * 131 + z2 * 1117 + (p : Int) * 29) = z1 * 131 + z2 * 1117 + (p : Int) * 29 := IntWalk.i64_in _ (by omega)
        have hw6 : IntKind.i64.wrap (q * 53) = q * 53 := IntWalk.i64_in _ (by omega)
        have hw7 : IntKind.i64.wrap (z1 * 131 + z2 * 1117 + (p : Int) * 29 + q * 53) = z1 * 131 + z2 * 1117 + (p : Int) * 29 + q * 53 := IntWalk.i64_in _ (by omega)
        have hw8 : IntKind.i64.wrap ((p : Int) * 7) = (p : Int) * 7 := IntWalk.i64_in _ (by omega)
        have hw9 : IntKind.i64.wrap ((p : Int) * 7 + 3) = (p : Int) * 7 + 3 := IntWalk.i64_in _ (by omega)
        have hw10 : IntKind.i64.wrap (q : Int) = q := IntWalk.i64_in _ (by omega)
        have hw11 : IntKind.i64.wrap (m1 : Int) = m1 := IntWalk.i64_in _ (by omega)
        have hw12 : IntKind.i64.wrap (m2 : Int) = m2 := IntWalk.i64_in _ (by omega)
        go_enter Try.func31, Try.ntmps31
        go_wp2
        go_quiet (fail)
        clear hw1 hw2 hw3 hw4 hw5 hw6 hw7 hw8 hw9 hw10 hw11 hw12 hq1 hq2 hq3
        obtain ⟨T, hT, hT0, hT1⟩ : ∃ T : Int, z1 * 131 + z2 * 1117 + (p : Int) * 29 + q * 53 = T ∧ 0 ≤ T ∧ T ≤ 2000000000 := ⟨_, rfl, by omega, by omega⟩
        rw [hT]
        clear hT
        have hx := xor_nonneg T hT0 hT1
        generalize hX : bits .xor .i64 T (T / 64) = X at hx
        go_wp2
        go_ret
        have hD : w.grownBy ((w.setCell ⟨R, 1, none⟩ (.int .i64 ((p : Int) + 1))).drewN nq) (some R) := ⟨hgr.os, hgr.tape, hgr.output, hgr.size, hgr.block⟩
        have hS : Rd W0 R (some ⟨b, off, none⟩) len cap ((w.setCell ⟨R, 1, none⟩ (.int .i64 ((p : Int) + 1))).drewN nq) (p + 1) := ⟨⟨hset.1.os, hset.1.tape, hset.1.output, hset.1.size, hset.1.block⟩, hset.2.1, hset.2.2⟩
        exact ⟨X % n, rfl, Int.emod_nonneg _ (by omega), fun h => by omega, fun _ => Int.emod_lt_of_pos _ (by omega), hS, hD, only_set _ _ _⟩
end Go.Proofs.Ytehmobcfbifocaa
/-
  What the draws hand back: numbers that fit 64 bits.
-/
namespace Go.Proofs.Ytehmobcfbifocaa
open Go.RowKit

/-- A number that fits 64 bits. -/
def Fits (x : Int) : Prop := -9223372036854775808 ≤ x ∧ x ≤ 9223372036854775807
theorem wrap_fits (n : Int) : Fits (IntKind.i64.wrap n) := by
  unfold Fits IntKind.wrap
  simp [IntKind.signed, IntKind.bits]
  split <;> omega
theorem wrap64_fits (n : Int) : Fits (wrap64 n) := by
  unfold Fits wrap64; omega
/-- It returns one, two, three numbers. -/
def Int1 (e : Ending) : Prop := ∃ x : Int, Fits x ∧ e = .returned (.int .i64 x)
def Int2 (e : Ending) : Prop := ∃ x y : Int, Fits x ∧ Fits y ∧ e = .returned (.tuple #[.int .i64 x, .int .i64 y])
def Int3 (e : Ending) : Prop := ∃ x y z : Int, Fits x ∧ Fits y ∧ Fits z ∧ e = .returned (.tuple #[.int .i64 x, .int .i64 y, .int .i64 z])

/-- The one of three numbers at a place. -/
def sel (i : Nat) (a b c : Int) : Int := if i = 0 then a else if i = 1 then b else c
theorem sel_at {i : Nat} (hi : i < 3) (a b c : Int) : (#[.int .i64 a, .int .i64 b, .int .i64 c] : Array Value)[i]? = some (.int .i64 (sel i a b c)) := by
  match i, hi with
  | 0, _ => rfl
  | 1, _ => rfl
  | 2, _ => rfl
theorem sel_cell {i : Nat} (hi : i < 3) (W : World) (a b c : Int) : (W.alloc (.cells #[.int .i64 a, .int .i64 b, .int .i64 c] 3)).cell? ⟨W.heap.size, i, none⟩ = some (.int .i64 (sel i a b c)) := by
  rw [World.cell?_alloc_at _ _ _ _ rfl]; exact sel_at hi a b c
end Go.Proofs.Ytehmobcfbifocaa
/-
  The reader that is opened over the bytes that came in.
-/
namespace Go.Proofs.Ytehmobcfbifocaa
open Go.RowKit

/-- What is known of a slice of integers that came in. -/
def IsRow (k : IntKind) (w : World) (a : Option Addr) (len cap : Nat) (zs : List Int) : Prop :=
  (a = none ∧ len = 0 ∧ cap = 0 ∧ zs = []) ∨
  ∃ x, a = some x ∧ len ≤ cap ∧ cap ≤ maxLen ∧ zs.length = cap ∧ (∀ i, i < zs.length → w.cell? (x.add i) = some (.int k (zs.getD i 0))) ∧ ∀ n ∈ zs, (Lit.int k n).wf = true

theorem IsRow.bytes {w : World} {a : Option Addr} {len cap : Nat} {zs : List Int} (h : IsRow .u8 w a len cap zs) {n : Nat} (hn : n ≤ len) (h2 : n ≤ 2000) : Bytes w a n := by
  refine ⟨h2, fun hpos => ?_⟩
  rcases h with ⟨_, h0, _⟩ | ⟨⟨b, off, spot⟩, rfl, hl, hm, hz, hcell, hwf⟩
  · omega
  · have h0 := hcell 0 (by omega)
    have hs : spot = none := by simpa [Addr.add] using World.cell?_spot h0
    subst hs
    have hb : b < w.heap.size := by
      have := World.block_lt_of_cell? w _ h0
      simpa [Addr.add] using this
    refine ⟨b, off, rfl, hb, fun i => zs.getD i 0, fun i => ?_, fun i hi => ?_⟩
    · by_cases hi : i < zs.length
      · have := hwf (zs.getD i 0) (by rw [List.getD, List.getElem?_eq_getElem hi]; simp)
        simpa [Lit.wf, IntKind.min, IntKind.max, IntKind.signed, IntKind.bits] using this
      · simp [List.getD, hi]
    · have := hcell i (by omega)
      have hadd : (⟨b, off, none⟩ : Addr).add i = ⟨b, off + i, none⟩ := by unfold Addr.add; split <;> simp_all
      rwa [hadd] at this

/-- The reader that is opened. -/
def Opened (W0 : World) (a : Option Addr) (e : Ending) (w' : World) : Prop :=
  ∃ R len cap, e = .returned (.pointer (some ⟨R, 0, none⟩)) ∧ Bytes W0 a len ∧ Rd W0 R a len cap w' 0

theorem open_in (w : World) (a : Option Addr) (len cap : Nat) (zs : List Int) (h : IsRow .u8 w a len cap zs) : Calls Try.prog 30 #[.slice a len cap] w (Opened w a) := by
  have hRd : ∀ n c : Nat, Rd w w.heap.size a n c (w.alloc (.cells #[.slice a n c, .int .i64 0] 43)) 0 := fun n c => ⟨(Below.refl _ w).alloc (Nat.le_refl _) _, Nat.le_refl _, heap_alloc_new w _⟩
  have hcap : len ≤ cap := by rcases h with ⟨_, h0, h1, _⟩ | ⟨_, _, hl, _⟩ <;> omega
  by_cases hl : 2000 < len
  · have hb := h.bytes (n := 2000) (by omega) (Nat.le_refl _)
    have hcp : (2000 : Int) ≤ cap := by omega
    rcases h with ⟨_, h0, _⟩ | ⟨x, rfl, _⟩
    · omega
    · go_enter Try.func30, Try.ntmps30
      go_wp2
      go_ret
      exact ⟨_, _, _, rfl, hb, hRd _ _⟩
  · have hb := h.bytes (n := len) (Nat.le_refl _) (by omega)
    go_enter Try.func30, Try.ntmps30
    go_wp2
    go_ret
    exact ⟨_, _, _, rfl, hb, hRd _ _⟩
end Go.Proofs.Ytehmobcfbifocaa
/-
  The draws of chapter 7: each hands back numbers, and nothing that was there is written.
-/
namespace Go.Proofs.Ytehmobcfbifocaa
open Go.RowKit

/-- A cell of a literal row of numbers, later. -/
theorem lit_cell {w w3 : World} {R : Nat} {xs : Array Value} {t : TypeId} (ho : Only R (w.alloc (.cells xs t)) w3) (hne : w.heap.size ≠ R) {K : Nat} (hK : K < xs.size) (hall : ∀ v ∈ xs, ∃ z : Int, Fits z ∧ v = .int .i64 z) :
    ∃ z : Int, Fits z ∧ w3.cell? ⟨w.heap.size, K, none⟩ = some (.int .i64 z) := by
  obtain ⟨z, hz, he⟩ := hall xs[K] (Array.getElem_mem hK)
  refine ⟨z, hz, ?_⟩
  rw [only_cells ho _ _ hne]
  have hb : (w.alloc (.cells xs t)).heap[w.heap.size]? = some (.cells xs t) := heap_alloc_new w _
  unfold World.cell?
  rw [hb]
  simp [he, hK]

set_option maxHeartbeats 1000000 in
theorem drawTwice (w : World) (a : Option Addr) (len cap : Nat) (zs : List Int) (h : IsRow .u8 w a len cap zs) : Calls Try.prog 18 #[.slice a len cap] w fun e w' => Int1 e ∧ Below w.heap.size w w' := by
  go_enter Try.func18, Try.ntmps18
  go_wp2_with fail
  go_at_call 30
  refine (open_in w a len cap zs h).mono ?_
  rintro e w1 ⟨R, n, c, rfl, hb, hR⟩
  go_wp2_with fail
  go_at_call 31
  refine (pick_in w R n c _ a _ _ hb hR (by omega)).mono ?_
  rintro e w2 ⟨k, rfl, hk0, _, hk1, hR2, _⟩
  replace hk1 := hk1 (by omega)
  have hkf : Fits k := by unfold Fits; omega
  have hne := hR2.ne
  go_wp2_with fail
  go_at_call 31
  refine (pick_in w R n c _ a _ _ hb (hR2.alloc _) (by omega)).mono ?_
  rintro e w3 ⟨j, rfl, hj0, _, hj1, hR3, _, ho⟩
  replace hj1 := hj1 (by omega)
  obtain ⟨J, rfl⟩ : ∃ N : Nat, j = N := ⟨j.toNat, by omega⟩
  obtain ⟨z, hz, hcz⟩ := lit_cell (K := J) ho (by rw [ne_eq, hne]; exact id) (by simp; omega) (by
    intro v hv
    simp at hv
    rcases hv with rfl | rfl | rfl | rfl | rfl | rfl | rfl | rfl | rfl | rfl | rfl | rfl | rfl | rfl | rfl | rfl <;> exact ⟨_, by first | exact hkf | (unfold Fits; omega), rfl⟩)
  go_wp2
  go_ret
  exact ⟨⟨_, hz, rfl⟩, hR3.1⟩

set_option maxHeartbeats 1000000 in
theorem drawBetween (w : World) (a : Option Addr) (len cap : Nat) (zs : List Int) (h : IsRow .u8 w a len cap zs) : Calls Try.prog 21 #[.slice a len cap] w fun e w' => Int1 e ∧ Below w.heap.size w w' := by
  go_enter Try.func21, Try.ntmps21
  go_wp2_with fail
  go_at_call 30
  refine (open_in w a len cap zs h).mono ?_
  rintro e w1 ⟨R, n, c, rfl, hb, hR⟩
  go_wp2_with fail
  go_at_call 31
  refine (pick_in w R n c _ a _ _ hb hR (by omega)).mono ?_
  rintro e w2 ⟨k, rfl, hk0, _, hk1, hR2, _⟩
  replace hk1 := hk1 (by omega)
  have hkf : Fits k := by unfold Fits; omega
  go_wp2_with fail
  go_at_call 31
  refine (pick_in w R n c _ a _ _ hb hR2 (by omega)).mono ?_
  rintro e w3 ⟨k2, rfl, hk20, _, hk21, hR3, _⟩
  replace hk21 := hk21 (by omega)
  have hkf2 : Fits k2 := by unfold Fits; omega
  have hne := hR3.ne
  go_wp2_with fail
  go_at_call 31
  refine (pick_in w R n c _ a _ _ hb (hR3.alloc _) (by omega)).mono ?_
  rintro e w4 ⟨j, rfl, hj0, _, hj1, hR4, _, ho⟩
  replace hj1 := hj1 (by omega)
  obtain ⟨J, rfl⟩ : ∃ N : Nat, j = N := ⟨j.toNat, by omega⟩
  have hq : Int.tdiv (J : Int) 2 = ((J / 2 : Nat) : Int) := by rw [Int.tdiv_eq_ediv_of_nonneg (by omega)]; rfl
  have hq6 : J / 2 < 6 := by omega
  generalize J / 2 = M at *
  have hw1 : IntKind.i64.wrap (M : Int) = M := IntWalk.i64_in _ (by omega)
  obtain ⟨z, hz, hcz⟩ := lit_cell (K := M) ho (by rw [ne_eq, hne]; exact id) (by simp; omega) (by
    intro v hv
    simp at hv
    rcases hv with rfl | rfl | rfl | rfl | rfl | rfl <;> exact ⟨_, by first | exact hkf | exact hkf2 | (unfold Fits; omega), rfl⟩)
  go_wp2
  go_ret
  exact ⟨⟨_, hz, rfl⟩, hR4.1⟩
end Go.Proofs.Ytehmobcfbifocaa
