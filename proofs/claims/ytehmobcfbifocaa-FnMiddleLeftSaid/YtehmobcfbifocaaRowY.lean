/-
  impl.RowOf beside leavers: what lies in its memory between two turns; its callees; its loop's record.
-/
import Derived.Test.YtehmobcfbifocaaMemZ
import Derived.Test.YtehmobcfbifocaaCalmW
import Derived.Test.YtehmobcfbifocaaIterZ
import Derived.Test.YtehmobcfbifocaaImpl7b
namespace Go.Proofs.Ytehmobcfbifocaa
open Go Go.Conc Go.ConcN Go.RowKit

theorem alloc_low (w : World) (o : Obj) {k : Nat} (h : k < w.heap.size) : (w.alloc o).heap[k]? = w.heap[k]? := (World.grownBy_alloc w o none).block k h (by simp)
theorem KF.put {W w : World} {S₀ S : Nat → Prop} (h : KF W S₀ S w) {g : Nat} (hg : W.heap.size ≤ g) (hs : ¬ S g) (o : Obj) : KF W S₀ S (w.putObj g o) := by
  refine ⟨⟨h.kept.tape, ?_, h.kept.os, h.kept.output⟩, fun k hk hk2 => ?_, h.sh, fun k hk => ?_⟩
  · rw [World.putObj_size]
    exact h.kept.size
  · rw [World.putObj_heap_other (by omega)]
    exact h.low k hk hk2
  · rw [World.putObj_heap_other (fun e : k = g => hs (e ▸ hk))]
    exact h.rows k hk
theorem KF.set {W w : World} {S₀ S : Nat → Prop} (h : KF W S₀ S w) {g p : Nat} (hg : W.heap.size ≤ g) (hs : ¬ S g) (x : Value) : KF W S₀ S (w.setCell ⟨g, p, none⟩ x) := by
  have ha := aside_setCell w ⟨g, p, none⟩ x
  refine ⟨⟨ha.tape.trans h.kept.tape, by rw [ha.size]; exact h.kept.size, ha.os.trans h.kept.os, ha.output.trans h.kept.output⟩, fun k hk hk2 => ?_, h.sh, fun k hk => ?_⟩
  · rw [ha.block k (show k ≠ g by omega)]
    exact h.low k hk hk2
  · rw [ha.block k (show k ≠ g from fun e => hs (e ▸ hk))]
    exact h.rows k hk
theorem KF.alloc {W w : World} {S₀ S : Nat → Prop} (h : KF W S₀ S w) (o : Obj) : KF W S₀ S (w.alloc o) := by
  have h1 := h.kept.size
  refine ⟨⟨h.kept.tape, by rw [World.size_alloc]; omega, h.kept.os, h.kept.output⟩, fun k hk hk2 => ?_, h.sh, fun k hk => ?_⟩
  · rw [alloc_low w o (by omega)]
    exact h.low k hk hk2
  · rw [alloc_low w o (h.lt k hk)]
    exact h.rows k hk

def firstRange : Code → Code
  | .seq a b => match firstRange a with
    | .skip => firstRange b
    | c => c
  | .block _ c => firstRange c
  | .rangeFunc f p a b => .rangeFunc f p a b
  | _ => .skip
def asgOf : Code → Code
  | .rangeFunc _ _ a _ => a
  | _ => .skip
def roundBody : Code → Code
  | .rangeFunc _ _ _ b => b
  | _ => .skip
noncomputable def A36 : Code := asgOf (firstRange (Try.f36.body.getD .skip))
noncomputable def B36 : Code := roundBody (firstRange (Try.f36.body.getD .skip))
/-- RowOf's temporaries where its loop begins. -/
def T36 (r nb nx : Nat) : Array Value := #[.int .i64 r, undef, .slice none 0 0, .pointer (some ⟨nb, 0, none⟩), undef, .int .i64 r, .bool true, .bool false, .int .i64 r, .func (.func 46) #[] #[.pointer (some ⟨nx, 0, none⟩)], undef, undef, undef, undef]
noncomputable def rec36 (r nb nx nd : Nat) (st : LoopState) : Loop := { state := st, pending := none, fn := 36, tmps := T36 r nb nx, params := #[10], assign := A36, body := B36, defers := nd }

/-- Between two steps of the iterator: k rows have come. -/
structure RK (N : Nat) (W : World) (S : Nat → Prop) (r nb nx nd nl X k : Nat) (st : LoopState) (f : Nat → Int) (w : World) : Prop where
  kf : KF W S S w
  sz : N ≤ w.heap.size
  ord : W.heap.size ≤ nb ∧ nb < nx ∧ nx < nd ∧ nd < nl ∧ nl < X ∧ X < N
  low : ∀ b, S b → b < W.heap.size
  box : Boxed w nb 37 (lastV X k (r + 1))
  bx : Boxed w nx 3 (.int .i64 r)
  dfr : w.heap[nd]? = some (.deferred (some []))
  lp : w.heap[nl]? = some (.loop (rec36 r nb nx nd st))
  row : RowAt w X (r + 1) f
section
variable {N : Nat} {W w w' : World} {S : Nat → Prop} {r nb nx nd nl X k : Nat} {st : LoopState} {f : Nat → Int}
theorem RK.at {w₁ : World} (h : RK N W S r nb nx nd nl X k st f w) (a : AtRel w w₁) : RK N W S r nb nx nd nl X k st f w₁ := by
  have hk := h.kf.at a
  obtain ⟨d, rfl⟩ := a
  exact ⟨hk, h.sz, h.ord, h.low, h.box, h.bx, h.dfr, h.lp, h.row⟩
theorem RK.ns (h : RK N W S r nb nx nd nl X k st f w) {b : Nat} (hb : W.heap.size ≤ b) : ¬ S b := fun hs => by
  have := h.low b hs
  omega
theorem RK.put (h : RK N W S r nb nx nd nl X k st f w) (st' : LoopState) : RK N W S r nb nx nd nl X k st' f (w.putObj nl (.loop (rec36 r nb nx nd st'))) := by
  have ho := h.ord
  have hz := h.sz
  exact ⟨h.kf.put (by omega) (h.ns (by omega)) _, by rw [World.putObj_size]; exact hz, ho, h.low, (World.putObj_heap_other (by omega)).trans h.box, (World.putObj_heap_other (by omega)).trans h.bx, (World.putObj_heap_other (by omega)).trans h.dfr,
    World.putObj_heap_same (by omega), h.row.of_block (World.putObj_heap_other (by omega))⟩
theorem RK.set (h : RK N W S r nb nx nd nl X k st f w) (k' : Nat) : RK N W S r nb nx nd nl X k' st f (w.setCell ⟨nb, 0, none⟩ (lastV X k' (r + 1))) := by
  have ho := h.ord
  have ha := aside_setCell w ⟨nb, 0, none⟩ (lastV X k' (r + 1))
  exact ⟨h.kf.set (by omega) (h.ns (by omega)) _, by rw [ha.size]; exact h.sz, ho, h.low, h.box.set _, (ha.block nx (show nx ≠ nb by omega)).trans h.bx, (ha.block nd (show nd ≠ nb by omega)).trans h.dfr,
    (ha.block nl (show nl ≠ nb by omega)).trans h.lp, h.row.of_block (ha.block X (show X ≠ nb by omega))⟩
theorem RK.set' (h : RK N W S r nb nx nd nl X k st f w) (k' : Nat) : RK N W S r nb nx nd nl X (k' + 1) st f (w.setCell ⟨nb, 0, none⟩ (.slice (some ⟨X, 0, none⟩) (k' + 1) (r + 1))) := by
  have := h.set (k' + 1)
  rwa [show lastV X (k' + 1) (r + 1) = .slice (some ⟨X, 0, none⟩) (k' + 1) (r + 1) from if_neg (by omega)] at this
theorem RK.congr {f' : Nat → Int} (h : RK N W S r nb nx nd nl X k st f w) (he : ∀ i, f i = f' i) : RK N W S r nb nx nd nl X k st f' w := { h with row := h.row.congr fun i _ => he i }
theorem RK.grown (h : RK N W S r nb nx nd nl X k st f w) {c c' : Nat} {S' : Nat → Prop} {b : Frame} {base : List Frame} {g' : Goroutine} {f' : Nat → Int} (hs : S' = S)
    (hg : GrownAt c S b base X (fun o => ∃ cur : Array Value, o = .cells cur 3 (0, 0) ∧ r + 1 ≤ cur.size ∧ ∀ i, i < r + 1 → cur[i]? = some (.int .i64 (f' i))) w c' S' g' w') : RK w'.heap.size W S r nb nx nd nl X k st f' w' := by
  subst hs
  have ho := h.ord
  have hz := h.sz
  have hk := hg.kept.size
  have same : ∀ b, W.heap.size ≤ b → b < w.heap.size → b ≠ X → w'.heap[b]? = w.heap[b]? := fun b h1 h2 h3 => hg.low b h2 (h.ns h1) h3
  refine ⟨⟨h.kf.kept.trans hg.kept, fun k hk1 hk2 => ?_, h.kf.sh, hg.rows⟩, Nat.le_refl _, by omega, h.low, (same nb (by omega) (by omega) (by omega)).trans h.box, (same nx (by omega) (by omega) (by omega)).trans h.bx, (same nd (by omega) (by omega) (by omega)).trans h.dfr, (same nl (by omega) (by omega) (by omega)).trans h.lp, ?_⟩
  · have := h.kf.kept.size
    rw [hg.low k (by omega) hk2 (by omega)]
    exact h.kf.low k hk1 hk2
  · obtain ⟨o, h1, cur, rfl, h2, h3⟩ := hg.obj
    exact ⟨cur, h1, h2, h3⟩
end
section
variable {w : World} {S : Nat → Prop} {b : Frame} {base : List Frame} {c : Nat}
theorem rowsTo_beside (L : Nat) (h : Rows1 S w) : BW Try.prog c S (G (Frame.enter Try.prog 40 #[.int .i64 L] .normal) (b :: base)) w (MadeAt c S b base (.func (.func 46) #[] #[.pointer (some ⟨w.heap.size, 0, none⟩)]) #[.cells #[.int .i64 L] 3] w) :=
  made_beside kokR rfl (fun v hv _ => (rowsTo_in L v).mono fun e w' hx => ⟨by rw [← hv]; exact hx.1, by rw [← hx.2]; exact Array.push_eq_append ..⟩) h
theorem addBefore_beside {X j r : Nat} {f : Nat → Int} (hj : j ≤ r) (hr : r ≤ 60) (hf : ∀ i, -2305843009213693952 ≤ f i ∧ f i ≤ 2305843009213693952) (hX : ¬ S X) (hrow : RowAt w X (r + 1) f) (h : Rows1 S w) :
    BW Try.prog c S (G (Frame.enter Try.prog 47 #[.slice (some ⟨X, 0, none⟩) (j + 1) (r + 1)] .normal) (b :: base)) w
      (GrownAt c S b base X (fun o => ∃ cur : Array Value, o = .cells cur 3 (0, 0) ∧ r + 1 ≤ cur.size ∧ ∀ i, i < r + 1 → cur[i]? = some (.int .i64 ((fun i => if 0 < i ∧ i < j + 1 then f i + f (i - 1) else f i) i))) w) :=
  grown_beside kokR rfl hX (fun v _ hv => (addBefore_in X (j + 1) (r + 1) f v (by omega) (by omega) (by omega) hf (hrow.of_block hv)).mono fun e w' hx => ⟨hx.1, let ⟨cur, h1, h2, h3⟩ := hx.2.1; ⟨_, h1, cur, rfl, h2, h3⟩, hx.2.2⟩) h
/-- What Clone hands back: a row of its own. -/
def CloneR (n : Nat) (f : Nat → Int) (x : Value) (g : Nat) (o : Obj) : Prop := ∃ cap, x = .slice (some ⟨g, 0, none⟩) n cap ∧ ∃ cur : Array Value, o = .cells cur 3 (0, 0) ∧ n ≤ cur.size ∧ ∀ i, i < n → cur[i]? = some (.int .i64 (f i))
theorem clone_beside {X n N : Nat} {f : Nat → Int} (hn : 0 < n) (hnN : n ≤ N) (hN : n ≤ 1000) (hX : ¬ S X) (hrow : RowAt w X N f) (h : Rows1 S w) :
    BW Try.prog c S (G (Frame.enter Try.prog 41 #[.slice (some ⟨X, 0, none⟩) n N] .normal) (b :: base)) w (FreshAt c S b base (CloneR n f) w) := by
  refine fresh_beside kokR rfl (fun v hsz hv => ?_) h
  have hrv : RowAt v X N f := hrow.of_block (hv X hX)
  refine (clone_in X n N ((List.range n).map f) v (by simp) (by omega) (fun k u hu => ?_)).mono fun e w' hx => ?_
  · rw [List.getElem?_map, List.getElem?_map] at hu
    by_cases hk : k < n
    · rw [List.getElem?_range hk] at hu
      simp only [Option.map_some, Option.some.injEq] at hu
      rw [← hu]
      exact hrv.cell (by omega)
    · rw [List.getElem?_eq_none (by simp; omega)] at hu
      cases hu
  · obtain ⟨x, rfl, hown, hB⟩ := hx
    obtain ⟨g, cap, rfl, hg, cur, h1, h2, h3⟩ := RowAt.of_owns hown hn
    refine ⟨_, g, _, rfl, by omega, h1, ⟨cap, rfl, cur, rfl, h2, fun i hi => ?_⟩, hB⟩
    rw [h3 i hi]
    simp [List.getD, hi]
theorem cellAt_beside {X n N : Nat} {f : Nat → Int} {p : Nat} (hnN : n ≤ N) (hX : ¬ S X) (hrow : RowAt w X N f) (hz : ∀ i, n ≤ i → f i = 0) (h : Rows1 S w) {cap : Nat} :
    BW Try.prog c S (G (Frame.enter Try.prog 35 #[.slice (some ⟨X, 0, none⟩) n cap, .int .i64 p] .normal) (b :: base)) w (MadeAt c S b base (.int .i64 (f p)) #[] w) := by
  refine made_beside kokR rfl (fun v hsz hv => ?_) h
  have hrv : RowAt v X N f := hrow.of_block (hv X hX)
  by_cases hp : p < n
  · exact (cellAt_in X n cap p _ v hp (hrv.cell (by omega))).mono fun e w' hx => ⟨hx.1, by rw [← hx.2]; simp⟩
  · rw [hz p (by omega)]
    exact (cellAt_out _ _ _ _ v (.inr (by omega))).mono fun e w' hx => ⟨hx.1, by rw [← hx.2]; simp⟩
end
/-! ### ahead of the rows -/
/-- n objects lie from nb on, the first is the loop's variable. -/
structure RP (n : Nat) (W : World) (S : Nat → Prop) (nb : Nat) (w : World) : Prop where
  kf : KF W S S w
  sz : w.heap.size = nb + n
  hW : W.heap.size ≤ nb
  low : ∀ b, S b → b < W.heap.size
  box : Boxed w nb 37 (.slice none 0 0)
structure RP2 (n : Nat) (W : World) (S : Nat → Prop) (r nb : Nat) (w : World) : Prop where
  p : RP n W S nb w
  bx : Boxed w (nb + 1) 3 (.int .i64 r)
structure RP4 (n : Nat) (W : World) (S : Nat → Prop) (r nb : Nat) (w : World) : Prop where
  p : RP2 n W S r nb w
  dfr : w.heap[nb + 2]? = some (.deferred (some []))
  lp : w.heap[nb + 3]? = some (.loop (rec36 r nb (nb + 1) (nb + 2) .ready))
structure RP5 (W : World) (S : Nat → Prop) (r nb : Nat) (w : World) : Prop where
  p : RP4 5 W S r nb w
  zr : w.heap[nb + 4]? = some (zrow (r + 1))
section
variable {n N : Nat} {W w : World} {S : Nat → Prop} {r nb : Nat}
theorem RP.at {w₁ : World} (h : RP n W S nb w) (a : AtRel w w₁) : RP n W S nb w₁ := by
  have hk := h.kf.at a
  obtain ⟨d, rfl⟩ := a
  exact ⟨hk, h.sz, h.hW, h.low, h.box⟩
theorem RP2.at {w₁ : World} (h : RP2 n W S r nb w) (a : AtRel w w₁) : RP2 n W S r nb w₁ := by
  have hk := h.p.at a
  obtain ⟨d, rfl⟩ := a
  exact ⟨hk, h.bx⟩
theorem RP4.at {w₁ : World} (h : RP4 n W S r nb w) (a : AtRel w w₁) : RP4 n W S r nb w₁ := by
  have hk := h.p.at a
  obtain ⟨d, rfl⟩ := a
  exact ⟨hk, h.dfr, h.lp⟩
theorem RP5.at {w₁ : World} (h : RP5 W S r nb w) (a : AtRel w w₁) : RP5 W S r nb w₁ := by
  have hk := h.p.at a
  obtain ⟨d, rfl⟩ := a
  exact ⟨hk, h.zr⟩
theorem RP.first (h : KN N W S S w) (hl : ∀ b, S b → b < W.heap.size) : RP 1 W S w.heap.size (w.alloc (.cells #[.slice none 0 0] 37)) :=
  ⟨h.kf.alloc _, by rw [World.size_alloc], h.kf.kept.size, hl, Boxed.new w _ _⟩
theorem RP.ns (h : RP n W S nb w) {b : Nat} (hb : nb ≤ b) : ¬ S b := fun hs => by
  have := h.low b hs
  have := h.hW
  omega
theorem RP.alloc (h : RP n W S nb w) (hn : 0 < n) (o : Obj) : RP (n + 1) W S nb (w.alloc o) :=
  have hz := h.sz
  ⟨h.kf.alloc o, by rw [World.size_alloc, hz]; omega, h.hW, h.low, (alloc_low w o (by omega)).trans h.box⟩
theorem RP2.alloc (h : RP2 n W S r nb w) (hn : 1 < n) (o : Obj) : RP2 (n + 1) W S r nb (w.alloc o) :=
  have hz := h.p.sz
  ⟨h.p.alloc (by omega) o, (alloc_low w o (by omega)).trans h.bx⟩
theorem RP2.enter (h : RP2 2 W S r nb w) : RP4 4 W S r nb ((w.alloc (.deferred (some []))).alloc (.loop (rec36 r nb (nb + 1) (nb + 2) .ready))) := by
  have hz := h.p.sz
  have h1 := h.alloc (by omega) (.deferred (some []))
  have hz1 := h1.p.sz
  refine ⟨h1.alloc (by omega) _, (alloc_low _ _ (by omega)).trans ?_, ?_⟩
  · rw [← hz]
    exact World.alloc_heap_new w _
  · rw [show nb + 3 = (w.alloc (.deferred (some []))).heap.size by omega]
    exact World.alloc_heap_new _ _
theorem RP4.make (h : RP4 4 W S r nb w) : RP5 W S r nb (w.alloc (zrow (r + 1))) := by
  have hz := h.p.p.sz
  exact ⟨⟨h.p.alloc (by omega) _, (alloc_low w _ (by omega)).trans h.dfr, (alloc_low w _ (by omega)).trans h.lp⟩, by rw [← hz]; exact World.alloc_heap_new w _⟩
theorem RP5.store (h : RP5 W S r nb w) : RK (nb + 5) W S r nb (nb + 1) (nb + 2) (nb + 3) (nb + 4) 0 .ready (fun i => bin (0 - 1) i) (w.setCell ⟨nb + 4, 0, none⟩ (.int .i64 1)) := by
  have hz := h.p.p.p.sz
  have hW := h.p.p.p.hW
  have ha := aside_setCell w ⟨nb + 4, 0, none⟩ (.int .i64 1)
  have hrow : RowAt w (nb + 4) (r + 1) (fun _ => 0) := by
    obtain ⟨cs, h1, h2, h3⟩ := zrow_pay (r + 1)
    exact ⟨cs, by rw [← h1]; exact h.zr, by omega, fun i hi => h3 i hi⟩
  refine ⟨h.p.p.p.kf.set (by omega) (h.p.p.p.ns (by omega)) _, by rw [ha.size]; omega, by omega, h.p.p.p.low, ?_, (ha.block (nb + 1) (show nb + 1 ≠ nb + 4 by omega)).trans h.p.p.bx, (ha.block (nb + 2) (show nb + 2 ≠ nb + 4 by omega)).trans h.p.dfr, (ha.block (nb + 3) (show nb + 3 ≠ nb + 4 by omega)).trans h.p.lp, (hrow.set 1).congr fun i _ => ?_⟩
  · rw [show lastV (nb + 4) 0 (r + 1) = .slice none 0 0 from rfl]
    exact (ha.block nb (show nb ≠ nb + 4 by omega)).trans h.p.p.p.box
  · cases i <;> rfl
theorem MadeAt.kf {c c' : Nat} {S S' : Nat → Prop} {b : Frame} {base : List Frame} {x : Value} {os : Array Obj} {w w' : World} {g' : Goroutine} (h : MadeAt c S b base x os w c' S' g' w') : KF w S S w' := ⟨h.kept, h.low, fun _ h => .inl h, h.rows⟩
theorem RP.made {c c' : Nat} {S' : Nat → Prop} {b : Frame} {base : List Frame} {x : Value} {w' : World} {g' : Goroutine} (h : RP 1 W S nb w) (hs : S' = S) (hm : MadeAt c S b base x #[.cells #[.int .i64 r] 3] w c' S' g' w') : RP2 2 W S r nb w' := by
  subst hs
  have hz := h.sz
  have h1 := hm.size
  have h2 := hm.new 0 (by simp)
  have hk := h.kf.kept.size
  simp only [List.size_toArray, List.length_cons, List.length_nil] at h1
  refine ⟨⟨⟨h.kf.kept.trans hm.kept, fun k hk1 hk2 => ?_, h.kf.sh, hm.rows⟩, by omega, h.hW, h.low, (hm.low nb (by omega) (h.ns (Nat.le_refl _))).trans h.box⟩, ?_⟩
  · rw [hm.low k (by omega) hk2]
    exact h.kf.low k hk1 hk2
  · rw [hz] at h2
    exact h2
end
/-! ### behind the rows -/
/-- The row is known; the marks of the way out lie. -/
structure RO (N : Nat) (W : World) (S : Nat → Prop) (r nb nd X : Nat) (w : World) : Prop where
  kf : KF W S S w
  sz : N ≤ w.heap.size
  ord : W.heap.size ≤ nb ∧ nb < nd ∧ nd < X ∧ X < N
  low : ∀ b, S b → b < W.heap.size
  box : Boxed w nb 37 (.slice (some ⟨X, 0, none⟩) (r + 1) (r + 1))
  dfr : w.heap[nd]? = some (.deferred (some []))
  row : RowAt w X (r + 1) (fun i => bin r i)
/-- .. and a copy of it. -/
structure RC (N : Nat) (W : World) (S : Nat → Prop) (r nd g : Nat) (w : World) : Prop where
  kf : KF W S S w
  sz : N ≤ w.heap.size
  ord : W.heap.size ≤ nd ∧ nd < g ∧ g < N
  low : ∀ b, S b → b < W.heap.size
  dfr : w.heap[nd]? = some (.deferred (some []))
  row : RowAt w g (r + 1) (fun i => bin r i)
section
variable {N : Nat} {W w : World} {S : Nat → Prop} {r nb nx nd nl X g : Nat}
theorem RO.at {w₁ : World} (h : RO N W S r nb nd X w) (a : AtRel w w₁) : RO N W S r nb nd X w₁ := by
  have hk := h.kf.at a
  obtain ⟨d, rfl⟩ := a
  exact ⟨hk, h.sz, h.ord, h.low, h.box, h.dfr, h.row⟩
theorem RC.at {w₁ : World} (h : RC N W S r nd g w) (a : AtRel w w₁) : RC N W S r nd g w₁ := by
  have hk := h.kf.at a
  obtain ⟨d, rfl⟩ := a
  exact ⟨hk, h.sz, h.ord, h.low, h.dfr, h.row⟩
theorem RO.ns (h : RO N W S r nb nd X w) {b : Nat} (hb : W.heap.size ≤ b) : ¬ S b := fun hs => by
  have := h.low b hs
  omega
theorem RC.ns (h : RC N W S r nd g w) {b : Nat} (hb : W.heap.size ≤ b) : ¬ S b := fun hs => by
  have := h.low b hs
  omega
theorem RK.out (h : RK N W S r nb nx nd nl X (r + 1) .ready (fun i => bin r i) w) (o : Obj) : RO N W S r nb nd X (w.putObj nl o) := by
  have ho := h.ord
  refine ⟨h.kf.put (by omega) (h.ns (by omega)) _, by rw [World.putObj_size]; exact h.sz, by omega, h.low, ?_, (World.putObj_heap_other (by omega)).trans h.dfr, h.row.of_block (World.putObj_heap_other (by omega))⟩
  have := h.box
  rw [show lastV X (r + 1) (r + 1) = .slice (some ⟨X, 0, none⟩) (r + 1) (r + 1) from if_neg (by omega)] at this
  exact (World.putObj_heap_other (by omega)).trans this
theorem RO.copy {c c' : Nat} {S' : Nat → Prop} {b : Frame} {base : List Frame} {w' : World} {g' : Goroutine} (h : RO N W S r nb nd X w) (hs : S' = S) (hm : FreshAt c S b base (CloneR (r + 1) (fun i => bin r i)) w c' S' g' w') :
    ∃ g cap, g' = G (b.finish (.slice (some ⟨g, 0, none⟩) (r + 1) cap)) base ∧ RC w'.heap.size W S r nd g w' := by
  subst hs
  have ho := h.ord
  have hz := h.sz
  have hk := h.kf.kept.size
  obtain ⟨x, g, o, rfl, h1, h2, cap, rfl, cur, rfl, h3, h4⟩ := hm.ex
  have hg : g < w'.heap.size := (Array.getElem?_eq_some_iff.1 h2).1
  refine ⟨g, cap, rfl, ⟨h.kf.kept.trans hm.kept, fun k hk1 hk2 => ?_, h.kf.sh, hm.rows⟩, Nat.le_refl _, by omega, h.low, (hm.low nd (by omega) (h.ns (by omega))).trans h.dfr, cur, h2, h3, h4⟩
  rw [hm.low k (by omega) hk2]
  exact h.kf.low k hk1 hk2
end
/-- .. the marks taken. -/
structure RE (N : Nat) (W : World) (S : Nat → Prop) (r g : Nat) (w : World) : Prop where
  kf : KF W S S w
  sz : N ≤ w.heap.size
  hg : W.heap.size ≤ g
  row : RowAt w g (r + 1) (fun i => bin r i)
theorem RE.at {N : Nat} {W w w₁ : World} {S : Nat → Prop} {r g : Nat} (h : RE N W S r g w) (a : AtRel w w₁) : RE N W S r g w₁ := by
  have hk := h.kf.at a
  obtain ⟨d, rfl⟩ := a
  exact ⟨hk, h.sz, h.hg, h.row⟩
theorem RC.taken {N : Nat} {W w : World} {S : Nat → Prop} {r nd g : Nat} (h : RC N W S r nd g w) (o : Obj) : RE N W S r g (w.putObj nd o) := by
  have ho := h.ord
  exact ⟨h.kf.put (by omega) (h.ns (by omega)) _, by rw [World.putObj_size]; exact h.sz, by omega, h.row.of_block (World.putObj_heap_other (by omega))⟩
/-- Behind RowOf: a row of its own. -/
structure RowEnd (c : Nat) (S : Nat → Prop) (b : Frame) (base : List Frame) (r : Nat) (w : World) (c' : Nat) (S' : Nat → Prop) (g' : Goroutine) (w' : World) : Prop where
  ec : c' = c
  eS : S' = S
  ex : ∃ g cap, g' = G (b.finish (.slice (some ⟨g, 0, none⟩) (r + 1) cap)) base ∧ w.heap.size ≤ g ∧ RowAt w' g (r + 1) (fun i => bin r i)
  kf : KF w S S w'
theorem ev_store_slice (P : Program) (w : World) (es : Array Event) (a : Addr) (m : Mode) (b : Option Addr) (l c : Nat) : (store a (.slice b l c) m).events P w es = storedEv P w es a (.slice b l c) m := events_store P w es a _ m rfl
/-- The access of a call of yield. -/
theorem df_yield {P : Program} {S : Nat → Prop} {N : Nat} {a : Act} {w w' : World} {fn : FuncId} {o : Oper} {f : Operand} {xs : Array Operand} {ats : Array TypeId} {l : Nat} {r : Loop}
    (hop : o.op = .call { callee := .value f, args := xs, argTypes := ats }) (hf : a.eval f = .func (.yield l) #[] #[]) (hl : w.heap[l]? = some (.loop r)) (hs : xs.size = r.params.size) (hN : l < N) : DF S N w w' (listed P fn a o w) := by
  intro e he
  have hm := mem_listed he
  have h1 : (execOp a.eval o).events P w #[] = #[⟨.obj l, false, false⟩] := by
    simp [execOp, hop, resolve, Deferred.ofValue, hf, invoke, Instr.yield, ev_getLoop hl, run_getLoop hl, hs]
  rw [h1] at hm
  simp only [List.mem_toArray, List.mem_singleton] at hm
  subst hm
  exact evF_obj hN
end Go.Proofs.Ytehmobcfbifocaa
/-
  The program's RowOf, walked beside goroutines that only leave. Made by gen_row7.py.
-/
namespace Go.Proofs.Ytehmobcfbifocaa
open Go Go.Conc Go.ConcN Go.RowKit Go.Conc.Lib Go.ConcR.Gen Go.ConcN.Gen
open Go.ConcR (KK wgBlock WgAt stA smA rd wr mk Payload Aside2 DC0 ofEvent_cell)

theorem array28 (T : Array Value) (h : T.size = 28) : ∃ v0 v1 v2 v3 v4 v5 v6 v7 v8 v9 v10 v11 v12 v13 v14 v15 v16 v17 v18 v19 v20 v21 v22 v23 v24 v25 v26 v27, T = (List.toArray (v0 :: v1 :: v2 :: v3 :: v4 :: v5 :: v6 :: v7 :: v8 :: v9 :: v10 :: v11 :: v12 :: v13 :: v14 :: v15 :: v16 :: v17 :: v18 :: v19 :: v20 :: v21 :: v22 :: v23 :: v24 :: v25 :: v26 :: v27 :: [])) := by
  obtain ⟨l⟩ := T
  rcases l with _ | ⟨v0, l⟩
  · simp at h
  rcases l with _ | ⟨v1, l⟩
  · simp at h
  rcases l with _ | ⟨v2, l⟩
  · simp at h
  rcases l with _ | ⟨v3, l⟩
  · simp at h
  rcases l with _ | ⟨v4, l⟩
  · simp at h
  rcases l with _ | ⟨v5, l⟩
  · simp at h
  rcases l with _ | ⟨v6, l⟩
  · simp at h
  rcases l with _ | ⟨v7, l⟩
  · simp at h
  rcases l with _ | ⟨v8, l⟩
  · simp at h
  rcases l with _ | ⟨v9, l⟩
  · simp at h
  rcases l with _ | ⟨v10, l⟩
  · simp at h
  rcases l with _ | ⟨v11, l⟩
  · simp at h
  rcases l with _ | ⟨v12, l⟩
  · simp at h
  rcases l with _ | ⟨v13, l⟩
  · simp at h
  rcases l with _ | ⟨v14, l⟩
  · simp at h
  rcases l with _ | ⟨v15, l⟩
  · simp at h
  rcases l with _ | ⟨v16, l⟩
  · simp at h
  rcases l with _ | ⟨v17, l⟩
  · simp at h
  rcases l with _ | ⟨v18, l⟩
  · simp at h
  rcases l with _ | ⟨v19, l⟩
  · simp at h
  rcases l with _ | ⟨v20, l⟩
  · simp at h
  rcases l with _ | ⟨v21, l⟩
  · simp at h
  rcases l with _ | ⟨v22, l⟩
  · simp at h
  rcases l with _ | ⟨v23, l⟩
  · simp at h
  rcases l with _ | ⟨v24, l⟩
  · simp at h
  rcases l with _ | ⟨v25, l⟩
  · simp at h
  rcases l with _ | ⟨v26, l⟩
  · simp at h
  rcases l with _ | ⟨v27, l⟩
  · simp at h
  rcases l with _ | ⟨x, l⟩
  · exact ⟨v0, v1, v2, v3, v4, v5, v6, v7, v8, v9, v10, v11, v12, v13, v14, v15, v16, v17, v18, v19, v20, v21, v22, v23, v24, v25, v26, v27, rfl⟩
  · simp at h
theorem nm_addBefore : (Try.f47.name == "runtime.NumGoroutine") = false := by kernel_rfl
theorem nm_rowsTo : (Try.f40.name == "runtime.NumGoroutine") = false := by kernel_rfl
theorem nm_rowsTo1 : (Try.f46.name == "runtime.NumGoroutine") = false := by kernel_rfl
theorem nm_clone : (Try.f41.name == "runtime.NumGoroutine") = false := by kernel_rfl
theorem round36 {r nb nx nd : Nat} {st : LoopState} {a : Act} {v : Value} (h : a.eval (.tmp 24) = v) : ((rec36 r nb nx nd st).params.zip (#[Operand.tmp 24].map a.eval)).foldl (fun tmps x => tmps.setIfInBounds x.fst x.snd) (rec36 r nb nx nd st).tmps =
    #[.int .i64 r, undef, .slice none 0 0, .pointer (some ⟨nb, 0, none⟩), undef, .int .i64 r, .bool true, .bool false, .int .i64 r, .func (.func 46) #[] #[.pointer (some ⟨nx, 0, none⟩)], v, undef, undef, undef] := by
  simp [rec36, T36, h]
def afterThree : Code → Code
  | .seq _ (.seq _ (.seq _ c)) => c
  | _ => .skip
def afterOne : Code → Code
  | .seq _ c => c
  | _ => .skip
noncomputable def L46 : Code := firstLoop (Try.f46.body.getD .skip)
def At46 (r nx nl X j : Nat) (T : Array Value) : Prop :=
  T.size = 28 ∧ T[0]? = some (.func (.yield nl) #[] #[]) ∧ T[1]? = some (.pointer (some ⟨nx, 0, none⟩)) ∧ T[3]? = some (.slice (some ⟨X, 0, none⟩) (r + 1) (r + 1)) ∧ T[11]? = some (.int .i64 ((r : Int) + 1)) ∧ T[12]? = some (.int .i64 (j : Nat))
noncomputable abbrev head46 (T : Array Value) (bs : List Frame) : Goroutine := G ((base 46).at ⟨T, []⟩ [.code L46, .inLoop L46, .inBlock 0]) bs
section
variable {W w : World} {c : Nat} {S : Nat → Prop} {bs : List Frame} {T : Array Value} {r nb nx nd nl X j : Nat} {Stop : BStop}
set_option maxRecDepth 100000 in
set_option maxHeartbeats 4000000 in
theorem row_turn (hT : At46 r nx nl X j T) (hr : r ≤ 60) (hj : j ≤ r) (hF : RK w.heap.size W S r nb nx nd nl X j .ready (fun i => bin (j - 1) i) w)
    (hK : ∀ T' w', At46 r nx nl X (j + 1) T' → RK w'.heap.size W S r nb nx nd nl X (j + 1) .ready (fun i => bin j i) w' → BW Try.prog c S (head46 T' bs) w' Stop) : BW Try.prog c S (head46 T bs) w Stop := by
  have hbin : ∀ i, -2305843009213693952 ≤ (bin (j - 1) i : Int) ∧ (bin (j - 1) i : Int) ≤ 2305843009213693952 := fun i => by have := bin_small (j - 1) i (by omega); omega
  have hlt : (j : Int) < (r : Int) + 1 := by omega
  have hw1 : IntKind.wrap .i64 ((j : Int) + 1) = (j : Int) + 1 := IntWalk.i64_in _ (by omega)
  have hs1 : (j : Int) + 1 ≤ (r : Int) + 1 := by omega
  have hs2 : (0 : Int) ≤ (j : Int) + 1 := by omega
  have hs3 : ((j : Int) + 1).toNat = j + 1 := by omega
  have hse : ∀ (w : World) (es : Array Event), (Instr.sliceAt 37 (.slice (some ⟨X, 0, none⟩) (r + 1) (r + 1)) none (some (.int .i64 ((j : Int) + 1))) none).events Try.prog w es = es := fun w es => by
    have := slice_events (Y := X) (n := r + 1) (k := j + 1) (by omega) w es
    simpa using this
  obtain ⟨hT, q0, q1, q3, q11, q12⟩ := hT
  obtain ⟨v0, v1, v2, v3, v4, v5, v6, v7, v8, v9, v10, v11, v12, v13, v14, v15, v16, v17, v18, v19, v20, v21, v22, v23, v24, v25, v26, v27, rfl⟩ := array28 T hT
  simp only [List.getElem?_toArray, List.getElem?_cons_succ, List.getElem?_cons_zero, Option.some.injEq] at q0 q1 q3 q11 q12
  subst q0 q1 q3 q11 q12
  simp only [head46, L46, firstLoop, Try.f46, Option.getD_some]
  refine BW.walk 300 ?_
  refine Goes.step rfl (fun _ h₁ => ?_)
  replace hF := hF.at h₁
  clear h₁
  rw [stepG_seq]
  simp only [goes_go]
  refine ⟨DF.none (by intro e he; simp at he), ?_⟩
  refine Goes.step rfl (fun _ h₁ => ?_)
  replace hF := hF.at h₁
  clear h₁
  rw [stepG_region]
  simp only [goes_go, List.size_toArray, List.length_cons, List.length_nil, Nat.zero_add, List.range, List.range.loop]
  refine ⟨DF.none (by intro e he; simp at he), ?_⟩
  refine Goes.step rfl (fun _ h₁ => ?_)
  replace hF := hF.at h₁
  clear h₁
  refine goes_oper_k rfl rfl (by decide) (fun Kx hKx => ?_)
  go_simp
  refine hKx _ _ ⟨DF.none ?_, ?_⟩
  · intro e he
    have hm := mem_listed he
    simp [go_sem, *] at hm
  clear hKx Kx
  refine Goes.step rfl (fun _ h₁ => ?_)
  replace hF := hF.at h₁
  clear h₁
  rw [stepG_region_end]
  simp only [goes_go]
  refine ⟨DF.none (by intro e he; simp at he), ?_⟩
  refine Goes.step rfl (fun _ h₁ => ?_)
  replace hF := hF.at h₁
  clear h₁
  rw [stepG_seq]
  simp only [goes_go]
  refine ⟨DF.none (by intro e he; simp at he), ?_⟩
  refine Goes.step rfl (fun _ h₁ => ?_)
  replace hF := hF.at h₁
  clear h₁
  rw [stepG_cond (t := true) (by first | rfl | (simp [Act.eval]; omega))]
  simp only [goes_go, ↓reduceIte]
  refine ⟨DF.none (by intro e he; simp at he), ?_⟩
  refine Goes.step rfl (fun _ h₁ => ?_)
  replace hF := hF.at h₁
  clear h₁
  rw [stepG_skip]
  simp only [goes_go]
  refine ⟨DF.none (by intro e he; simp at he), ?_⟩
  refine Goes.step rfl (fun _ h₁ => ?_)
  replace hF := hF.at h₁
  clear h₁
  rw [stepG_seq]
  simp only [goes_go]
  refine ⟨DF.none (by intro e he; simp at he), ?_⟩
  refine Goes.step rfl (fun _ h₁ => ?_)
  replace hF := hF.at h₁
  clear h₁
  rw [stepG_block]
  simp only [goes_go]
  refine ⟨DF.none (by intro e he; simp at he), ?_⟩
  refine Goes.step rfl (fun _ h₁ => ?_)
  replace hF := hF.at h₁
  clear h₁
  rw [stepG_seq]
  simp only [goes_go]
  refine ⟨DF.none (by intro e he; simp at he), ?_⟩
  refine Goes.step rfl (fun _ h₁ => ?_)
  replace hF := hF.at h₁
  clear h₁
  rw [stepG_region]
  simp only [goes_go, List.size_toArray, List.length_cons, List.length_nil, Nat.reduceAdd, Nat.zero_add, List.range, List.range.loop]
  refine ⟨DF.none (by intro e he; simp at he), ?_⟩
  refine Goes.step rfl (fun _ h₁ => ?_)
  replace hF := hF.at h₁
  clear h₁
  refine goes_oper_k rfl rfl (by decide) (fun Kx hKx => ?_)
  go_simp
  refine hKx _ _ ⟨DF.none ?_, ?_⟩
  · intro e he
    have hm := mem_listed he
    simp [go_sem, *] at hm
  clear hKx Kx
  refine Goes.step rfl (fun _ h₁ => ?_)
  replace hF := hF.at h₁
  clear h₁
  refine goes_oper_k rfl rfl (by decide) (fun Kx hKx => ?_)
  go_simp
  refine hKx _ _ ⟨DF.none ?_, ?_⟩
  · intro e he
    have hm := mem_listed he
    simp [go_sem, *] at hm
  clear hKx Kx
  refine Goes.step rfl (fun _ h₁ => ?_)
  replace hF := hF.at h₁
  clear h₁
  rw [stepG_region_end]
  simp only [goes_go]
  refine ⟨DF.none (by intro e he; simp at he), ?_⟩
  refine Goes.step rfl (fun _ h₁ => ?_)
  replace hF := hF.at h₁
  clear h₁
  rw [stepG_seq]
  simp only [goes_go]
  refine ⟨DF.none (by intro e he; simp at he), ?_⟩
  refine Goes.step rfl (fun _ h₁ => ?_)
  replace hF := hF.at h₁
  clear h₁
  rw [stepG_region]
  simp only [goes_go, List.size_toArray, List.length_cons, List.length_nil, Nat.reduceAdd, Nat.zero_add, List.range, List.range.loop]
  refine ⟨DF.none (by intro e he; simp at he), ?_⟩
  refine Goes.step rfl (fun _ h₁ => ?_)
  replace hF := hF.at h₁
  clear h₁
  refine goes_oper_k rfl rfl (by decide) (fun Kx hKx => ?_)
  go_simp
  refine hKx _ _ ⟨DF.none ?_, ?_⟩
  · intro e he
    have hm := mem_listed he
    simp [go_sem, *] at hm
  clear hKx Kx
  refine Goes.step rfl (fun _ h₁ => ?_)
  replace hF := hF.at h₁
  clear h₁
  refine goes_oper_k rfl rfl (by decide) (fun Kx hKx => ?_)
  go_simp
  refine hKx _ _ ⟨DF.none ?_, ?_⟩
  · intro e he
    have hm := mem_listed he
    simp [go_sem, *] at hm
  clear hKx Kx
  refine Goes.step rfl (fun _ h₁ => ?_)
  replace hF := hF.at h₁
  clear h₁
  refine goes_oper_k rfl rfl (by decide) (fun Kx hKx => ?_)
  go_simp
  refine hKx _ _ ⟨DF.none ?_, ?_⟩
  · intro e he
    have hm := mem_listed he
    simp [go_sem, *] at hm
  clear hKx Kx
  refine Goes.step rfl (fun _ h₁ => ?_)
  replace hF := hF.at h₁
  clear h₁
  refine goes_oper_k rfl rfl (by decide) (fun Kx hKx => ?_)
  go_simp
  refine hKx _ _ ⟨DF.none ?_, ?_⟩
  · intro e he
    have hm := mem_listed he
    simp [go_sem, *] at hm
  clear hKx Kx
  refine Goes.step rfl (fun _ h₁ => ?_)
  replace hF := hF.at h₁
  clear h₁
  refine goes_callF rfl rfl (by decide) rfl Try.func47 nm_addBefore rfl ⟨DF.none (by intro e he; simp at he), ?_⟩
  walk_nrm
  refine Goes.stop (fun w₁ h₁ => ⟨(hF.at h₁).sz, ?_⟩)
  replace hF := hF.at h₁
  clear h₁
  refine (addBefore_beside hj hr hbin (hF.ns (by have := hF.ord; omega)) hF.row hF.kf.rows).bind fun c2 S2 g2 w2 hp => ?_
  obtain ⟨x, hx⟩ := hp.eg
  replace hF := (hF.grown hp.eS hp).congr (bin_turn j)
  obtain rfl := hp.ec
  obtain rfl := hp.eS
  subst hx
  clear hp
  rw [Frame.finish_at]
  refine BW.walk 300 ?_
  walk_nrm
  refine Goes.step rfl (fun _ h₁ => ?_)
  replace hF := hF.at h₁
  clear h₁
  rw [stepG_region_end]
  simp only [goes_go]
  refine ⟨DF.none (by intro e he; simp at he), ?_⟩
  refine Goes.step rfl (fun _ h₁ => ?_)
  replace hF := hF.at h₁
  clear h₁
  rw [stepG_seq]
  simp only [goes_go]
  refine ⟨DF.none (by intro e he; simp at he), ?_⟩
  refine Goes.step rfl (fun _ h₁ => ?_)
  replace hF := hF.at h₁
  clear h₁
  rw [stepG_region]
  simp only [goes_go, List.size_toArray, List.length_cons, List.length_nil, Nat.reduceAdd, Nat.zero_add, List.range, List.range.loop]
  refine ⟨DF.none (by intro e he; simp at he), ?_⟩
  refine Goes.step rfl (fun _ h₁ => ?_)
  replace hF := hF.at h₁
  clear h₁
  refine goes_oper_k rfl rfl (by decide) (fun Kx hKx => ?_)
  go_simp
  refine hKx _ _ ⟨DF.none ?_, ?_⟩
  · intro e he
    have hm := mem_listed he
    simp [go_sem, *] at hm
  clear hKx Kx
  refine Goes.step rfl (fun _ h₁ => ?_)
  replace hF := hF.at h₁
  clear h₁
  refine goes_oper_k rfl rfl (by decide) (fun Kx hKx => ?_)
  go_simp
  refine hKx _ _ ⟨DF.none ?_, ?_⟩
  · intro e he
    have hm := mem_listed he
    simp [go_sem, *] at hm
  clear hKx Kx
  refine Goes.step rfl (fun _ h₁ => ?_)
  replace hF := hF.at h₁
  clear h₁
  refine goes_oper_k rfl rfl (by decide) (fun Kx hKx => ?_)
  go_simp
  refine hKx _ _ ⟨DF.none ?_, ?_⟩
  · intro e he
    have hm := mem_listed he
    simp [go_sem, *] at hm
  clear hKx Kx
  refine Goes.step rfl (fun _ h₁ => ?_)
  replace hF := hF.at h₁
  clear h₁
  refine goes_oper_k rfl rfl (by decide) (fun Kx hKx => ?_)
  go_simp
  refine hKx _ _ ⟨DF.none ?_, ?_⟩
  · intro e he
    have hm := mem_listed he
    simp [go_sem, *] at hm
  clear hKx Kx
  refine Goes.step rfl (fun _ h₁ => ?_)
  replace hF := hF.at h₁
  clear h₁
  refine goes_oper_k rfl rfl (by decide) (fun Kx hKx => ?_)
  go_simp
  refine hKx _ _ ⟨DF.none ?_, ?_⟩
  · intro e he
    have hm := mem_listed he
    simp [go_sem, *] at hm
  clear hKx Kx
  refine Goes.step rfl (fun _ h₁ => ?_)
  replace hF := hF.at h₁
  clear h₁
  rw [stepG_yield (l := nl) rfl rfl (by decide) rfl rfl hF.lp rfl]
  simp only [goes_go]
  refine ⟨df_yield rfl rfl hF.lp rfl (by have := hF.ord; omega), ?_⟩
  rw [round36 (v := .slice (some ⟨X, 0, none⟩) (j + 1) (r + 1)) rfl]
  simp only [rec36, A36, B36, asgOf, roundBody, firstRange, Try.f36, Option.getD_some]
  refine Goes.step rfl (fun _ h₁ => ?_)
  replace hF := hF.at h₁
  clear h₁
  rw [stepR_region]
  simp only [goes_go, List.size_toArray, List.length_cons, List.length_nil, Nat.zero_add, List.range, List.range.loop]
  refine ⟨DF.none (by intro e he; simp at he), ?_⟩
  refine Goes.step rfl (fun _ h₁ => ?_)
  replace hF := hF.at h₁
  clear h₁
  refine goesR_oper_k rfl rfl (fun _ h => by cases h) (by decide) (fun Kx hKx => ?_)
  go_simp
  refine hKx _ _ ⟨DF.none ?_, ?_⟩
  · intro e he
    have hm := mem_listed he
    simp [go_sem, *] at hm
  clear hKx Kx
  refine Goes.step rfl (fun _ h₁ => ?_)
  replace hF := hF.at h₁
  clear h₁
  rw [stepR_region_end]
  simp only [goes_go]
  refine ⟨DF.none (by intro e he; simp at he), ?_⟩
  refine Goes.step rfl (fun _ h₁ => ?_)
  replace hF := hF.at h₁
  clear h₁
  rw [stepR_begin (by decide) hF.lp rfl]
  simp only [goes_go]
  refine ⟨df_loop (by have := hF.ord; omega), ?_⟩
  replace hF := hF.put .busy
  refine Goes.step rfl (fun _ h₁ => ?_)
  replace hF := hF.at h₁
  clear h₁
  rw [stepR_block]
  simp only [goes_go]
  refine ⟨DF.none (by intro e he; simp at he), ?_⟩
  refine Goes.step rfl (fun _ h₁ => ?_)
  replace hF := hF.at h₁
  clear h₁
  rw [stepR_region]
  simp only [goes_go, List.size_toArray, List.length_cons, List.length_nil, Nat.reduceAdd, Nat.zero_add, List.range, List.range.loop]
  refine ⟨DF.none (by intro e he; simp at he), ?_⟩
  refine Goes.step rfl (fun _ h₁ => ?_)
  replace hF := hF.at h₁
  clear h₁
  refine goesR_oper_k rfl rfl (fun _ h => by cases h) (by decide) (fun Kx hKx => ?_)
  go_simp
  refine hKx _ _ ⟨DF.none ?_, ?_⟩
  · intro e he
    have hm := mem_listed he
    simp [go_sem, *] at hm
  clear hKx Kx
  refine Goes.step rfl (fun _ h₁ => ?_)
  replace hF := hF.at h₁
  clear h₁
  refine goesR_oper_k rfl rfl (fun _ h => by cases h) (by decide) (fun Kx hKx => ?_)
  have hz := hF.box.cell
  have hz2 := hF.box.frozen
  go_simp
  refine hKx _ _ ⟨fun e he => ?_, ?_⟩
  · have hm := mem_listed he
    simp [go_sem, ev_store_slice, *] at hm
    subst hm
    exact evF_cell (hF.ns (b := nb) (by have := hF.ord; omega)) (by have := hF.ord; show nb < _; omega)
  clear hKx Kx hz hz2
  replace hF := hF.set' j
  refine Goes.step rfl (fun _ h₁ => ?_)
  replace hF := hF.at h₁
  clear h₁
  rw [stepR_region_end]
  simp only [goes_go]
  refine ⟨DF.none (by intro e he; simp at he), ?_⟩
  refine Goes.step rfl (fun _ h₁ => ?_)
  replace hF := hF.at h₁
  clear h₁
  rw [stepR_inBlock]
  simp only [goes_go]
  refine ⟨DF.none (by intro e he; simp at he), ?_⟩
  refine Goes.step rfl (fun _ h₁ => ?_)
  replace hF := hF.at h₁
  clear h₁
  rw [stepR_end rfl hF.lp]
  simp only [goes_go]
  refine ⟨df_loop (by have := hF.ord; omega), ?_⟩
  replace hF := hF.put .ready
  rw [Frame.finish_at]
  walk_nrm
  refine Goes.step rfl (fun _ h₁ => ?_)
  replace hF := hF.at h₁
  clear h₁
  refine goes_oper_k rfl rfl (by decide) (fun Kx hKx => ?_)
  go_simp
  refine hKx _ _ ⟨DF.none ?_, ?_⟩
  · intro e he
    have hm := mem_listed he
    simp [go_sem, *] at hm
  clear hKx Kx
  refine Goes.step rfl (fun _ h₁ => ?_)
  replace hF := hF.at h₁
  clear h₁
  rw [stepG_region_end]
  simp only [goes_go]
  refine ⟨DF.none (by intro e he; simp at he), ?_⟩
  refine Goes.step rfl (fun _ h₁ => ?_)
  replace hF := hF.at h₁
  clear h₁
  rw [stepG_cond (t := false) (by first | rfl | (simp [Act.eval]; omega))]
  simp only [goes_go, Bool.false_eq_true, ↓reduceIte]
  refine ⟨DF.none (by intro e he; simp at he), ?_⟩
  refine Goes.step rfl (fun _ h₁ => ?_)
  replace hF := hF.at h₁
  clear h₁
  rw [stepG_skip]
  simp only [goes_go]
  refine ⟨DF.none (by intro e he; simp at he), ?_⟩
  refine Goes.step rfl (fun _ h₁ => ?_)
  replace hF := hF.at h₁
  clear h₁
  rw [stepG_inBlock]
  simp only [goes_go]
  refine ⟨DF.none (by intro e he; simp at he), ?_⟩
  refine Goes.step rfl (fun _ h₁ => ?_)
  replace hF := hF.at h₁
  clear h₁
  rw [stepG_region]
  simp only [goes_go, List.size_toArray, List.length_cons, List.length_nil, Nat.reduceAdd, Nat.zero_add, List.range, List.range.loop]
  refine ⟨DF.none (by intro e he; simp at he), ?_⟩
  refine Goes.step rfl (fun _ h₁ => ?_)
  replace hF := hF.at h₁
  clear h₁
  refine goes_oper_k rfl rfl (by decide) (fun Kx hKx => ?_)
  go_simp
  refine hKx _ _ ⟨DF.none ?_, ?_⟩
  · intro e he
    have hm := mem_listed he
    simp [go_sem, *] at hm
  clear hKx Kx
  refine Goes.step rfl (fun _ h₁ => ?_)
  replace hF := hF.at h₁
  clear h₁
  refine goes_oper_k rfl rfl (by decide) (fun Kx hKx => ?_)
  go_simp
  refine hKx _ _ ⟨DF.none ?_, ?_⟩
  · intro e he
    have hm := mem_listed he
    simp [go_sem, *] at hm
  clear hKx Kx
  refine Goes.step rfl (fun _ h₁ => ?_)
  replace hF := hF.at h₁
  clear h₁
  rw [stepG_region_end]
  simp only [goes_go]
  refine ⟨DF.none (by intro e he; simp at he), ?_⟩
  refine Goes.step rfl (fun _ h₁ => ?_)
  replace hF := hF.at h₁
  clear h₁
  rw [stepG_inLoop]
  simp only [goes_go]
  refine ⟨DF.none (by intro e he; simp at he), ?_⟩
  refine Goes.stop (fun w₁ h₁ => ⟨(hF.at h₁).sz, hK _ w₁ ⟨by simp, by simp, by simp, by simp, by simp, by simp⟩ ?_⟩)
  exact { hF.at h₁ with sz := Nat.le_refl _, ord := by have := hF.ord; have := (hF.at h₁).sz; omega }
set_option maxRecDepth 100000 in
set_option maxHeartbeats 4000000 in
theorem row_over (hT : At46 r nx nl X (r + 1) T) (hF : RK w.heap.size W S r nb nx nd nl X (r + 1) .ready (fun i => bin r i) w) {bR : Frame}
    (hK : ∀ w', RK w'.heap.size W S r nb nx nd nl X (r + 1) .ready (fun i => bin r i) w' → BW Try.prog c S (G (bR.finish (.tuple #[])) bs) w' Stop) : BW Try.prog c S (head46 T (bR :: bs)) w Stop := by
  have hlt : ¬ ((r + 1 : Nat) : Int) < (r : Int) + 1 := by omega
  obtain ⟨hT, q0, q1, q3, q11, q12⟩ := hT
  obtain ⟨v0, v1, v2, v3, v4, v5, v6, v7, v8, v9, v10, v11, v12, v13, v14, v15, v16, v17, v18, v19, v20, v21, v22, v23, v24, v25, v26, v27, rfl⟩ := array28 T hT
  simp only [List.getElem?_toArray, List.getElem?_cons_succ, List.getElem?_cons_zero, Option.some.injEq] at q0 q1 q3 q11 q12
  subst q0 q1 q3 q11 q12
  simp only [head46, L46, firstLoop, Try.f46, Option.getD_some]
  refine BW.walk 300 ?_
  refine Goes.step rfl (fun _ h₁ => ?_)
  replace hF := hF.at h₁
  clear h₁
  rw [stepG_seq]
  simp only [goes_go]
  refine ⟨DF.none (by intro e he; simp at he), ?_⟩
  refine Goes.step rfl (fun _ h₁ => ?_)
  replace hF := hF.at h₁
  clear h₁
  rw [stepG_region]
  simp only [goes_go, List.size_toArray, List.length_cons, List.length_nil, Nat.zero_add, List.range, List.range.loop]
  refine ⟨DF.none (by intro e he; simp at he), ?_⟩
  refine Goes.step rfl (fun _ h₁ => ?_)
  replace hF := hF.at h₁
  clear h₁
  refine goes_oper_k rfl rfl (by decide) (fun Kx hKx => ?_)
  go_simp
  refine hKx _ _ ⟨DF.none ?_, ?_⟩
  · intro e he
    have hm := mem_listed he
    simp [go_sem, *] at hm
  clear hKx Kx
  refine Goes.step rfl (fun _ h₁ => ?_)
  replace hF := hF.at h₁
  clear h₁
  rw [stepG_region_end]
  simp only [goes_go]
  refine ⟨DF.none (by intro e he; simp at he), ?_⟩
  refine Goes.step rfl (fun _ h₁ => ?_)
  replace hF := hF.at h₁
  clear h₁
  rw [stepG_seq]
  simp only [goes_go]
  refine ⟨DF.none (by intro e he; simp at he), ?_⟩
  refine Goes.step rfl (fun _ h₁ => ?_)
  replace hF := hF.at h₁
  clear h₁
  rw [stepG_cond (t := false) (by first | rfl | (simp [Act.eval]; omega))]
  simp only [goes_go, Bool.false_eq_true, ↓reduceIte]
  refine ⟨DF.none (by intro e he; simp at he), ?_⟩
  refine Goes.step rfl (fun _ h₁ => ?_)
  replace hF := hF.at h₁
  clear h₁
  refine goes_exit rfl ?_
  refine ⟨DF.none (by intro e he; simp at he), ?_⟩
  refine Goes.step rfl (fun _ h₁ => ?_)
  replace hF := hF.at h₁
  clear h₁
  rw [stepG_end]
  simp only [goes_go]
  refine ⟨DF.none (by intro e he; simp at he), ?_⟩
  refine Goes.step rfl (fun _ h₁ => ?_)
  replace hF := hF.at h₁
  clear h₁
  rw [stepG_leave rfl rfl Try.func46 (results_none rfl _ _ _) (events_results_none rfl _ _)]
  simp only [goes_go]
  refine ⟨DF.none (by intro e he; simp at he), ?_⟩
  refine Goes.stop (fun w₁ h₁ => ⟨(hF.at h₁).sz, hK w₁ ?_⟩)
  exact { hF.at h₁ with sz := Nat.le_refl _, ord := by have := hF.ord; have := (hF.at h₁).sz; omega }
theorem row_loop (hr : r ≤ 60) {bR : Frame} (hK : ∀ w', RK w'.heap.size W S r nb nx nd nl X (r + 1) .ready (fun i => bin r i) w' → BW Try.prog c S (G (bR.finish (.tuple #[])) bs) w' Stop) :
    ∀ (m j : Nat) (T : Array Value) (w : World), j + m = r + 1 → At46 r nx nl X j T → RK w.heap.size W S r nb nx nd nl X j .ready (fun i => bin (j - 1) i) w → BW Try.prog c S (head46 T (bR :: bs)) w Stop
  | 0, j, T, w, hm, hT, hF => by
    obtain rfl : j = r + 1 := by omega
    exact row_over hT hF hK
  | m + 1, j, T, w, hm, hT, hF => row_turn hT hr (by omega) hF fun T' w' hT' hF' => row_loop hr hK m (j + 1) T' w' (by omega) hT' hF'
set_option maxRecDepth 100000 in
set_option maxHeartbeats 4000000 in
theorem row_itp (hr : r ≤ 60) (hF : RP4 4 W S r nb w)
    (hK : ∀ T' w', At46 r (nb + 1) (nb + 3) (nb + 4) 0 T' → RK w'.heap.size W S r nb (nb + 1) (nb + 2) (nb + 3) (nb + 4) 0 .ready (fun i => bin (0 - 1) i) w' → BW Try.prog c S (head46 T' bs) w' Stop) :
    BW Try.prog c S (G (Frame.enter Try.prog 46 #[.func (.yield (nb + 3)) #[] #[], .pointer (some ⟨nb + 1, 0, none⟩)] .normal) bs) w Stop := by
  have hw1 : IntKind.wrap .i64 ((r : Int) + 1) = (r : Int) + 1 := IntWalk.i64_in _ (by omega)
  have hmk0 : ∀ (nb : Nat) (w : World), w.heap.size = nb + 4 → (Instr.makeSlice 37 (.int .i64 ((r : Int) + 1)) (.int .i64 ((r : Int) + 1))).run Try.prog w = .ok (.slice (some ⟨nb + 4, 0, none⟩) (r + 1) (r + 1)) (w.alloc (zrow (r + 1))) := fun nb w hw => by
    have := make_run (n := r + 1) (by omega) w
    rw [hw] at this
    simpa using this
  have hme : ∀ w es, (Instr.makeSlice 37 (.int .i64 ((r : Int) + 1)) (.int .i64 ((r : Int) + 1))).events Try.prog w es = es := fun w es => by
    have := make_events (n := r + 1) (by omega) w es
    simpa using this
  have hx1 : ¬ ((r : Int) + 1 ≤ 0) := by omega
  have hx2 : (0 : Int) < (r : Int) + 1 := by omega
  have hsz := hF.p.p.sz
  rw [enter_at _ Try.func46 rfl]
  refine BW.walk 200 ?_
  walk_nrmf Try.f46
  refine Goes.step rfl (fun _ h₁ => ?_)
  replace hF := hF.at h₁
  clear h₁
  rw [stepG_seq]
  simp only [goes_go]
  refine ⟨DF.none (by intro e he; simp at he), ?_⟩
  refine Goes.step rfl (fun _ h₁ => ?_)
  replace hF := hF.at h₁
  clear h₁
  rw [stepG_region]
  simp only [goes_go, List.size_toArray, List.length_cons, List.length_nil, Nat.reduceAdd, Nat.zero_add, List.range, List.range.loop]
  refine ⟨DF.none (by intro e he; simp at he), ?_⟩
  refine Goes.step rfl (fun _ h₁ => ?_)
  replace hF := hF.at h₁
  clear h₁
  refine goes_oper_k rfl rfl (by decide) (fun Kx hKx => ?_)
  have hz := hF.p.bx.cell
  go_simp
  refine hKx _ _ ⟨fun e he => ?_, ?_⟩
  · have hm := mem_listed he
    simp [go_sem, *] at hm
    subst hm
    exact evF_cell (hF.p.p.ns (b := nb + 1) (by omega)) (by show nb + 1 < _; omega)
  clear hKx Kx hz
  refine Goes.step rfl (fun _ h₁ => ?_)
  replace hF := hF.at h₁
  clear h₁
  refine goes_oper_k rfl rfl (by decide) (fun Kx hKx => ?_)
  go_simp
  refine hKx _ _ ⟨DF.none ?_, ?_⟩
  · intro e he
    have hm := mem_listed he
    simp [go_sem, *] at hm
  clear hKx Kx
  refine Goes.step rfl (fun _ h₁ => ?_)
  replace hF := hF.at h₁
  clear h₁
  have hz := hF.p.p.sz
  have hmk := hmk0 nb _ hz
  refine goes_oper_k rfl rfl (by decide) (fun Kx hKx => ?_)
  go_simp
  refine hKx _ _ ⟨DF.none ?_, ?_⟩
  · intro e he
    have hm := mem_listed he
    simp [go_sem, *] at hm
  clear hKx Kx hmk hz
  replace hF := hF.make
  refine Goes.step rfl (fun _ h₁ => ?_)
  replace hF := hF.at h₁
  clear h₁
  refine goes_oper_k rfl rfl (by decide) (fun Kx hKx => ?_)
  go_simp
  refine hKx _ _ ⟨DF.none ?_, ?_⟩
  · intro e he
    have hm := mem_listed he
    simp [go_sem, *] at hm
  clear hKx Kx
  refine Goes.step rfl (fun _ h₁ => ?_)
  replace hF := hF.at h₁
  clear h₁
  rw [stepG_region_end]
  simp only [goes_go]
  refine ⟨DF.none (by intro e he; simp at he), ?_⟩
  refine Goes.stop (fun w₁ h₁ => ⟨by have := (hF.at h₁).p.p.p.sz; omega, ?_⟩)
  replace hF := hF.at h₁
  clear h₁
  refine BW.walk 300 ?_
  have hsz := hF.p.p.p.sz
  refine Goes.step rfl (fun _ h₁ => ?_)
  replace hF := hF.at h₁
  clear h₁
  rw [stepG_seq]
  simp only [goes_go]
  refine ⟨DF.none (by intro e he; simp at he), ?_⟩
  refine Goes.step rfl (fun _ h₁ => ?_)
  replace hF := hF.at h₁
  clear h₁
  rw [stepG_region]
  simp only [goes_go, List.size_toArray, List.length_cons, List.length_nil, Nat.reduceAdd, Nat.zero_add, List.range, List.range.loop]
  refine ⟨DF.none (by intro e he; simp at he), ?_⟩
  refine Goes.step rfl (fun _ h₁ => ?_)
  replace hF := hF.at h₁
  clear h₁
  refine goes_oper_k rfl rfl (by decide) (fun Kx hKx => ?_)
  go_simp
  refine hKx _ _ ⟨DF.none ?_, ?_⟩
  · intro e he
    have hm := mem_listed he
    simp [go_sem, *] at hm
  clear hKx Kx
  refine Goes.step rfl (fun _ h₁ => ?_)
  replace hF := hF.at h₁
  clear h₁
  refine goes_oper_k rfl rfl (by decide) (fun Kx hKx => ?_)
  go_simp
  refine hKx _ _ ⟨DF.none ?_, ?_⟩
  · intro e he
    have hm := mem_listed he
    simp [go_sem, *] at hm
  clear hKx Kx
  refine Goes.step rfl (fun _ h₁ => ?_)
  replace hF := hF.at h₁
  clear h₁
  have hz1 := zr_cell hF.zr
  have hz2 := zr_frozen hF.zr
  refine goes_oper_k rfl rfl (by decide) (fun Kx hKx => ?_)
  go_simp
  refine hKx _ _ ⟨fun e he => ?_, ?_⟩
  · have hm := mem_listed he
    simp [go_sem, storedEv, *] at hm
    subst hm
    exact evF_cell (hF.p.p.p.ns (b := nb + 4) (by omega)) (by show nb + 4 < _; omega)
  clear hKx Kx hz1 hz2
  replace hF := hF.store
  refine Goes.step rfl (fun _ h₁ => ?_)
  replace hF := hF.at h₁
  clear h₁
  rw [stepG_region_end]
  simp only [goes_go]
  refine ⟨DF.none (by intro e he; simp at he), ?_⟩
  refine Goes.step rfl (fun _ h₁ => ?_)
  replace hF := hF.at h₁
  clear h₁
  rw [stepG_seq]
  simp only [goes_go]
  refine ⟨DF.none (by intro e he; simp at he), ?_⟩
  refine Goes.step rfl (fun _ h₁ => ?_)
  replace hF := hF.at h₁
  clear h₁
  rw [stepG_region]
  simp only [goes_go, List.size_toArray, List.length_cons, List.length_nil, Nat.reduceAdd, Nat.zero_add, List.range, List.range.loop]
  refine ⟨DF.none (by intro e he; simp at he), ?_⟩
  refine Goes.step rfl (fun _ h₁ => ?_)
  replace hF := hF.at h₁
  clear h₁
  refine goes_oper_k rfl rfl (by decide) (fun Kx hKx => ?_)
  have hz := hF.bx.cell
  go_simp
  refine hKx _ _ ⟨fun e he => ?_, ?_⟩
  · have hm := mem_listed he
    simp [go_sem, *] at hm
    subst hm
    exact evF_cell (hF.ns (b := nb + 1) (by have := hF.ord; omega)) (by show nb + 1 < _; omega)
  clear hKx Kx hz
  refine Goes.step rfl (fun _ h₁ => ?_)
  replace hF := hF.at h₁
  clear h₁
  refine goes_oper_k rfl rfl (by decide) (fun Kx hKx => ?_)
  go_simp
  refine hKx _ _ ⟨DF.none ?_, ?_⟩
  · intro e he
    have hm := mem_listed he
    simp [go_sem, *] at hm
  clear hKx Kx
  refine Goes.step rfl (fun _ h₁ => ?_)
  replace hF := hF.at h₁
  clear h₁
  refine goes_oper_k rfl rfl (by decide) (fun Kx hKx => ?_)
  go_simp
  refine hKx _ _ ⟨DF.none ?_, ?_⟩
  · intro e he
    have hm := mem_listed he
    simp [go_sem, *] at hm
  clear hKx Kx
  refine Goes.step rfl (fun _ h₁ => ?_)
  replace hF := hF.at h₁
  clear h₁
  rw [stepG_region_end]
  simp only [goes_go]
  refine ⟨DF.none (by intro e he; simp at he), ?_⟩
  refine Goes.step rfl (fun _ h₁ => ?_)
  replace hF := hF.at h₁
  clear h₁
  rw [stepG_block]
  simp only [goes_go]
  refine ⟨DF.none (by intro e he; simp at he), ?_⟩
  refine Goes.step rfl (fun _ h₁ => ?_)
  replace hF := hF.at h₁
  clear h₁
  rw [stepG_loop]
  simp only [goes_go]
  refine ⟨DF.none (by intro e he; simp at he), ?_⟩
  refine Goes.stop (fun w₁ h₁ => ⟨by have := (hF.at h₁).sz; omega, hK _ w₁ ⟨by simp, by simp, by simp, by simp, by simp, by simp⟩ ?_⟩)
  exact { hF.at h₁ with sz := Nat.le_refl _, ord := by have := hF.ord; have := (hF.at h₁).sz; omega }
noncomputable def R36 : Code := afterThree (Try.f36.body.getD .skip)
noncomputable def R36b : Code := afterOne R36
section
variable {W w : World} {c : Nat} {S : Nat → Prop} {r nb nx nd nl X : Nat} {b₀ : Frame} {a₀ : Act} {ops₀ : Array Oper} {i₀ : Nat} {rest₀ : List Nat} {k₀ : List Item} {cs : List Frame}
set_option maxRecDepth 100000 in
set_option maxHeartbeats 4000000 in
theorem row_out (hr : r ≤ 60) (hF : RK w.heap.size W S r nb nx nd nl X (r + 1) .ready (fun i => bin r i) w) :
    BW Try.prog c S (G ((base 36).at ⟨T36 r nb nx, [{ target := .collected nd, args := #[] }]⟩ (.endRangeFunc nl :: [.inBlock 0, .code R36b])) ((b₀.at a₀ (.inRegion ops₀ (i₀ :: rest₀) :: k₀)) :: cs)) w (RowEnd c S (b₀.at a₀ (.inRegion ops₀ (i₀ :: rest₀) :: k₀)) cs r W) := by
  simp only [T36]
  simp only [R36, R36b, afterThree, afterOne, Try.f36, Option.getD_some]
  have hsz := hF.sz
  refine BW.walk 300 ?_
  refine Goes.step rfl (fun _ h₁ => ?_)
  replace hF := hF.at h₁
  clear h₁
  rw [stepG_endRangeFunc hF.lp (by intro h; cases h) rfl]
  simp only [goes_go]
  refine ⟨df_loop (by have := hF.ord; omega), ?_⟩
  replace hF := hF.out (.loop { rec36 r nb nx nd .ready with state := .exhausted })
  refine Goes.step rfl (fun _ h₁ => ?_)
  replace hF := hF.at h₁
  clear h₁
  rw [stepG_inBlock]
  simp only [goes_go]
  refine ⟨DF.none (by intro e he; simp at he), ?_⟩
  refine Goes.step rfl (fun _ h₁ => ?_)
  replace hF := hF.at h₁
  clear h₁
  rw [stepG_seq]
  simp only [goes_go]
  refine ⟨DF.none (by intro e he; simp at he), ?_⟩
  refine Goes.step rfl (fun _ h₁ => ?_)
  replace hF := hF.at h₁
  clear h₁
  rw [stepG_region]
  simp only [goes_go, List.size_toArray, List.length_cons, List.length_nil, Nat.reduceAdd, Nat.zero_add, List.range, List.range.loop]
  refine ⟨DF.none (by intro e he; simp at he), ?_⟩
  refine Goes.step rfl (fun _ h₁ => ?_)
  replace hF := hF.at h₁
  clear h₁
  refine goes_oper_k rfl rfl (by decide) (fun Kx hKx => ?_)
  have hz := hF.box.cell
  go_simp
  refine hKx _ _ ⟨fun e he => ?_, ?_⟩
  · have hm := mem_listed he
    simp [go_sem, *] at hm
    subst hm
    exact evF_cell (hF.ns (b := nb) (by have := hF.ord; omega)) (by have := hF.ord; show nb < _; omega)
  clear hKx Kx hz
  refine Goes.step rfl (fun _ h₁ => ?_)
  replace hF := hF.at h₁
  clear h₁
  refine goes_callF rfl rfl (by decide) rfl Try.func41 nm_clone rfl ⟨DF.none (by intro e he; simp at he), ?_⟩
  walk_nrm
  refine Goes.stop (fun w₁ h₁ => ⟨(hF.at h₁).sz, ?_⟩)
  replace hF := hF.at h₁
  clear h₁
  refine (clone_beside (n := r + 1) (N := r + 1) (by omega) (Nat.le_refl _) (by omega) (hF.ns (by have := hF.ord; omega)) hF.row hF.kf.rows).bind fun c2 S2 g2 w2 hp => ?_
  obtain ⟨g, cap, hg, hF2⟩ := hF.copy hp.eS hp
  replace hF := hF2
  clear hF2
  obtain rfl := hp.ec
  obtain rfl := hp.eS
  subst hg
  clear hp
  rw [Frame.finish_at]
  refine BW.walk 300 ?_
  walk_nrm
  refine Goes.step rfl (fun _ h₁ => ?_)
  replace hF := hF.at h₁
  clear h₁
  refine goes_oper_k rfl rfl (by decide) (fun Kx hKx => ?_)
  go_simp
  refine hKx _ _ ⟨DF.none ?_, ?_⟩
  · intro e he
    have hm := mem_listed he
    simp [go_sem, *] at hm
  clear hKx Kx
  refine Goes.step rfl (fun _ h₁ => ?_)
  replace hF := hF.at h₁
  clear h₁
  rw [stepG_region_end]
  simp only [goes_go]
  refine ⟨DF.none (by intro e he; simp at he), ?_⟩
  refine Goes.step rfl (fun _ h₁ => ?_)
  replace hF := hF.at h₁
  clear h₁
  rw [stepG_ret']
  simp only [goes_go]
  refine ⟨DF.none (by intro e he; simp at he), ?_⟩
  refine Goes.step rfl (fun _ h₁ => ?_)
  replace hF := hF.at h₁
  clear h₁
  rw [stepG_collected hF.dfr]
  simp only [goes_go, List.nil_append]
  refine ⟨df_loop (by have := hF.ord; omega), ?_⟩
  replace hF := hF.taken (.deferred none)
  refine Goes.step rfl (fun _ h₁ => ?_)
  replace hF := hF.at h₁
  clear h₁
  refine goes_leave1 (t := 2) rfl rfl Try.func36 rfl ⟨DF.none (by intro e he; simp at he), ?_⟩
  refine Goes.stop (fun w₁ h₁ => ⟨(hF.at h₁).sz, BW.now ⟨rfl, rfl, ⟨g, cap, ?_, (hF.at h₁).hg, (hF.at h₁).row⟩, (hF.at h₁).kf⟩⟩)
  rw [Frame.finish_at]
  simp
set_option maxRecDepth 100000 in
set_option maxHeartbeats 4000000 in
theorem row_mid (hr : r ≤ 60) (hF : RP 1 W S nb w) :
    BW Try.prog c S (G ((base 36).at ⟨#[.int .i64 r, undef, .slice none 0 0, .pointer (some ⟨nb, 0, none⟩), undef, .int .i64 r, .bool true, .bool false, undef, undef, undef, undef, undef, undef], []⟩ [.code R36]) ((b₀.at a₀ (.inRegion ops₀ (i₀ :: rest₀) :: k₀)) :: cs)) w (RowEnd c S (b₀.at a₀ (.inRegion ops₀ (i₀ :: rest₀) :: k₀)) cs r W) := by
  simp only [R36, afterThree, Try.f36, Option.getD_some]
  refine BW.walk 300 ?_
  have hsz := hF.sz
  refine Goes.step rfl (fun _ h₁ => ?_)
  replace hF := hF.at h₁
  clear h₁
  rw [stepG_seq]
  simp only [goes_go]
  refine ⟨DF.none (by intro e he; simp at he), ?_⟩
  refine Goes.step rfl (fun _ h₁ => ?_)
  replace hF := hF.at h₁
  clear h₁
  rw [stepG_seq]
  simp only [goes_go]
  refine ⟨DF.none (by intro e he; simp at he), ?_⟩
  refine Goes.step rfl (fun _ h₁ => ?_)
  replace hF := hF.at h₁
  clear h₁
  rw [stepG_region]
  simp only [goes_go, List.size_toArray, List.length_cons, List.length_nil, Nat.reduceAdd, Nat.zero_add, List.range, List.range.loop]
  refine ⟨DF.none (by intro e he; simp at he), ?_⟩
  refine Goes.step rfl (fun _ h₁ => ?_)
  replace hF := hF.at h₁
  clear h₁
  refine goes_oper_k rfl rfl (by decide) (fun Kx hKx => ?_)
  go_simp
  refine hKx _ _ ⟨DF.none ?_, ?_⟩
  · intro e he
    have hm := mem_listed he
    simp [go_sem, *] at hm
  clear hKx Kx
  refine Goes.step rfl (fun _ h₁ => ?_)
  replace hF := hF.at h₁
  clear h₁
  refine goes_callF rfl rfl (by decide) rfl Try.func40 nm_rowsTo rfl ⟨DF.none (by intro e he; simp at he), ?_⟩
  walk_nrm
  refine Goes.stop (fun w₁ h₁ => ⟨by have := (hF.at h₁).sz; omega, ?_⟩)
  replace hF := hF.at h₁
  clear h₁
  refine (rowsTo_beside r hF.kf.rows).bind fun c2 S2 g2 w2 hp => ?_
  have hg := hp.eg
  rw [hF.sz] at hg
  replace hF := hF.made hp.eS hp
  obtain rfl := hp.ec
  obtain rfl := hp.eS
  subst hg
  clear hp hsz
  rw [Frame.finish_at]
  refine BW.walk 300 ?_
  have hsz := hF.p.sz
  walk_nrm
  refine Goes.step rfl (fun _ h₁ => ?_)
  replace hF := hF.at h₁
  clear h₁
  rw [stepG_region_end]
  simp only [goes_go]
  refine ⟨DF.none (by intro e he; simp at he), ?_⟩
  refine Goes.step rfl (fun _ h₁ => ?_)
  replace hF := hF.at h₁
  clear h₁
  rw [stepG_block]
  simp only [goes_go]
  refine ⟨DF.none (by intro e he; simp at he), ?_⟩
  refine Goes.step rfl (fun _ h₁ => ?_)
  replace hF := hF.at h₁
  clear h₁
  have hz := hF.p.sz
  rw [stepG_rangeFunc (F := 46) (cap := #[.pointer (some ⟨nb + 1, 0, none⟩)]) (by decide) rfl Try.func46 nm_rowsTo1 rfl]
  simp only [goes_go]
  refine ⟨DF.none (by intro e he; simp at he), ?_⟩
  rw [hz]
  replace hF := hF.enter
  clear hz
  refine Goes.stop (fun w₁ h₁ => ⟨by have := (hF.at h₁).p.p.sz; omega, row_itp hr (hF.at h₁) fun T' w' hT' hF' => row_loop hr (fun w2 hF2 => ?_) (r + 1) 0 T' w' (by omega) hT' hF'⟩)
  rw [finish_range]
  exact row_out hr hF2
set_option maxRecDepth 100000 in
set_option maxHeartbeats 4000000 in
theorem rowOf_in (hr : r ≤ 60) (hrows : Rows1 S W) :
    BW Try.prog c S (G (Frame.enter Try.prog 36 #[.int .i64 r] .normal) ((b₀.at a₀ (.inRegion ops₀ (i₀ :: rest₀) :: k₀)) :: cs)) W (RowEnd c S (b₀.at a₀ (.inRegion ops₀ (i₀ :: rest₀) :: k₀)) cs r W) := by
  have hlow := (KF.refl hrows).lt
  have hF : KN W.heap.size W S S W := ⟨KF.refl hrows, Nat.le_refl _⟩
  rw [enter_at _ Try.func36 rfl]
  refine BW.walk 200 ?_
  walk_nrmf Try.f36
  refine Goes.step rfl (fun _ h₁ => ?_)
  replace hF := hF.at h₁
  clear h₁
  rw [stepG_seq]
  simp only [goes_go]
  refine ⟨DF.none (by intro e he; simp at he), ?_⟩
  refine Goes.step rfl (fun _ h₁ => ?_)
  replace hF := hF.at h₁
  clear h₁
  rw [stepG_region]
  simp only [goes_go, List.size_toArray, List.length_cons, List.length_nil, Nat.zero_add, List.range, List.range.loop]
  refine ⟨DF.none (by intro e he; simp at he), ?_⟩
  refine Goes.step rfl (fun _ h₁ => ?_)
  replace hF := hF.at h₁
  clear h₁
  refine goes_oper_k rfl rfl (by decide) (fun Kx hKx => ?_)
  go_simp
  refine hKx _ _ ⟨DF.none ?_, ?_⟩
  · intro e he
    have hm := mem_listed he
    simp [go_sem, *] at hm
  clear hKx Kx
  refine Goes.step rfl (fun _ h₁ => ?_)
  replace hF := hF.at h₁
  clear h₁
  rw [stepG_region_end]
  simp only [goes_go]
  refine ⟨DF.none (by intro e he; simp at he), ?_⟩
  refine Goes.step rfl (fun _ h₁ => ?_)
  replace hF := hF.at h₁
  clear h₁
  rw [stepG_seq]
  simp only [goes_go]
  refine ⟨DF.none (by intro e he; simp at he), ?_⟩
  refine Goes.step rfl (fun _ h₁ => ?_)
  replace hF := hF.at h₁
  clear h₁
  rw [stepG_seq]
  simp only [goes_go]
  refine ⟨DF.none (by intro e he; simp at he), ?_⟩
  refine Goes.step rfl (fun _ h₁ => ?_)
  replace hF := hF.at h₁
  clear h₁
  rw [stepG_region]
  simp only [goes_go, List.size_toArray, List.length_cons, List.length_nil, Nat.reduceAdd, Nat.zero_add, List.range, List.range.loop]
  refine ⟨DF.none (by intro e he; simp at he), ?_⟩
  refine Goes.step rfl (fun _ h₁ => ?_)
  replace hF := hF.at h₁
  clear h₁
  refine goes_oper_k rfl rfl (by decide) (fun Kx hKx => ?_)
  go_simp
  refine hKx _ _ ⟨DF.none ?_, ?_⟩
  · intro e he
    have hm := mem_listed he
    simp [go_sem, *] at hm
  clear hKx Kx
  refine Goes.step rfl (fun _ h₁ => ?_)
  replace hF := hF.at h₁
  clear h₁
  refine goes_callF rfl rfl (by decide) rfl Try.func32 nm_within rfl ⟨DF.none (by intro e he; simp at he), ?_⟩
  walk_nrm
  refine Goes.stop (fun w₁ h₁ => ⟨(hF.at h₁).sz, ?_⟩)
  replace hF := hF.at h₁
  clear h₁
  refine (pure_beside kok7 rfl (fun v => withinT r 60 (by omega) (by omega) v) hF.kf.rows).bind fun c2 S2 g2 w2 hp => ?_
  have hpk := hp.kf
  obtain rfl := hp.ec
  obtain rfl := hp.eS
  obtain rfl := hp.eg
  clear hp
  replace hF := KN.mk (hF.kf.trans hpk) (Nat.le_refl _)
  clear hpk
  rw [Frame.finish_at]
  refine BW.walk 300 ?_
  walk_nrm
  refine Goes.step rfl (fun _ h₁ => ?_)
  replace hF := hF.at h₁
  clear h₁
  refine goes_oper_k rfl rfl (by decide) (fun Kx hKx => ?_)
  go_simp
  refine hKx _ _ ⟨DF.none ?_, ?_⟩
  · intro e he
    have hm := mem_listed he
    simp [go_sem, *] at hm
  clear hKx Kx
  refine Goes.step rfl (fun _ h₁ => ?_)
  replace hF := hF.at h₁
  clear h₁
  rw [stepG_region_end]
  simp only [goes_go]
  refine ⟨DF.none (by intro e he; simp at he), ?_⟩
  refine Goes.step rfl (fun _ h₁ => ?_)
  replace hF := hF.at h₁
  clear h₁
  rw [stepG_cond (t := false) (by first | rfl | (simp [Act.eval]; omega))]
  simp only [goes_go, Bool.false_eq_true, ↓reduceIte]
  refine ⟨DF.none (by intro e he; simp at he), ?_⟩
  refine Goes.step rfl (fun _ h₁ => ?_)
  replace hF := hF.at h₁
  clear h₁
  rw [stepG_skip]
  simp only [goes_go]
  refine ⟨DF.none (by intro e he; simp at he), ?_⟩
  refine Goes.step rfl (fun _ h₁ => ?_)
  replace hF := hF.at h₁
  clear h₁
  rw [stepG_seq]
  simp only [goes_go]
  refine ⟨DF.none (by intro e he; simp at he), ?_⟩
  refine Goes.step rfl (fun _ h₁ => ?_)
  replace hF := hF.at h₁
  clear h₁
  rw [stepG_region]
  simp only [goes_go, List.size_toArray, List.length_cons, List.length_nil, Nat.zero_add, List.range, List.range.loop]
  refine ⟨DF.none (by intro e he; simp at he), ?_⟩
  refine Goes.step rfl (fun _ h₁ => ?_)
  replace hF := hF.at h₁
  clear h₁
  have hN := hF.sz
  refine goes_oper_k rfl rfl (by decide) (fun Kx hKx => ?_)
  go_simp
  refine hKx _ _ ⟨DF.none ?_, ?_⟩
  · intro e he
    have hm := mem_listed he
    simp [go_sem, *] at hm
  clear hKx Kx
  replace hF := RP.first hF hlow
  refine Goes.step rfl (fun _ h₁ => ?_)
  replace hF := hF.at h₁
  clear h₁
  rw [stepG_region_end]
  simp only [goes_go]
  refine ⟨DF.none (by intro e he; simp at he), ?_⟩
  exact Goes.stop (fun w₁ h₁ => ⟨by have := (hF.at h₁).sz; omega, row_mid hr (hF.at h₁)⟩)
end
end
end Go.Proofs.Ytehmobcfbifocaa
/-
  The program's CellOf and the laws' own alive, walked beside goroutines that only leave. Made by gen_cell7.py.
-/
namespace Go.Proofs.Ytehmobcfbifocaa
open Go Go.Conc Go.ConcN Go.RowKit Go.Conc.Lib Go.ConcR.Gen Go.ConcN.Gen
open Go.ConcR (KK wgBlock WgAt stA smA rd wr mk Payload Aside2 DC0 ofEvent_cell)

theorem nm_RowOf : (Try.f36.name == "runtime.NumGoroutine") = false := by kernel_rfl
theorem nm_CellOf : (Try.f17.name == "runtime.NumGoroutine") = false := by kernel_rfl
theorem nm_cellAt : (Try.f35.name == "runtime.NumGoroutine") = false := by kernel_rfl
section
variable {W : World} {c : Nat} {S : Nat → Prop} {b₀ : Frame} {a₀ : Act} {ops₀ : Array Oper} {i₀ : Nat} {rest₀ : List Nat} {k₀ : List Item} {cs : List Frame}
set_option maxRecDepth 100000 in
set_option maxHeartbeats 4000000 in
theorem cellOf1 (row place : Int) (h : row < 0 ∨ 60 < row) (hrows : Rows1 S W) :
    BW Try.prog c S (G (Frame.enter Try.prog 17 #[.int .i64 row, .int .i64 place] .normal) ((b₀.at a₀ (.inRegion ops₀ (i₀ :: rest₀) :: k₀)) :: cs)) W (TaintAt c 0 S (b₀.at a₀ (.inRegion ops₀ (i₀ :: rest₀) :: k₀)) cs (.int .i64 (-1)) W) := by
  have hF : KN W.heap.size W S S W := ⟨KF.refl hrows, Nat.le_refl _⟩
  rw [enter_at _ Try.func17 rfl]
  refine BW.walk 200 ?_
  walk_nrmf Try.f17
  refine Goes.step rfl (fun _ h₁ => ?_)
  replace hF := hF.at h₁
  clear h₁
  rw [stepG_seq]
  simp only [goes_go]
  refine ⟨DF.none (by intro e he; simp at he), ?_⟩
  refine Goes.step rfl (fun _ h₁ => ?_)
  replace hF := hF.at h₁
  clear h₁
  rw [stepG_region]
  simp only [goes_go, List.size_toArray, List.length_cons, List.length_nil, Nat.zero_add, List.range, List.range.loop]
  refine ⟨DF.none (by intro e he; simp at he), ?_⟩
  refine Goes.step rfl (fun _ h₁ => ?_)
  replace hF := hF.at h₁
  clear h₁
  refine goes_oper_k rfl rfl (by decide) (fun Kx hKx => ?_)
  go_simp
  refine hKx _ _ ⟨DF.none ?_, ?_⟩
  · intro e he
    have hm := mem_listed he
    simp [go_sem, *] at hm
  clear hKx Kx
  refine Goes.step rfl (fun _ h₁ => ?_)
  replace hF := hF.at h₁
  clear h₁
  rw [stepG_region_end]
  simp only [goes_go]
  refine ⟨DF.none (by intro e he; simp at he), ?_⟩
  refine Goes.step rfl (fun _ h₁ => ?_)
  replace hF := hF.at h₁
  clear h₁
  rw [stepG_seq]
  simp only [goes_go]
  refine ⟨DF.none (by intro e he; simp at he), ?_⟩
  refine Goes.step rfl (fun _ h₁ => ?_)
  replace hF := hF.at h₁
  clear h₁
  rw [stepG_seq]
  simp only [goes_go]
  refine ⟨DF.none (by intro e he; simp at he), ?_⟩
  refine Goes.step rfl (fun _ h₁ => ?_)
  replace hF := hF.at h₁
  clear h₁
  rw [stepG_region]
  simp only [goes_go, List.size_toArray, List.length_cons, List.length_nil, Nat.reduceAdd, Nat.zero_add, List.range, List.range.loop]
  refine ⟨DF.none (by intro e he; simp at he), ?_⟩
  refine Goes.step rfl (fun _ h₁ => ?_)
  replace hF := hF.at h₁
  clear h₁
  refine goes_oper_k rfl rfl (by decide) (fun Kx hKx => ?_)
  go_simp
  refine hKx _ _ ⟨DF.none ?_, ?_⟩
  · intro e he
    have hm := mem_listed he
    simp [go_sem, *] at hm
  clear hKx Kx
  refine Goes.step rfl (fun _ h₁ => ?_)
  replace hF := hF.at h₁
  clear h₁
  refine goes_callF rfl rfl (by decide) rfl Try.func32 nm_within rfl ⟨DF.none (by intro e he; simp at he), ?_⟩
  walk_nrm
  refine Goes.stop (fun w₁ h₁ => ⟨(hF.at h₁).sz, ?_⟩)
  replace hF := hF.at h₁
  clear h₁
  refine (pure_beside kok7 rfl (fun v => withinF row 60 h v) hF.kf.rows).bind fun c2 S2 g2 w2 hp => ?_
  have hpk := hp.kf
  obtain rfl := hp.ec
  obtain rfl := hp.eS
  obtain rfl := hp.eg
  clear hp
  replace hF := KN.mk (hF.kf.trans hpk) (Nat.le_refl _)
  clear hpk
  rw [Frame.finish_at]
  refine BW.walk 300 ?_
  walk_nrm
  refine Goes.step rfl (fun _ h₁ => ?_)
  replace hF := hF.at h₁
  clear h₁
  refine goes_oper_k rfl rfl (by decide) (fun Kx hKx => ?_)
  go_simp
  refine hKx _ _ ⟨DF.none ?_, ?_⟩
  · intro e he
    have hm := mem_listed he
    simp [go_sem, *] at hm
  clear hKx Kx
  refine Goes.step rfl (fun _ h₁ => ?_)
  replace hF := hF.at h₁
  clear h₁
  refine goes_oper_k rfl rfl (by decide) (fun Kx hKx => ?_)
  go_simp
  refine hKx _ _ ⟨DF.none ?_, ?_⟩
  · intro e he
    have hm := mem_listed he
    simp [go_sem, *] at hm
  clear hKx Kx
  refine Goes.step rfl (fun _ h₁ => ?_)
  replace hF := hF.at h₁
  clear h₁
  rw [stepG_unwanted rfl rfl]
  simp only [goes_go]
  refine ⟨DF.none (by intro e he; simp at he), ?_⟩
  walk_nrm
  refine Goes.step rfl (fun _ h₁ => ?_)
  replace hF := hF.at h₁
  clear h₁
  rw [stepG_unwanted rfl rfl]
  simp only [goes_go]
  refine ⟨DF.none (by intro e he; simp at he), ?_⟩
  walk_nrm
  refine Goes.step rfl (fun _ h₁ => ?_)
  replace hF := hF.at h₁
  clear h₁
  refine goes_oper_k rfl rfl (by decide) (fun Kx hKx => ?_)
  go_simp
  refine hKx _ _ ⟨DF.none ?_, ?_⟩
  · intro e he
    have hm := mem_listed he
    simp [go_sem, *] at hm
  clear hKx Kx
  refine Goes.step rfl (fun _ h₁ => ?_)
  replace hF := hF.at h₁
  clear h₁
  rw [stepG_region_end]
  simp only [goes_go]
  refine ⟨DF.none (by intro e he; simp at he), ?_⟩
  refine Goes.step rfl (fun _ h₁ => ?_)
  replace hF := hF.at h₁
  clear h₁
  rw [stepG_cond (t := true) (by first | rfl | (simp [Act.eval]; omega))]
  simp only [goes_go, ↓reduceIte]
  refine ⟨DF.none (by intro e he; simp at he), ?_⟩
  refine Goes.step rfl (fun _ h₁ => ?_)
  replace hF := hF.at h₁
  clear h₁
  rw [stepG_seq]
  simp only [goes_go]
  refine ⟨DF.none (by intro e he; simp at he), ?_⟩
  refine Goes.step rfl (fun _ h₁ => ?_)
  replace hF := hF.at h₁
  clear h₁
  rw [stepG_region]
  simp only [goes_go, List.size_toArray, List.length_cons, List.length_nil, Nat.zero_add, List.range, List.range.loop]
  refine ⟨DF.none (by intro e he; simp at he), ?_⟩
  refine Goes.step rfl (fun _ h₁ => ?_)
  replace hF := hF.at h₁
  clear h₁
  refine goes_oper_k rfl rfl (by decide) (fun Kx hKx => ?_)
  go_simp
  refine hKx _ _ ⟨DF.none ?_, ?_⟩
  · intro e he
    have hm := mem_listed he
    simp [go_sem, *] at hm
  clear hKx Kx
  refine Goes.step rfl (fun _ h₁ => ?_)
  replace hF := hF.at h₁
  clear h₁
  rw [stepG_region_end]
  simp only [goes_go]
  refine ⟨DF.none (by intro e he; simp at he), ?_⟩
  refine Goes.step rfl (fun _ h₁ => ?_)
  replace hF := hF.at h₁
  clear h₁
  rw [stepG_ret']
  simp only [goes_go]
  refine ⟨DF.none (by intro e he; simp at he), ?_⟩
  refine Goes.step rfl (fun _ h₁ => ?_)
  replace hF := hF.at h₁
  clear h₁
  refine goes_leave1 (t := 4) rfl rfl Try.func17 rfl ⟨DF.none (by intro e he; simp at he), ?_⟩
  refine Goes.stop (fun w₁ h₁ => ⟨(hF.at h₁).sz, BW.now ⟨by omega, ?_, (hF.at h₁).kf⟩⟩)
  rw [Frame.finish_at]
  simp
set_option maxRecDepth 100000 in
set_option maxHeartbeats 4000000 in
theorem cellOf2 (row place : Int) (h0 : 0 ≤ row ∧ row ≤ 60) (h : place < 0) (hrows : Rows1 S W) :
    BW Try.prog c S (G (Frame.enter Try.prog 17 #[.int .i64 row, .int .i64 place] .normal) ((b₀.at a₀ (.inRegion ops₀ (i₀ :: rest₀) :: k₀)) :: cs)) W (TaintAt c 0 S (b₀.at a₀ (.inRegion ops₀ (i₀ :: rest₀) :: k₀)) cs (.int .i64 (-1)) W) := by
  have hF : KN W.heap.size W S S W := ⟨KF.refl hrows, Nat.le_refl _⟩
  rw [enter_at _ Try.func17 rfl]
  refine BW.walk 200 ?_
  walk_nrmf Try.f17
  refine Goes.step rfl (fun _ h₁ => ?_)
  replace hF := hF.at h₁
  clear h₁
  rw [stepG_seq]
  simp only [goes_go]
  refine ⟨DF.none (by intro e he; simp at he), ?_⟩
  refine Goes.step rfl (fun _ h₁ => ?_)
  replace hF := hF.at h₁
  clear h₁
  rw [stepG_region]
  simp only [goes_go, List.size_toArray, List.length_cons, List.length_nil, Nat.zero_add, List.range, List.range.loop]
  refine ⟨DF.none (by intro e he; simp at he), ?_⟩
  refine Goes.step rfl (fun _ h₁ => ?_)
  replace hF := hF.at h₁
  clear h₁
  refine goes_oper_k rfl rfl (by decide) (fun Kx hKx => ?_)
  go_simp
  refine hKx _ _ ⟨DF.none ?_, ?_⟩
  · intro e he
    have hm := mem_listed he
    simp [go_sem, *] at hm
  clear hKx Kx
  refine Goes.step rfl (fun _ h₁ => ?_)
  replace hF := hF.at h₁
  clear h₁
  rw [stepG_region_end]
  simp only [goes_go]
  refine ⟨DF.none (by intro e he; simp at he), ?_⟩
  refine Goes.step rfl (fun _ h₁ => ?_)
  replace hF := hF.at h₁
  clear h₁
  rw [stepG_seq]
  simp only [goes_go]
  refine ⟨DF.none (by intro e he; simp at he), ?_⟩
  refine Goes.step rfl (fun _ h₁ => ?_)
  replace hF := hF.at h₁
  clear h₁
  rw [stepG_seq]
  simp only [goes_go]
  refine ⟨DF.none (by intro e he; simp at he), ?_⟩
  refine Goes.step rfl (fun _ h₁ => ?_)
  replace hF := hF.at h₁
  clear h₁
  rw [stepG_region]
  simp only [goes_go, List.size_toArray, List.length_cons, List.length_nil, Nat.reduceAdd, Nat.zero_add, List.range, List.range.loop]
  refine ⟨DF.none (by intro e he; simp at he), ?_⟩
  refine Goes.step rfl (fun _ h₁ => ?_)
  replace hF := hF.at h₁
  clear h₁
  refine goes_oper_k rfl rfl (by decide) (fun Kx hKx => ?_)
  go_simp
  refine hKx _ _ ⟨DF.none ?_, ?_⟩
  · intro e he
    have hm := mem_listed he
    simp [go_sem, *] at hm
  clear hKx Kx
  refine Goes.step rfl (fun _ h₁ => ?_)
  replace hF := hF.at h₁
  clear h₁
  refine goes_callF rfl rfl (by decide) rfl Try.func32 nm_within rfl ⟨DF.none (by intro e he; simp at he), ?_⟩
  walk_nrm
  refine Goes.stop (fun w₁ h₁ => ⟨(hF.at h₁).sz, ?_⟩)
  replace hF := hF.at h₁
  clear h₁
  refine (pure_beside kok7 rfl (fun v => withinT row 60 (by omega) (by omega) v) hF.kf.rows).bind fun c2 S2 g2 w2 hp => ?_
  have hpk := hp.kf
  obtain rfl := hp.ec
  obtain rfl := hp.eS
  obtain rfl := hp.eg
  clear hp
  replace hF := KN.mk (hF.kf.trans hpk) (Nat.le_refl _)
  clear hpk
  rw [Frame.finish_at]
  refine BW.walk 300 ?_
  walk_nrm
  refine Goes.step rfl (fun _ h₁ => ?_)
  replace hF := hF.at h₁
  clear h₁
  refine goes_oper_k rfl rfl (by decide) (fun Kx hKx => ?_)
  go_simp
  refine hKx _ _ ⟨DF.none ?_, ?_⟩
  · intro e he
    have hm := mem_listed he
    simp [go_sem, *] at hm
  clear hKx Kx
  refine Goes.step rfl (fun _ h₁ => ?_)
  replace hF := hF.at h₁
  clear h₁
  refine goes_oper_k rfl rfl (by decide) (fun Kx hKx => ?_)
  go_simp
  refine hKx _ _ ⟨DF.none ?_, ?_⟩
  · intro e he
    have hm := mem_listed he
    simp [go_sem, *] at hm
  clear hKx Kx
  refine Goes.step rfl (fun _ h₁ => ?_)
  replace hF := hF.at h₁
  clear h₁
  refine goes_oper_k rfl rfl (by decide) (fun Kx hKx => ?_)
  go_simp
  refine hKx _ _ ⟨DF.none ?_, ?_⟩
  · intro e he
    have hm := mem_listed he
    simp [go_sem, *] at hm
  clear hKx Kx
  refine Goes.step rfl (fun _ h₁ => ?_)
  replace hF := hF.at h₁
  clear h₁
  refine goes_oper_k rfl rfl (by decide) (fun Kx hKx => ?_)
  go_simp
  refine hKx _ _ ⟨DF.none ?_, ?_⟩
  · intro e he
    have hm := mem_listed he
    simp [go_sem, *] at hm
  clear hKx Kx
  refine Goes.step rfl (fun _ h₁ => ?_)
  replace hF := hF.at h₁
  clear h₁
  refine goes_oper_k rfl rfl (by decide) (fun Kx hKx => ?_)
  go_simp
  refine hKx _ _ ⟨DF.none ?_, ?_⟩
  · intro e he
    have hm := mem_listed he
    simp [go_sem, *] at hm
  clear hKx Kx
  refine Goes.step rfl (fun _ h₁ => ?_)
  replace hF := hF.at h₁
  clear h₁
  rw [stepG_region_end]
  simp only [goes_go]
  refine ⟨DF.none (by intro e he; simp at he), ?_⟩
  refine Goes.step rfl (fun _ h₁ => ?_)
  replace hF := hF.at h₁
  clear h₁
  rw [stepG_cond (t := true) (by first | rfl | (simp [Act.eval]; omega))]
  simp only [goes_go, ↓reduceIte]
  refine ⟨DF.none (by intro e he; simp at he), ?_⟩
  refine Goes.step rfl (fun _ h₁ => ?_)
  replace hF := hF.at h₁
  clear h₁
  rw [stepG_seq]
  simp only [goes_go]
  refine ⟨DF.none (by intro e he; simp at he), ?_⟩
  refine Goes.step rfl (fun _ h₁ => ?_)
  replace hF := hF.at h₁
  clear h₁
  rw [stepG_region]
  simp only [goes_go, List.size_toArray, List.length_cons, List.length_nil, Nat.zero_add, List.range, List.range.loop]
  refine ⟨DF.none (by intro e he; simp at he), ?_⟩
  refine Goes.step rfl (fun _ h₁ => ?_)
  replace hF := hF.at h₁
  clear h₁
  refine goes_oper_k rfl rfl (by decide) (fun Kx hKx => ?_)
  go_simp
  refine hKx _ _ ⟨DF.none ?_, ?_⟩
  · intro e he
    have hm := mem_listed he
    simp [go_sem, *] at hm
  clear hKx Kx
  refine Goes.step rfl (fun _ h₁ => ?_)
  replace hF := hF.at h₁
  clear h₁
  rw [stepG_region_end]
  simp only [goes_go]
  refine ⟨DF.none (by intro e he; simp at he), ?_⟩
  refine Goes.step rfl (fun _ h₁ => ?_)
  replace hF := hF.at h₁
  clear h₁
  rw [stepG_ret']
  simp only [goes_go]
  refine ⟨DF.none (by intro e he; simp at he), ?_⟩
  refine Goes.step rfl (fun _ h₁ => ?_)
  replace hF := hF.at h₁
  clear h₁
  refine goes_leave1 (t := 4) rfl rfl Try.func17 rfl ⟨DF.none (by intro e he; simp at he), ?_⟩
  refine Goes.stop (fun w₁ h₁ => ⟨(hF.at h₁).sz, BW.now ⟨by omega, ?_, (hF.at h₁).kf⟩⟩)
  rw [Frame.finish_at]
  simp
set_option maxRecDepth 100000 in
set_option maxHeartbeats 4000000 in
theorem cellOf3 (r p : Nat) (hr : r ≤ 60) (hrows : Rows1 S W) :
    BW Try.prog c S (G (Frame.enter Try.prog 17 #[.int .i64 r, .int .i64 p] .normal) ((b₀.at a₀ (.inRegion ops₀ (i₀ :: rest₀) :: k₀)) :: cs)) W (TaintAt c 0 S (b₀.at a₀ (.inRegion ops₀ (i₀ :: rest₀) :: k₀)) cs (.int .i64 (bin r p)) W) := by
  have hp0 : ¬ (p : Int) < 0 := by omega
  have hlow := (KF.refl hrows).lt
  have hF : KN W.heap.size W S S W := ⟨KF.refl hrows, Nat.le_refl _⟩
  rw [enter_at _ Try.func17 rfl]
  refine BW.walk 200 ?_
  walk_nrmf Try.f17
  refine Goes.step rfl (fun _ h₁ => ?_)
  replace hF := hF.at h₁
  clear h₁
  rw [stepG_seq]
  simp only [goes_go]
  refine ⟨DF.none (by intro e he; simp at he), ?_⟩
  refine Goes.step rfl (fun _ h₁ => ?_)
  replace hF := hF.at h₁
  clear h₁
  rw [stepG_region]
  simp only [goes_go, List.size_toArray, List.length_cons, List.length_nil, Nat.zero_add, List.range, List.range.loop]
  refine ⟨DF.none (by intro e he; simp at he), ?_⟩
  refine Goes.step rfl (fun _ h₁ => ?_)
  replace hF := hF.at h₁
  clear h₁
  refine goes_oper_k rfl rfl (by decide) (fun Kx hKx => ?_)
  go_simp
  refine hKx _ _ ⟨DF.none ?_, ?_⟩
  · intro e he
    have hm := mem_listed he
    simp [go_sem, *] at hm
  clear hKx Kx
  refine Goes.step rfl (fun _ h₁ => ?_)
  replace hF := hF.at h₁
  clear h₁
  rw [stepG_region_end]
  simp only [goes_go]
  refine ⟨DF.none (by intro e he; simp at he), ?_⟩
  refine Goes.step rfl (fun _ h₁ => ?_)
  replace hF := hF.at h₁
  clear h₁
  rw [stepG_seq]
  simp only [goes_go]
  refine ⟨DF.none (by intro e he; simp at he), ?_⟩
  refine Goes.step rfl (fun _ h₁ => ?_)
  replace hF := hF.at h₁
  clear h₁
  rw [stepG_seq]
  simp only [goes_go]
  refine ⟨DF.none (by intro e he; simp at he), ?_⟩
  refine Goes.step rfl (fun _ h₁ => ?_)
  replace hF := hF.at h₁
  clear h₁
  rw [stepG_region]
  simp only [goes_go, List.size_toArray, List.length_cons, List.length_nil, Nat.reduceAdd, Nat.zero_add, List.range, List.range.loop]
  refine ⟨DF.none (by intro e he; simp at he), ?_⟩
  refine Goes.step rfl (fun _ h₁ => ?_)
  replace hF := hF.at h₁
  clear h₁
  refine goes_oper_k rfl rfl (by decide) (fun Kx hKx => ?_)
  go_simp
  refine hKx _ _ ⟨DF.none ?_, ?_⟩
  · intro e he
    have hm := mem_listed he
    simp [go_sem, *] at hm
  clear hKx Kx
  refine Goes.step rfl (fun _ h₁ => ?_)
  replace hF := hF.at h₁
  clear h₁
  refine goes_callF rfl rfl (by decide) rfl Try.func32 nm_within rfl ⟨DF.none (by intro e he; simp at he), ?_⟩
  walk_nrm
  refine Goes.stop (fun w₁ h₁ => ⟨(hF.at h₁).sz, ?_⟩)
  replace hF := hF.at h₁
  clear h₁
  refine (pure_beside kok7 rfl (fun v => withinT r 60 (by omega) (by omega) v) hF.kf.rows).bind fun c2 S2 g2 w2 hp => ?_
  have hpk := hp.kf
  obtain rfl := hp.ec
  obtain rfl := hp.eS
  obtain rfl := hp.eg
  clear hp
  replace hF := KN.mk (hF.kf.trans hpk) (Nat.le_refl _)
  clear hpk
  rw [Frame.finish_at]
  refine BW.walk 300 ?_
  walk_nrm
  refine Goes.step rfl (fun _ h₁ => ?_)
  replace hF := hF.at h₁
  clear h₁
  refine goes_oper_k rfl rfl (by decide) (fun Kx hKx => ?_)
  go_simp
  refine hKx _ _ ⟨DF.none ?_, ?_⟩
  · intro e he
    have hm := mem_listed he
    simp [go_sem, *] at hm
  clear hKx Kx
  refine Goes.step rfl (fun _ h₁ => ?_)
  replace hF := hF.at h₁
  clear h₁
  refine goes_oper_k rfl rfl (by decide) (fun Kx hKx => ?_)
  go_simp
  refine hKx _ _ ⟨DF.none ?_, ?_⟩
  · intro e he
    have hm := mem_listed he
    simp [go_sem, *] at hm
  clear hKx Kx
  refine Goes.step rfl (fun _ h₁ => ?_)
  replace hF := hF.at h₁
  clear h₁
  refine goes_oper_k rfl rfl (by decide) (fun Kx hKx => ?_)
  go_simp
  refine hKx _ _ ⟨DF.none ?_, ?_⟩
  · intro e he
    have hm := mem_listed he
    simp [go_sem, *] at hm
  clear hKx Kx
  refine Goes.step rfl (fun _ h₁ => ?_)
  replace hF := hF.at h₁
  clear h₁
  refine goes_oper_k rfl rfl (by decide) (fun Kx hKx => ?_)
  go_simp
  refine hKx _ _ ⟨DF.none ?_, ?_⟩
  · intro e he
    have hm := mem_listed he
    simp [go_sem, *] at hm
  clear hKx Kx
  refine Goes.step rfl (fun _ h₁ => ?_)
  replace hF := hF.at h₁
  clear h₁
  refine goes_oper_k rfl rfl (by decide) (fun Kx hKx => ?_)
  go_simp
  refine hKx _ _ ⟨DF.none ?_, ?_⟩
  · intro e he
    have hm := mem_listed he
    simp [go_sem, *] at hm
  clear hKx Kx
  refine Goes.step rfl (fun _ h₁ => ?_)
  replace hF := hF.at h₁
  clear h₁
  rw [stepG_region_end]
  simp only [goes_go]
  refine ⟨DF.none (by intro e he; simp at he), ?_⟩
  refine Goes.step rfl (fun _ h₁ => ?_)
  replace hF := hF.at h₁
  clear h₁
  rw [stepG_cond (t := false) (by first | rfl | (simp [Act.eval]; omega))]
  simp only [goes_go, Bool.false_eq_true, ↓reduceIte]
  refine ⟨DF.none (by intro e he; simp at he), ?_⟩
  refine Goes.step rfl (fun _ h₁ => ?_)
  replace hF := hF.at h₁
  clear h₁
  rw [stepG_skip]
  simp only [goes_go]
  refine ⟨DF.none (by intro e he; simp at he), ?_⟩
  refine Goes.step rfl (fun _ h₁ => ?_)
  replace hF := hF.at h₁
  clear h₁
  rw [stepG_seq]
  simp only [goes_go]
  refine ⟨DF.none (by intro e he; simp at he), ?_⟩
  refine Goes.step rfl (fun _ h₁ => ?_)
  replace hF := hF.at h₁
  clear h₁
  rw [stepG_region]
  simp only [goes_go, List.size_toArray, List.length_cons, List.length_nil, Nat.reduceAdd, Nat.zero_add, List.range, List.range.loop]
  refine ⟨DF.none (by intro e he; simp at he), ?_⟩
  refine Goes.step rfl (fun _ h₁ => ?_)
  replace hF := hF.at h₁
  clear h₁
  refine goes_oper_k rfl rfl (by decide) (fun Kx hKx => ?_)
  go_simp
  refine hKx _ _ ⟨DF.none ?_, ?_⟩
  · intro e he
    have hm := mem_listed he
    simp [go_sem, *] at hm
  clear hKx Kx
  refine Goes.step rfl (fun _ h₁ => ?_)
  replace hF := hF.at h₁
  clear h₁
  refine goes_callF rfl rfl (by decide) rfl Try.func36 nm_RowOf rfl ⟨DF.none (by intro e he; simp at he), ?_⟩
  walk_nrm
  refine Goes.stop (fun w₁ h₁ => ⟨(hF.at h₁).sz, ?_⟩)
  replace hF := hF.at h₁
  clear h₁
  refine (rowOf_in hr hF.kf.rows).bind fun c2 S2 g2 w2 hp => ?_
  obtain ⟨g, cap, hg, hge, hrow⟩ := hp.ex
  have hws := hF.kf.kept.size
  replace hF := RE.mk (hF.kf.trans hp.kf) (Nat.le_refl _) (by omega : W.heap.size ≤ g) hrow
  obtain rfl := hp.ec
  obtain rfl := hp.eS
  subst hg
  clear hp hge hrow hws
  rw [Frame.finish_at]
  refine BW.walk 300 ?_
  walk_nrm
  refine Goes.step rfl (fun _ h₁ => ?_)
  replace hF := hF.at h₁
  clear h₁
  refine goes_oper_k rfl rfl (by decide) (fun Kx hKx => ?_)
  go_simp
  refine hKx _ _ ⟨DF.none ?_, ?_⟩
  · intro e he
    have hm := mem_listed he
    simp [go_sem, *] at hm
  clear hKx Kx
  refine Goes.step rfl (fun _ h₁ => ?_)
  replace hF := hF.at h₁
  clear h₁
  refine goes_callF rfl rfl (by decide) rfl Try.func35 nm_cellAt rfl ⟨DF.none (by intro e he; simp at he), ?_⟩
  walk_nrm
  refine Goes.stop (fun w₁ h₁ => ⟨(hF.at h₁).sz, ?_⟩)
  replace hF := hF.at h₁
  clear h₁
  refine (cellAt_beside (n := r + 1) (N := r + 1) (f := fun i => bin r i) (p := p) (Nat.le_refl _) (fun hs => by have := hlow g hs; have := hF.hg; omega) hF.row (fun i hi => by rw [bin_over r i (by omega)]; rfl) hF.kf.rows).bind fun c2 S2 g2 w2 hp => ?_
  have hk := hp.kf
  replace hF := KN.mk (hF.kf.trans hk) (Nat.le_refl _)
  have hg := hp.eg
  obtain rfl := hp.ec
  obtain rfl := hp.eS
  subst hg
  clear hp hk
  rw [Frame.finish_at]
  refine BW.walk 300 ?_
  walk_nrm
  refine Goes.step rfl (fun _ h₁ => ?_)
  replace hF := hF.at h₁
  clear h₁
  refine goes_oper_k rfl rfl (by decide) (fun Kx hKx => ?_)
  go_simp
  refine hKx _ _ ⟨DF.none ?_, ?_⟩
  · intro e he
    have hm := mem_listed he
    simp [go_sem, *] at hm
  clear hKx Kx
  refine Goes.step rfl (fun _ h₁ => ?_)
  replace hF := hF.at h₁
  clear h₁
  rw [stepG_region_end]
  simp only [goes_go]
  refine ⟨DF.none (by intro e he; simp at he), ?_⟩
  refine Goes.step rfl (fun _ h₁ => ?_)
  replace hF := hF.at h₁
  clear h₁
  rw [stepG_ret']
  simp only [goes_go]
  refine ⟨DF.none (by intro e he; simp at he), ?_⟩
  refine Goes.step rfl (fun _ h₁ => ?_)
  replace hF := hF.at h₁
  clear h₁
  refine goes_leave1 (t := 4) rfl rfl Try.func17 rfl ⟨DF.none (by intro e he; simp at he), ?_⟩
  refine Goes.stop (fun w₁ h₁ => ⟨(hF.at h₁).sz, BW.now ⟨by omega, ?_, (hF.at h₁).kf⟩⟩)
  rw [Frame.finish_at]
  simp
theorem cellOfIs {row place z : Int} (h : cellV row place = z) (hrows : Rows1 S W) :
    BW Try.prog c S (G (Frame.enter Try.prog 17 #[.int .i64 row, .int .i64 place] .normal) ((b₀.at a₀ (.inRegion ops₀ (i₀ :: rest₀) :: k₀)) :: cs)) W (TaintAt c 0 S (b₀.at a₀ (.inRegion ops₀ (i₀ :: rest₀) :: k₀)) cs (.int .i64 z) W) := by
  subst h
  by_cases h1 : row < 0 ∨ 60 < row
  · rw [cellV_bad (by omega)]
    exact cellOf1 row place h1 hrows
  · by_cases h2 : place < 0
    · rw [cellV_bad (by omega)]
      exact cellOf2 row place (by omega) h2 hrows
    · obtain ⟨r, rfl⟩ : ∃ r : Nat, row = r := ⟨row.toNat, by omega⟩
      obtain ⟨p, rfl⟩ : ∃ p : Nat, place = p := ⟨place.toNat, by omega⟩
      rw [cellV_nat (by omega)]
      exact cellOf3 r p (by omega) hrows
set_option maxRecDepth 100000 in
set_option maxHeartbeats 4000000 in
theorem aliveB   (hrows : Rows1 S W) :
    BW Try.prog c S (G (Frame.enter Try.prog 16 #[] .normal) ((b₀.at a₀ (.inRegion ops₀ (i₀ :: rest₀) :: k₀)) :: cs)) W (TaintAt c 0 S (b₀.at a₀ (.inRegion ops₀ (i₀ :: rest₀) :: k₀)) cs (.bool true) W) := by
  have hF : KN W.heap.size W S S W := ⟨KF.refl hrows, Nat.le_refl _⟩
  rw [enter_at _ Try.func16 rfl]
  refine BW.walk 200 ?_
  walk_nrmf Try.f16
  refine Goes.step rfl (fun _ h₁ => ?_)
  replace hF := hF.at h₁
  clear h₁
  rw [stepG_seq]
  simp only [goes_go]
  refine ⟨DF.none (by intro e he; simp at he), ?_⟩
  refine Goes.step rfl (fun _ h₁ => ?_)
  replace hF := hF.at h₁
  clear h₁
  rw [stepG_region]
  simp only [goes_go, List.size_toArray, List.length_cons, List.length_nil, Nat.zero_add, List.range, List.range.loop]
  refine ⟨DF.none (by intro e he; simp at he), ?_⟩
  refine Goes.step rfl (fun _ h₁ => ?_)
  replace hF := hF.at h₁
  clear h₁
  refine goes_oper_k rfl rfl (by decide) (fun Kx hKx => ?_)
  go_simp
  refine hKx _ _ ⟨DF.none ?_, ?_⟩
  · intro e he
    have hm := mem_listed he
    simp [go_sem, *] at hm
  clear hKx Kx
  refine Goes.step rfl (fun _ h₁ => ?_)
  replace hF := hF.at h₁
  clear h₁
  rw [stepG_region_end]
  simp only [goes_go]
  refine ⟨DF.none (by intro e he; simp at he), ?_⟩
  refine Goes.step rfl (fun _ h₁ => ?_)
  replace hF := hF.at h₁
  clear h₁
  rw [stepG_seq]
  simp only [goes_go]
  refine ⟨DF.none (by intro e he; simp at he), ?_⟩
  refine Goes.step rfl (fun _ h₁ => ?_)
  replace hF := hF.at h₁
  clear h₁
  rw [stepG_region]
  simp only [goes_go, List.size_toArray, List.length_cons, List.length_nil, Nat.reduceAdd, Nat.zero_add, List.range, List.range.loop]
  refine ⟨DF.none (by intro e he; simp at he), ?_⟩
  refine Goes.step rfl (fun _ h₁ => ?_)
  replace hF := hF.at h₁
  clear h₁
  refine goes_callF rfl rfl (by decide) rfl Try.func17 nm_CellOf rfl ⟨DF.none (by intro e he; simp at he), ?_⟩
  walk_nrm
  refine Goes.stop (fun w₁ h₁ => ⟨(hF.at h₁).sz, ?_⟩)
  replace hF := hF.at h₁
  clear h₁
  refine (cellOfIs (show cellV 4 2 = 6 by decide) hF.kf.rows).bind fun c2 S2 g2 w2 hp => ?_
  obtain ⟨hc2, rfl, hpk⟩ := hp
  replace hF := KN.mk (hF.kf.trans hpk) (Nat.le_refl _)
  clear hpk
  rw [Frame.finish_at]
  refine BW.walk 300 ?_
  walk_nrm
  refine Goes.step rfl (fun _ h₁ => ?_)
  replace hF := hF.at h₁
  clear h₁
  refine goes_oper_k rfl rfl (by decide) (fun Kx hKx => ?_)
  go_simp
  refine hKx _ _ ⟨DF.none ?_, ?_⟩
  · intro e he
    have hm := mem_listed he
    simp [go_sem, *] at hm
  clear hKx Kx
  refine Goes.step rfl (fun _ h₁ => ?_)
  replace hF := hF.at h₁
  clear h₁
  refine goes_oper_k rfl rfl (by decide) (fun Kx hKx => ?_)
  go_simp
  refine hKx _ _ ⟨DF.none ?_, ?_⟩
  · intro e he
    have hm := mem_listed he
    simp [go_sem, *] at hm
  clear hKx Kx
  refine Goes.step rfl (fun _ h₁ => ?_)
  replace hF := hF.at h₁
  clear h₁
  refine goes_callF rfl rfl (by decide) rfl Try.func17 nm_CellOf rfl ⟨DF.none (by intro e he; simp at he), ?_⟩
  walk_nrm
  refine Goes.stop (fun w₁ h₁ => ⟨(hF.at h₁).sz, ?_⟩)
  replace hF := hF.at h₁
  clear h₁
  refine (cellOfIs (show cellV (-1) 0 = -1 by decide) hF.kf.rows).bind fun c2 S2 g2 w2 hp => ?_
  obtain ⟨hc3, rfl, hpk⟩ := hp
  replace hF := KN.mk (hF.kf.trans hpk) (Nat.le_refl _)
  clear hpk
  rw [Frame.finish_at]
  refine BW.walk 300 ?_
  walk_nrm
  refine Goes.step rfl (fun _ h₁ => ?_)
  replace hF := hF.at h₁
  clear h₁
  refine goes_oper_k rfl rfl (by decide) (fun Kx hKx => ?_)
  go_simp
  refine hKx _ _ ⟨DF.none ?_, ?_⟩
  · intro e he
    have hm := mem_listed he
    simp [go_sem, *] at hm
  clear hKx Kx
  refine Goes.step rfl (fun _ h₁ => ?_)
  replace hF := hF.at h₁
  clear h₁
  refine goes_oper_k rfl rfl (by decide) (fun Kx hKx => ?_)
  go_simp
  refine hKx _ _ ⟨DF.none ?_, ?_⟩
  · intro e he
    have hm := mem_listed he
    simp [go_sem, *] at hm
  clear hKx Kx
  refine Goes.step rfl (fun _ h₁ => ?_)
  replace hF := hF.at h₁
  clear h₁
  refine goes_oper_k rfl rfl (by decide) (fun Kx hKx => ?_)
  go_simp
  refine hKx _ _ ⟨DF.none ?_, ?_⟩
  · intro e he
    have hm := mem_listed he
    simp [go_sem, *] at hm
  clear hKx Kx
  refine Goes.step rfl (fun _ h₁ => ?_)
  replace hF := hF.at h₁
  clear h₁
  rw [stepG_region_end]
  simp only [goes_go]
  refine ⟨DF.none (by intro e he; simp at he), ?_⟩
  refine Goes.step rfl (fun _ h₁ => ?_)
  replace hF := hF.at h₁
  clear h₁
  rw [stepG_ret']
  simp only [goes_go]
  refine ⟨DF.none (by intro e he; simp at he), ?_⟩
  refine Goes.step rfl (fun _ h₁ => ?_)
  replace hF := hF.at h₁
  clear h₁
  refine goes_leave1 (t := 0) rfl rfl Try.func16 rfl ⟨DF.none (by intro e he; simp at he), ?_⟩
  refine Goes.stop (fun w₁ h₁ => ⟨(hF.at h₁).sz, BW.now ⟨by omega, ?_, (hF.at h₁).kf⟩⟩)
  rw [Frame.finish_at]
  simp
end
end Go.Proofs.Ytehmobcfbifocaa
