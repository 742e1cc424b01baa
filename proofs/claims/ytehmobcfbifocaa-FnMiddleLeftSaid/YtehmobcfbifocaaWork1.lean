/-
  A worker of sumInLots: what it knows of the world, and what it may do.
-/
import Derived.Test.YtehmobcfbifocaaWgLink
import Derived.Test.YtehmobcfbifocaaGang9
namespace Go.Proofs.Ytehmobcfbifocaa
open Go Go.Conc Go.ConcN Go.RowKit
open Go.ConcR (KK wgBlock WgAt stA smA rd wr mk Payload Aside2 DC0 ofEvent_cell)

/-- What a worker is given: the variables' blocks (from, cells, before, by), the block of the row before, the rows' lengths and capacities, where its lot begins, by, the row before. -/
structure WkP where
  bf : Nat
  bc : Nat
  bb : Nat
  bd : Nat
  Bb : Nat
  n : Nat
  capC : Nat
  capB : Nat
  fr : Nat
  by' : Int
  row : Nat → Int
def WkP.rd (K : WkP) (b : Nat) : Prop := b = K.bf ∨ b = K.bc ∨ b = K.bb ∨ b = K.bd ∨ b = K.Bb
/-- The cell before one, and 0 where there is none. -/
def prevOf (row : Nat → Int) : Nat → Int
  | 0 => 0
  | o + 1 => row o
def sumOf (K : WkP) (o : Nat) : Int := (prevOf K.row o + K.row o).tmod K.by'
structure WkP.Ok (K : WkP) (X : Ph) (i : Nat) : Prop where
  P : X.P = Try.prog
  ty : X.ty = wgl.tWg
  j0 : X.j0 ≤ i
  hi : i < X.N
  hCW : X.Wg ≠ X.C
  low : ∀ b, K.rd b → b < X.Low (i + 1) ∧ b ≠ X.Wg ∧ b ≠ X.C
  rdR : ∀ b o, K.rd b → X.Rd (i + 1) (.cell ⟨b, o, none⟩)
  own : ∀ o, X.lot i o → X.Own (i + 1) (.cell ⟨X.C, o, none⟩)
  lot : ∀ o, X.lot i o ↔ K.fr ≤ o ∧ o < min (K.fr + 64) K.n
  n : K.n ≤ X.nC
  small : K.n ≤ 1000 ∧ K.n ≤ K.capC ∧ K.n ≤ K.capB
  frn : K.fr ≤ K.n
  val : ∀ o, X.lot i o → X.val o = .int .i64 (sumOf K o)
  byOk : 2 ≤ K.by' ∧ K.by' ≤ 100000
  rowOk : ∀ o, o < K.n → 0 ≤ K.row o ∧ K.row o < K.by'

/-- What it knows, the cells of its lot ahead of a place being written. -/
structure WK (X : Ph) (i : Nat) (K : WkP) (p : Nat) (w : World) : Prop where
  f : w.cell? ⟨K.bf, 0, none⟩ = some (.int .i64 K.fr)
  c : w.cell? ⟨K.bc, 0, none⟩ = some (.slice (some ⟨X.C, 0, none⟩) K.n K.capC)
  b : w.cell? ⟨K.bb, 0, none⟩ = some (.slice (some ⟨K.Bb, 0, none⟩) K.n K.capB)
  d : w.cell? ⟨K.bd, 0, none⟩ = some (.int .i64 K.by')
  r : ∀ o, o < K.n → w.cell? ⟨K.Bb, o, none⟩ = some (.int .i64 (K.row o))
  live : WgLive X.ty X.Wg w
  pay : PayAt X.C X.nC w
  done : ∀ o, X.lot i o → o < p → Has X.C o (X.val o) w

section
variable {X : Ph} {i : Nat} {K : WkP} {p : Nat} {w w₁ : World}
theorem WK.rely (O : K.Ok X i) (h : WK X i K p w) (hr : RL X i w w₁) : WK X i K p w₁ := by
  have hb : ∀ b o, K.rd b → w₁.cell? ⟨b, o, none⟩ = w.cell? ⟨b, o, none⟩ := fun b o hb => by
    obtain ⟨h1, h2, h3⟩ := O.low b hb
    exact cell_of_block (hr.low b h1 h2 h3) o
  exact ⟨(hb _ _ (.inl rfl)).trans h.f, (hb _ _ (.inr (.inl rfl))).trans h.c, (hb _ _ (.inr (.inr (.inl rfl)))).trans h.b, (hb _ _ (.inr (.inr (.inr (.inl rfl))))).trans h.d,
    fun o ho => (hb _ _ (.inr (.inr (.inr (.inr rfl))))).trans (h.r o ho), hr.live h.live, hr.pay h.pay, fun o ho hp => (hr.cells o ho).trans (h.done o ho hp)⟩
theorem WK.drew (h : WK X i K p w) : WK X i K p { w with drawn := w.drawn + 1 } := ⟨h.f, h.c, h.b, h.d, h.r, h.live, h.pay, h.done⟩
theorem dl_none {es : Array Event} (h : ∀ e ∈ es, False) : DL X i w w es := ⟨AL.refl w, fun e he => (h e he).elim⟩
theorem dl_drew : DL X i w { w with drawn := w.drawn + 1 } #[] := ⟨⟨rfl, rfl, rfl, rfl, fun _ _ => rfl, id, fun _ _ => rfl⟩, fun e he => by simp at he⟩
theorem plain_cell (a : Addr) (wr : Bool) : plainE X.Wg ⟨.cell a, wr, false⟩ := fun x hx _ => by
  simp only [ofEvent_cell, MemAct.touch?, Option.some.injEq] at hx
  subst hx
  exact ⟨rfl, rfl⟩
theorem evR (O : K.Ok X i) (a : Addr) (ha : K.rd a.block) (hs : a.spot = none) : EvW X.Wg X.Own X.Rd (i + 1) ⟨.cell a, false, false⟩ ∧ plainE X.Wg ⟨.cell a, false, false⟩ := by
  refine ⟨⟨fun fn pos => ⟨rfl, fun y hy => ?_⟩, by simp, by simp, by simp⟩, plain_cell a false⟩
  simp only [ofEvent_cell, MemAct.touch?, Option.some.injEq] at hy
  subst hy
  obtain ⟨b, o, s⟩ := a
  subst hs
  exact .inr (.inr ⟨O.rdR b o ha, rfl⟩)
theorem evO (O : K.Ok X i) (o : Nat) (ho : X.lot i o) : EvW X.Wg X.Own X.Rd (i + 1) ⟨.cell ⟨X.C, o, none⟩, true, false⟩ ∧ plainE X.Wg ⟨.cell ⟨X.C, o, none⟩, true, false⟩ := by
  refine ⟨⟨fun fn pos => ⟨rfl, fun y hy => ?_⟩, by simp, by simp, by simp⟩, plain_cell _ true⟩
  simp only [ofEvent_cell, MemAct.touch?, Option.some.injEq] at hy
  subst hy
  exact .inr (.inl (O.own o ho))
/-- The write. -/
theorem al_set (h : PayAt X.C X.nC w) {o : Nat} (ho : X.lot i o) (v : Value) : AL X i w (w.setCell ⟨X.C, o, none⟩ v) := by
  have hA := aside_setCell w ⟨X.C, o, none⟩ v
  obtain ⟨arr, h1, h2⟩ := h
  have hb : (w.setCell ⟨X.C, o, none⟩ v).heap[X.C]? = some (.cells (arr.setIfInBounds o v) Payload.ety) := by
    rw [setCell_eq_setRow w X.C o arr _ (0, 0) _ h1, setRow_heap w X.C _ _ _ _ h1]
  refine ⟨hA.tape, hA.os, hA.output, hA.size, fun b hb' => hA.block b hb', fun _ => ⟨_, hb, by simpa using h2⟩, fun o' ho' => ?_⟩
  have hne : o ≠ o' := fun e => ho' (e ▸ ho)
  simp [World.cell?, hb, h1, Array.getElem?_setIfInBounds_ne hne]
theorem has_set (h : PayAt X.C X.nC w) {o : Nat} (ho : o < X.nC) (v : Value) : Has X.C o v (w.setCell ⟨X.C, o, none⟩ v) := by
  obtain ⟨arr, h1, h2⟩ := h
  have hb : (w.setCell ⟨X.C, o, none⟩ v).heap[X.C]? = some (.cells (arr.setIfInBounds o v) Payload.ety) := by
    rw [setCell_eq_setRow w X.C o arr _ (0, 0) _ h1, setRow_heap w X.C _ _ _ _ h1]
  simp [Has, World.cell?, hb, h2, ho]
theorem WK.cellAt (h : WK X i K p w) {o : Nat} (ho : o < X.nC) : ∃ u, w.cell? ⟨X.C, o, none⟩ = some u ∧ w.frozen? ⟨X.C, o, none⟩ = false := by
  obtain ⟨arr, h1, h2⟩ := h.pay
  exact ⟨arr[o]'(by omega), by simp [World.cell?, h1, h2, ho], by simp [World.frozen?, h1]⟩
theorem WK.next (O : K.Ok X i) (h : WK X i K p w) (hp : X.lot i p) : WK X i K (p + 1) (w.setCell ⟨X.C, p, none⟩ (.int .i64 (sumOf K p))) := by
  have hA := al_set h.pay hp (.int .i64 (sumOf K p))
  have hb : ∀ b o, K.rd b → (w.setCell ⟨X.C, p, none⟩ (.int .i64 (sumOf K p))).cell? ⟨b, o, none⟩ = w.cell? ⟨b, o, none⟩ := fun b o hb => cell_of_block (hA.block b (O.low b hb).2.2) o
  have hn : p < X.nC := by
    have h1 := (O.lot p).1 hp
    have h2 := O.n
    omega
  refine ⟨(hb _ _ (.inl rfl)).trans h.f, (hb _ _ (.inr (.inl rfl))).trans h.c, (hb _ _ (.inr (.inr (.inl rfl)))).trans h.b, (hb _ _ (.inr (.inr (.inr (.inl rfl))))).trans h.d,
    fun o ho => (hb _ _ (.inr (.inr (.inr (.inr rfl))))).trans (h.r o ho), ?_, hA.pay h.pay, fun o ho hop => ?_⟩
  · obtain ⟨st, sm, hl⟩ := h.live
    exact ⟨st, sm, hl.of_block (hA.block X.Wg O.hCW)⟩
  · by_cases e : o = p
    · subst e
      rw [O.val o ho]
      exact has_set h.pay hn _
    · have h1 := h.done o ho (by omega)
      have h2 : (w.setCell ⟨X.C, p, none⟩ (.int .i64 (sumOf K p))).cell? ⟨X.C, o, none⟩ = w.cell? ⟨X.C, o, none⟩ := by
        obtain ⟨arr, g1, g2⟩ := h.pay
        have hb : (w.setCell ⟨X.C, p, none⟩ (.int .i64 (sumOf K p))).heap[X.C]? = some (.cells (arr.setIfInBounds p (.int .i64 (sumOf K p))) Payload.ety) := by
          rw [setCell_eq_setRow w X.C p arr _ (0, 0) _ g1, setRow_heap w X.C _ _ _ _ g1]
        simp [World.cell?, hb, g1, Array.getElem?_setIfInBounds_ne (Ne.symm e)]
      exact h2.trans h1
end
end Go.Proofs.Ytehmobcfbifocaa
