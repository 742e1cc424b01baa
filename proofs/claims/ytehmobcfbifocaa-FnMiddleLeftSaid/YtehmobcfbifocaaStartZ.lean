/-
  A call of sumInLots: the phase that it is, and what is asked of it.
-/
import Derived.Test.YtehmobcfbifocaaWork4
namespace Go.Proofs.Ytehmobcfbifocaa
open Go Go.Conc Go.ConcN Go.RowKit
open Go.ConcR (KK wgBlock WgAt stA smA rd wr mk Payload Aside2 DC0)

/-- A call: how many goroutines there were, the heap's size, the rows' blocks, how many cells are made, the rows' capacities and lengths, by, the row before, what is shunned, how long the trace is. -/
structure StP where
  j0 : Nat
  N0 : Nat
  C : Nat
  Bb : Nat
  n : Nat
  nC : Nat
  capC : Nat
  capB : Nat
  by' : Int
  row : Nat → Int
  rest : Nat → Value
  Sh : Loc → Prop
  t0 : Nat
/-- How many lots. -/
def StP.lots (S : StP) : Nat := (S.n + 63) / 64
def StP.fr (S : StP) (i : Nat) : Nat := 64 * (i - S.j0)
def StP.lot (S : StP) (i o : Nat) : Prop := S.fr i ≤ o ∧ o < min (S.fr i + 64) S.n
def StP.work (S : StP) (i : Nat) : WkP := ⟨S.N0 + 4 + (i - S.j0), S.N0, S.N0 + 1, S.N0 + 2, S.Bb, S.n, S.capC, S.capB, S.fr i, S.by', S.row⟩
def StP.own (S : StP) (k : Nat) (l : Loc) : Prop := S.j0 < k ∧ ∃ o, S.lot (k - 1) o ∧ l = .cell ⟨S.C, o, none⟩
def StP.rd (S : StP) (k : Nat) (l : Loc) : Prop := S.j0 < k ∧ k ≤ S.j0 + S.lots ∧ ∃ b o, (S.work (k - 1)).rd b ∧ l = .cell ⟨b, o, none⟩
def StP.B (S : StP) : Nat := S.N0 + 5 + S.lots
noncomputable def StP.ph (S : StP) : Ph where
  P := Try.prog
  ty := wgl.tWg
  Wg := S.N0 + 3
  C := S.C
  nC := S.nC
  j0 := S.j0
  n := S.lots
  B := S.B
  t0 := S.t0
  Low := fun J => S.N0 + 4 + (J - S.j0)
  lot := S.lot
  rep := S.fr
  val := fun o => if o < S.n then .int .i64 (sumOf (S.work S.j0) o) else S.rest o
  Own := S.own
  Rd := S.rd
  ShA := fun l => S.Sh l ∨ ShN (S.N0 + 3) l
  Bad := fun l => S.Sh l ∨ ¬ l.low S.B
structure StP.Fit (S : StP) : Prop where
  C : S.C < S.N0
  Bb : S.Bb < S.N0
  ne : S.C ≠ S.Bb
  n : 1 ≤ S.n ∧ S.n ≤ 1000 ∧ S.n ≤ S.nC ∧ S.n ≤ S.capC ∧ S.n ≤ S.capB
  j0 : S.j0 ≤ 100000
  sh : ∀ l, S.Sh l → ∃ a, l = .cell a ∧ a.block < S.N0 ∧ a.block ≠ S.C ∧ a.block ≠ S.Bb
  byOk : 2 ≤ S.by' ∧ S.by' ≤ 100000
  rowOk : ∀ o, o < S.n → 0 ≤ S.row o ∧ S.row o < S.by'

section
variable {S : StP}
theorem StP.work_rd {i b : Nat} : (S.work i).rd b ↔ b = S.N0 + 4 + (i - S.j0) ∨ b = S.N0 ∨ b = S.N0 + 1 ∨ b = S.N0 + 2 ∨ b = S.Bb := Iff.rfl
theorem StP.lots_spec (F : S.Fit) : 64 * (S.lots - 1) < S.n ∧ S.n ≤ 64 * S.lots ∧ 1 ≤ S.lots ∧ S.lots ≤ 16 := by
  have := F.n
  unfold StP.lots
  omega
theorem StP.ok (F : S.Fit) : S.ph.Ok := by
  have hl := S.lots_spec F
  have hn := F.n
  have hC := F.C
  have hB := F.Bb
  have hj := F.j0
  have hne := F.ne
  have nsh : ∀ a : Addr, (a.block = S.C ∨ a.block = S.Bb ∨ S.N0 ≤ a.block) → ¬ S.Sh (.cell a) := fun a ha h => by
    obtain ⟨a', e, h1, h2, h3⟩ := F.sh _ h
    cases e
    omega
  refine ⟨fun i h1 h2 => ?_, fun i i' o h1 h2 h3 h4 => ?_, ⟨fun k k' l h h' => ?_, fun k k' l h h' => ?_, fun k l h h' => ?_, fun k l h h' => ?_⟩, fun k hk l => ⟨fun h => ?_, fun h => ?_⟩, fun l h => .inr h, fun l h h' => ?_, fun k l h => ?_, fun k l h => ?_, ?_, fun l h => ?_, fun a b h => ?_, ?_, ?_, ?_, ?_⟩
  · show S.fr i ≤ S.fr i ∧ S.fr i < min (S.fr i + 64) S.n
    have h3 : i < S.j0 + S.lots := h2
    unfold StP.fr
    omega
  · obtain ⟨a1, a2⟩ := h3
    obtain ⟨a3, a4⟩ := h4
    have b1 : S.j0 ≤ i := h1
    have b2 : S.j0 ≤ i' := h2
    unfold StP.fr at a1 a2 a3 a4
    omega
  · obtain ⟨h1, o, ⟨a1, a2⟩, rfl⟩ := h
    obtain ⟨h2, o', ⟨a3, a4⟩, e⟩ := h'
    cases e
    unfold StP.fr at a1 a2 a3 a4
    omega
  · obtain ⟨h1, o, _, rfl⟩ := h
    obtain ⟨h2, _, b, o', hb, e⟩ := h'
    cases e
    rw [StP.work_rd] at hb
    omega
  · obtain ⟨h1, o, _, rfl⟩ := h
    rcases h' with h' | ⟨a, e, hb⟩
    · exact nsh _ (.inl rfl) h'
    · cases e
      have : S.C = S.N0 + 3 := hb
      omega
  · obtain ⟨h1, _, b, o, hb, rfl⟩ := h
    rw [StP.work_rd] at hb
    rcases h' with h' | ⟨a, e, hb'⟩
    · exact nsh ⟨b, o, none⟩ (by show b = S.C ∨ b = S.Bb ∨ S.N0 ≤ b; omega) h'
    · cases e
      have : b = S.N0 + 3 := hb'
      omega
  · exact absurd h.1 (Nat.not_lt.2 hk)
  · exact absurd h.1 (Nat.not_lt.2 hk)
  · rcases h with h | h
    · exact .inl h
    · exact absurd h h'
  · obtain ⟨_, o, _, rfl⟩ := h
    show S.C < S.B
    unfold StP.B
    omega
  · obtain ⟨h1, h2, b, o, hb, rfl⟩ := h
    rw [StP.work_rd] at hb
    show b < S.B
    unfold StP.B
    omega
  · show S.N0 + 3 < S.B
    unfold StP.B
    omega
  · exact Classical.byContradiction fun h' => h (.inr h')
  · show S.N0 + 4 + (a - S.j0) ≤ S.N0 + 4 + (b - S.j0)
    omega
  · show S.N0 + 3 < S.N0 + 4 + (S.j0 - S.j0)
    omega
  · show S.C < S.N0 + 4 + (S.j0 - S.j0)
    omega
  · show S.C ≠ S.N0 + 3
    omega
  · show S.j0 + S.lots < 2147483648
    omega
theorem StP.workOk (F : S.Fit) {i : Nat} (h1 : S.j0 ≤ i) (h2 : i < S.j0 + S.lots) : (S.work i).Ok S.ph i := by
  have hl := S.lots_spec F
  have hn := F.n
  have hC := F.C
  have hB := F.Bb
  have hne := F.ne
  refine ⟨rfl, rfl, h1, h2, ?_, fun b hb => ?_, fun b o hb => ⟨by omega, by show i + 1 ≤ S.j0 + S.lots; omega, b, o, hb, rfl⟩, fun o ho => ⟨by omega, o, ho, rfl⟩, fun o => Iff.rfl, hn.2.2.1, ⟨hn.2.1, hn.2.2.2.1, hn.2.2.2.2⟩, ?_, fun o ho => if_pos (show o < S.n by have h2 := ho.2; omega), F.byOk, F.rowOk⟩
  · show S.N0 + 3 ≠ S.C
    omega
  · rw [StP.work_rd] at hb
    show b < S.N0 + 4 + (i + 1 - S.j0) ∧ b ≠ S.N0 + 3 ∧ b ≠ S.C
    omega
  · show S.fr i ≤ S.n
    unfold StP.fr
    omega
end
end Go.Proofs.Ytehmobcfbifocaa
/-
  What the starter of sumInLots knows of the world besides the group: its variables' blocks, what stood before; how that is kept.
-/
namespace Go.Proofs.Ytehmobcfbifocaa
open Go Go.Conc Go.ConcN Go.RowKit
open Go.ConcR (KK wgBlock WgAt stA smA rd wr mk Payload Aside2 DC0)

/-- Behind k lots' starts, the variable of the next lot being made; W: the world at the call. -/
structure SF (S : StP) (W : World) (k : Nat) (w : World) : Prop where
  tape : w.tape = W.tape
  os : w.os = W.os
  output : w.output = W.output
  size : w.heap.size = S.N0 + 5 + k
  low : ∀ b, b < S.N0 → b ≠ S.C → w.heap[b]? = W.heap[b]?
  c : w.heap[S.N0]? = some (.cells #[.slice (some ⟨S.C, 0, none⟩) S.n S.capC] 37)
  b : w.heap[S.N0 + 1]? = some (.cells #[.slice (some ⟨S.Bb, 0, none⟩) S.n S.capB] 37)
  d : w.heap[S.N0 + 2]? = some (.cells #[.int .i64 S.by'] 3)
  f : ∀ j, j ≤ k → w.heap[S.N0 + 4 + j]? = some (.cells #[.int .i64 (64 * j : Nat)] 3)
  row : ∀ o, o < S.n → w.cell? ⟨S.Bb, o, none⟩ = some (.int .i64 (S.row o))

section
variable {S : StP} {W w w₁ : World} {k : Nat}
theorem SF.aside2 (F : S.Fit) (h : SF S W k w) (ha : Aside2 S.C (S.N0 + 3) w w₁) : SF S W k w₁ := by
  have hC := F.C
  have hB := F.Bb
  have hne := F.ne
  exact ⟨ha.tape.trans h.tape, ha.os.trans h.os, ha.output.trans h.output, by rw [ha.size]; exact h.size, fun b hb hc => (ha.block b hc (by omega)).trans (h.low b hb hc),
    (ha.block _ (by omega) (by omega)).trans h.c, (ha.block _ (by omega) (by omega)).trans h.b, (ha.block _ (by omega) (by omega)).trans h.d,
    fun j hj => (ha.block _ (by omega) (by omega)).trans (h.f j hj), fun o ho => (cell_of_block (ha.block _ (by omega) (by omega)) o).trans (h.row o ho)⟩
theorem cell_one {b : Nat} {u : Value} {t : TypeId} (h : w.heap[b]? = some (.cells #[u] t)) : w.cell? ⟨b, 0, none⟩ = some u := by simp [World.cell?, h]
/-- What a worker is told holds when it is started. -/
theorem SF.work (h : SF S W k w) (hl : WgLive wgl.tWg (S.N0 + 3) w) (hp : PayAt S.C S.nC w) : WK S.ph (S.j0 + k) (S.work (S.j0 + k)) (S.work (S.j0 + k)).fr w := by
  have e : S.j0 + k - S.j0 = k := by omega
  have ef : (S.work (S.j0 + k)).fr = 64 * k := by
    show S.fr (S.j0 + k) = 64 * k
    unfold StP.fr
    rw [e]
  refine ⟨?_, cell_one h.c, cell_one h.b, cell_one h.d, h.row, hl, hp, fun o ho hlt => ?_⟩
  · rw [ef]
    have := cell_one (h.f k (Nat.le_refl k))
    show w.cell? ⟨S.N0 + 4 + (S.j0 + k - S.j0), 0, none⟩ = _
    rw [e]
    exact this
  · have h1 : S.fr (S.j0 + k) ≤ o := ho.1
    have h2 : o < S.fr (S.j0 + k) := hlt
    omega
/-- So it does its work. -/
theorem SF.works (F : S.Fit) (h : SF S W k w) (hk : k < S.lots) (hl : WgLive wgl.tWg (S.N0 + 3) w) (hp : PayAt S.C S.nC w) :
    worksG S.ph (S.j0 + k) (born Try.prog (call7 S.ph (S.work (S.j0 + k)))) w :=
  works7 (S.ok F) (S.workOk F (by omega) (by omega)) (h.work hl hp)
end
end Go.Proofs.Ytehmobcfbifocaa
/-
  Which of its own variables' accesses the starter of sumInLots may list, k lots being started.
-/
namespace Go.Proofs.Ytehmobcfbifocaa
open Go Go.Conc Go.ConcN Go.RowKit
open Go.ConcR (KK wgBlock WgAt stA smA rd wr mk Payload Aside2 DC0 ofEvent_cell)

section
variable {S : StP} {k b o : Nat} {s : Bool}
theorem StP.free (F : S.Fit) (hb : S.N0 ≤ b) (hB : b < S.B) (j : Nat) : ∀ i, 1 ≤ i → i ≤ j → ¬ ownX S.ph i (.cell ⟨b, o, none⟩) := by
  have hC := F.C
  rintro (_ | _ | i) h1 h2 h
  · omega
  · rcases h with h | h
    · obtain ⟨a, e, h3, _⟩ := F.sh _ h
      cases e
      exact absurd hb (Nat.not_le.2 h3)
    · exact h hB
  · obtain ⟨_, o', _, e⟩ := h
    cases e
    exact absurd hb (Nat.not_le.2 hC)
/-- It reads one of its own variables. -/
theorem StP.ev0_rd (F : S.Fit) (hb : S.N0 ≤ b) (hB : b < S.B) (hne : b ≠ S.N0 + 3) (j : Nat) : Ev0 (S.N0 + 3) (ownX S.ph) (rdX S.ph) j ⟨.cell ⟨b, o, none⟩, false, s⟩ := by
  refine ⟨fun fn pos => ⟨rfl, fun y hy => ?_⟩, by simp, by simp, by simp⟩
  simp only [ofEvent_cell, MemAct.touch?, Option.some.injEq] at hy
  subst hy
  exact .inr ⟨fun ⟨a', e, hb'⟩ => by cases e; exact hne hb', S.free F hb hB j, fun e => by cases e⟩
/-- It writes the variable that it is making. -/
theorem StP.ev0_wr (F : S.Fit) (hk : k ≤ S.lots) (hb : b = S.N0 + 4 + k) : Ev0 (S.N0 + 3) (ownX S.ph) (rdX S.ph) (S.j0 + k + 1) ⟨.cell ⟨b, o, none⟩, true, s⟩ := by
  have hBb := F.Bb
  have hB : b < S.B := by
    unfold StP.B
    omega
  refine ⟨fun fn pos => ⟨rfl, fun y hy => ?_⟩, by simp, by simp, by simp⟩
  simp only [ofEvent_cell, MemAct.touch?, Option.some.injEq] at hy
  subst hy
  refine .inr ⟨fun ⟨a', e, hb'⟩ => by cases e; have : b = S.N0 + 3 := hb'; omega, S.free F (by omega) hB _, fun _ => ?_⟩
  rintro (_ | _ | i) h1 h2 h
  · omega
  · exact h
  · obtain ⟨h3, h4, b', o', hr, e⟩ := h
    cases e
    rw [StP.work_rd] at hr
    omega
end
end Go.Proofs.Ytehmobcfbifocaa
