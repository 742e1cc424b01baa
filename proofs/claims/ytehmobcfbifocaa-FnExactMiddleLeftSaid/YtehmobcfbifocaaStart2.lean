/-
  What the starter of sumInLots knows of the world besides the group: its variables' blocks, what stood before; how that is kept.
-/
import Derived.Test.YtehmobcfbifocaaStart1
namespace Go.Proofs.Ytehmobcfbifocaa
open Go Go.Conc Go.ConcN Go.RowKit
open Go.ConcR (KK wgBlock WgAt stA smA rd wr mk Payload Aside2 DC0)

/-- Behind k lots' starts, the variable of the next lot being made; W: the world at the call. -/
structure SF (S : StP) (W : World) (k : Nat) (w : World) : Prop where
  tape : w.tape = W.tape
  os : w.os = W.os
  output : w.output = W.output
  size : w.heap.size = S.N0 + 5 + k
  low : ∀ b, b < S.N0 → b ≠ S.C → w.heap[b]? = W.heap[b]?
  c : w.heap[S.N0]? = some (.cells #[.slice (some ⟨S.C, 0, none⟩) S.n S.capC] 37)
  b : w.heap[S.N0 + 1]? = some (.cells #[.slice (some ⟨S.Bb, 0, none⟩) S.n S.capB] 37)
  d : w.heap[S.N0 + 2]? = some (.cells #[.int .i64 S.by'] 3)
  f : ∀ j, j ≤ k → w.heap[S.N0 + 4 + j]? = some (.cells #[.int .i64 (64 * j : Nat)] 3)
  row : ∀ o, o < S.n → w.cell? ⟨S.Bb, o, none⟩ = some (.int .i64 (S.row o))

section
variable {S : StP} {W w w₁ : World} {k : Nat}
theorem SF.aside2 (F : S.Fit) (h : SF S W k w) (ha : Aside2 S.C (S.N0 + 3) w w₁) : SF S W k w₁ := by
  have hC := F.C
  have hB := F.Bb
  have hne := F.ne
  exact ⟨ha.tape.trans h.tape, ha.os.trans h.os, ha.output.trans h.output, by rw [ha.size]; exact h.size, fun b hb hc => (ha.block b hc (by omega)).trans (h.low b hb hc),
    (ha.block _ (by omega) (by omega)).trans h.c, (ha.block _ (by omega) (by omega)).trans h.b, (ha.block _ (by omega) (by omega)).trans h.d,
    fun j hj => (ha.block _ (by omega) (by omega)).trans (h.f j hj), fun o ho => (cell_of_block (ha.block _ (by omega) (by omega)) o).trans (h.row o ho)⟩
theorem cell_one {b : Nat} {u : Value} {t : TypeId} (h : w.heap[b]? = some (.cells #[u] t)) : w.cell? ⟨b, 0, none⟩ = some u := by simp [World.cell?, h]
/-- What a worker is told holds when it is started. -/
theorem SF.work (h : SF S W k w) (hl : WgLive wgl.tWg (S.N0 + 3) w) (hp : PayAt S.C S.nC w) : WK S.ph (S.j0 + k) (S.work (S.j0 + k)) (S.work (S.j0 + k)).fr w := by
  have e : S.j0 + k - S.j0 = k := by omega
  have ef : (S.work (S.j0 + k)).fr = 64 * k := by
    show S.fr (S.j0 + k) = 64 * k
    unfold StP.fr
    rw [e]
  refine ⟨?_, cell_one h.c, cell_one h.b, cell_one h.d, h.row, hl, hp, fun o ho hlt => ?_⟩
  · rw [ef]
    have := cell_one (h.f k (Nat.le_refl k))
    show w.cell? ⟨S.N0 + 4 + (S.j0 + k - S.j0), 0, none⟩ = _
    rw [e]
    exact this
  · have h1 : S.fr (S.j0 + k) ≤ o := ho.1
    have h2 : o < S.fr (S.j0 + k) := hlt
    omega
/-- So it does its work. -/
theorem SF.works (F : S.Fit) (h : SF S W k w) (hk : k < S.lots) (hl : WgLive wgl.tWg (S.N0 + 3) w) (hp : PayAt S.C S.nC w) :
    worksG S.ph (S.j0 + k) (born Try.prog (call7 S.ph (S.work (S.j0 + k)))) w :=
  works7 (S.ok F) (S.workOk F (by omega) (by omega)) (h.work hl hp)
end
end Go.Proofs.Ytehmobcfbifocaa
