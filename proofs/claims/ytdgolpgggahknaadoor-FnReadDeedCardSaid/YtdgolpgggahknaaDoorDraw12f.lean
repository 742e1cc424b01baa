/-
  The draws of chapter 12: a deed for its text.
-/
import Derived.Test.YtdgolpgggahknaaDoorDraw12a
namespace Go.Proofs.YtdgolpgggahknaaDoor
open Go Go.RowKit
attribute [local go_sem] Oper.semAt_some

theorem isRow_belowD {k : IntKind} {w w' : World} {a : Option Addr} {len cap : Nat} {zs : List Int} (h : IsRow k w a len cap zs) (hB : Below w.heap.size w w') : IsRow k w' a len cap zs := by
  rcases h with h | ⟨x, h1, h2, h3, h4, h5, h6⟩
  · exact .inl h
  · exact .inr ⟨x, h1, h2, h3, h4, fun i hi => (hB.cell (p := x.add i) (World.block_lt_of_cell? w _ (h5 i hi))).trans (h5 i hi), h6⟩
theorem drawDeedText (w : World) (a : Option Addr) (len cap : Nat) (zs : List Int) (h : IsRow .u8 w a len cap zs) : Calls Tryd.prog 9 #[.slice a len cap] w fun e w' => ∃ k n, Fits k ∧ Fits n ∧ e = .returned (dV k n) ∧ Below w.heap.size w w' := by
  have k0 := World.alloc_heap_new w (.cells #[.int .i64 0, .int .i64 0] 24)
  have z0 := World.size_alloc w (.cells #[.int .i64 0, .int .i64 0] 24)
  have b0 := (Below.refl _ w).alloc (Nat.le_refl _) (.cells #[.int .i64 0, .int .i64 0] 24)
  have ho := fun V (hB : Below w.heap.size w V) => open_in V a len cap zs (isRow_belowD h hB)
  obtain ⟨w1, hw1⟩ : ∃ w1, w.alloc (.cells #[.int .i64 0, .int .i64 0] 24) = w1 := ⟨_, rfl⟩
  rw [hw1] at k0 z0 b0
  have z1 : w.heap.size + 1 ≤ w1.heap.size := by omega
  clear z0
  go_enter Tryd.func9, Tryd.ntmps9
  go_wp2_with fail
  go_at_call 28
  refine (ho _ b0).mono ?_
  rintro e w2 ⟨R, n, c, rfl, hb, hR⟩
  go_wp2_with fail
  go_at_call 30
  refine (l20Side0_in w1 R n c _ a _ hb hR (by omega)).mono ?_
  rintro e w3 ⟨v, xs, rfl, hown, hx1, hx2, p3, hp3, hR3, hg3⟩
  obtain ⟨ra, rc, rfl⟩ := own_shape hown
  go_wp2_with fail
  go_at_call 29
  refine (l20Deed_in w1 R n c _ a _ hb hR3 (by omega) ra xs.length rc (by omega)).mono ?_
  rintro e w4 ⟨⟨k, m, hk, hm, rfl⟩, p4, hp4, hR4, hg4⟩
  have hB4 := hR4.1
  have kr := (hB4.block _ (Array.getElem?_eq_some_iff.1 k0).1).trans k0
  have hres := hide (deed_set kr k m)
  have hBf := hide (((b0.trans (hB4.mono b0.size)).setCell (p := ⟨w.heap.size, 0, none⟩) (Nat.le_refl _) (.int .i64 k)).setCell (p := ⟨w.heap.size, 1, none⟩) (Nat.le_refl _) (.int .i64 m))
  obtain ⟨r0, r1, t0, t1⟩ := row_atD kr
  unfold dV
  clear hown hR3 hR4 hg3 hg4 hB4 kr hR hb
  go_wp2
  refine bodyPost_ret (results_cell_row rfl _ _ w.heap.size _ #[.int .i64 k, .int .i64 m] (0, 0) _ rfl hres.out Tryd.underlying24 rfl (by kernel_rfl)) rfl ⟨k, m, hk, hm, rfl, hBf.out⟩
end Go.Proofs.YtdgolpgggahknaaDoor
