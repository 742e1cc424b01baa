/-
  The draws of chapter 12: deeds; what the laws on desks draw.
-/
import Derived.Test.YtimnhedjapakhaaDraw12b
import Derived.Test.YtimnhedjapakhaaSpec12g
import Derived.Test.YtimnhedjapakhaaL12Z
namespace Go.Proofs.Ytimnhedjapakhaa
open Go Go.RowKit
attribute [local go_sem] Oper.semAt_some

theorem isRow_below {k : IntKind} {w w' : World} {a : Option Addr} {len cap : Nat} {zs : List Int} (h : IsRow k w a len cap zs) (hB : Below w.heap.size w w') : IsRow k w' a len cap zs := by
  rcases h with h | ⟨x, h1, h2, h3, h4, h5, h6⟩
  · exact .inl h
  · exact .inr ⟨x, h1, h2, h3, h4, fun i hi => (hB.cell (p := x.add i) (World.block_lt_of_cell? w _ (h5 i hi))).trans (h5 i hi), h6⟩
theorem drawDeskOk (w : World) (a : Option Addr) (len cap : Nat) (zs : List Int) (h : IsRow .u8 w a len cap zs) : Calls Try.prog 8 #[.slice a len cap] w fun e w' => ∃ y d, e = .returned y ∧ DeskI w' y d ∧ DkZ d ∧ Below w.heap.size w w' := by
  have k0 := World.alloc_heap_new w (.cells #[.slice none 0 0, .slice none 0 0] 26)
  have z0 := World.size_alloc w (.cells #[.slice none 0 0, .slice none 0 0] 26)
  have b0 := (Below.refl _ w).alloc (Nat.le_refl _) (.cells #[.slice none 0 0, .slice none 0 0] 26)
  have ho := fun V (hB : Below w.heap.size w V) => open_in V a len cap zs (isRow_below h hB)
  obtain ⟨w1, hw1⟩ : ∃ w1, w.alloc (.cells #[.slice none 0 0, .slice none 0 0] 26) = w1 := ⟨_, rfl⟩
  rw [hw1] at k0 z0 b0
  have z1 : w.heap.size + 1 ≤ w1.heap.size := by omega
  clear z0
  go_enter Try.func8, Try.ntmps8
  go_wp2_with fail
  go_at_call 32
  refine (ho _ b0).mono ?_
  rintro e w2 ⟨R, n, c, rfl, hb, hR⟩
  go_wp2_with fail
  go_at_call 31
  refine (l20Desk_in w1 R n c _ a 2 (by omega) (by omega) _ hb hR (by omega)).mono ?_
  rintro e w3 ⟨y, d, rfl, hY, hlo, hdz, p', hp', hR3, hg3⟩
  have hB3 := hR3.1
  have kr := (hB3.block _ (Array.getElem?_eq_some_iff.1 k0).1).trans k0
  have hz2 := hR.1.size
  obtain ⟨y1, y2, y3, y4, rfl⟩ := hY.form
  have hYf := hide ((hY.set (i := 0) (s := y1) (m := d.1.length) (e := y2) kr).set (i := 1) (s := y3) (m := d.2.length) (e := y4) (set_cells kr 0 _)).deskI
  have hBf := hide (((b0.trans (hB3.mono b0.size)).setCell (p := ⟨w.heap.size, 0, none⟩) (Nat.le_refl _) (.slice y1 d.1.length y2)).setCell (p := ⟨w.heap.size, 1, none⟩) (Nat.le_refl _) (.slice y3 d.2.length y4))
  have hres := hide (desk_set kr (.slice y1 d.1.length y2) (.slice y3 d.2.length y4))
  obtain ⟨r0, r1, t0, t1⟩ := row_at kr
  clear hY hlo hR3 hg3 hB3 kr hR hb
  go_wp2
  exact bodyPost_ret (results_desk rfl _ _ w.heap.size _ _ rfl hres.out) rfl ⟨_, d, rfl, hYf.out, hdz, hBf.out⟩
end Go.Proofs.Ytimnhedjapakhaa
