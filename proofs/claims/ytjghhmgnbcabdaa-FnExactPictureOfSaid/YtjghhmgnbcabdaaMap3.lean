/-
  The map of exponents: noExponents, and PrimeOk of the program.
-/
import Derived.Test.YtjghhmgnbcabdaaBase
import Derived.Test.YtjghhmgnbcabdaaVals3
import Derived.Test.YtjghhmgnbcabdaaFits
import Derived.Maps.Own
import Derived.Maps.OwnOps
import Derived.Maps.OwnSet
namespace Go.Proofs.Ytjghhmgnbcabdaa
open Go.RowKit Go.Maps

theorem keyI : Keyed Try.prog 3 := int_keyed Try.underlying3
theorem zeroI (w : World) : (zeroValue 3).run Try.prog w = .ok (.int .i64 0) w := by kernel_rfl
abbrev litI (z : Int) : Lit := .int .i64 z
abbrev datI (z : Int) : DataW Unit := .lit (.int .i64 z)
/-- A map of ints in block b that reads as D. -/
abbrev OwnM (w : World) (b n : Nat) (D : DataW Unit) : Prop := w.ownsMap Try.prog 3 (plainElem Try.prog 3) b n D

/-- The exponents of 1. -/
def exp0 : DataW Unit := ((((((DataW.map []).put (litI 2) (datI 0)).put (litI 3) (datI 0)).put (litI 5) (datI 0)).put (litI 7) (datI 0)).put (litI 11) (datI 0)).put (litI 13) (datI 0)
theorem exp0_eq : exp0 = .map [(litI 2, datI 0), (litI 3, datI 0), (litI 5, datI 0), (litI 7, datI 0), (litI 11, datI 0), (litI 13, datI 0)] := by rfl

/-- A number laid at a key: the run of it, as an equation. -/
theorem OwnM.update {w : World} {b n : Nat} {D : DataW Unit} (h : OwnM w b n D) (hn : n < 4000000000000000000) (p z : Int) (hp : (litI p).wf = true) (hz : (litI z).wf = true) :
    ∃ w', (Instr.mapUpdate 82 (.map (some b)) (.int .i64 p) (.int .i64 z)).run Try.prog w = .ok () w' ∧ OwnM w' b (n + 1) (D.put (litI p) (datI z)) ∧ w.grownBy w' (some b) :=
  World.ownsMap.update h keyI Try.underlying82 (by unfold maxLen; omega) (keyOf_int_mk Try.underlying3 hp) (plainElem_int Try.underlying3 hz)

set_option maxHeartbeats 1000000 in
theorem noExp (w : World) : Calls Try.prog 51 #[] w fun e w' => e = .returned (.map (some w.heap.size)) ∧ OwnM w' w.heap.size 6 exp0 ∧ Below w.heap.size w w' := by
  have hmm := @run_makeMap Try.prog
  have h0 : OwnM (w.alloc (.map #[] 0)) w.heap.size 0 (.map []) := World.ownsMap_made w Try.prog 3 (plainElem (H := Unit) Try.prog 3)
  have hB0 : Below w.heap.size w (w.alloc (.map #[] 0)) := (Below.refl _ w).alloc (Nat.le_refl _) _
  obtain ⟨w1, r1, h1, g1⟩ := h0.update (by omega) 2 0 (by decide) (by decide)
  obtain ⟨w2, r2, h2, g2⟩ := h1.update (by omega) 3 0 (by decide) (by decide)
  obtain ⟨w3, r3, h3, g3⟩ := h2.update (by omega) 5 0 (by decide) (by decide)
  obtain ⟨w4, r4, h4, g4⟩ := h3.update (by omega) 7 0 (by decide) (by decide)
  obtain ⟨w5, r5, h5, g5⟩ := h4.update (by omega) 11 0 (by decide) (by decide)
  obtain ⟨w6, r6, h6, g6⟩ := h5.update (by omega) 13 0 (by decide) (by decide)
  have hl : ∀ j, some w.heap.size = some j → w.heap.size ≤ j := fun j hj => by cases hj; exact Nat.le_refl _
  have hB1 := hB0.grown g1 hB0.size hl
  have hB2 := hB1.grown g2 hB1.size hl
  have hB3 := hB2.grown g3 hB2.size hl
  have hB4 := hB3.grown g4 hB3.size hl
  have hB5 := hB4.grown g5 hB4.size hl
  have hB6 := hB5.grown g6 hB5.size hl
  clear hB0 hB1 hB2 hB3 hB4 hB5 g1 g2 g3 g4 g5 g6 h0 h1 h2 h3 h4 h5 hl
  go_enter Try.func51, Try.ntmps51
  go_wp2
  go_ret
  exact ⟨rfl, h6, hB6⟩

theorem key_ne {p q : Int} (h : p ≠ q) : litI p ≠ litI q := fun e => h (by injection e)
theorem key_is (p : Int) : WideAt.IsKeyLit (litI p) := by simp [WideAt.IsKeyLit]
theorem exp0_at (p : Int) : exp0.atKey (litI p) (datI 0) = datI 0 := by
  unfold exp0
  by_cases h : p = 13
  · subst h; exact atKey_put_same ⟨_, rfl⟩ (key_is _) _ _
  rw [atKey_put_other (key_ne h)]
  by_cases h : p = 11
  · subst h; exact atKey_put_same ⟨_, rfl⟩ (key_is _) _ _
  rw [atKey_put_other (key_ne h)]
  by_cases h : p = 7
  · subst h; exact atKey_put_same ⟨_, rfl⟩ (key_is _) _ _
  rw [atKey_put_other (key_ne h)]
  by_cases h : p = 5
  · subst h; exact atKey_put_same ⟨_, rfl⟩ (key_is _) _ _
  rw [atKey_put_other (key_ne h)]
  by_cases h : p = 3
  · subst h; exact atKey_put_same ⟨_, rfl⟩ (key_is _) _ _
  rw [atKey_put_other (key_ne h)]
  by_cases h : p = 2
  · subst h; exact atKey_put_same ⟨_, rfl⟩ (key_is _) _ _
  rw [atKey_put_other (key_ne h)]
  rfl
theorem exp0_has (p : Int) : Maps.has exp0 (litI p) = prmI p := by
  rw [exp0_eq, Maps.has_eq]
  unfold prmI
  rw [Bool.eq_iff_iff]
  simp [Lit.sameKey]
  omega

/-- A number looked up: the run of it, as an equation. -/
theorem OwnM.look {w : World} {b n : Nat} {D : DataW Unit} (h : OwnM w b n D) (p : Int) (hp : (litI p).wf = true) :
    ∃ c, (Instr.lookup 82 (.map (some b)) (.int .i64 p) false).run Try.prog w = .ok (.int .i64 c) w ∧ D.atKey (litI p) (datI 0) = datI c := by
  obtain ⟨c, h1, h2, _⟩ := World.ownsMap.lookup_int h keyI Try.underlying82 Try.underlying3 (zeroI w) (keyOf_int_mk Try.underlying3 hp)
  exact ⟨c, h1, h2⟩
theorem OwnM.look_ok {w : World} {b n : Nat} {D : DataW Unit} (h : OwnM w b n D) (p : Int) (hp : (litI p).wf = true) :
    ∃ c, (Instr.lookup 82 (.map (some b)) (.int .i64 p) true).run Try.prog w = .ok (.tuple #[.int .i64 c, .bool (Maps.has D (litI p))]) w := by
  obtain ⟨v, ps, h1, h2⟩ := World.ownsMap.look_ok h keyI Try.underlying82 (zeroI w) (plainElem_int Try.underlying3 (by decide)) (keyOf_int_mk Try.underlying3 hp)
  obtain ⟨c, rfl, _, _⟩ := plainElem_int_inv Try.underlying3 h2
  exact ⟨c, h1⟩
theorem fits_wf {p : Int} (h : Fits p) : (litI p).wf = true := WalkArith.wf_i64 h

theorem implPrime (p : Int) (hp : Fits p) (w : World) : Calls Try.prog 32 #[.int .i64 p] w fun e w' => e = .returned (.bool (prmI p)) ∧ Below w.heap.size w w' := by
  have hwf := fits_wf hp
  have hh := exp0_has p
  cases hv : prmI p
  all_goals
    rw [hv] at hh
    clear hv
    go_enter Try.func32, Try.ntmps32
    go_wp2_with fail
    go_at_call 51
    refine (noExp _).mono ?_
    rintro e w1 ⟨rfl, hown, hB⟩
    obtain ⟨c, hl⟩ := hown.look_ok p hwf
    rw [hh] at hl
    clear hh hown
    go_wp2
    go_ret
    exact ⟨rfl, hB⟩
theorem implPrime_is {p : Int} {b : Bool} (hp : Fits p) (h : prmI p = b) (w : World) : Calls Try.prog 32 #[.int .i64 p] w fun e w' => e = .returned (.bool b) ∧ Below w.heap.size w w' := h ▸ implPrime p hp w
end Go.Proofs.Ytjghhmgnbcabdaa
