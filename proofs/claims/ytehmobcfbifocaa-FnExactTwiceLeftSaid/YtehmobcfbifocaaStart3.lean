/-
  Which of its own variables' accesses the starter of sumInLots may list, k lots being started.
-/
import Derived.Test.YtehmobcfbifocaaStart2
namespace Go.Proofs.Ytehmobcfbifocaa
open Go Go.Conc Go.ConcN Go.RowKit
open Go.ConcR (KK wgBlock WgAt stA smA rd wr mk Payload Aside2 DC0 ofEvent_cell)

section
variable {S : StP} {k b o : Nat} {s : Bool}
theorem StP.free (F : S.Fit) (hb : S.N0 ≤ b) (hB : b < S.B) (j : Nat) : ∀ i, 1 ≤ i → i ≤ j → ¬ ownX S.ph i (.cell ⟨b, o, none⟩) := by
  have hC := F.C
  rintro (_ | _ | i) h1 h2 h
  · omega
  · rcases h with h | h
    · obtain ⟨a, e, h3, _⟩ := F.sh _ h
      cases e
      exact absurd hb (Nat.not_le.2 h3)
    · exact h hB
  · obtain ⟨_, o', _, e⟩ := h
    cases e
    exact absurd hb (Nat.not_le.2 hC)
/-- It reads one of its own variables. -/
theorem StP.ev0_rd (F : S.Fit) (hb : S.N0 ≤ b) (hB : b < S.B) (hne : b ≠ S.N0 + 3) (j : Nat) : Ev0 (S.N0 + 3) (ownX S.ph) (rdX S.ph) j ⟨.cell ⟨b, o, none⟩, false, s⟩ := by
  refine ⟨fun fn pos => ⟨rfl, fun y hy => ?_⟩, by simp, by simp, by simp⟩
  simp only [ofEvent_cell, MemAct.touch?, Option.some.injEq] at hy
  subst hy
  exact .inr ⟨fun ⟨a', e, hb'⟩ => by cases e; exact hne hb', S.free F hb hB j, fun e => by cases e⟩
/-- It writes the variable that it is making. -/
theorem StP.ev0_wr (F : S.Fit) (hk : k ≤ S.lots) (hb : b = S.N0 + 4 + k) : Ev0 (S.N0 + 3) (ownX S.ph) (rdX S.ph) (S.j0 + k + 1) ⟨.cell ⟨b, o, none⟩, true, s⟩ := by
  have hBb := F.Bb
  have hB : b < S.B := by
    unfold StP.B
    omega
  refine ⟨fun fn pos => ⟨rfl, fun y hy => ?_⟩, by simp, by simp, by simp⟩
  simp only [ofEvent_cell, MemAct.touch?, Option.some.injEq] at hy
  subst hy
  refine .inr ⟨fun ⟨a', e, hb'⟩ => by cases e; have : b = S.N0 + 3 := hb'; omega, S.free F (by omega) hB _, fun _ => ?_⟩
  rintro (_ | _ | i) h1 h2 h
  · omega
  · exact h
  · obtain ⟨h3, h4, b', o', hr, e⟩ := h
    cases e
    rw [StP.work_rd] at hr
    omega
end
end Go.Proofs.Ytehmobcfbifocaa
