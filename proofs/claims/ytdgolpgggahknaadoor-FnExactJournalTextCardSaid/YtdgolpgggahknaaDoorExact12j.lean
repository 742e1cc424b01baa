/-
  The walk of the exact law of JournalText.
-/
import Derived.Test.YtdgolpgggahknaaDoorImpl12j
import Derived.Test.YtdgolpgggahknaaDoorL12Z
namespace Go.Proofs.YtdgolpgggahknaaDoor
open Go.RowKit

set_option maxHeartbeats 1000000 in
theorem exactJournalText (v : Value) (L : List (Int × Int)) (w : World) (hv : DeedsI w v L) (hf : ∀ a ∈ L, Fits a.1 ∧ Fits a.2) (hbig : L.length ≤ 9223372036854775807) : Calls Tryd.prog 7 #[v] w fun e w' => e = .returned (.bool true) ∧ Below w.heap.size w w' := by
  by_cases hn : 1048576 < L.length
  · obtain ⟨a, c, rfl, _⟩ := hv
    have hz := szDeedS_big a L.length c w hn hbig
    generalize L.length = n at *
    go_enter Tryd.func7, Tryd.ntmps7
    go_wp2_with (go_at_call 22; refine hz.mono ?_; clear hz; rintro e w1 ⟨rfl, rfl⟩)
    go_ret
    exact ⟨rfl, Below.refl _ _⟩
  · have hT := fun W (hW : Below w.heap.size w W) => toDeedS_in w v L W hv hW (by omega)
    obtain ⟨a, c, rfl, _⟩ := hv
    have hz := szDeedS_in a L.length c 1048576 w (by omega) (by omega) (by omega)
    have hz0 : ¬ (1048576 : Int) - (L.length : Int) < 0 := by omega
    rw [if_neg hz0] at hz
    have hS := fun u W (hu : DeedsI W u L) => specJournal u L W hu hf (by omega)
    have hI := fun u W (hu : DeedsI W u L) => implJournal u L W hu hf (by omega)
    have hE := fun u x W (hu : DeedsI W u L) (hx : DeedsI W x L) => eqDeedS_in u x L W (by omega) hu hx
    generalize str (jtT L) = s at *
    have hB := Below.refl w.heap.size w
    generalize hN : L.length = n at *
    obtain ⟨z, hzz⟩ : ∃ z, (1048576 : Int) - (n : Int) = z := ⟨_, rfl⟩
    rw [hzz] at hz hz0
    clear hzz
    go_enter Tryd.func7, Tryd.ntmps7
    go_wp2_with fail
    go_at_call 22
    refine hz.mono ?_
    rintro e w1 ⟨rfl, rfl⟩
    go_wp2_with fail
    go_at_call 23
    refine (hT _ hB).mono ?_
    rintro e w1 ⟨u1, rfl, hu1, hB1⟩
    rw [← hN] at hu1
    have hd1 := DeedsI.of_owns hu1
    go_wp2_with fail
    go_at_call 18
    refine (hS _ _ hd1).mono ?_
    rintro e w2 ⟨rfl, hB2⟩
    have q2 := hB1.trans (hB2.mono hB1.size)
    go_wp2_with fail
    go_at_call 23
    refine (hT _ q2).mono ?_
    rintro e w3 ⟨u3, rfl, hu3, hB3⟩
    rw [← hN] at hu3
    have hd3 := DeedsI.of_owns hu3
    have q3 := q2.trans (hB3.mono q2.size)
    go_wp2_with fail
    go_at_call 17
    refine (hI _ _ hd3).mono ?_
    rintro e w4 ⟨rfl, hB4⟩
    have q4 := q3.trans (hB4.mono q3.size)
    have hd3' := hd3.below hB4
    go_wp2_with fail
    go_at_call 23
    refine (hT _ q4).mono ?_
    rintro e w5 ⟨u5, rfl, hu5, hB5⟩
    rw [← hN] at hu5
    have hd5 := DeedsI.of_owns hu5
    have q5 := q4.trans (hB5.mono q4.size)
    go_wp2_with fail
    go_at_call 24
    refine (hE _ _ _ (hd3'.below hB5) hd5).mono ?_
    rintro e w6 ⟨rfl, hB6⟩
    go_wp2
    go_ret
    exact ⟨rfl, q5.trans (hB6.mono q5.size)⟩
end Go.Proofs.YtdgolpgggahknaaDoor
