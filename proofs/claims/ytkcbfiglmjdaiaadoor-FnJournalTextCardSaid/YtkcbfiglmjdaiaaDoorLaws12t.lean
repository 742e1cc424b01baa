/-
  The walk of the law on JournalText.
-/
import Derived.Test.YtkcbfiglmjdaiaaDoorImpl12j
import Derived.Test.YtkcbfiglmjdaiaaDoorImpl12l
import Derived.Test.YtkcbfiglmjdaiaaDoorDraw12i
import Derived.Test.YtkcbfiglmjdaiaaDoorSameDeeds
namespace Go.Proofs.YtkcbfiglmjdaiaaDoor
open Go Go.RowKit

set_option maxRecDepth 100000 in
set_option maxHeartbeats 1000000 in
theorem lawJournalText (a0 : Option Addr) (len0 cap0 : Nat) (z0 : List Int) (w : World) (w0 : IsRow .u8 w a0 len0 cap0 z0) (hEnv : Env w) :
    Calls Tryd.prog 3 #[.slice a0 len0 cap0] w fun e w' => e = .returned (.bool true) ∧ Below w.heap.size w w' := by
  by_cases hbig : 1048576 < len0
  · go_enter Tryd.func3, Tryd.ntmps3
    go_wp2
    go_ret
    exact ⟨rfl, Below.refl _ _⟩
  · have hbi : ¬ (1048576 : Int) < (len0 : Int) := by omega
    go_enter Tryd.func3, Tryd.ntmps3
    go_wp2_with fail
    go_at_call 4
    refine (drawJournalText w a0 len0 cap0 z0 w0).mono ?_
    rintro e w1 ⟨v, L, rfl, hown, hn, hf, hB1⟩
    have hD1 := DeedsI.of_owns hown
    obtain ⟨va, vc, rfl⟩ := own_shape hown
    have hE1 := hEnv.below hB1
    have hI := fun V (hV : DeedsI V (.slice va L.length vc) L) => implJournal _ L V hV hf (by omega)
    have hS := fun V (hV : DeedsI V (.slice va L.length vc) L) => specJournal _ L V hV hf (by omega)
    have hSm := fun u V (hV : DeedsI V (.slice va L.length vc) L) (hu : DeedsI V u L) => sameDeeds_in u _ L V (by omega) hf hu hV
    have hlen : (jtT L).length ≤ 60 := by
      unfold jtT
      split
      · have := jtL_len L; omega
      · simp
    have hbyte : ∀ x ∈ jtT L, x < 256 := by
      unfold jtT
      split
      · exact jtL_byte L
      · simp
    have hR := fun V hV => implReadJournal (jtT L) hbyte (by omega) V hV
    have hrd : jtT L ≠ [] → jrT (jtT L) = (L, (jtT L).length) := fun h => by
      have hall : ∀ a ∈ L, deedT a.1 a.2 ≠ [] := by
        unfold jtT at h
        split at h
        · assumption
        · exact absurd rfl h
      have : jtT L = jtL L := by unfold jtT; rw [if_pos hall]
      rw [this]
      exact jr_of_jt L hall
    have hemp : (str (jtT L)).toList.isEmpty = decide (jtT L = []) := by
      rw [str_toList]
      cases jtT L with
      | nil => rfl
      | cons c r => rfl
    have hsz := str_size (jtT L)
    obtain ⟨S, hSS⟩ : ∃ S, str (jtT L) = S := ⟨_, rfl⟩
    rw [hSS] at hI hS hR hemp hsz
    have hfh := hide hf
    clear hSS hbyte hown hf hEnv
    go_wp2_with fail
    go_at_call 5
    refine (hI _ hD1).mono ?_
    rintro e w2 ⟨rfl, hB2⟩
    have hD2 := hD1.below hB2
    have hE2 := hE1.below hB2
    have hB02 := hB1.trans (hB2.mono hB1.size)
    clear hD1 hE1 hB1 hB2 hI
    go_wp2_with fail
    go_at_call 6
    refine (hS _ hD2).mono ?_
    rintro e w3 ⟨rfl, hB3⟩
    have hD3 := hD2.below hB3
    have hE3 := hE2.below hB3
    have hB03 := hB02.trans (hB3.mono hB02.size)
    clear hD2 hE2 hB02 hB3 hS
    by_cases hne : jtT L = []
    · rw [decide_eq_true hne] at hemp
      clear hR hrd hSm hsz
      go_wp2_with (go_at_call 7; refine (alive_in _).mono ?_; rintro e w5 ⟨rfl, b5⟩)
      go_ret
      exact ⟨rfl, hB03.trans (b5.mono hB03.size)⟩
    · rw [decide_eq_false hne] at hemp
      rw [hrd hne] at hR
      simp only at hR
      have hR3 := hR w3 hE3
      obtain ⟨m, hm⟩ : ∃ m, (jtT L).length = m := ⟨_, rfl⟩
      rw [hm] at hR3 hsz
      have hszi : (S.size : Int) = (m : Int) := by omega
      clear hR hrd hE3 hm hne hlen
      go_wp2_with fail
      go_at_call 8
      refine hR3.mono ?_
      rintro e w4 ⟨u, rfl, hu, hB4⟩
      have hD4 := hD3.below hB4
      have hU4 := DeedsI.of_owns hu
      have hB04 := hB03.trans (hB4.mono hB03.size)
      obtain ⟨ua, uc, rfl⟩ := own_shape hu
      clear hR3 hD3 hB03 hB4 hu
      go_wp2_with fail
      go_at_call 9
      refine (hSm _ _ hD4 hU4).mono ?_
      rintro e w5 ⟨rfl, hB5⟩
      have hB05 := hB04.trans (hB5.mono hB04.size)
      clear hSm hD4 hU4 hB04 hB5
      go_wp2
      go_ret
      exact ⟨rfl, hB05⟩
end Go.Proofs.YtkcbfiglmjdaiaaDoor
