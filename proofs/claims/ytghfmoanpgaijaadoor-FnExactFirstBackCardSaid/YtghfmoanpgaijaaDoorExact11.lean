/-
  The walks of the exact laws of chapter 11.
-/
import Derived.Test.YtghfmoanpgaijaaDoorSpec11
import Derived.Test.YtghfmoanpgaijaaDoorSpec11b
import Derived.Test.YtghfmoanpgaijaaDoorSpec11c
import Derived.Test.YtghfmoanpgaijaaDoorImpl11
import Derived.Test.YtghfmoanpgaijaaDoorLawKit5
namespace Go.Proofs.YtghfmoanpgaijaaDoor
open Go.RowKit

theorem exactWayOk (s : ByteArray) (w : World) : Calls Tryd.prog 7 #[.string s] w fun e w' => e = .returned (.bool true) ∧ Below w.heap.size w w' := by
  by_cases hbig : 1048576 < s.size
  · have hbi : (1048576 : Int) < (s.size : Int) := by omega
    go_enter Tryd.func7, Tryd.ntmps7
    go_wp2
    go_ret
    exact ⟨rfl, Below.refl _ _⟩
  · obtain ⟨l, rfl, hl, hn⟩ := str_of s
    have hS := fun w => specWayOk l hl (by omega) w
    have hI := fun w => implWayOk l hl (by omega) w
    have hbi : ¬ (1048576 : Int) < ((str l).size : Int) := by omega
    generalize str l = s at *
    generalize wayL l = v at *
    have hB1 := Below.refl w.heap.size w
    go_enter Tryd.func7, Tryd.ntmps7
    go_wp2_with (first | (go_at_call 12; (with_reducible refine (hS _).mono ?_); rintro e w' ⟨rfl, rfl⟩) | (go_at_call 11; (with_reducible refine (hI _).mono ?_); rintro e w' ⟨rfl, hB'⟩; replace hB1 := hB1.trans (hB'.mono hB1.size); clear hB'))
    go_ret
    exact ⟨rfl, hB1⟩

theorem exactPlaceOf (s : ByteArray) (w : World) : Calls Tryd.prog 8 #[.string s] w fun e w' => e = .returned (.bool true) ∧ Below w.heap.size w w' := by
  by_cases hbig : 1048576 < s.size
  · have hbi : (1048576 : Int) < (s.size : Int) := by omega
    go_enter Tryd.func8, Tryd.ntmps8
    go_wp2
    go_ret
    exact ⟨rfl, Below.refl _ _⟩
  · obtain ⟨l, rfl, hl, hn⟩ := str_of s
    have hS := fun w => specPlaceOf l hl (by omega) w
    have hI := fun w => implPlaceOf l hl (by omega) w
    have hbi : ¬ (1048576 : Int) < ((str l).size : Int) := by omega
    generalize str l = s at *
    generalize wayL l = b at *
    generalize placeV l = v at *
    have hB1 := Below.refl w.heap.size w
    cases b
    all_goals
      go_enter Tryd.func8, Tryd.ntmps8
      go_wp2_with (first | (go_at_call 21; (with_reducible refine (hS _).mono ?_); rintro e w' ⟨rfl, hB'⟩; replace hB1 := hB1.trans (hB'.mono hB1.size); clear hB') | (go_at_call 20; (with_reducible refine (hI _).mono ?_); rintro e w' ⟨rfl, hB'⟩; replace hB1 := hB1.trans (hB'.mono hB1.size); clear hB'))
      go_ret
      exact ⟨rfl, hB1⟩

theorem exactFirstBack (s : ByteArray) (w : World) : Calls Tryd.prog 9 #[.string s] w fun e w' => e = .returned (.bool true) ∧ Below w.heap.size w w' := by
  by_cases hbig : 1048576 < s.size
  · have hbi : (1048576 : Int) < (s.size : Int) := by omega
    go_enter Tryd.func9, Tryd.ntmps9
    go_wp2
    go_ret
    exact ⟨rfl, Below.refl _ _⟩
  · obtain ⟨l, rfl, hl, hn⟩ := str_of s
    have hS := fun w => specFirstBack l hl (by omega) w
    have hI := fun w => implFirstBack l hl (by omega) w
    have hbi : ¬ (1048576 : Int) < ((str l).size : Int) := by omega
    generalize str l = s at *
    generalize frontB l = b at *
    generalize str (frontA l) = A at *
    generalize str (frontR l) = R at *
    have hB1 := Below.refl w.heap.size w
    cases b
    all_goals
      go_enter Tryd.func9, Tryd.ntmps9
      go_wp2_with (first | (go_at_call 24; (with_reducible refine (hS _).mono ?_); rintro e w' ⟨rfl, hB'⟩; replace hB1 := hB1.trans (hB'.mono hB1.size); clear hB') | (go_at_call 23; (with_reducible refine (hI _).mono ?_); rintro e w' ⟨rfl, hB'⟩; replace hB1 := hB1.trans (hB'.mono hB1.size); clear hB'))
      go_ret
      exact ⟨rfl, hB1⟩

theorem toldV_len (up : Int) : (toldV up).length ≤ 1000 := by
  by_cases h : up < 0 ∨ 7 < up
  · rw [toldV_bad h]; exact Nat.zero_le _
  · obtain ⟨u, rfl⟩ : ∃ u : Nat, up = u := ⟨up.toNat, by omega⟩
    rw [toldV_nat (by omega)]
    exact (wl_facts (by omega) (Nat.le_refl _)).2.1

end Go.Proofs.YtghfmoanpgaijaaDoor
