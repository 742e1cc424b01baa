/-
  The walk of the law FnWaysTold: it answers true at every code, and nothing that was there is written.
-/
import Derived.Test.YtghfmoanpgaijaaDoorSpec11c
import Derived.Test.YtghfmoanpgaijaaDoorImpl11
import Derived.Test.YtghfmoanpgaijaaDoorDraw11
import Derived.Test.YtghfmoanpgaijaaDoorLawKit5
namespace Go.Proofs.YtghfmoanpgaijaaDoor
open Go Go.RowKit

theorem u8_lt {a b : Nat} (ha : a < 256) (hb : b < 256) : (UInt8.ofNat a < UInt8.ofNat b) ↔ a < b := by
  rw [UInt8.lt_iff_toNat_lt, UInt8.toNat_ofNat_of_lt' ha, UInt8.toNat_ofNat_of_lt' hb]
theorem u8_eq {a b : Nat} (ha : a < 256) (hb : b < 256) : (UInt8.ofNat a = UInt8.ofNat b) ↔ a = b := by
  constructor
  · intro h
    have := congrArg UInt8.toNat h
    rwa [UInt8.toNat_ofNat_of_lt' ha, UInt8.toNat_ofNat_of_lt' hb] at this
  · intro h; rw [h]
theorem less_not : ∀ (y x : List Nat), (∀ a ∈ y, a < 256) → (∀ a ∈ x, a < 256) → ltL y x = true → (Op.bytesLess (x.map UInt8.ofNat) (y.map UInt8.ofNat) = false ∧ x.map UInt8.ofNat ≠ y.map UInt8.ofNat)
  | [], [], _, _, h => by cases h
  | [], _ :: _, _, _, _ => ⟨rfl, by simp⟩
  | _ :: _, [], _, _, h => by cases h
  | a :: y, b :: x, hy, hx, h => by
    have ha := hy a (by simp)
    have hb := hx b (by simp)
    simp only [ltL, Bool.or_eq_true, decide_eq_true_eq, Bool.and_eq_true, beq_iff_eq] at h
    simp only [List.map_cons]
    rcases h with h | ⟨rfl, h⟩
    · constructor
      · show (decide (UInt8.ofNat b < UInt8.ofNat a) || (UInt8.ofNat b == UInt8.ofNat a && _)) = false
        rw [decide_eq_false (by rw [u8_lt hb ha]; omega), beq_eq_false_iff_ne.2 (by rw [Ne, u8_eq hb ha]; omega)]; rfl
      · intro hh
        injection hh with h1 _
        rw [u8_eq hb ha] at h1; omega
    · obtain ⟨h1, h2⟩ := less_not y x (fun c hc => hy c (by simp [hc])) (fun c hc => hx c (by simp [hc])) h
      constructor
      · show (decide (UInt8.ofNat a < UInt8.ofNat a) || (UInt8.ofNat a == UInt8.ofNat a && _)) = false
        rw [decide_eq_false (by rw [u8_lt ha ha]; omega), h1]; simp
      · intro hh
        injection hh with _ h3
        exact h2 h3

set_option maxHeartbeats 4000000 in
theorem lawTold (a0 : Option Addr) (len0 cap0 : Nat) (z0 : List Int) (w : World) (w0 : IsRow .u8 w a0 len0 cap0 z0) :
    Calls Tryd.prog 4 #[.slice a0 len0 cap0] w fun e w' => e = .returned (.bool true) ∧ Below w.heap.size w w' := by
  by_cases hbig : 1048576 < len0
  · go_enter Tryd.func4, Tryd.ntmps4
    go_wp2
    go_ret
    exact ⟨rfl, Below.refl _ _⟩
  · go_enter Tryd.func4, Tryd.ntmps4
    go_wp2_with fail
    go_at_call 14
    refine (drawTold w a0 len0 cap0 z0 w0).mono ?_
    rintro e w1 ⟨⟨x, hx, rfl⟩, hB1⟩
    have hlen : (toldV x).length ≤ 1000 := by
      by_cases h : x < 0 ∨ 7 < x
      · rw [toldV_bad h]; exact Nat.zero_le _
      · obtain ⟨u, rfl⟩ : ∃ u : Nat, x = u := ⟨x.toNat, by omega⟩
        rw [toldV_nat (by omega)]
        exact (wl_facts (by omega) (Nat.le_refl _)).2.1
    go_wp2_with fail
    go_at_call 15
    refine (implTold x _).mono ?_
    rintro e w2 ⟨v2, rfl, hown2, hB2⟩
    replace hB1 := hB1.trans (hB2.mono hB1.size)
    go_wp2_with fail
    go_at_call 17
    refine (specTold x _).mono ?_
    rintro e w3 ⟨v3, rfl, hown3, hB3⟩
    replace hB1 := hB1.trans (hB3.mono hB1.size)
    have hi2 := (Texts.of_owns hown2).below hB3
    have hi3 := Texts.of_owns hown3
    clear hown2 hown3 hB2 hB3
    go_wp2_with fail
    go_at_call 16
    refine (sameTexts_in _ _ _ _ (by omega) hi2 hi3).mono ?_
    rintro e w4 ⟨rfl, hB4⟩
    replace hB1 := hB1.trans (hB4.mono hB1.size)
    have hi4 := hi2.below hB4
    clear hi2 hi3 hB4
    by_cases hbad : x < 0 ∨ 7 < x
    · rw [toldV_bad hbad] at hi4
      obtain ⟨a, c, rfl, _⟩ := hi4
      by_cases h1 : x < 0
      · clear hbad
        go_wp2_with (go_at_call 13; (with_reducible refine (alive_in _).mono ?_); rintro e w' ⟨rfl, hB'⟩; replace hB1 := hB1.trans (hB'.mono hB1.size); clear hB')
        go_ret
        exact ⟨rfl, hB1⟩
      · have h2 : 7 < x := by omega
        clear hbad
        go_wp2_with (go_at_call 13; (with_reducible refine (alive_in _).mono ?_); rintro e w' ⟨rfl, hB'⟩; replace hB1 := hB1.trans (hB'.mono hB1.size); clear hB')
        go_ret
        exact ⟨rfl, hB1⟩
    · obtain ⟨U, rfl⟩ : ∃ N : Nat, x = N := ⟨x.toNat, by omega⟩
      have hU : U ≤ 7 := by omega
      rw [toldV_nat hU] at hi4 hlen
      obtain ⟨hrise, hall⟩ := wl_good hU
      have hf := wl_facts hU (Nat.le_refl U)
      have hmany := wl_many hU
      obtain ⟨L, hL⟩ : ∃ L, wl U U = L := ⟨_, rfl⟩
      rw [hL] at hi4 hlen hrise hall hf hmany
      obtain ⟨a, c, rfl, hc⟩ := hi4
      obtain ⟨g, rfl, hg, hcell⟩ := hc (by omega)
      have hC : ∀ w, Calls Tryd.prog 18 #[.int .i64 U] w fun e w' => e = .returned (.int .i64 (L.length : Nat)) ∧ Below w.heap.size w w' := fun w => by
        have h := implWaysOf U w
        rwa [waysV_nat (by omega), ← hmany] at h
      have hL1 := hf.1
      have hl0 : ((L.length : Int) == 0) = false := by rw [beq_eq_false_iff_ne]; omega
      have hLpos : ¬ L.length ≤ 0 := by omega
      have hL0 : L ≠ [] := by intro hh; rw [hh] at hf; simp at hf
      clear hc hbad hx hmany hL
      go_wp2
      go_loopw [5] (fun i wr => ∃ k : Nat, k ≤ L.length ∧ i = .int .i64 k ∧ Below w4.heap.size w4 wr) (fun i _ => L.length - (intOf i).toNat)
      case atStart => exact ⟨0, Nat.zero_le _, rfl, Below.refl _ _⟩
      case round =>
        obtain ⟨k, hk, rfl, hD⟩ := hrel
        by_cases hlt : k < L.length
        · have hki : (k : Int) < (L.length : Int) := by omega
          have hmem : L[k] ∈ L := List.getElem_mem hlt
          obtain ⟨hok, hlk⟩ := hall _ hmem
          have h256 := (hf.2.2 _ hmem).2
          have hwk : wayL L[k] = true := by unfold wayL; rw [hok, Bool.true_and, decide_eq_true_eq]; omega
          have hW : ∀ w, Calls Tryd.prog 11 #[.string (str L[k])] w fun e w' => e = .returned (.bool true) ∧ Below w.heap.size w w' := fun w => by
            have h := implWayOk L[k] h256 (by omega) w
            rwa [hwk] at h
          have hX := hcell k _ (List.getElem?_eq_getElem hlt)
          unfold txt at hX
          have hsz := str_size L[k]
          rw [hlk] at hsz
          have hszb : ((str L[k]).size : Int) = 2 * (U : Int) := by omega
          have hszi : (((str L[k]).size : Int) == 2 * (U : Int)) = true := by rw [hszb]; simp
          cases k with
          | zero =>
            have hX1 : ∀ m : After w4, m.now.cell? ⟨g, 0, none⟩ = some (.string (str L[0])) := fun m => (m.ok.cell (p := ⟨g, 0, none⟩) hg).trans hX
            generalize str L[0] = X at *
            clear hmem hok hlk h256 hwk hX hcell hall hf hrise hsz
            go_wp2
            refine wp_region_below w4 (by kernel_rfl) (by kernel_rfl) hD ?_
            repeat (go_big_quiet_step ((go_at_call 11; with_reducible exact after_of (hW _))))
            refine wpQuiet_nil ?_
            rintro _ ⟨nq, rfl⟩
            clear hX1 hW
            go_wp2
            go_roundw
            case rel => exact ⟨1, by omega, by go_num, nq.ok⟩
            case measure => simp [intOf]; omega
          | succ j =>
            have hj : j < L.length := by omega
            have hmem2 : L[j] ∈ L := List.getElem_mem hj
            have h256' := (hf.2.2 _ hmem2).2
            have hY := hcell j _ (List.getElem?_eq_getElem hj)
            unfold txt at hY
            have hlt2 := rising_at L j _ _ hrise (List.getElem?_eq_getElem hj) (List.getElem?_eq_getElem hlt)
            obtain ⟨hn1, hn2⟩ := less_not _ _ h256' h256 hlt2
            have hb1 : Op.bytesLess (str L[j + 1]).toList (str L[j]).toList = false := by rw [str_toList, str_toList]; exact hn1
            have hb2 : ((str L[j + 1]).toList == (str L[j]).toList) = false := by rw [str_toList, str_toList, beq_eq_false_iff_ne]; exact hn2
            have hX1 : ∀ m : After w4, m.now.cell? ⟨g, j + 1, none⟩ = some (.string (str L[j + 1])) := fun m => (m.ok.cell (p := ⟨g, j + 1, none⟩) hg).trans hX
            have hY1 : ∀ m : After w4, m.now.cell? ⟨g, j, none⟩ = some (.string (str L[j])) := fun m => (m.ok.cell (p := ⟨g, j, none⟩) hg).trans hY
            have hji : (0 : Int) < (j : Int) + 1 := by omega
            generalize str L[j + 1] = X at *
            generalize str L[j] = Y at *
            clear hmem hok hlk h256 hwk hX hcell hall hf hrise hsz hmem2 h256' hY hlt2 hn1 hn2
            go_wp2
            refine wp_region_below w4 (by kernel_rfl) (by kernel_rfl) hD ?_
            repeat (go_big_quiet_step ((go_at_call 11; with_reducible exact after_of (hW _))))
            refine wpQuiet_nil ?_
            rintro _ ⟨nq, rfl⟩
            clear hX1 hY1 hW
            go_wp2
            go_roundw
            case rel => exact ⟨j + 1 + 1, by omega, by go_num, nq.ok⟩
            case measure => simp [intOf]; omega
        · obtain rfl : k = L.length := by omega
          have hki : ¬ ((L.length : Nat) : Int) < ((L.length : Nat) : Int) := by omega
          clear hcell hall hrise hf
          go_wp2_with (go_at_call 18; (with_reducible refine (hC _).mono ?_); rintro e w5 ⟨rfl, hB5⟩)
          go_ret
          exact ⟨rfl, (hB1.trans (hD.mono hB1.size)).trans (hB5.mono (Nat.le_trans hB1.size hD.size))⟩
end Go.Proofs.YtghfmoanpgaijaaDoor
