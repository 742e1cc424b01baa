/-
  The walks of the laws FnWayOk, FnPlaceOf and FnFirstBack: each answers true at every code, and nothing that was there is written.
-/
import Derived.Test.YtghfmoanpgaijaaDoorSpec11b
import Derived.Test.YtghfmoanpgaijaaDoorSpec11c
import Derived.Test.YtghfmoanpgaijaaDoorImpl11
import Derived.Test.YtghfmoanpgaijaaDoorDraw11
import Derived.Test.YtghfmoanpgaijaaDoorLawKit5
namespace Go.Proofs.YtghfmoanpgaijaaDoor
open Go Go.RowKit

theorem lt_append {a b : List Nat} (ha : ∀ x ∈ a, x < 256) (hb : ∀ x ∈ b, x < 256) : ∀ x ∈ a ++ b, x < 256 := fun x hx => (List.mem_append.1 hx).elim (ha x) (hb x)

set_option maxHeartbeats 2000000 in
theorem lawWayOk (a0 : Option Addr) (len0 cap0 : Nat) (z0 : List Int) (w : World) (w0 : IsRow .u8 w a0 len0 cap0 z0) :
    Calls Tryd.prog 3 #[.slice a0 len0 cap0] w fun e w' => e = .returned (.bool true) ∧ Below w.heap.size w w' := by
  by_cases hbig : 1048576 < len0
  · go_enter Tryd.func3, Tryd.ntmps3
    go_wp2
    go_ret
    exact ⟨rfl, Below.refl _ _⟩
  · go_enter Tryd.func3, Tryd.ntmps3
    go_wp2_with fail
    go_at_call 10
    refine (drawWayOk w a0 len0 cap0 z0 w0).mono ?_
    rintro e w1 ⟨⟨l, hl, hn, rfl⟩, hB1⟩
    have hI := fun w => implWayOk l hl (by omega) w
    have hS := fun w => specWayOk l hl (by omega) w
    have hE : ∀ w, Calls Tryd.prog 11 #[.string ⟨#[]⟩] w fun e w' => e = .returned (.bool true) ∧ Below w.heap.size w w' := fun w => implWayOk [] (by simp) (by simp) w
    have hP : ∀ w, Calls Tryd.prog 11 #[.string ⟨#[41, 40]⟩] w fun e w' => e = .returned (.bool false) ∧ Below w.heap.size w w' := fun w => implWayOk [41, 40] (by simp) (by simp) w
    have hsz := str_size l
    by_cases h14 : 14 < l.length + 2
    · have hz : (14 : Int) < ((str l).size : Int) + 2 := by omega
      generalize wayL l = b at *
      generalize str l = Z at *
      have hZs : Z.size ≤ 100 := by omega
      clear hsz
      go_wp2_with (first | (go_at_call 11; (with_reducible refine (hI _).mono ?_); rintro e w' ⟨rfl, hB'⟩; replace hB1 := hB1.trans (hB'.mono hB1.size); clear hB') | (go_at_call 12; (with_reducible refine (hS _).mono ?_); rintro e w' ⟨rfl, rfl⟩) | (go_at_call 11; (with_reducible refine (hE _).mono ?_); rintro e w' ⟨rfl, hB'⟩; replace hB1 := hB1.trans (hB'.mono hB1.size); clear hB') | (go_at_call 11; (with_reducible refine (hP _).mono ?_); rintro e w' ⟨rfl, hB'⟩; replace hB1 := hB1.trans (hB'.mono hB1.size); clear hB') | (go_at_call 13; (with_reducible refine (alive_in _).mono ?_); rintro e w' ⟨rfl, hB'⟩; replace hB1 := hB1.trans (hB'.mono hB1.size); clear hB'))
      go_ret
      exact ⟨rfl, hB1⟩
    · have hz : ¬ (14 : Int) < ((str l).size : Int) + 2 := by omega
      by_cases hway : wayL l = false
      · rw [hway] at hI hS
        generalize str l = Z at *
        have hZs : Z.size ≤ 100 := by omega
        clear hsz hway
        go_wp2_with (first | (go_at_call 11; (with_reducible refine (hI _).mono ?_); rintro e w' ⟨rfl, hB'⟩; replace hB1 := hB1.trans (hB'.mono hB1.size); clear hB') | (go_at_call 12; (with_reducible refine (hS _).mono ?_); rintro e w' ⟨rfl, rfl⟩) | (go_at_call 11; (with_reducible refine (hE _).mono ?_); rintro e w' ⟨rfl, hB'⟩; replace hB1 := hB1.trans (hB'.mono hB1.size); clear hB') | (go_at_call 11; (with_reducible refine (hP _).mono ?_); rintro e w' ⟨rfl, hB'⟩; replace hB1 := hB1.trans (hB'.mono hB1.size); clear hB') | (go_at_call 13; (with_reducible refine (alive_in _).mono ?_); rintro e w' ⟨rfl, hB'⟩; replace hB1 := hB1.trans (hB'.mono hB1.size); clear hB'))
        go_ret
        exact ⟨rfl, hB1⟩
      · have hgood : wayL l = true := by simpa using hway
        obtain ⟨hk, _, _⟩ := wayL_is hgood
        rw [hgood] at hI hS
        have hw1 : wayL ([40] ++ l ++ [41]) = true := by
          unfold wayL
          rw [Bool.and_eq_true, decide_eq_true_eq]
          exact ⟨okW_wrap l 0 hk, by simp; omega⟩
        have hw2 : wayL (l ++ [40, 41]) = true := by
          unfold wayL
          rw [Bool.and_eq_true, decide_eq_true_eq]
          exact ⟨okW_pair l 0 hk, by simp; omega⟩
        have hA := fun w => implWayOk ([40] ++ l ++ [41]) (lt_append (lt_append (by simp) hl) (by simp)) (by simp; omega) w
        have hB := fun w => implWayOk (l ++ [40, 41]) (lt_append hl (by simp)) (by simp; omega) w
        rw [hw1] at hA
        rw [hw2] at hB
        have e1 : (⟨#[40]⟩ : ByteArray) ++ str l = str ([40] ++ l) := str_app [40] l
        have e2 : str ([40] ++ l) ++ (⟨#[41]⟩ : ByteArray) = str ([40] ++ l ++ [41]) := str_app ([40] ++ l) [41]
        have e3 : str l ++ (⟨#[40, 41]⟩ : ByteArray) = str (l ++ [40, 41]) := str_app l [40, 41]
        have hs1 := str_size ([40] ++ l)
        have hs1' : (str ([40] ++ l)).size ≤ 100 := by rw [hs1]; simp; omega
        clear hs1 hw1 hw2 hway hgood hk
        generalize str ([40] ++ l ++ [41]) = A at *
        generalize str ([40] ++ l) = A1 at *
        generalize str (l ++ [40, 41]) = B at *
        generalize str l = Z at *
        have hZs : Z.size ≤ 100 := by omega
        clear hsz
        go_wp2_with (first | (go_at_call 11; (with_reducible refine (hI _).mono ?_); rintro e w' ⟨rfl, hB'⟩; replace hB1 := hB1.trans (hB'.mono hB1.size); clear hB') | (go_at_call 12; (with_reducible refine (hS _).mono ?_); rintro e w' ⟨rfl, rfl⟩) | (go_at_call 11; (with_reducible refine (hA _).mono ?_); rintro e w' ⟨rfl, hB'⟩; replace hB1 := hB1.trans (hB'.mono hB1.size); clear hB') | (go_at_call 11; (with_reducible refine (hB _).mono ?_); rintro e w' ⟨rfl, hB'⟩; replace hB1 := hB1.trans (hB'.mono hB1.size); clear hB') | (go_at_call 11; (with_reducible refine (hE _).mono ?_); rintro e w' ⟨rfl, hB'⟩; replace hB1 := hB1.trans (hB'.mono hB1.size); clear hB') | (go_at_call 11; (with_reducible refine (hP _).mono ?_); rintro e w' ⟨rfl, hB'⟩; replace hB1 := hB1.trans (hB'.mono hB1.size); clear hB') | (go_at_call 13; (with_reducible refine (alive_in _).mono ?_); rintro e w' ⟨rfl, hB'⟩; replace hB1 := hB1.trans (hB'.mono hB1.size); clear hB'))
        go_ret
        exact ⟨rfl, hB1⟩

set_option maxHeartbeats 2000000 in
theorem lawPlace (a0 : Option Addr) (len0 cap0 : Nat) (z0 : List Int) (w : World) (w0 : IsRow .u8 w a0 len0 cap0 z0) :
    Calls Tryd.prog 5 #[.slice a0 len0 cap0] w fun e w' => e = .returned (.bool true) ∧ Below w.heap.size w w' := by
  by_cases hbig : 1048576 < len0
  · go_enter Tryd.func5, Tryd.ntmps5
    go_wp2
    go_ret
    exact ⟨rfl, Below.refl _ _⟩
  · go_enter Tryd.func5, Tryd.ntmps5
    go_wp2_with fail
    go_at_call 19
    refine (drawPlace w a0 len0 cap0 z0 w0).mono ?_
    rintro e w1 ⟨⟨l, hl, hn, rfl⟩, hB1⟩
    have hI := fun w => implPlaceOf l hl (by omega) w
    have hS := fun w => specPlaceOf l hl (by omega) w
    have hW := fun w => implWayOk l hl (by omega) w
    have hsz := str_size l
    by_cases hway : wayL l = false
    · rw [placeV_bad hway, hway] at hI hS
      rw [hway] at hW
      generalize str l = Z at *
      clear hsz hway
      go_wp2_with (first | (go_at_call 20; (with_reducible refine (hI _).mono ?_); rintro e w' ⟨rfl, hB'⟩; replace hB1 := hB1.trans (hB'.mono hB1.size); clear hB') | (go_at_call 21; (with_reducible refine (hS _).mono ?_); rintro e w' ⟨rfl, hB'⟩; replace hB1 := hB1.trans (hB'.mono hB1.size); clear hB') | (go_at_call 11; (with_reducible refine (hW _).mono ?_); rintro e w' ⟨rfl, hB'⟩; replace hB1 := hB1.trans (hB'.mono hB1.size); clear hB') | (go_at_call 13; (with_reducible refine (alive_in _).mono ?_); rintro e w' ⟨rfl, hB'⟩; replace hB1 := hB1.trans (hB'.mono hB1.size); clear hB'))
      go_ret
      exact ⟨rfl, hB1⟩
    · have hgood : wayL l = true := by simpa using hway
      obtain ⟨hk, h14, U, hU, hlU⟩ := wayL_is hgood
      rw [placeV_is hgood, hgood] at hI hS
      have hU2 : l.length / 2 = U := by omega
      rw [hU2] at hI hS
      obtain ⟨hat, hlt⟩ := plW_lt hk hlU hU
      have hT := fun w => specTold U w
      simp only [toldV_nat hU] at hT
      have hf := wl_facts hU (Nat.le_refl U)
      have hq : Int.tdiv (l.length : Int) 2 = (U : Int) := by rw [← hU2]; exact tdiv_n l.length 2
      have hzl : (str l).size = l.length := hsz
      generalize plW U U l = T at *
      have hwU : IntKind.i64.wrap (U : Int) = U := IntWalk.i64_in _ (by omega)
      have hT' : ∀ w, Calls Tryd.prog 17 #[.int .i64 U] w fun e w' => ∃ g c, e = .returned (.slice (some ⟨g, 0, none⟩) (wl U U).length c) ∧ g < w'.heap.size ∧ w'.cell? ⟨g, T, none⟩ = some (.string (str l)) ∧ Below w.heap.size w w' := fun w => (hT w).mono fun e w' ⟨v, he, hown, hB⟩ => by
        obtain ⟨g, cap, rfl, _, hg, hc⟩ := texts_open hown (by omega)
        exact ⟨g, cap, he, hg, hc T _ (by rw [List.getElem?_map, hat]; rfl), hB⟩
      have hTl : (T : Int) < ((wl U U).length : Int) := by omega
      have hT0 : (0 : Int) ≤ (T : Int) := by omega
      have hlen := hf.2.1
      generalize (wl U U).length = M at *
      obtain ⟨Z, hZ⟩ : ∃ Z, str l = Z := ⟨_, rfl⟩
      rw [hZ] at hI hS hzl ⊢
      simp only [hZ] at hT'
      clear hsz hway hgood hk hlU hU2 hat hT hf hW hZ
      go_wp2_with fail
      go_at_call 20
      refine (hI _).mono ?_
      rintro e w2 ⟨rfl, hB2⟩
      replace hB1 := hB1.trans (hB2.mono hB1.size)
      go_wp2_with fail
      go_at_call 21
      refine (hS _).mono ?_
      rintro e w3 ⟨rfl, hB3⟩
      replace hB1 := hB1.trans (hB3.mono hB1.size)
      go_wp2_with fail
      go_at_call 17
      refine (hT' _).mono ?_
      rintro e w4 ⟨g, c, rfl, hg, hcell, hB4⟩
      replace hB1 := hB1.trans (hB4.mono hB1.size)
      clear hI hS hT' hB2 hB3 hB4
      go_wp2_with (go_at_call 13; (with_reducible refine (alive_in _).mono ?_); rintro e w' ⟨rfl, hB'⟩; replace hB1 := hB1.trans (hB'.mono hB1.size); clear hB')
      go_ret
      exact ⟨rfl, hB1⟩

set_option maxHeartbeats 2000000 in
theorem lawFront (a0 : Option Addr) (len0 cap0 : Nat) (z0 : List Int) (w : World) (w0 : IsRow .u8 w a0 len0 cap0 z0) :
    Calls Tryd.prog 6 #[.slice a0 len0 cap0] w fun e w' => e = .returned (.bool true) ∧ Below w.heap.size w w' := by
  by_cases hbig : 1048576 < len0
  · go_enter Tryd.func6, Tryd.ntmps6
    go_wp2
    go_ret
    exact ⟨rfl, Below.refl _ _⟩
  · go_enter Tryd.func6, Tryd.ntmps6
    go_wp2_with fail
    go_at_call 22
    refine (drawFront w a0 len0 cap0 z0 w0).mono ?_
    rintro e w1 ⟨⟨l, hl, hn, rfl⟩, hB1⟩
    have hI := fun w => implFirstBack l hl (by omega) w
    have hS := fun w => specFirstBack l hl (by omega) w
    have hW := fun w => implWayOk l hl (by omega) w
    by_cases hfr : frontB l = false
    · obtain ⟨eA, eR⟩ := front_bad hfr
      rw [eA, eR, hfr, str_nil] at hI hS
      by_cases h0 : l = []
      · subst h0
        rw [str_nil] at hI hS hW ⊢
        clear eA eR hfr hW
        go_wp2_with (first | (go_at_call 23; (with_reducible refine (hI _).mono ?_); rintro e w' ⟨rfl, hB'⟩; replace hB1 := hB1.trans (hB'.mono hB1.size); clear hB') | (go_at_call 24; (with_reducible refine (hS _).mono ?_); rintro e w' ⟨rfl, hB'⟩; replace hB1 := hB1.trans (hB'.mono hB1.size); clear hB') | (go_at_call 13; (with_reducible refine (alive_in _).mono ?_); rintro e w' ⟨rfl, hB'⟩; replace hB1 := hB1.trans (hB'.mono hB1.size); clear hB'))
        go_ret
        exact ⟨rfl, hB1⟩
      · have hpos : 0 < l.length := by
          rcases l with _ | ⟨x, l⟩
          · exact absurd rfl h0
          · simp
        have hw0 : wayL l = false := by
          unfold frontB at hfr
          rw [Bool.and_eq_false_iff] at hfr
          exact hfr.resolve_right (fun hh => by rw [decide_eq_false_iff_not] at hh; omega)
        rw [hw0] at hW
        have hne : ((str l).toList == ([] : List UInt8)) = false := by
          rw [str_toList, beq_eq_false_iff_ne]
          intro hh
          have := congrArg List.length hh
          simp at this
          exact h0 this
        generalize str l = Z at *
        clear eA eR hfr h0 hpos hw0
        go_wp2_with (first | (go_at_call 23; (with_reducible refine (hI _).mono ?_); rintro e w' ⟨rfl, hB'⟩; replace hB1 := hB1.trans (hB'.mono hB1.size); clear hB') | (go_at_call 24; (with_reducible refine (hS _).mono ?_); rintro e w' ⟨rfl, hB'⟩; replace hB1 := hB1.trans (hB'.mono hB1.size); clear hB') | (go_at_call 11; (with_reducible refine (hW _).mono ?_); rintro e w' ⟨rfl, hB'⟩; replace hB1 := hB1.trans (hB'.mono hB1.size); clear hB') | (go_at_call 13; (with_reducible refine (alive_in _).mono ?_); rintro e w' ⟨rfl, hB'⟩; replace hB1 := hB1.trans (hB'.mono hB1.size); clear hB'))
        go_ret
        exact ⟨rfl, hB1⟩
    · have hgood : frontB l = true := by simpa using hfr
      obtain ⟨r, hlr, hk, h13, eA, eR⟩ := front_is hgood
      rw [eA, eR, hgood] at hI hS
      obtain ⟨hr, hp, hq⟩ := backW_is r 0 hk
      obtain ⟨p, hpp⟩ : ∃ p, (backW 0 r).1 = p := ⟨_, rfl⟩
      obtain ⟨q, hqq⟩ : ∃ q, (backW 0 r).2 = q := ⟨_, rfl⟩
      rw [hpp] at hr hp hI hS
      rw [hqq] at hr hq hI hS
      have hrl : r.length = p.length + q.length + 1 := by rw [hr]; simp; omega
      have hl2 : l = [40] ++ p ++ [41] ++ q := by rw [hlr, hr]; simp
      have hpl : ∀ x ∈ p, x < 256 := fun x hx => hl x (by rw [hl2]; simp [hx])
      have hql : ∀ x ∈ q, x < 256 := fun x hx => hl x (by rw [hl2]; simp [hx])
      have hP := fun w => implWayOk p hpl (by omega) w
      have hQ := fun w => implWayOk q hql (by omega) w
      have hwp : wayL p = true := by unfold wayL; rw [hp, Bool.true_and, decide_eq_true_eq]; omega
      have hwq : wayL q = true := by unfold wayL; rw [hq, Bool.true_and, decide_eq_true_eq]; omega
      rw [hwp] at hP
      rw [hwq] at hQ
      have e1 : (⟨#[40]⟩ : ByteArray) ++ str p = str ([40] ++ p) := str_app [40] p
      have e2 : str ([40] ++ p) ++ (⟨#[41]⟩ : ByteArray) = str ([40] ++ p ++ [41]) := str_app ([40] ++ p) [41]
      have e3 : str ([40] ++ p ++ [41]) ++ str q = str l := by rw [hl2]; exact str_app ([40] ++ p ++ [41]) q
      have s1 : (str ([40] ++ p)).size ≤ 100 := by rw [str_size]; simp; omega
      have s2 : (str ([40] ++ p ++ [41])).size ≤ 100 := by rw [str_size]; simp; omega
      have s3 : (str p).size ≤ 100 := by rw [str_size]; omega
      have s4 : (str q).size ≤ 100 := by rw [str_size]; omega
      clear hfr hgood hlr hk eA eR hr hp hq hpp hqq hrl hl2 hpl hql hwp hwq hW hl
      generalize str ([40] ++ p ++ [41]) = A2 at *
      generalize str ([40] ++ p) = A1 at *
      generalize str p = A at *
      generalize str q = R at *
      generalize str l = Z at *
      go_wp2_with (first | (go_at_call 23; (with_reducible refine (hI _).mono ?_); rintro e w' ⟨rfl, hB'⟩; replace hB1 := hB1.trans (hB'.mono hB1.size); clear hB') | (go_at_call 24; (with_reducible refine (hS _).mono ?_); rintro e w' ⟨rfl, hB'⟩; replace hB1 := hB1.trans (hB'.mono hB1.size); clear hB') | (go_at_call 11; (with_reducible refine (hP _).mono ?_); rintro e w' ⟨rfl, hB'⟩; replace hB1 := hB1.trans (hB'.mono hB1.size); clear hB') | (go_at_call 11; (with_reducible refine (hQ _).mono ?_); rintro e w' ⟨rfl, hB'⟩; replace hB1 := hB1.trans (hB'.mono hB1.size); clear hB'))
      go_ret
      exact ⟨rfl, hB1⟩
end Go.Proofs.YtghfmoanpgaijaaDoor
