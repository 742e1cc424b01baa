/-
  The model's PlaceOf and FirstBack: for every argument what they hand back.
-/
import Derived.Test.YtghfmoanpgaijaaDoorSpec11
namespace Go.Proofs.YtghfmoanpgaijaaDoor
open Go.RowKit

theorem plW_down (u d : Nat) (r : List Nat) : plW u d (41 :: r) = (if 0 < u then wayT d (u - 1) else 0) + plW u (d - 1) r := rfl
theorem plW_up (u d : Nat) (r : List Nat) : plW u d (40 :: r) = plW (u - 1) d r := rfl

set_option maxHeartbeats 1000000 in
theorem specPlaceOf (l : List Nat) (hl : ∀ x ∈ l, x < 256) (hn : l.length ≤ 1048576) (w : World) : Calls Tryd.prog 21 #[.string (str l)] w fun e w' => e = .returned (.tuple #[.int .i64 (placeV l), .bool (wayL l)]) ∧ Below w.heap.size w w' := by
  have hW := fun w => specWayOk l hl hn w
  by_cases hbad : wayL l = false
  · rw [placeV_bad hbad]
    rw [hbad] at hW ⊢
    clear hbad
    go_enter Tryd.func21, Tryd.ntmps21
    go_wp2_with (go_at_call 12; (with_reducible refine (hW _).mono ?_); rintro e w' ⟨rfl, rfl⟩)
    go_ret2
    exact ⟨rfl, Below.refl _ _⟩
  · have hgood : wayL l = true := by simpa using hbad
    rw [placeV_is hgood]
    obtain ⟨hk, h14, U, hU, hlU⟩ := wayL_is hgood
    have hU2 : l.length / 2 = U := by omega
    rw [hU2]
    rw [hgood] at hW ⊢
    obtain ⟨T, hT⟩ : ∃ T, plW U U l = T := ⟨_, rfl⟩
    have hT' := hide hT
    have hTl : T < 5000000000000000 := by
      have h1 : plW U U l < wayT U U := plW_le (h := 0) hk rfl (show l.length = U + U by omega) hU
      have h2 := (way_one U U (by omega) (Nat.le_refl _)).2.2.1
      omega
    rw [hT]
    have hsz := str_size l
    have hget := fun i h => str_get l i h hl
    obtain ⟨s, hs⟩ : ∃ s, str l = s := ⟨_, rfl⟩
    rw [hs] at hsz hget hW ⊢
    have hq : Int.tdiv (l.length : Int) 2 = (U : Int) := by rw [← hU2]; exact tdiv_n l.length 2
    have hw1 : IntKind.i64.wrap (U : Int) = U := IntWalk.i64_in _ (by omega)
    have hB1 := Below.refl w.heap.size w
    have hlU1 : l.length ≤ 2 * U := by omega
    have hlU2 : 2 * U ≤ l.length := by omega
    clear hs hbad hgood hT hU2 hlU
    go_enter Tryd.func21, Tryd.ntmps21
    go_wp2_with (go_at_call 12; (with_reducible refine (hW _).mono ?_); rintro e w' ⟨rfl, rfl⟩)
    clear hq hw1 hW
    go_loopw [4, 5, 6, 7] (fun a b c d wr => ∃ k u d' h n : Nat, a = .int .i64 u ∧ b = .int .i64 d' ∧ c = .int .i64 n ∧ d = .int .i64 k ∧ k + u + d' ≤ l.length ∧ l.length ≤ k + u + d' ∧ d' ≤ u + h ∧ u + h ≤ d' ∧ d' ≤ 7 ∧ Hid (okW h (l.drop k) = true) ∧ Hid (n + plW u d' (l.drop k) = T) ∧ Below w.heap.size w wr) (fun _ _ _ d _ => l.length - (intOf d).toNat)
    case atStart => exact ⟨0, U, U, 0, 0, rfl, rfl, rfl, rfl, by omega, by omega, by omega, by omega, hU, hide hk, hide (by rw [← hT'.out, Nat.zero_add]; rfl), hB1⟩
    case round =>
      clear hk hT' hB1
      obtain ⟨k, u, d', h, n, rfl, rfl, rfl, rfl, hlen, hlen2, hd, hd2, hd7, hok, hpl, hB⟩ := hrel
      by_cases hlt : k < l.length
      · have hki : (k : Int) < (s.size : Int) := by omega
        have hg := hget k
        have hdr := drop_get l k hlt
        have hok' := hok.out
        have hpl' := hpl.out
        obtain ⟨c, hc⟩ : ∃ c, l.getD k 0 = c := ⟨_, rfl⟩
        rw [hc] at hg hdr
        rw [hdr] at hok' hpl'
        have hks : ∀ hh : k < s.size, s[k].toNat = c := hg
        have hdl : (l.drop (k + 1)).length ≤ u + d' - 1 := by rw [List.length_drop]; omega
        clear hget hc hok hpl hg hdr hl
        rcases okW_cases hok' with ⟨rfl, h1⟩ | ⟨rfl, m, rfl, h1⟩
        · have hge := okW_ge _ _ h1
          have hu : 0 < u := by omega
          have hnx := hide h1
          have hpx : Hid (n + plW (u - 1) d' (l.drop (k + 1)) = T) := hide hpl'
          clear hok' hpl' h1
          go_wp2
          go_roundw
          case rel => exact ⟨k + 1, u - 1, d', h + 1, n, by go_num, rfl, rfl, by go_num, by omega, by omega, by omega, by omega, hd7, hnx, hpx, hB⟩
          case measure => simp [intOf]; omega
        · rw [plW_down] at hpl'
          have hnx := hide h1
          by_cases hu : 0 < u
          · rw [if_pos hu] at hpl'
            have hwt := (way_one d' (u - 1) (by omega) (by omega)).2.2.1
            have hC : ∀ w, Calls Tryd.prog 38 #[.int .i64 d', .int .i64 ((u : Int) - 1)] w fun e w' => e = .returned (.int .i64 (wayT d' (u - 1) : Nat)) ∧ Below w.heap.size w w' := fun w => by
              have hx := specWaysTo d' ((u - 1 : Nat) : Int) w
              rwa [wayToV_nat (by omega) (by omega), show ((u - 1 : Nat) : Int) = (u : Int) - 1 by omega] at hx
            generalize wayT d' (u - 1) = t at *
            have hpx : Hid (n + t + plW u (d' - 1) (l.drop (k + 1)) = T) := hide (by omega)
            have hnl : n + t ≤ T := by omega
            clear hok' hpl' h1
            go_wp2_with (go_at_call 38; (with_reducible refine (hC _).mono ?_); rintro e w' ⟨rfl, hB'⟩; replace hB := hB.trans (hB'.mono hB.size); clear hB')
            go_roundw
            case rel => exact ⟨k + 1, u, d' - 1, m, n + t, rfl, by go_num, by go_num, by go_num, by omega, by omega, by omega, by omega, by omega, hnx, hpx, hB⟩
            case measure => simp [intOf]; omega
          · rw [if_neg hu, Nat.zero_add] at hpl'
            obtain rfl : u = 0 := by omega
            have hpx := hide hpl'
            clear hok' hpl' h1
            go_wp2
            go_roundw
            case rel => exact ⟨k + 1, 0, d' - 1, m, n, rfl, by go_num, rfl, by go_num, by omega, by omega, by omega, by omega, by omega, hnx, hpx, hB⟩
            case measure => simp [intOf]; omega
      · obtain rfl : k = l.length := by omega
        have hki : ¬ ((l.length : Nat) : Int) < (s.size : Int) := by omega
        have hpl' := hpl.out
        rw [drop_all] at hpl'
        obtain rfl : n = T := hpl'
        clear hget hok hpl hl
        go_wp2
        go_ret2
        exact ⟨rfl, hB⟩

theorem cut_front (r : List Nat) (j : Nat) : ((40 :: r).drop 1).take (j + 1 - 1) = r.take j := by rw [Nat.add_sub_cancel]; rfl

/-- Where the loop is: at the beginning, or behind the first bracket with j bytes read. -/
def FrAt (r : List Nat) (k high : Nat) : Prop :=
  (k = 0 ∧ high = 0) ∨ ∃ j h, k = j + 1 ∧ high = h + 1 ∧ j ≤ r.length ∧ h ≤ j ∧ okW (h + 1) (r.drop j) = true ∧ backW 0 r = (r.take j ++ (backW h (r.drop j)).1, (backW h (r.drop j)).2)

theorem fr_first (r : List Nat) (h : okW 1 r = true) : FrAt r 1 1 := .inr ⟨0, 0, rfl, rfl, Nat.zero_le _, Nat.le_refl _, by simpa using h, by simp⟩
theorem fr_up {r : List Nat} {j h : Nat} (hj : j < r.length) (hc : r.getD j 0 = 40) (hb : backW 0 r = (r.take j ++ (backW h (r.drop j)).1, (backW h (r.drop j)).2)) :
    backW 0 r = (r.take (j + 1) ++ (backW (h + 1) (r.drop (j + 1))).1, (backW (h + 1) (r.drop (j + 1))).2) := by
  rw [drop_get r j hj, hc] at hb
  rw [hb]
  have ht : r.take (j + 1) = r.take j ++ [40] := by
    rw [List.take_add_one, List.getElem?_eq_getElem hj]
    have : r[j] = 40 := by rw [← hc, List.getD, List.getElem?_eq_getElem hj, Option.getD_some]
    rw [this]; rfl
  rw [ht, List.append_assoc]; rfl
theorem fr_down {r : List Nat} {j m : Nat} (hj : j < r.length) (hc : r.getD j 0 = 41) (hb : backW 0 r = (r.take j ++ (backW (m + 1) (r.drop j)).1, (backW (m + 1) (r.drop j)).2)) :
    backW 0 r = (r.take (j + 1) ++ (backW m (r.drop (j + 1))).1, (backW m (r.drop (j + 1))).2) := by
  rw [drop_get r j hj, hc] at hb
  rw [hb]
  have ht : r.take (j + 1) = r.take j ++ [41] := by
    rw [List.take_add_one, List.getElem?_eq_getElem hj]
    have : r[j] = 41 := by rw [← hc, List.getD, List.getElem?_eq_getElem hj, Option.getD_some]
    rw [this]; rfl
  rw [ht, List.append_assoc]; rfl
theorem fr_end {r : List Nat} {j : Nat} (hj : j < r.length) (hc : r.getD j 0 = 41) (hb : backW 0 r = (r.take j ++ (backW 0 (r.drop j)).1, (backW 0 (r.drop j)).2)) :
    backW 0 r = (r.take j, r.drop (j + 1)) := by
  rw [drop_get r j hj, hc] at hb
  rw [hb]
  show (r.take j ++ [], r.drop (j + 1)) = _
  rw [List.append_nil]

set_option maxHeartbeats 1000000 in
theorem specFirstBack (l : List Nat) (hl : ∀ x ∈ l, x < 256) (hn : l.length ≤ 1048576) (w : World) : Calls Tryd.prog 24 #[.string (str l)] w fun e w' => e = .returned (.tuple #[.string (str (frontA l)), .string (str (frontR l)), .bool (frontB l)]) ∧ Below w.heap.size w w' := by
  have hW := fun w => specWayOk l hl hn w
  by_cases hbad : frontB l = false
  · obtain ⟨e1, e2⟩ := front_bad hbad
    rw [e1, e2, hbad, str_nil]
    by_cases h0 : l.length = 0
    · have hsz : (str l).size = 0 := by rw [str_size, h0]
      generalize str l = s at *
      clear e1 e2 hbad h0 hW
      go_enter Tryd.func24, Tryd.ntmps24
      go_wp2
      go_loop [5, 6] (fun a b => a = .int .i64 0 ∧ b = .int .i64 0) (fun _ b => 0)
      case atStart => exact ⟨rfl, rfl⟩
      case round =>
        obtain ⟨rfl, rfl⟩ := hrel
        go_wp2
        go_ret3
        exact ⟨rfl, Below.refl _ _⟩
    · have hw0 : wayL l = false := by
        unfold frontB at hbad
        rw [Bool.and_eq_false_iff] at hbad
        exact hbad.resolve_right (fun hh => by rw [decide_eq_false_iff_not] at hh; omega)
      rw [hw0] at hW
      have hsz : ¬ (str l).size ≤ 0 := by rw [str_size]; omega
      have hsz2 : (0 : Int) < ((str l).size : Int) := by rw [str_size]; omega
      generalize str l = s at *
      clear e1 e2 hbad h0 hw0
      go_enter Tryd.func24, Tryd.ntmps24
      go_wp2
      go_loop [5, 6] (fun a b => a = .int .i64 0 ∧ b = .int .i64 0) (fun _ b => 0)
      case atStart => exact ⟨rfl, rfl⟩
      case round =>
        obtain ⟨rfl, rfl⟩ := hrel
        go_wp2_with (go_at_call 12; (with_reducible refine (hW _).mono ?_); rintro e w' ⟨rfl, rfl⟩)
        go_ret3
        exact ⟨rfl, Below.refl _ _⟩
  · have hgood : frontB l = true := by simpa using hbad
    obtain ⟨r, hlr, hk, h13, eA, eR⟩ := front_is hgood
    have hway : wayL l = true := by unfold frontB at hgood; rw [Bool.and_eq_true] at hgood; exact hgood.1
    rw [eA, eR, hgood]
    rw [hway] at hW
    have hsz := str_size l
    have hget := fun i h => str_get l i h hl
    have hcut := fun a b => str_cut l a b
    have hll : l.length = r.length + 1 := by rw [hlr]; rfl
    obtain ⟨s, hs⟩ : ∃ s, str l = s := ⟨_, rfl⟩
    rw [hs] at hsz hget hW hcut ⊢
    obtain ⟨A, hA⟩ : ∃ A, str (backW 0 r).1 = A := ⟨_, rfl⟩
    obtain ⟨R, hR⟩ : ∃ R, str (backW 0 r).2 = R := ⟨_, rfl⟩
    rw [hA, hR]
    have hA' := hide hA
    have hR' := hide hR
    have hsn1 : s.size ≤ r.length + 1 := by omega
    have hsn2 : r.length + 1 ≤ s.size := by omega
    have hlr' := hide hlr
    clear hs hbad hgood eA eR hway hA hR hlr hll hsz hl hn
    go_enter Tryd.func24, Tryd.ntmps24
    go_wp2
    go_loop [5, 6] (fun a b => ∃ k high : Nat, k ≤ r.length ∧ a = .int .i64 high ∧ b = .int .i64 k ∧ FrAt r k high) (fun _ b => r.length + 1 - (intOf b).toNat)
    case atStart => exact ⟨0, 0, by omega, rfl, rfl, .inl ⟨rfl, rfl⟩⟩
    case round =>
      obtain ⟨k, high, hkr, rfl, rfl, hfr⟩ := hrel
      have hki : (k : Int) < (s.size : Int) := by omega
      rcases hfr with ⟨rfl, rfl⟩ | ⟨j, h, rfl, rfl, hj, hhj, hok, hb⟩
      · have hks : ∀ hh : 0 < s.size, s[0].toNat = 40 := fun hh => by rw [hget 0 hh, hlr'.out]; rfl
        have hr0 : 0 < r.length := by
          rcases r with _ | ⟨x, r⟩
          · rw [okW_nil] at hk; cases hk
          · simp
        have hF := fr_first r hk
        clear hget hcut hk
        go_wp2_with (go_at_call 12; (with_reducible refine (hW _).mono ?_); rintro e w' ⟨rfl, rfl⟩)
        go_round
        case rel => exact ⟨1, 1, by omega, by go_num, by go_num, hF⟩
        case measure => simp [intOf]
      · have hjl : j < r.length := by omega
        have hc0 : l.getD (j + 1) 0 = r.getD j 0 := by rw [hlr'.out]; rfl
        obtain ⟨c, hc⟩ : ∃ c, r.getD j 0 = c := ⟨_, rfl⟩
        have hks : ∀ hh : j + 1 < s.size, s[j + 1].toNat = c := fun hh => by rw [hget _ hh, hc0, hc]
        have hok' := hok
        rw [drop_get r j hjl, hc] at hok'
        rcases okW_cases hok' with ⟨rfl, h1⟩ | ⟨rfl, m, hm, h1⟩
        · have hF : FrAt r (j + 1 + 1) (h + 1 + 1) := .inr ⟨j + 1, h + 1, rfl, rfl, by omega, by omega, h1, fr_up hjl hc hb⟩
          have hlt : j + 1 < r.length := by
            have := okW_ge _ _ h1
            rw [List.length_drop] at this
            omega
          have hnz : ((h : Int) + 1 + 1 == 0) = false := by simp; omega
          clear hget hcut hk hc0 hc hok hok' hb h1
          go_wp2_with (go_at_call 12; (with_reducible refine (hW _).mono ?_); rintro e w' ⟨rfl, rfl⟩)
          go_round
          case rel => exact ⟨j + 1 + 1, h + 1 + 1, by omega, by go_num, by go_num, hF⟩
          case measure => simp [intOf]; omega
        · obtain rfl : h = m := by omega
          cases h with
          | succ m =>
            have hF : FrAt r (j + 1 + 1) (m + 1) := .inr ⟨j + 1, m, rfl, rfl, by omega, by omega, h1, fr_down hjl hc hb⟩
            have hlt : j + 1 < r.length := by
              have := okW_ge _ _ h1
              rw [List.length_drop] at this
              omega
            have hnz : (((m + 1 : Nat) : Int) + 1 - 1 == 0) = false := by simp; omega
            have hnz2 : ((m : Int) + 1 == 0) = false := by simp; omega
            clear hget hcut hk hc0 hc hok hok' hb h1 hm
            go_wp2_with (go_at_call 12; (with_reducible refine (hW _).mono ?_); rintro e w' ⟨rfl, rfl⟩)
            go_round
            case rel => exact ⟨j + 1 + 1, m + 1, by omega, by go_num, by go_num, hF⟩
            case measure => simp [intOf]; omega
          | zero =>
            have hend := fr_end hjl hc hb
            have c1 : s.extract 1 (j + 1) = A := by rw [hcut, hlr'.out, cut_front, ← hA'.out, hend]
            have c2 : s.extract (j + 2) s.size = R := by
              rw [hcut, ← hR'.out, hend]
              congr 1
              rw [hlr'.out]
              show ((r.drop (j + 1)).take (s.size - (j + 2))) = _
              rw [List.take_of_length_le (by rw [List.length_drop]; omega)]
            have hn1 : ((j : Int) + 1).toNat = j + 1 := by omega
            have hn2 : ((j : Int) + 1 + 1).toNat = j + 2 := by omega
            have hi2 : (j : Int) + 1 + 1 ≤ (s.size : Int) := by omega
            have hi3 : (1 : Int) ≤ (j : Int) + 1 := by omega
            have hi4 : (0 : Int) ≤ (j : Int) + 1 + 1 := by omega
            clear hget hcut hk hc0 hc hok hok' hb h1 hm hend
            go_wp2_with (go_at_call 12; (with_reducible refine (hW _).mono ?_); rintro e w' ⟨rfl, rfl⟩)
            go_quiet (fail)
            go_wp2
            go_ret3
            have hBr := Below.refl w.heap.size w
            exact ⟨rfl, ⟨hBr.os, hBr.tape, hBr.output, hBr.size, hBr.block⟩⟩
end Go.Proofs.YtghfmoanpgaijaaDoor
