/-
  The walk of the law FnTimesLeft: it answers true at every code, and nothing that was there is written.
-/
import Derived.Test.YtlkcdcmmcjkedaaImpl4b
import Derived.Test.YtlkcdcmmcjkedaaDraw4t
import Derived.Test.YtlkcdcmmcjkedaaAlive
namespace Go.Proofs.Ytlkcdcmmcjkedaa
open Go.RowKit

theorem okT_parts {xs ys : List Int} {q : Int} (h : okT xs ys q = true) : (2 ≤ q ∧ q ≤ 1000) ∧ rowOk xs q = true ∧ rowOk ys q = true := by
  unfold okT at h
  rw [Bool.and_eq_true, Bool.and_eq_true] at h
  exact ⟨of_decide_eq_true h.1, h.2⟩
theorem timesLN_swap (Q : Nat) (xs ys : List Int) : timesLN Q ys xs = timesLN Q xs ys := by
  unfold timesLN
  rw [Nat.add_comm]
  refine List.map_congr_left fun t _ => ?_
  rw [conv_swap]
theorem timesLN_one {Q : Nat} {xs : List Int} (h : rowOk xs Q = true) : timesLN Q xs [1] = xs := by
  apply List.ext_getElem?
  intro t
  unfold timesLN
  rw [List.getElem?_map]
  by_cases ht : t < xs.length
  · have h1 := natL_at h ht
    rw [List.getElem?_range (by simpa using ht), Option.map_some, conv_one (natL xs) (natL [1]) rfl (fun i hi => natL_over _ _ (by simp; omega)), Nat.mod_eq_of_lt (by omega), h1.1, List.getD, List.getElem?_eq_getElem ht]; rfl
  · rw [List.getElem?_eq_none (by simpa using ht), List.getElem?_eq_none (by omega)]; rfl
theorem natL_row (Q m : Nat) : natL (rowLN Q m) = leftN Q m := by
  funext i
  by_cases h : i < m + 1
  · unfold natL rowLN; rw [rowLP_getD Q m (m + 1) i h]; simp
  · rw [natL_over _ _ (by rw [rowLN_len]; omega), leftN_over Q m i (by omega)]
theorem timesLN_rows (Q m k : Nat) : timesLN Q (rowLN Q m) (rowLN Q k) = rowLN Q (m + k) := by
  unfold timesLN
  rw [natL_row, natL_row, rowLN_len, rowLN_len]
  unfold rowLN rowLP
  rw [show m + 1 + (k + 1) - 1 = m + k + 1 by omega]
  refine List.map_congr_left fun t _ => ?_
  have h1 := conv_mod (bin m) (bin k) t Q
  rw [conv_bin] at h1
  rw [show conv (leftN Q m) (leftN Q k) t % Q = leftN Q (m + k) t from h1]
theorem rowOk_row {Q m : Nat} (hQ : 2 ≤ Q) (hm : m ≤ 299) : rowOk (rowLN Q m) Q = true := by
  refine rowOk_of (by rw [rowLN_len]; omega) (by rw [rowLN_len]; omega) (fun i hi => ?_)
  rw [rowLN_len] at hi
  unfold rowLN
  rw [rowLP_getD Q m (m + 1) i hi]
  have := leftN_lt hQ m i
  omega
theorem rowLV_one {Q m : Nat} (hQ : 2 ≤ Q) (hQ2 : Q ≤ 1000) (h1 : 1 ≤ m) (h2 : m ≤ 300) : rowLV ((m : Int) - 1) Q = rowLN Q (m - 1) := by
  rw [show (m : Int) - 1 = ((m - 1 : Nat) : Int) by omega, rowLV_nat (by omega) hQ hQ2]
theorem ints_one (w : World) : Ints (w.alloc (.cells #[.int .i64 1] 3)) (.slice (some ⟨w.heap.size, 0, none⟩) 1 1) [1] := by
  refine .inr ⟨w.heap.size, 1, rfl, by simp, fun i hi => ?_⟩
  obtain rfl : i = 0 := by simpa using hi
  exact (cell_of_row _ _ _ _ _ _ (heap_alloc_new w _)).trans rfl
theorem Ints.alloc {w : World} {v : Value} {xs : List Int} (h : Ints w v xs) (o : Obj) : Ints (w.alloc o) v xs := h.below ((Below.refl _ w).alloc (Nat.le_refl _) o)

set_option maxHeartbeats 4000000 in
theorem lawTimesLeft (a0 : Option Addr) (len0 cap0 : Nat) (z0 : List Int) (w : World) (w0 : IsRow .u8 w a0 len0 cap0 z0) :
    Calls Try.prog 3 #[.slice a0 len0 cap0] w fun e w' => e = .returned (.bool true) ∧ Below w.heap.size w w' := by
  by_cases hbig : 1048576 < len0
  · go_enter Try.func3, Try.ntmps3
    go_wp2
    go_ret
    exact ⟨rfl, Below.refl _ _⟩
  · go_enter Try.func3, Try.ntmps3
    go_wp2_with fail
    go_at_call 17
    refine (drawTimesLeft w a0 len0 cap0 z0 w0).mono ?_
    rintro e w1 ⟨⟨v, u, q, xs, ys, rfl, hv, hu, hxl, hyl, hq⟩, hB1⟩
    cases hok : okT xs ys q with
    | false =>
      have hnil := timesLV_not hok
      go_wp2_with fail
      go_at_call 18
      refine (implTimesLeft v u xs ys q _ hv hu (by omega) (by omega)).mono ?_
      rw [hnil]
      rintro e w2 ⟨r2, rfl, hown2, hB2⟩
      replace hB1 := hB1.trans (hB2.mono hB1.size)
      replace hv := hv.below hB2
      replace hu := hu.below hB2
      go_wp2_with fail
      go_at_call 20
      refine (specTimesLeft v u xs ys q _ hv hu).mono ?_
      rw [hnil]
      rintro e w3 ⟨r3, rfl, hown3, hB3⟩
      replace hB1 := hB1.trans (hB3.mono hB1.size)
      have hi2 := (Ints.of_owns (xs := []) hown2).below hB3
      have hi3 := Ints.of_owns (xs := []) hown3
      clear hown2 hown3 hv hu hnil hok
      obtain ⟨a, c, rfl⟩ := Ints.form hi2
      go_wp2_with fail
      go_at_call 19
      refine (sameInts_in _ _ [] _ (by simp) hi2 hi3).mono ?_
      rintro e w4 ⟨rfl, hB4⟩
      replace hB1 := hB1.trans (hB4.mono hB1.size)
      clear hi2 hi3
      go_wp2_with (go_at_call 21; refine (alive_in _).mono ?_; rintro e w' ⟨rfl, hB'⟩; replace hB1 := hB1.trans (hB'.mono hB1.size); clear hB')
      go_ret
      exact ⟨rfl, hB1⟩
    | true =>
      obtain ⟨⟨hq1, hq2⟩, hxo, hyo⟩ := okT_parts hok
      obtain ⟨Q, rfl⟩ : ∃ n : Nat, q = n := ⟨q.toNat, by omega⟩
      have hQ : 2 ≤ Q := by omega
      have hQ2 : Q ≤ 1000 := by omega
      have hx := rowOk_len hxo
      have hy := rowOk_len hyo
      have hsp := timesLV_ok hok
      have hlen := timesLN_len Q xs ys
      have hcommute := hide (timesLN_swap Q xs ys)
      have hone := hide (timesLN_one hxo)
      have hone2 := hide (rowOk_of (q := (Q : Int)) (xs := [1]) (by simp) (by simp) (fun i hi => by obtain rfl : i = 0 := by simpa using hi
                                                                                                    simp; omega))
      obtain ⟨nx, hnx⟩ : ∃ n, xs.length = n := ⟨_, rfl⟩
      obtain ⟨ny, hny⟩ : ∃ n, ys.length = n := ⟨_, rfl⟩
      obtain ⟨a1, c1, hf1⟩ := Ints.form hv
      obtain ⟨a2, c2, hf2⟩ := Ints.form hu
      rw [hnx] at hf1 hx hlen
      rw [hny] at hf2 hy hlen
      subst hf1 hf2
      obtain ⟨N, hN⟩ : ∃ N, nx + ny - 1 = N := ⟨_, rfl⟩
      rw [hN] at hlen
      clear hok hq hq1 hq2 hxl hyl
      replace hxo := hide hxo
      replace hyo := hide hyo
      replace hnx := hide hnx
      replace hny := hide hny
      have hN' := hide hN
      clear hN
      go_wp2_with fail
      go_at_call 18
      refine (implTimesLeft_in _ _ xs ys Q _ hv hu hQ hQ2 hxo.out hyo.out).mono ?_
      rintro e w2 ⟨r, rfl, hown, hB⟩
      have hr := Ints.of_owns hown
      clear hown
      replace hB1 := hB1.trans (hB.mono hB1.size)
      replace hv := hv.below hB
      replace hu := hu.below hB
      clear hB
      obtain ⟨ar, cr, hf⟩ := Ints.form hr
      rw [hlen] at hf
      subst hf
      replace hlen := hide hlen
      go_wp2_with fail
      go_at_call 20
      refine (specTimesLeft _ _ xs ys Q _ hv hu).mono ?_
      rw [hsp]
      clear hsp
      rintro e w3 ⟨r3, rfl, hown, hB⟩
      have hr3 := Ints.of_owns hown
      clear hown
      replace hB1 := hB1.trans (hB.mono hB1.size)
      replace hv := hv.below hB
      replace hu := hu.below hB
      replace hr := hr.below hB
      clear hB
      have hN0 : ((N : Int) == 0) = false := by have := hN'.out; simp; omega
      have hT9 : (timesLN Q xs ys).length ≤ 1000000000 := by have := hlen.out; have := hN'.out; omega
      go_wp2_with fail
      go_at_call 19
      refine (sameInts_in _ _ (timesLN Q xs ys) _ hT9 hr hr3).mono ?_
      rintro e w4 ⟨rfl, hB⟩
      replace hB1 := hB1.trans (hB.mono hB1.size)
      replace hv := hv.below hB
      replace hu := hu.below hB
      replace hr := hr.below hB
      clear hB hr3
      go_wp2_with fail
      go_at_call 22
      refine (implRowLeft _ _ _).mono ?_
      rw [rowLV_one hQ hQ2 hx.1 hx.2]
      rintro e w5 ⟨va, rfl, hown, hB⟩
      have ha := Ints.of_owns hown
      clear hown
      replace hB1 := hB1.trans (hB.mono hB1.size)
      replace hv := hv.below hB
      replace hu := hu.below hB
      replace hr := hr.below hB
      clear hB
      go_wp2_with fail
      go_at_call 22
      refine (implRowLeft _ _ _).mono ?_
      rw [rowLV_one hQ hQ2 hy.1 hy.2]
      rintro e w6 ⟨vb, rfl, hown, hB⟩
      have hb := Ints.of_owns hown
      clear hown
      replace hB1 := hB1.trans (hB.mono hB1.size)
      replace hv := hv.below hB
      replace hu := hu.below hB
      replace hr := hr.below hB
      replace ha := ha.below hB
      clear hB
      go_wp2_with fail
      go_at_call 22
      refine (implRowLeft _ _ _).mono ?_
      rintro e w7 ⟨vc, rfl, hown, hB⟩
      have hc := Ints.of_owns hown
      clear hown
      replace hB1 := hB1.trans (hB.mono hB1.size)
      replace hv := hv.below hB
      replace hu := hu.below hB
      replace hr := hr.below hB
      replace ha := ha.below hB
      replace hb := hb.below hB
      clear hB
      have hx9 : xs.length ≤ 1000000000 := by have := hnx.out; omega
      have hNi : (nx : Int) + (ny : Int) - 1 = (N : Int) := by have := hN'.out; omega
      by_cases h300 : nx + ny - 2 ≤ 300
      · have hrow : rowLV ((nx : Int) + (ny : Int) - 2) Q = rowLN Q (nx - 1 + (ny - 1)) := by
          rw [show (nx : Int) + (ny : Int) - 2 = ((nx - 1 + (ny - 1) : Nat) : Int) by omega, rowLV_nat (by omega) hQ hQ2]
        rw [hrow] at hc
        clear hrow
        obtain ⟨ac, cc, hf⟩ := Ints.form hc
        obtain ⟨L, hL⟩ : ∃ L, (rowLN Q (nx - 1 + (ny - 1))).length = L := ⟨_, rfl⟩
        rw [hL] at hf
        subst hf
        have hL0 : ((L : Int) == 0) = false := by rw [← hL, rowLN_len]; simp; omega
        have hL9 : (rowLN Q (nx - 1 + (ny - 1))).length ≤ 1000000000 := by rw [rowLN_len]; omega
        have hka := hide (rowOk_row (m := nx - 1) hQ (by omega))
        have hkb := hide (rowOk_row (m := ny - 1) hQ (by omega))
        have hrows := hide (timesLN_rows Q (nx - 1) (ny - 1))
        replace hL := hide hL
        go_wp2_with fail
        go_at_call 18
        refine (implTimesLeft_in _ _ ys xs Q _ hu hv hQ hQ2 hyo.out hxo.out).mono ?_
        rw [hcommute.out]
        rintro e w8 ⟨r8, rfl, hown, hB⟩
        have h8 := Ints.of_owns hown
        clear hown
        replace hB1 := hB1.trans (hB.mono hB1.size)
        replace hv := hv.below hB
        replace hu := hu.below hB
        replace hr := hr.below hB
        replace ha := ha.below hB
        replace hb := hb.below hB
        replace hc := hc.below hB
        clear hB
        go_wp2_with fail
        go_at_call 19
        refine (sameInts_in _ _ (timesLN Q xs ys) _ hT9 h8 hr).mono ?_
        rintro e w9 ⟨rfl, hB⟩
        clear h8
        replace hB1 := hB1.trans (hB.mono hB1.size)
        replace hv := hv.below hB
        replace hu := hu.below hB
        replace hr := hr.below hB
        replace ha := ha.below hB
        replace hb := hb.below hB
        replace hc := hc.below hB
        clear hB
        go_wp2_with fail
        go_at_call 18
        refine (implTimesLeft_in _ _ xs [1] Q _ (hv.alloc _) (ints_one _) hQ hQ2 hxo.out hone2.out).mono ?_
        rw [hone.out]
        rintro e w10 ⟨r10, rfl, hown, hB⟩
        have h10 := Ints.of_owns hown
        clear hown
        replace hB1 := (hB1.alloc hB1.size _).trans (hB.mono (hB1.alloc hB1.size _).size)
        replace hv := (hv.alloc _).below hB
        replace hu := (hu.alloc _).below hB
        replace hr := (hr.alloc _).below hB
        replace ha := (ha.alloc _).below hB
        replace hb := (hb.alloc _).below hB
        replace hc := (hc.alloc _).below hB
        clear hB
        go_wp2_with fail
        go_at_call 19
        refine (sameInts_in _ _ xs _ hx9 h10 hv).mono ?_
        rintro e w11 ⟨rfl, hB⟩
        clear h10
        replace hB1 := hB1.trans (hB.mono hB1.size)
        replace hv := hv.below hB
        replace hu := hu.below hB
        replace hr := hr.below hB
        replace ha := ha.below hB
        replace hb := hb.below hB
        replace hc := hc.below hB
        clear hB
        go_wp2_with fail
        go_at_call 18
        refine (implTimesLeft_in va vb _ _ Q _ ha hb hQ hQ2 hka.out hkb.out).mono ?_
        rw [hrows.out]
        rintro e w12 ⟨r12, rfl, hown, hB⟩
        have h12 := Ints.of_owns hown
        clear hown
        replace hB1 := hB1.trans (hB.mono hB1.size)
        replace hc := hc.below hB
        clear hB
        go_wp2_with fail
        go_at_call 19
        refine (sameInts_in _ _ _ _ hL9 h12 hc).mono ?_
        rintro e w13 ⟨rfl, hB⟩
        replace hB1 := hB1.trans (hB.mono hB1.size)
        clear hB h12 hc ha hb hv hu hr
        go_wp2
        go_ret
        exact ⟨rfl, hB1⟩
      · have hrow : rowLV ((nx : Int) + (ny : Int) - 2) Q = [] := rowLV_bad (by unfold badR; omega)
        rw [hrow] at hc
        clear hrow
        obtain ⟨ac, cc, hf⟩ := Ints.form hc
        have hf' : vc = .slice ac 0 cc := hf
        clear hf
        subst hf'
        go_wp2_with fail
        go_at_call 18
        refine (implTimesLeft_in _ _ ys xs Q _ hu hv hQ hQ2 hyo.out hxo.out).mono ?_
        rw [hcommute.out]
        rintro e w8 ⟨r8, rfl, hown, hB⟩
        have h8 := Ints.of_owns hown
        clear hown
        replace hB1 := hB1.trans (hB.mono hB1.size)
        replace hv := hv.below hB
        replace hu := hu.below hB
        replace hr := hr.below hB
        replace ha := ha.below hB
        replace hb := hb.below hB
        replace hc := hc.below hB
        clear hB
        go_wp2_with fail
        go_at_call 19
        refine (sameInts_in _ _ (timesLN Q xs ys) _ hT9 h8 hr).mono ?_
        rintro e w9 ⟨rfl, hB⟩
        clear h8
        replace hB1 := hB1.trans (hB.mono hB1.size)
        replace hv := hv.below hB
        replace hu := hu.below hB
        replace hr := hr.below hB
        replace ha := ha.below hB
        replace hb := hb.below hB
        replace hc := hc.below hB
        clear hB
        go_wp2_with fail
        go_at_call 18
        refine (implTimesLeft_in _ _ xs [1] Q _ (hv.alloc _) (ints_one _) hQ hQ2 hxo.out hone2.out).mono ?_
        rw [hone.out]
        rintro e w10 ⟨r10, rfl, hown, hB⟩
        have h10 := Ints.of_owns hown
        clear hown
        replace hB1 := (hB1.alloc hB1.size _).trans (hB.mono (hB1.alloc hB1.size _).size)
        replace hv := (hv.alloc _).below hB
        replace hu := (hu.alloc _).below hB
        replace hr := (hr.alloc _).below hB
        replace ha := (ha.alloc _).below hB
        replace hb := (hb.alloc _).below hB
        replace hc := (hc.alloc _).below hB
        clear hB
        go_wp2_with fail
        go_at_call 19
        refine (sameInts_in _ _ xs _ hx9 h10 hv).mono ?_
        rintro e w11 ⟨rfl, hB⟩
        clear h10
        replace hB1 := hB1.trans (hB.mono hB1.size)
        replace hv := hv.below hB
        replace hu := hu.below hB
        replace hr := hr.below hB
        replace ha := ha.below hB
        replace hb := hb.below hB
        replace hc := hc.below hB
        clear hB
        clear hc ha hb hv hu hr
        go_wp2
        go_ret
        exact ⟨rfl, hB1⟩
end Go.Proofs.Ytlkcdcmmcjkedaa
