/-
  The walk of the law on DeskOk.
-/
import Derived.Test.YtimnhedjapakhaaDraw12c
import Derived.Test.YtimnhedjapakhaaI12Z
import Derived.Test.YtimnhedjapakhaaL12Z
namespace Go.Proofs.Ytimnhedjapakhaa
open Go.RowKit Go.BigFrame

theorem deskB_now {d : Dk} (h : deskB d = true) : deskB (d.1, []) = true := by
  obtain ⟨_, h2, _⟩ := deskB_is.1 h
  exact deskB_is.2 ⟨fun r hr => by simp at hr, h2, by simp⟩
theorem deskB_none : deskB ([], []) = false := by decide

set_option maxRecDepth 100000 in
set_option maxHeartbeats 2000000 in
theorem lawDeskOk (a0 : Option Addr) (len0 cap0 : Nat) (z0 : List Int) (w : World) (w0 : IsRow .u8 w a0 len0 cap0 z0) :
    Calls Try.prog 3 #[.slice a0 len0 cap0] w fun e w' => e = .returned (.bool true) ∧ Below w.heap.size w w' := by
  by_cases hbig : 1048576 < len0
  · go_enter Try.func3, Try.ntmps3
    go_wp2
    go_ret
    exact ⟨rfl, Below.refl _ _⟩
  · have hbi : ¬ (1048576 : Int) < (len0 : Int) := by omega
    go_enter Try.func3, Try.ntmps3
    go_wp2_with fail
    go_at_call 8
    refine (drawDeskOk w a0 len0 cap0 z0 w0).mono ?_
    rintro e w1 ⟨y, d, rfl, hd, hz, hB1⟩
    obtain ⟨x, p, rfl, hx, hp⟩ := id hd
    obtain ⟨xa, xc, rfl⟩ := hx.shape
    obtain ⟨pa, pc, rfl, _⟩ := id hp
    have ba := (Below.refl _ w1).alloc (Nat.le_refl _) (.cells #[.slice xa d.1.length xc, .slice pa d.2.length pc] 26)
    have ka := World.alloc_heap_new w1 (.cells #[.slice xa d.1.length xc, .slice pa d.2.length pc] 26)
    obtain ⟨w2, hw2⟩ : ∃ w2, w1.alloc (.cells #[.slice xa d.1.length xc, .slice pa d.2.length pc] 26) = w2 := ⟨_, rfl⟩
    rw [hw2] at ba ka
    have hd2 := hd.below ba
    have hx2 := hx.below ba
    have hB2 := hB1.trans (ba.mono hB1.size)
    obtain ⟨c0, c1, _, _⟩ := row_at ka
    have la := (Array.getElem?_eq_some_iff.1 ka).1
    clear hd hx hp ba hB1
    go_wp2_with fail
    go_at_call 9
    refine (implDeskOk _ d w2 hd2 hz.dkS).mono ?_
    rintro e w3 ⟨rfl, b3⟩
    have hB3 := hB2.trans (b3.mono hB2.size)
    have hd3 := hd2.below b3
    have hx3 := hx2.below b3
    have k3 := (b3.block _ la).trans ka
    have l3 := (Array.getElem?_eq_some_iff.1 k3).1
    obtain ⟨c0, c1, _, _⟩ := row_at k3
    clear hd2 hx2 ka la hB2 b3
    go_wp2_with fail
    go_at_call 10
    refine (specDeskOk _ d w3 hd3 hz.dkS).mono ?_
    rintro e w4 ⟨rfl, b4⟩
    have hB4 := hB3.trans (b4.mono hB3.size)
    have hx4 := hx3.below b4
    have k4 := (b4.block _ l3).trans k3
    obtain ⟨c0, c1, _, _⟩ := row_at k4
    have hN := fun V => implDeskOk (.agg #[.slice none 0 0, .slice none 0 0]) ([], []) V ⟨_, _, rfl, Ints.none _ _ _, PastI.none _ _ _⟩ rowsOk_none.dkZ.dkS
    rw [deskB_none] at hN
    clear hd3 hx3 k3 l3 hB3 b4
    cases hdb : deskB d with
    | false =>
      go_wp2_with (first
        | (go_at_call 9; go_loud (refine (hN _).mono ?_; clear hN; rintro e w5 ⟨rfl, b5⟩))
        | (go_at_call 11; go_loud (refine (alive_in _).mono ?_; rintro e w6 ⟨rfl, b6⟩)))
      go_ret
      exact ⟨rfl, hB4.trans ((b5.trans (b6.mono b5.size)).mono hB4.size)⟩
    | true =>
      have hO := implDeskOk (.agg #[.slice xa d.1.length xc, .slice none 0 0]) (d.1, []) w4 ⟨_, _, rfl, hx4, PastI.none _ _ _⟩ ⟨hz.dkS.1, by simp, fun j => by simp⟩
      rw [deskB_now hdb] at hO
      go_wp2_with fail
      go_at_call 9
      refine hO.mono ?_
      rintro e w5 ⟨rfl, b5⟩
      go_wp2_with (first
        | (go_at_call 9; go_loud (refine (hN _).mono ?_; clear hN; rintro e w6 ⟨rfl, b6⟩))
        | (go_at_call 11; go_loud (refine (alive_in _).mono ?_; rintro e w7 ⟨rfl, b7⟩)))
      go_ret
      exact ⟨rfl, hB4.trans ((b5.trans ((b6.trans (b7.mono b6.size)).mono b5.size)).mono hB4.size)⟩
end Go.Proofs.Ytimnhedjapakhaa
