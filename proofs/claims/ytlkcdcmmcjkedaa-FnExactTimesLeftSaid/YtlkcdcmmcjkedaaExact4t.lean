/-
  The walk of the law FnExactTimesLeft: it answers true at every two rows of numbers and every number, and nothing that was there is written.
-/
import Derived.Test.YtlkcdcmmcjkedaaLawKit2
import Derived.Test.YtlkcdcmmcjkedaaImpl4b
namespace Go.Proofs.Ytlkcdcmmcjkedaa
open Go.RowKit

set_option maxHeartbeats 2000000 in
theorem exactTimesLeft (v u : Value) (xs ys : List Int) (a2 : Int) (w : World) (n0 c0 n1 c1 : Nat) (p0 p1 : Option Addr) (ev : v = .slice p0 n0 c0) (eu : u = .slice p1 n1 c1) (hv : ArgI w v xs) (hu : ArgI w u ys) (hlx : xs.length = n0) (hly : ys.length = n1) :
    Calls Try.prog 11 #[v, u, .int .i64 a2] w fun e w' => e = .returned (.bool true) ∧ Below w.heap.size w w' := by
  by_cases hbx : 1048576 < n0
  · subst ev eu
    clear hv hu
    go_enter Try.func11, Try.ntmps11
    go_wp2
    go_ret
    exact ⟨rfl, Below.refl _ _⟩
  · by_cases hby : 1048576 < n1
    · subst ev eu
      clear hv hu
      have hbx' : ¬ (1048576 : Int) < n0 := by omega
      go_enter Try.func11, Try.ntmps11
      go_wp2
      go_ret
      exact ⟨rfl, Below.refl _ _⟩
    · have hT0 := fun W (h : Below w.heap.size w W) => toIntS_in w v xs W hv h (by omega)
      have hT1 := fun W (h : Below w.heap.size w W) => toIntS_in w u ys W hu h (by omega)
      have hbx' : ¬ (1048576 : Int) < n0 := by omega
      have hby' : ¬ (1048576 : Int) < n1 := by omega
      have hRl := timesLV_len xs ys a2
      have hS := fun x y W (h1 : Ints W x xs) (h2 : Ints W y ys) => specTimesLeft x y xs ys a2 W h1 h2
      have hI := fun x y W (h1 : Ints W x xs) (h2 : Ints W y ys) => implTimesLeft x y xs ys a2 W h1 h2 (by omega) (by omega)
      obtain ⟨R, hR⟩ : ∃ R, timesLV xs ys a2 = R := ⟨_, rfl⟩
      simp only [hR] at hS hI
      rw [hR] at hRl
      have hxl : xs.length ≤ 1048576 := by omega
      have hyl : ys.length ≤ 1048576 := by omega
      subst ev eu
      clear hv hu hR hlx hly hbx hby
      go_enter Try.func11, Try.ntmps11
      have D0 := Below.refl w.heap.size w
      go_wp2_with fail
      go_at_call 45
      refine (hT0 _ D0).mono ?_
      rintro e w1 ⟨r0, rfl, hown1, b1⟩
      have D1 := D0.trans (b1.mono D0.size)
      have or0 := OwnI.of_owns hown1
      have z1 := b1.size
      clear b1 hown1
      go_wp2_with fail
      go_at_call 45
      refine (hT1 _ D1).mono ?_
      rintro e w2 ⟨r1, rfl, hown2, b2⟩
      have D2 := D1.trans (b2.mono D1.size)
      replace or0 := OwnI.below or0 b2
      have or1 := OwnI.of_owns hown2
      have z2 := b2.size
      clear b2 hown2
      go_wp2_with fail
      go_at_call 20
      refine (hS _ _ _ (OwnI.ints or0) (OwnI.ints or1)).mono ?_
      rintro e w3 ⟨v0, rfl, hown3, b3⟩
      have D3 := D2.trans (b3.mono D2.size)
      replace or0 := OwnI.below or0 b3
      replace or1 := OwnI.below or1 b3
      have ov0 := OwnI.of_owns hown3
      have z3 := b3.size
      clear b3 hown3
      clear or0 or1
      go_wp2_with fail
      go_at_call 45
      refine (hT0 _ D3).mono ?_
      rintro e w4 ⟨x0, rfl, hown4, b4⟩
      have D4 := D3.trans (b4.mono D3.size)
      replace ov0 := OwnI.below ov0 b4
      have ox0 := OwnI.of_owns hown4
      have z4 := b4.size
      clear b4 hown4
      go_wp2_with fail
      go_at_call 45
      refine (hT1 _ D4).mono ?_
      rintro e w5 ⟨x1, rfl, hown5, b5⟩
      have D5 := D4.trans (b5.mono D4.size)
      replace ov0 := OwnI.below ov0 b5
      replace ox0 := OwnI.below ox0 b5
      have ox1 := OwnI.of_owns hown5
      have z5 := b5.size
      clear b5 hown5
      go_wp2_with fail
      go_at_call 18
      refine (hI _ _ _ (OwnI.ints ox0) (OwnI.ints ox1)).mono ?_
      rintro e w6 ⟨g0, rfl, hown6, b6⟩
      have D6 := D5.trans (b6.mono D5.size)
      replace ov0 := OwnI.below ov0 b6
      replace ox0 := OwnI.below ox0 b6
      replace ox1 := OwnI.below ox1 b6
      have og0 := OwnI.of_owns hown6
      have z6 := b6.size
      clear b6 hown6
      go_wp2_with fail
      go_at_call 46
      refine (eqIntS_in _ _ R _ (by omega) (OwnI.ints og0) (OwnI.ints ov0)).mono ?_
      rintro e w7 ⟨rfl, b7⟩
      have D7 := D6.trans (b7.mono D6.size)
      replace ov0 := OwnI.below ov0 b7
      replace ox0 := OwnI.below ox0 b7
      replace ox1 := OwnI.below ox1 b7
      replace og0 := OwnI.below og0 b7
      have z7 := b7.size
      clear b7
      go_wp2_with fail
      go_at_call 45
      refine (hT0 _ D7).mono ?_
      rintro e w8 ⟨s0, rfl, hown8, b8⟩
      have D8 := D7.trans (b8.mono D7.size)
      replace ov0 := OwnI.below ov0 b8
      replace ox0 := OwnI.below ox0 b8
      replace ox1 := OwnI.below ox1 b8
      replace og0 := OwnI.below og0 b8
      have os0 := OwnI.of_owns hown8
      have z8 := b8.size
      clear b8 hown8
      go_wp2_with fail
      go_at_call 46
      refine (eqIntS_in _ _ xs _ (by omega) (OwnI.ints ox0) (OwnI.ints os0)).mono ?_
      rintro e w9 ⟨rfl, b9⟩
      have D9 := D8.trans (b9.mono D8.size)
      replace ov0 := OwnI.below ov0 b9
      replace ox0 := OwnI.below ox0 b9
      replace ox1 := OwnI.below ox1 b9
      replace og0 := OwnI.below og0 b9
      replace os0 := OwnI.below os0 b9
      have z9 := b9.size
      clear b9
      clear os0
      go_wp2_with fail
      go_at_call 45
      refine (hT1 _ D9).mono ?_
      rintro e w10 ⟨s1, rfl, hown10, b10⟩
      have D10 := D9.trans (b10.mono D9.size)
      replace ov0 := OwnI.below ov0 b10
      replace ox0 := OwnI.below ox0 b10
      replace ox1 := OwnI.below ox1 b10
      replace og0 := OwnI.below og0 b10
      have os1 := OwnI.of_owns hown10
      have z10 := b10.size
      clear b10 hown10
      go_wp2_with fail
      go_at_call 46
      refine (eqIntS_in _ _ ys _ (by omega) (OwnI.ints ox1) (OwnI.ints os1)).mono ?_
      rintro e w11 ⟨rfl, b11⟩
      have D11 := D10.trans (b11.mono D10.size)
      replace ov0 := OwnI.below ov0 b11
      replace ox0 := OwnI.below ox0 b11
      replace ox1 := OwnI.below ox1 b11
      replace og0 := OwnI.below og0 b11
      replace os1 := OwnI.below os1 b11
      have z11 := b11.size
      clear b11
      clear os1
      go_wp2_with fail
      go_at_call 47
      refine (mark_own ox0 (by omega) 1 (by omega)).mono ?_
      rintro e w12 ⟨rfl, omx0, row12, hg12, hr12⟩
      have D12 := D11.grown hg12 D11.size (fun j e => by have := hr12 j e; omega)
      have z12 := hg12.size
      replace ov0 := OwnI.grown ov0 hg12 (fun j e => by have := hr12 j e; omega)
      replace ox1 := OwnI.grown ox1 hg12 (fun j e => by have := hr12 j e; omega)
      replace og0 := OwnI.grown og0 hg12 (fun j e => by have := hr12 j e; omega)
      clear hg12 hr12 ox0
      clear omx0
      go_wp2_with fail
      go_at_call 47
      refine (mark_own ox1 (by omega) (1 + xs.length) (by omega)).mono ?_
      rintro e w13 ⟨rfl, omx1, row13, hg13, hr13⟩
      have D13 := D12.grown hg13 D12.size (fun j e => by have := hr13 j e; omega)
      have z13 := hg13.size
      replace ov0 := OwnI.grown ov0 hg13 (fun j e => by have := hr13 j e; omega)
      replace og0 := OwnI.grown og0 hg13 (fun j e => by have := hr13 j e; omega)
      clear hg13 hr13 ox1
      clear omx1
      have hk0 : ¬ ((1 + xs.length + ys.length : Nat) : Int) < 0 := by omega
      go_wp2_with fail
      go_at_call 46
      refine (eqIntS_in _ _ R _ (by omega) (OwnI.ints og0) (OwnI.ints ov0)).mono ?_
      rintro e w14 ⟨rfl, b14⟩
      have D14 := D13.trans (b14.mono D13.size)
      replace ov0 := OwnI.below ov0 b14
      replace og0 := OwnI.below og0 b14
      have z14 := b14.size
      clear b14
      go_wp2_with fail
      go_at_call 47
      refine (mark_own og0 (by omega) 1 (by omega)).mono ?_
      rintro e w15 ⟨rfl, omg0, row15, hg15, hr15⟩
      have D15 := D14.grown hg15 D14.size (fun j e => by have := hr15 j e; omega)
      have z15 := hg15.size
      replace ov0 := OwnI.grown ov0 hg15 (fun j e => by have := hr15 j e; omega)
      clear hg15 hr15 og0
      go_wp2_with fail
      go_at_call 48
      refine (held_own 1 omg0 (by omega) (by omega)).mono ?_
      rintro e w90 ⟨rfl, rfl⟩
      have hq0 : ¬ ((1 + R.length : Nat) : Int) < 0 := by omega
      go_wp2_with fail
      go_at_call 45
      refine (hT0 _ D15).mono ?_
      rintro e w16 ⟨r2, rfl, hown16, b16⟩
      have D16 := D15.trans (b16.mono D15.size)
      replace ov0 := OwnI.below ov0 b16
      replace omg0 := OwnI.below omg0 b16
      have or2 := OwnI.of_owns hown16
      have z16 := b16.size
      clear b16 hown16
      go_wp2_with fail
      go_at_call 45
      refine (hT1 _ D16).mono ?_
      rintro e w17 ⟨r3, rfl, hown17, b17⟩
      have D17 := D16.trans (b17.mono D16.size)
      replace ov0 := OwnI.below ov0 b17
      replace omg0 := OwnI.below omg0 b17
      replace or2 := OwnI.below or2 b17
      have or3 := OwnI.of_owns hown17
      have z17 := b17.size
      clear b17 hown17
      go_wp2_with fail
      go_at_call 18
      refine (hI _ _ _ (OwnI.ints or2) (OwnI.ints or3)).mono ?_
      rintro e w18 ⟨h0, rfl, hown18, b18⟩
      have D18 := D17.trans (b18.mono D17.size)
      replace ov0 := OwnI.below ov0 b18
      replace omg0 := OwnI.below omg0 b18
      replace or2 := OwnI.below or2 b18
      replace or3 := OwnI.below or3 b18
      have oh0 := OwnI.of_owns hown18
      have z18 := b18.size
      clear b18 hown18
      go_wp2_with fail
      go_at_call 46
      refine (eqIntS_in _ _ R _ (by omega) (OwnI.ints oh0) (OwnI.ints ov0)).mono ?_
      rintro e w19 ⟨rfl, b19⟩
      have D19 := D18.trans (b19.mono D18.size)
      replace ov0 := OwnI.below ov0 b19
      replace omg0 := OwnI.below omg0 b19
      replace or2 := OwnI.below or2 b19
      replace or3 := OwnI.below or3 b19
      replace oh0 := OwnI.below oh0 b19
      have z19 := b19.size
      clear b19
      go_wp2_with fail
      go_at_call 48
      refine (held_own 1 omg0 (by omega) (by omega)).mono ?_
      rintro e w91 ⟨rfl, rfl⟩
      go_wp2
      go_ret
      exact ⟨rfl, D19⟩

theorem exactTimesLeft' (a0 : Option Addr) (len0 cap0 : Nat) (z0 : List Int) (a1 : Option Addr) (len1 cap1 : Nat) (z1 : List Int) (a2 : Int) (w : World) (w0 : IsRow .i64 w a0 len0 cap0 z0) (w1 : IsRow .i64 w a1 len1 cap1 z1) :
    Calls Try.prog 11 #[.slice a0 len0 cap0, .slice a1 len1 cap1, .int .i64 a2] w fun e w' => e = .returned (.bool true) ∧ Below w.heap.size w w' :=
  exactTimesLeft _ _ (z0.take len0) (z1.take len1) a2 w len0 cap0 len1 cap1 a0 a1 rfl rfl w0.arg.1 w1.arg.1 w0.arg.2 w1.arg.2
end Go.Proofs.Ytlkcdcmmcjkedaa
