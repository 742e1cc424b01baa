/-
  The walks of the exact laws of chapter 10: each answers true at every ring and number, and nothing that was there is written.
-/
import Derived.Test.YtmnmbelmcdfcjaaLawKit2
import Derived.Test.YtmnmbelmcdfcjaaRows2
import Derived.Test.YtmnmbelmcdfcjaaSpec10c
import Derived.Test.YtmnmbelmcdfcjaaSpec10d
import Derived.Test.YtmnmbelmcdfcjaaImpl10
namespace Go.Proofs.Ytmnmbelmcdfcjaa
open Go.RowKit


set_option maxHeartbeats 2000000 in
theorem exactRing (v : Value) (xs : List Int) (w : World) (n0 c0 : Nat) (p0 : Option Addr) (ev : v = .slice p0 n0 c0) (hv : ArgI w v xs) (hlx : xs.length = n0) :
    Calls Try.prog 9 #[v] w fun e w' => e = .returned (.bool true) ∧ Below w.heap.size w w' := by
  by_cases hbx : 1048576 < n0
  · subst ev
    clear hv
    go_enter Try.func9, Try.ntmps9
    go_wp2
    go_ret
    exact ⟨rfl, Below.refl _ _⟩
  · have hT := fun W (h : Below w.heap.size w W) => toIntS_in w v xs W hv h (by omega)
    have hbx' : ¬ (1048576 : Int) < n0 := by omega
    have hxl : xs.length ≤ 1048576 := by omega
    have hS := fun W x (h : Ints W x xs) (_ : Lies x) => specRing x xs W h (by omega)
    have hI := fun W x (h : Ints W x xs) (_ : Lies x) => implRing x xs W h (by omega)
    obtain ⟨R, hR⟩ : ∃ R, ringB xs = R := ⟨_, rfl⟩
    simp only [hR] at hS hI
    clear hR
    subst ev
    clear hv hlx hbx
    cases R
    all_goals
      go_enter Try.func9, Try.ntmps9
      have D0 := Below.refl w.heap.size w
      go_wp2_with fail
      go_at_call 35
      refine (hT _ D0).mono ?_
      rintro e w1 ⟨r0, rfl, hown1, b1⟩
      have D1 := D0.trans (b1.mono D0.size)
      have z1 := b1.size
      have lr0 := Lies.of_owns hown1
      have or0 := OwnI.of_owns hown1
      clear b1 hown1
      go_wp2_with fail
      go_at_call 17
      refine (hS _ _ (OwnI.ints or0) lr0).mono ?_
      rintro e w0 ⟨rfl, rfl⟩
      clear or0
      go_wp2_with fail
      go_at_call 35
      refine (hT _ D1).mono ?_
      rintro e w2 ⟨x0, rfl, hown2, b2⟩
      have D2 := D1.trans (b2.mono D1.size)
      have z2 := b2.size
      have lx0 := Lies.of_owns hown2
      have ox0 := OwnI.of_owns hown2
      clear b2 hown2
      go_wp2_with fail
      go_at_call 16
      refine (hI _ _ (OwnI.ints ox0) lx0).mono ?_
      rintro e w3 ⟨rfl, b3⟩
      have D3 := D2.trans (b3.mono D2.size)
      replace ox0 := OwnI.below ox0 b3
      have z3 := b3.size
      clear b3
      go_wp2_with fail
      go_at_call 35
      refine (hT _ D3).mono ?_
      rintro e w4 ⟨s0, rfl, hown4, b4⟩
      have D4 := D3.trans (b4.mono D3.size)
      replace ox0 := OwnI.below ox0 b4
      have z4 := b4.size
      have ls0 := Lies.of_owns hown4
      have os0 := OwnI.of_owns hown4
      clear b4 hown4
      go_wp2_with fail
      go_at_call 36
      refine (eqIntS_in _ _ xs _ (by omega) (OwnI.ints ox0) (OwnI.ints os0)).mono ?_
      rintro e w5 ⟨rfl, b5⟩
      have D5 := D4.trans (b5.mono D4.size)
      replace ox0 := OwnI.below ox0 b5
      replace os0 := OwnI.below os0 b5
      have z5 := b5.size
      clear b5
      go_wp2
      go_ret
      exact ⟨rfl, D5⟩

theorem exactRing' (a0 : Option Addr) (len0 cap0 : Nat) (z0 : List Int) (w : World) (w0 : IsRow .i64 w a0 len0 cap0 z0) :
    Calls Try.prog 9 #[.slice a0 len0 cap0] w fun e w' => e = .returned (.bool true) ∧ Below w.heap.size w w' :=
  exactRing _ (z0.take len0) w len0 cap0 a0 rfl w0.arg.1 w0.arg.2


set_option maxHeartbeats 2000000 in
theorem exactEnd10 (v : Value) (xs : List Int) (w : World) (n0 c0 : Nat) (p0 : Option Addr) (ev : v = .slice p0 n0 c0) (hv : ArgI w v xs) (hlx : xs.length = n0) :
    Calls Try.prog 12 #[v] w fun e w' => e = .returned (.bool true) ∧ Below w.heap.size w w' := by
  by_cases hbx : 1048576 < n0
  · subst ev
    clear hv
    go_enter Try.func12, Try.ntmps12
    go_wp2
    go_ret
    exact ⟨rfl, Below.refl _ _⟩
  · have hT := fun W (h : Below w.heap.size w W) => toIntS_in w v xs W hv h (by omega)
    have hbx' : ¬ (1048576 : Int) < n0 := by omega
    have hxl : xs.length ≤ 1048576 := by omega
    have hS := fun W x (h : Ints W x xs) (hl : Lies x) => specEnd10 x xs W h hl (by omega)
    have hI := fun W x (h : Ints W x xs) (hl : Lies x) => implEnd10 x xs W h hl (by omega)
    obtain ⟨R0, hR0⟩ : ∃ R0, endI xs = R0 := ⟨_, rfl⟩
    obtain ⟨R1, hR1⟩ : ∃ R1, endB xs = R1 := ⟨_, rfl⟩
    simp only [hR0, hR1] at hS hI
    clear hR0 hR1
    subst ev
    clear hv hlx hbx
    cases R1
    all_goals
      go_enter Try.func12, Try.ntmps12
      have D0 := Below.refl w.heap.size w
      go_wp2_with fail
      go_at_call 35
      refine (hT _ D0).mono ?_
      rintro e w1 ⟨r0, rfl, hown1, b1⟩
      have D1 := D0.trans (b1.mono D0.size)
      have z1 := b1.size
      have lr0 := Lies.of_owns hown1
      have or0 := OwnI.of_owns hown1
      clear b1 hown1
      go_wp2_with fail
      go_at_call 28
      refine (hS _ _ (OwnI.ints or0) lr0).mono ?_
      rintro e w2 ⟨rfl, b2⟩
      have D2 := D1.trans (b2.mono D1.size)
      replace or0 := OwnI.below or0 b2
      have z2 := b2.size
      clear b2
      clear or0
      go_wp2_with fail
      go_at_call 35
      refine (hT _ D2).mono ?_
      rintro e w3 ⟨x0, rfl, hown3, b3⟩
      have D3 := D2.trans (b3.mono D2.size)
      have z3 := b3.size
      have lx0 := Lies.of_owns hown3
      have ox0 := OwnI.of_owns hown3
      clear b3 hown3
      go_wp2_with fail
      go_at_call 27
      refine (hI _ _ (OwnI.ints ox0) lx0).mono ?_
      rintro e w4 ⟨rfl, b4⟩
      have D4 := D3.trans (b4.mono D3.size)
      replace ox0 := OwnI.below ox0 b4
      have z4 := b4.size
      clear b4
      go_wp2_with fail
      go_at_call 35
      refine (hT _ D4).mono ?_
      rintro e w5 ⟨s0, rfl, hown5, b5⟩
      have D5 := D4.trans (b5.mono D4.size)
      replace ox0 := OwnI.below ox0 b5
      have z5 := b5.size
      have ls0 := Lies.of_owns hown5
      have os0 := OwnI.of_owns hown5
      clear b5 hown5
      go_wp2_with fail
      go_at_call 36
      refine (eqIntS_in _ _ xs _ (by omega) (OwnI.ints ox0) (OwnI.ints os0)).mono ?_
      rintro e w6 ⟨rfl, b6⟩
      have D6 := D5.trans (b6.mono D5.size)
      replace ox0 := OwnI.below ox0 b6
      replace os0 := OwnI.below os0 b6
      have z6 := b6.size
      clear b6
      go_wp2
      go_ret
      exact ⟨rfl, D6⟩

theorem exactEnd10' (a0 : Option Addr) (len0 cap0 : Nat) (z0 : List Int) (w : World) (w0 : IsRow .i64 w a0 len0 cap0 z0) :
    Calls Try.prog 12 #[.slice a0 len0 cap0] w fun e w' => e = .returned (.bool true) ∧ Below w.heap.size w w' :=
  exactEnd10 _ (z0.take len0) w len0 cap0 a0 rfl w0.arg.1 w0.arg.2


set_option maxHeartbeats 2000000 in
theorem exactAgain (v : Value) (xs : List Int) (w : World) (n0 c0 : Nat) (p0 : Option Addr) (ev : v = .slice p0 n0 c0) (hv : ArgI w v xs) (hlx : xs.length = n0) :
    Calls Try.prog 14 #[v] w fun e w' => e = .returned (.bool true) ∧ Below w.heap.size w w' := by
  by_cases hbx : 1048576 < n0
  · subst ev
    clear hv
    go_enter Try.func14, Try.ntmps14
    go_wp2
    go_ret
    exact ⟨rfl, Below.refl _ _⟩
  · have hT := fun W (h : Below w.heap.size w W) => toIntS_in w v xs W hv h (by omega)
    have hbx' : ¬ (1048576 : Int) < n0 := by omega
    have hxl : xs.length ≤ 1048576 := by omega
    have hS := fun W x (h : Ints W x xs) (hl : Lies x) => specAgain x xs W h hl (by omega)
    have hI := fun W x (h : Ints W x xs) (hl : Lies x) => implAgain x xs W h hl (by omega)
    obtain ⟨R0, hR0⟩ : ∃ R0, againI xs = R0 := ⟨_, rfl⟩
    obtain ⟨R1, hR1⟩ : ∃ R1, againJ xs = R1 := ⟨_, rfl⟩
    obtain ⟨R2, hR2⟩ : ∃ R2, againB xs = R2 := ⟨_, rfl⟩
    simp only [hR0, hR1, hR2] at hS hI
    clear hR0 hR1 hR2
    subst ev
    clear hv hlx hbx
    cases R2
    all_goals
      go_enter Try.func14, Try.ntmps14
      have D0 := Below.refl w.heap.size w
      go_wp2_with fail
      go_at_call 35
      refine (hT _ D0).mono ?_
      rintro e w1 ⟨r0, rfl, hown1, b1⟩
      have D1 := D0.trans (b1.mono D0.size)
      have z1 := b1.size
      have lr0 := Lies.of_owns hown1
      have or0 := OwnI.of_owns hown1
      clear b1 hown1
      go_wp2_with fail
      go_at_call 34
      refine (hS _ _ (OwnI.ints or0) lr0).mono ?_
      rintro e w2 ⟨rfl, b2⟩
      have D2 := D1.trans (b2.mono D1.size)
      replace or0 := OwnI.below or0 b2
      have z2 := b2.size
      clear b2
      clear or0
      go_wp2_with fail
      go_at_call 35
      refine (hT _ D2).mono ?_
      rintro e w3 ⟨x0, rfl, hown3, b3⟩
      have D3 := D2.trans (b3.mono D2.size)
      have z3 := b3.size
      have lx0 := Lies.of_owns hown3
      have ox0 := OwnI.of_owns hown3
      clear b3 hown3
      go_wp2_with fail
      go_at_call 33
      refine (hI _ _ (OwnI.ints ox0) lx0).mono ?_
      rintro e w4 ⟨rfl, b4⟩
      have D4 := D3.trans (b4.mono D3.size)
      replace ox0 := OwnI.below ox0 b4
      have z4 := b4.size
      clear b4
      go_wp2_with fail
      go_at_call 35
      refine (hT _ D4).mono ?_
      rintro e w5 ⟨s0, rfl, hown5, b5⟩
      have D5 := D4.trans (b5.mono D4.size)
      replace ox0 := OwnI.below ox0 b5
      have z5 := b5.size
      have ls0 := Lies.of_owns hown5
      have os0 := OwnI.of_owns hown5
      clear b5 hown5
      go_wp2_with fail
      go_at_call 36
      refine (eqIntS_in _ _ xs _ (by omega) (OwnI.ints ox0) (OwnI.ints os0)).mono ?_
      rintro e w6 ⟨rfl, b6⟩
      have D6 := D5.trans (b6.mono D5.size)
      replace ox0 := OwnI.below ox0 b6
      replace os0 := OwnI.below os0 b6
      have z6 := b6.size
      clear b6
      go_wp2
      go_ret
      exact ⟨rfl, D6⟩

theorem exactAgain' (a0 : Option Addr) (len0 cap0 : Nat) (z0 : List Int) (w : World) (w0 : IsRow .i64 w a0 len0 cap0 z0) :
    Calls Try.prog 14 #[.slice a0 len0 cap0] w fun e w' => e = .returned (.bool true) ∧ Below w.heap.size w w' :=
  exactAgain _ (z0.take len0) w len0 cap0 a0 rfl w0.arg.1 w0.arg.2


set_option maxHeartbeats 2000000 in
theorem exactRound (v : Value) (xs : List Int) (w : World) (n0 c0 : Nat) (p0 : Option Addr) (ev : v = .slice p0 n0 c0) (hv : ArgI w v xs) (hlx : xs.length = n0) :
    Calls Try.prog 10 #[v] w fun e w' => e = .returned (.bool true) ∧ Below w.heap.size w w' := by
  by_cases hbx : 1048576 < n0
  · subst ev
    clear hv
    go_enter Try.func10, Try.ntmps10
    go_wp2
    go_ret
    exact ⟨rfl, Below.refl _ _⟩
  · have hT := fun W (h : Below w.heap.size w W) => toIntS_in w v xs W hv h (by omega)
    have hbx' : ¬ (1048576 : Int) < n0 := by omega
    have hxl : xs.length ≤ 1048576 := by omega
    have hS := fun W x (h : Ints W x xs) (hl : Lies x) => specRound x xs W h (by omega)
    have hI := fun W x (h : Ints W x xs) (hl : Lies x) => implRound x xs W h hl (by omega)
    have hRl := roundV_len xs
    obtain ⟨R, hR⟩ : ∃ R, roundV xs = R := ⟨_, rfl⟩
    simp only [hR] at hS hI
    rw [hR] at hRl
    clear hR
    subst ev
    clear hv hlx hbx
    first | skip
    all_goals
      go_enter Try.func10, Try.ntmps10
      have D0 := Below.refl w.heap.size w
      go_wp2_with fail
      go_at_call 35
      refine (hT _ D0).mono ?_
      rintro e w1 ⟨r0, rfl, hown1, b1⟩
      have D1 := D0.trans (b1.mono D0.size)
      have z1 := b1.size
      have lr0 := Lies.of_owns hown1
      have or0 := OwnI.of_owns hown1
      clear b1 hown1
      go_wp2_with fail
      go_at_call 22
      refine (hS _ _ (OwnI.ints or0) lr0).mono ?_
      rintro e w2 ⟨v0, rfl, hown2, b2⟩
      have D2 := D1.trans (b2.mono D1.size)
      replace or0 := OwnI.below or0 b2
      have z2 := b2.size
      have ov0 := OwnI.of_owns hown2
      clear b2 hown2
      clear or0
      go_wp2_with fail
      go_at_call 35
      refine (hT _ D2).mono ?_
      rintro e w3 ⟨x0, rfl, hown3, b3⟩
      have D3 := D2.trans (b3.mono D2.size)
      replace ov0 := OwnI.below ov0 b3
      have z3 := b3.size
      have lx0 := Lies.of_owns hown3
      have ox0 := OwnI.of_owns hown3
      clear b3 hown3
      go_wp2_with fail
      go_at_call 20
      refine (hI _ _ (OwnI.ints ox0) lx0).mono ?_
      rintro e w4 ⟨g0, rfl, hown4, b4⟩
      have D4 := D3.trans (b4.mono D3.size)
      replace ov0 := OwnI.below ov0 b4
      replace ox0 := OwnI.below ox0 b4
      have z4 := b4.size
      have og0 := OwnI.of_owns hown4
      clear b4 hown4
      go_wp2_with fail
      go_at_call 36
      refine (eqIntS_in _ _ R _ (by omega) (OwnI.ints og0) (OwnI.ints ov0)).mono ?_
      rintro e w5 ⟨rfl, b5⟩
      have D5 := D4.trans (b5.mono D4.size)
      replace ov0 := OwnI.below ov0 b5
      replace ox0 := OwnI.below ox0 b5
      replace og0 := OwnI.below og0 b5
      have z5 := b5.size
      clear b5
      go_wp2_with fail
      go_at_call 35
      refine (hT _ D5).mono ?_
      rintro e w6 ⟨s0, rfl, hown6, b6⟩
      have D6 := D5.trans (b6.mono D5.size)
      replace ov0 := OwnI.below ov0 b6
      replace ox0 := OwnI.below ox0 b6
      replace og0 := OwnI.below og0 b6
      have z6 := b6.size
      have ls0 := Lies.of_owns hown6
      have os0 := OwnI.of_owns hown6
      clear b6 hown6
      go_wp2_with fail
      go_at_call 36
      refine (eqIntS_in _ _ xs _ (by omega) (OwnI.ints ox0) (OwnI.ints os0)).mono ?_
      rintro e w7 ⟨rfl, b7⟩
      have D7 := D6.trans (b7.mono D6.size)
      replace ov0 := OwnI.below ov0 b7
      replace ox0 := OwnI.below ox0 b7
      replace og0 := OwnI.below og0 b7
      replace os0 := OwnI.below os0 b7
      have z7 := b7.size
      clear b7
      clear os0
      go_wp2_with fail
      go_at_call 37
      refine (mark_own ox0 (by omega) 1 (by omega)).mono ?_
      rintro e w8 ⟨rfl, omx0, row8, hg8, hr8⟩
      have D8 := D7.grown hg8 D7.size (fun j e => by have := hr8 j e; omega)
      have z8 := hg8.size
      replace ov0 := OwnI.grown ov0 hg8 (fun j e => by have := hr8 j e; omega)
      replace og0 := OwnI.grown og0 hg8 (fun j e => by have := hr8 j e; omega)
      clear hg8 hr8 ox0
      clear omx0
      have hk0 : ¬ ((1 + xs.length : Nat) : Int) < 0 := by omega
      go_wp2_with fail
      go_at_call 36
      refine (eqIntS_in _ _ R _ (by omega) (OwnI.ints og0) (OwnI.ints ov0)).mono ?_
      rintro e w9 ⟨rfl, b9⟩
      have D9 := D8.trans (b9.mono D8.size)
      replace ov0 := OwnI.below ov0 b9
      replace og0 := OwnI.below og0 b9
      have z9 := b9.size
      clear b9
      go_wp2_with fail
      go_at_call 37
      refine (mark_own og0 (by omega) 1 (by omega)).mono ?_
      rintro e w10 ⟨rfl, omg0, row10, hg10, hr10⟩
      have D10 := D9.grown hg10 D9.size (fun j e => by have := hr10 j e; omega)
      have z10 := hg10.size
      replace ov0 := OwnI.grown ov0 hg10 (fun j e => by have := hr10 j e; omega)
      clear hg10 hr10 og0
      go_wp2_with fail
      go_at_call 38
      refine (held_own 1 omg0 (by omega) (by omega)).mono ?_
      rintro e w0 ⟨rfl, rfl⟩
      have hq0 : ¬ ((1 + R.length : Nat) : Int) < 0 := by omega
      go_wp2_with fail
      go_at_call 35
      refine (hT _ D10).mono ?_
      rintro e w11 ⟨r2, rfl, hown11, b11⟩
      have D11 := D10.trans (b11.mono D10.size)
      replace ov0 := OwnI.below ov0 b11
      replace omg0 := OwnI.below omg0 b11
      have z11 := b11.size
      have lr2 := Lies.of_owns hown11
      have or2 := OwnI.of_owns hown11
      clear b11 hown11
      go_wp2_with fail
      go_at_call 20
      refine (hI _ _ (OwnI.ints or2) lr2).mono ?_
      rintro e w12 ⟨h0, rfl, hown12, b12⟩
      have D12 := D11.trans (b12.mono D11.size)
      replace ov0 := OwnI.below ov0 b12
      replace omg0 := OwnI.below omg0 b12
      replace or2 := OwnI.below or2 b12
      have z12 := b12.size
      have oh0 := OwnI.of_owns hown12
      clear b12 hown12
      go_wp2_with fail
      go_at_call 36
      refine (eqIntS_in _ _ R _ (by omega) (OwnI.ints oh0) (OwnI.ints ov0)).mono ?_
      rintro e w13 ⟨rfl, b13⟩
      have D13 := D12.trans (b13.mono D12.size)
      replace ov0 := OwnI.below ov0 b13
      replace omg0 := OwnI.below omg0 b13
      replace or2 := OwnI.below or2 b13
      replace oh0 := OwnI.below oh0 b13
      have z13 := b13.size
      clear b13
      go_wp2_with fail
      go_at_call 38
      refine (held_own 1 omg0 (by omega) (by omega)).mono ?_
      rintro e w0 ⟨rfl, rfl⟩
      go_wp2
      go_ret
      exact ⟨rfl, D13⟩

theorem exactRound' (a0 : Option Addr) (len0 cap0 : Nat) (z0 : List Int) (w : World) (w0 : IsRow .i64 w a0 len0 cap0 z0) :
    Calls Try.prog 10 #[.slice a0 len0 cap0] w fun e w' => e = .returned (.bool true) ∧ Below w.heap.size w w' :=
  exactRound _ (z0.take len0) w len0 cap0 a0 rfl w0.arg.1 w0.arg.2


set_option maxHeartbeats 2000000 in
theorem exactRounds (v : Value) (xs : List Int) (w : World) (n0 c0 : Nat) (p0 : Option Addr) (ev : v = .slice p0 n0 c0) (hv : ArgI w v xs) (hlx : xs.length = n0) (r : Int) (hf : Fits r) :
    Calls Try.prog 11 #[v, .int .i64 r] w fun e w' => e = .returned (.bool true) ∧ Below w.heap.size w w' := by
  by_cases hbx : 1048576 < n0
  · subst ev
    clear hv
    go_enter Try.func11, Try.ntmps11
    go_wp2
    go_ret
    exact ⟨rfl, Below.refl _ _⟩
  · have hT := fun W (h : Below w.heap.size w W) => toIntS_in w v xs W hv h (by omega)
    have hbx' : ¬ (1048576 : Int) < n0 := by omega
    have hxl : xs.length ≤ 1048576 := by omega
    have hS := fun W x (h : Ints W x xs) (hl : Lies x) => specRounds x xs r W h hl (by omega)
    have hI := fun W x (h : Ints W x xs) (hl : Lies x) => implRounds x xs r hf W h hl (by omega)
    have hRl := roundsV_len xs r
    obtain ⟨R, hR⟩ : ∃ R, roundsV xs r = R := ⟨_, rfl⟩
    simp only [hR] at hS hI
    rw [hR] at hRl
    clear hR
    subst ev
    clear hv hlx hbx
    first | skip
    all_goals
      go_enter Try.func11, Try.ntmps11
      have D0 := Below.refl w.heap.size w
      go_wp2_with fail
      go_at_call 35
      refine (hT _ D0).mono ?_
      rintro e w1 ⟨r0, rfl, hown1, b1⟩
      have D1 := D0.trans (b1.mono D0.size)
      have z1 := b1.size
      have lr0 := Lies.of_owns hown1
      have or0 := OwnI.of_owns hown1
      clear b1 hown1
      go_wp2_with fail
      go_at_call 25
      refine (hS _ _ (OwnI.ints or0) lr0).mono ?_
      rintro e w2 ⟨v0, rfl, hown2, b2⟩
      have D2 := D1.trans (b2.mono D1.size)
      replace or0 := OwnI.below or0 b2
      have z2 := b2.size
      have ov0 := OwnI.of_owns hown2
      clear b2 hown2
      clear or0
      go_wp2_with fail
      go_at_call 35
      refine (hT _ D2).mono ?_
      rintro e w3 ⟨x0, rfl, hown3, b3⟩
      have D3 := D2.trans (b3.mono D2.size)
      replace ov0 := OwnI.below ov0 b3
      have z3 := b3.size
      have lx0 := Lies.of_owns hown3
      have ox0 := OwnI.of_owns hown3
      clear b3 hown3
      go_wp2_with fail
      go_at_call 24
      refine (hI _ _ (OwnI.ints ox0) lx0).mono ?_
      rintro e w4 ⟨g0, rfl, hown4, b4⟩
      have D4 := D3.trans (b4.mono D3.size)
      replace ov0 := OwnI.below ov0 b4
      replace ox0 := OwnI.below ox0 b4
      have z4 := b4.size
      have og0 := OwnI.of_owns hown4
      clear b4 hown4
      go_wp2_with fail
      go_at_call 36
      refine (eqIntS_in _ _ R _ (by omega) (OwnI.ints og0) (OwnI.ints ov0)).mono ?_
      rintro e w5 ⟨rfl, b5⟩
      have D5 := D4.trans (b5.mono D4.size)
      replace ov0 := OwnI.below ov0 b5
      replace ox0 := OwnI.below ox0 b5
      replace og0 := OwnI.below og0 b5
      have z5 := b5.size
      clear b5
      go_wp2_with fail
      go_at_call 35
      refine (hT _ D5).mono ?_
      rintro e w6 ⟨s0, rfl, hown6, b6⟩
      have D6 := D5.trans (b6.mono D5.size)
      replace ov0 := OwnI.below ov0 b6
      replace ox0 := OwnI.below ox0 b6
      replace og0 := OwnI.below og0 b6
      have z6 := b6.size
      have ls0 := Lies.of_owns hown6
      have os0 := OwnI.of_owns hown6
      clear b6 hown6
      go_wp2_with fail
      go_at_call 36
      refine (eqIntS_in _ _ xs _ (by omega) (OwnI.ints ox0) (OwnI.ints os0)).mono ?_
      rintro e w7 ⟨rfl, b7⟩
      have D7 := D6.trans (b7.mono D6.size)
      replace ov0 := OwnI.below ov0 b7
      replace ox0 := OwnI.below ox0 b7
      replace og0 := OwnI.below og0 b7
      replace os0 := OwnI.below os0 b7
      have z7 := b7.size
      clear b7
      clear os0
      go_wp2_with fail
      go_at_call 37
      refine (mark_own ox0 (by omega) 1 (by omega)).mono ?_
      rintro e w8 ⟨rfl, omx0, row8, hg8, hr8⟩
      have D8 := D7.grown hg8 D7.size (fun j e => by have := hr8 j e; omega)
      have z8 := hg8.size
      replace ov0 := OwnI.grown ov0 hg8 (fun j e => by have := hr8 j e; omega)
      replace og0 := OwnI.grown og0 hg8 (fun j e => by have := hr8 j e; omega)
      clear hg8 hr8 ox0
      clear omx0
      have hk0 : ¬ ((1 + xs.length : Nat) : Int) < 0 := by omega
      go_wp2_with fail
      go_at_call 36
      refine (eqIntS_in _ _ R _ (by omega) (OwnI.ints og0) (OwnI.ints ov0)).mono ?_
      rintro e w9 ⟨rfl, b9⟩
      have D9 := D8.trans (b9.mono D8.size)
      replace ov0 := OwnI.below ov0 b9
      replace og0 := OwnI.below og0 b9
      have z9 := b9.size
      clear b9
      go_wp2_with fail
      go_at_call 37
      refine (mark_own og0 (by omega) 1 (by omega)).mono ?_
      rintro e w10 ⟨rfl, omg0, row10, hg10, hr10⟩
      have D10 := D9.grown hg10 D9.size (fun j e => by have := hr10 j e; omega)
      have z10 := hg10.size
      replace ov0 := OwnI.grown ov0 hg10 (fun j e => by have := hr10 j e; omega)
      clear hg10 hr10 og0
      go_wp2_with fail
      go_at_call 38
      refine (held_own 1 omg0 (by omega) (by omega)).mono ?_
      rintro e w0 ⟨rfl, rfl⟩
      have hq0 : ¬ ((1 + R.length : Nat) : Int) < 0 := by omega
      go_wp2_with fail
      go_at_call 35
      refine (hT _ D10).mono ?_
      rintro e w11 ⟨r2, rfl, hown11, b11⟩
      have D11 := D10.trans (b11.mono D10.size)
      replace ov0 := OwnI.below ov0 b11
      replace omg0 := OwnI.below omg0 b11
      have z11 := b11.size
      have lr2 := Lies.of_owns hown11
      have or2 := OwnI.of_owns hown11
      clear b11 hown11
      go_wp2_with fail
      go_at_call 24
      refine (hI _ _ (OwnI.ints or2) lr2).mono ?_
      rintro e w12 ⟨h0, rfl, hown12, b12⟩
      have D12 := D11.trans (b12.mono D11.size)
      replace ov0 := OwnI.below ov0 b12
      replace omg0 := OwnI.below omg0 b12
      replace or2 := OwnI.below or2 b12
      have z12 := b12.size
      have oh0 := OwnI.of_owns hown12
      clear b12 hown12
      go_wp2_with fail
      go_at_call 36
      refine (eqIntS_in _ _ R _ (by omega) (OwnI.ints oh0) (OwnI.ints ov0)).mono ?_
      rintro e w13 ⟨rfl, b13⟩
      have D13 := D12.trans (b13.mono D12.size)
      replace ov0 := OwnI.below ov0 b13
      replace omg0 := OwnI.below omg0 b13
      replace or2 := OwnI.below or2 b13
      replace oh0 := OwnI.below oh0 b13
      have z13 := b13.size
      clear b13
      go_wp2_with fail
      go_at_call 38
      refine (held_own 1 omg0 (by omega) (by omega)).mono ?_
      rintro e w0 ⟨rfl, rfl⟩
      go_wp2
      go_ret
      exact ⟨rfl, D13⟩

theorem exactRounds' (a0 : Option Addr) (len0 cap0 : Nat) (z0 : List Int) (r : Int) (w : World) (w0 : IsRow .i64 w a0 len0 cap0 z0) (hf : Fits r) :
    Calls Try.prog 11 #[.slice a0 len0 cap0, .int .i64 r] w fun e w' => e = .returned (.bool true) ∧ Below w.heap.size w w' :=
  exactRounds _ (z0.take len0) w len0 cap0 a0 rfl w0.arg.1 w0.arg.2 r hf


set_option maxHeartbeats 2000000 in
theorem exactBits (v : Value) (xs : List Int) (w : World) (n0 c0 : Nat) (p0 : Option Addr) (ev : v = .slice p0 n0 c0) (hv : ArgI w v xs) (hlx : xs.length = n0) (r : Int) (hf : Fits r) :
    Calls Try.prog 13 #[v, .int .i64 r] w fun e w' => e = .returned (.bool true) ∧ Below w.heap.size w w' := by
  by_cases hbx : 1048576 < n0
  · subst ev
    clear hv
    go_enter Try.func13, Try.ntmps13
    go_wp2
    go_ret
    exact ⟨rfl, Below.refl _ _⟩
  · have hT := fun W (h : Below w.heap.size w W) => toIntS_in w v xs W hv h (by omega)
    have hbx' : ¬ (1048576 : Int) < n0 := by omega
    have hxl : xs.length ≤ 1048576 := by omega
    have hS := fun W x (h : Ints W x xs) (hl : Lies x) => specBits x xs r W h (by omega)
    have hI := fun W x (h : Ints W x xs) (hl : Lies x) => implBits x xs r hf W h hl (by omega)
    have hRl := bitsV_len xs r
    obtain ⟨R, hR⟩ : ∃ R, bitsV xs r = R := ⟨_, rfl⟩
    simp only [hR] at hS hI
    rw [hR] at hRl
    clear hR
    subst ev
    clear hv hlx hbx
    first | skip
    all_goals
      go_enter Try.func13, Try.ntmps13
      have D0 := Below.refl w.heap.size w
      go_wp2_with fail
      go_at_call 35
      refine (hT _ D0).mono ?_
      rintro e w1 ⟨r0, rfl, hown1, b1⟩
      have D1 := D0.trans (b1.mono D0.size)
      have z1 := b1.size
      have lr0 := Lies.of_owns hown1
      have or0 := OwnI.of_owns hown1
      clear b1 hown1
      go_wp2_with fail
      go_at_call 31
      refine (hS _ _ (OwnI.ints or0) lr0).mono ?_
      rintro e w2 ⟨v0, rfl, hown2, b2⟩
      have D2 := D1.trans (b2.mono D1.size)
      replace or0 := OwnI.below or0 b2
      have z2 := b2.size
      have ov0 := OwnI.of_owns hown2
      clear b2 hown2
      clear or0
      go_wp2_with fail
      go_at_call 35
      refine (hT _ D2).mono ?_
      rintro e w3 ⟨x0, rfl, hown3, b3⟩
      have D3 := D2.trans (b3.mono D2.size)
      replace ov0 := OwnI.below ov0 b3
      have z3 := b3.size
      have lx0 := Lies.of_owns hown3
      have ox0 := OwnI.of_owns hown3
      clear b3 hown3
      go_wp2_with fail
      go_at_call 30
      refine (hI _ _ (OwnI.ints ox0) lx0).mono ?_
      rintro e w4 ⟨g0, rfl, hown4, b4⟩
      have D4 := D3.trans (b4.mono D3.size)
      replace ov0 := OwnI.below ov0 b4
      replace ox0 := OwnI.below ox0 b4
      have z4 := b4.size
      have og0 := OwnI.of_owns hown4
      clear b4 hown4
      go_wp2_with fail
      go_at_call 36
      refine (eqIntS_in _ _ R _ (by omega) (OwnI.ints og0) (OwnI.ints ov0)).mono ?_
      rintro e w5 ⟨rfl, b5⟩
      have D5 := D4.trans (b5.mono D4.size)
      replace ov0 := OwnI.below ov0 b5
      replace ox0 := OwnI.below ox0 b5
      replace og0 := OwnI.below og0 b5
      have z5 := b5.size
      clear b5
      go_wp2_with fail
      go_at_call 35
      refine (hT _ D5).mono ?_
      rintro e w6 ⟨s0, rfl, hown6, b6⟩
      have D6 := D5.trans (b6.mono D5.size)
      replace ov0 := OwnI.below ov0 b6
      replace ox0 := OwnI.below ox0 b6
      replace og0 := OwnI.below og0 b6
      have z6 := b6.size
      have ls0 := Lies.of_owns hown6
      have os0 := OwnI.of_owns hown6
      clear b6 hown6
      go_wp2_with fail
      go_at_call 36
      refine (eqIntS_in _ _ xs _ (by omega) (OwnI.ints ox0) (OwnI.ints os0)).mono ?_
      rintro e w7 ⟨rfl, b7⟩
      have D7 := D6.trans (b7.mono D6.size)
      replace ov0 := OwnI.below ov0 b7
      replace ox0 := OwnI.below ox0 b7
      replace og0 := OwnI.below og0 b7
      replace os0 := OwnI.below os0 b7
      have z7 := b7.size
      clear b7
      clear os0
      go_wp2_with fail
      go_at_call 37
      refine (mark_own ox0 (by omega) 1 (by omega)).mono ?_
      rintro e w8 ⟨rfl, omx0, row8, hg8, hr8⟩
      have D8 := D7.grown hg8 D7.size (fun j e => by have := hr8 j e; omega)
      have z8 := hg8.size
      replace ov0 := OwnI.grown ov0 hg8 (fun j e => by have := hr8 j e; omega)
      replace og0 := OwnI.grown og0 hg8 (fun j e => by have := hr8 j e; omega)
      clear hg8 hr8 ox0
      clear omx0
      have hk0 : ¬ ((1 + xs.length : Nat) : Int) < 0 := by omega
      go_wp2_with fail
      go_at_call 36
      refine (eqIntS_in _ _ R _ (by omega) (OwnI.ints og0) (OwnI.ints ov0)).mono ?_
      rintro e w9 ⟨rfl, b9⟩
      have D9 := D8.trans (b9.mono D8.size)
      replace ov0 := OwnI.below ov0 b9
      replace og0 := OwnI.below og0 b9
      have z9 := b9.size
      clear b9
      go_wp2_with fail
      go_at_call 37
      refine (mark_own og0 (by omega) 1 (by omega)).mono ?_
      rintro e w10 ⟨rfl, omg0, row10, hg10, hr10⟩
      have D10 := D9.grown hg10 D9.size (fun j e => by have := hr10 j e; omega)
      have z10 := hg10.size
      replace ov0 := OwnI.grown ov0 hg10 (fun j e => by have := hr10 j e; omega)
      clear hg10 hr10 og0
      go_wp2_with fail
      go_at_call 38
      refine (held_own 1 omg0 (by omega) (by omega)).mono ?_
      rintro e w0 ⟨rfl, rfl⟩
      have hq0 : ¬ ((1 + R.length : Nat) : Int) < 0 := by omega
      go_wp2_with fail
      go_at_call 35
      refine (hT _ D10).mono ?_
      rintro e w11 ⟨r2, rfl, hown11, b11⟩
      have D11 := D10.trans (b11.mono D10.size)
      replace ov0 := OwnI.below ov0 b11
      replace omg0 := OwnI.below omg0 b11
      have z11 := b11.size
      have lr2 := Lies.of_owns hown11
      have or2 := OwnI.of_owns hown11
      clear b11 hown11
      go_wp2_with fail
      go_at_call 30
      refine (hI _ _ (OwnI.ints or2) lr2).mono ?_
      rintro e w12 ⟨h0, rfl, hown12, b12⟩
      have D12 := D11.trans (b12.mono D11.size)
      replace ov0 := OwnI.below ov0 b12
      replace omg0 := OwnI.below omg0 b12
      replace or2 := OwnI.below or2 b12
      have z12 := b12.size
      have oh0 := OwnI.of_owns hown12
      clear b12 hown12
      go_wp2_with fail
      go_at_call 36
      refine (eqIntS_in _ _ R _ (by omega) (OwnI.ints oh0) (OwnI.ints ov0)).mono ?_
      rintro e w13 ⟨rfl, b13⟩
      have D13 := D12.trans (b13.mono D12.size)
      replace ov0 := OwnI.below ov0 b13
      replace omg0 := OwnI.below omg0 b13
      replace or2 := OwnI.below or2 b13
      replace oh0 := OwnI.below oh0 b13
      have z13 := b13.size
      clear b13
      go_wp2_with fail
      go_at_call 38
      refine (held_own 1 omg0 (by omega) (by omega)).mono ?_
      rintro e w0 ⟨rfl, rfl⟩
      go_wp2
      go_ret
      exact ⟨rfl, D13⟩

theorem exactBits' (a0 : Option Addr) (len0 cap0 : Nat) (z0 : List Int) (r : Int) (w : World) (w0 : IsRow .i64 w a0 len0 cap0 z0) (hf : Fits r) :
    Calls Try.prog 13 #[.slice a0 len0 cap0, .int .i64 r] w fun e w' => e = .returned (.bool true) ∧ Below w.heap.size w w' :=
  exactBits _ (z0.take len0) w len0 cap0 a0 rfl w0.arg.1 w0.arg.2 r hf

end Go.Proofs.Ytmnmbelmcdfcjaa
