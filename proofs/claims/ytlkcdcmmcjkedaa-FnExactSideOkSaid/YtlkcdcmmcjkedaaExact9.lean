/-
  The walks of the exact laws of chapter 9: each answers true at every row, and nothing that was there is written.
-/
import Derived.Test.YtlkcdcmmcjkedaaLawKit4
import Derived.Test.YtlkcdcmmcjkedaaImpl9
namespace Go.Proofs.Ytlkcdcmmcjkedaa
open Go.RowKit


set_option maxHeartbeats 2000000 in
theorem exactSide (v : Value) (xs : List Int) (w : World) (n0 c0 : Nat) (p0 : Option Addr) (ev : v = .slice p0 n0 c0) (hv : ArgI w v xs) (hlx : xs.length = n0) :
    Calls Try.prog 12 #[v] w fun e w' => e = .returned (.bool true) ∧ Below w.heap.size w w' := by
  by_cases hbx : 1048576 < n0
  · subst ev
    clear hv
    go_enter Try.func12, Try.ntmps12
    go_wp2
    go_ret
    exact ⟨rfl, Below.refl _ _⟩
  · have hT := fun W (h : Below w.heap.size w W) => toIntS_in w v xs W hv h (by omega)
    have hbx' : ¬ (1048576 : Int) < n0 := by omega
    have hxl : xs.length ≤ 1048576 := by omega
    have hS := fun W x (h : Ints W x xs) (_ : Lies x) => specSide x xs W h (by omega)
    have hI := fun W x (h : Ints W x xs) (_ : Lies x) => implSide x xs W h (by omega)
    obtain ⟨R, hR⟩ : ∃ R, sideB xs = R := ⟨_, rfl⟩
    simp only [hR] at hS hI
    clear hR
    subst ev
    clear hv hlx hbx
    cases R
    all_goals
      go_enter Try.func12, Try.ntmps12
      have D0 := Below.refl w.heap.size w
      go_wp2_with fail
      go_at_call 45
      refine (hT _ D0).mono ?_
      rintro e w1 ⟨r0, rfl, hown1, b1⟩
      have D1 := D0.trans (b1.mono D0.size)
      have z1 := b1.size
      have lr0 := Lies.of_owns hown1
      have or0 := OwnI.of_owns hown1
      clear b1 hown1
      go_wp2_with fail
      go_at_call 25
      refine (hS _ _ (OwnI.ints or0) lr0).mono ?_
      rintro e w0 ⟨rfl, rfl⟩
      clear or0
      go_wp2_with fail
      go_at_call 45
      refine (hT _ D1).mono ?_
      rintro e w2 ⟨x0, rfl, hown2, b2⟩
      have D2 := D1.trans (b2.mono D1.size)
      have z2 := b2.size
      have lx0 := Lies.of_owns hown2
      have ox0 := OwnI.of_owns hown2
      clear b2 hown2
      go_wp2_with fail
      go_at_call 24
      refine (hI _ _ (OwnI.ints ox0) lx0).mono ?_
      rintro e w3 ⟨rfl, b3⟩
      have D3 := D2.trans (b3.mono D2.size)
      replace ox0 := OwnI.below ox0 b3
      have z3 := b3.size
      clear b3
      go_wp2_with fail
      go_at_call 45
      refine (hT _ D3).mono ?_
      rintro e w4 ⟨s0, rfl, hown4, b4⟩
      have D4 := D3.trans (b4.mono D3.size)
      replace ox0 := OwnI.below ox0 b4
      have z4 := b4.size
      have ls0 := Lies.of_owns hown4
      have os0 := OwnI.of_owns hown4
      clear b4 hown4
      go_wp2_with fail
      go_at_call 46
      refine (eqIntS_in _ _ xs _ (by omega) (OwnI.ints ox0) (OwnI.ints os0)).mono ?_
      rintro e w5 ⟨rfl, b5⟩
      have D5 := D4.trans (b5.mono D4.size)
      replace ox0 := OwnI.below ox0 b5
      replace os0 := OwnI.below os0 b5
      have z5 := b5.size
      clear b5
      go_wp2
      go_ret
      exact ⟨rfl, D5⟩

theorem exactSide' (a0 : Option Addr) (len0 cap0 : Nat) (z0 : List Int) (w : World) (w0 : IsRow .i64 w a0 len0 cap0 z0) :
    Calls Try.prog 12 #[.slice a0 len0 cap0] w fun e w' => e = .returned (.bool true) ∧ Below w.heap.size w w' :=
  exactSide _ (z0.take len0) w len0 cap0 a0 rfl w0.arg.1 w0.arg.2


set_option maxHeartbeats 2000000 in
theorem exactOnes (v : Value) (xs : List Int) (w : World) (n0 c0 : Nat) (p0 : Option Addr) (ev : v = .slice p0 n0 c0) (hv : ArgI w v xs) (hlx : xs.length = n0) :
    Calls Try.prog 15 #[v] w fun e w' => e = .returned (.bool true) ∧ Below w.heap.size w w' := by
  by_cases hbx : 1048576 < n0
  · subst ev
    clear hv
    go_enter Try.func15, Try.ntmps15
    go_wp2
    go_ret
    exact ⟨rfl, Below.refl _ _⟩
  · have hT := fun W (h : Below w.heap.size w W) => toIntS_in w v xs W hv h (by omega)
    have hbx' : ¬ (1048576 : Int) < n0 := by omega
    have hxl : xs.length ≤ 1048576 := by omega
    have hS := fun W x (h : Ints W x xs) (hl : Lies x) => specOnes x xs W h hl (by omega)
    have hI := fun W x (h : Ints W x xs) (hl : Lies x) => implOnes x xs W h hl (by omega)
    obtain ⟨R, hR⟩ : ∃ R, onesV xs = R := ⟨_, rfl⟩
    simp only [hR] at hS hI
    clear hR
    subst ev
    clear hv hlx hbx
    first | skip
    all_goals
      go_enter Try.func15, Try.ntmps15
      have D0 := Below.refl w.heap.size w
      go_wp2_with fail
      go_at_call 45
      refine (hT _ D0).mono ?_
      rintro e w1 ⟨r0, rfl, hown1, b1⟩
      have D1 := D0.trans (b1.mono D0.size)
      have z1 := b1.size
      have lr0 := Lies.of_owns hown1
      have or0 := OwnI.of_owns hown1
      clear b1 hown1
      go_wp2_with fail
      go_at_call 35
      refine (hS _ _ (OwnI.ints or0) lr0).mono ?_
      rintro e w2 ⟨rfl, b2⟩
      have D2 := D1.trans (b2.mono D1.size)
      replace or0 := OwnI.below or0 b2
      have z2 := b2.size
      clear b2
      clear or0
      go_wp2_with fail
      go_at_call 45
      refine (hT _ D2).mono ?_
      rintro e w3 ⟨x0, rfl, hown3, b3⟩
      have D3 := D2.trans (b3.mono D2.size)
      have z3 := b3.size
      have lx0 := Lies.of_owns hown3
      have ox0 := OwnI.of_owns hown3
      clear b3 hown3
      go_wp2_with fail
      go_at_call 34
      refine (hI _ _ (OwnI.ints ox0) lx0).mono ?_
      rintro e w4 ⟨rfl, b4⟩
      have D4 := D3.trans (b4.mono D3.size)
      replace ox0 := OwnI.below ox0 b4
      have z4 := b4.size
      clear b4
      go_wp2_with fail
      go_at_call 45
      refine (hT _ D4).mono ?_
      rintro e w5 ⟨s0, rfl, hown5, b5⟩
      have D5 := D4.trans (b5.mono D4.size)
      replace ox0 := OwnI.below ox0 b5
      have z5 := b5.size
      have ls0 := Lies.of_owns hown5
      have os0 := OwnI.of_owns hown5
      clear b5 hown5
      go_wp2_with fail
      go_at_call 46
      refine (eqIntS_in _ _ xs _ (by omega) (OwnI.ints ox0) (OwnI.ints os0)).mono ?_
      rintro e w6 ⟨rfl, b6⟩
      have D6 := D5.trans (b6.mono D5.size)
      replace ox0 := OwnI.below ox0 b6
      replace os0 := OwnI.below os0 b6
      have z6 := b6.size
      clear b6
      go_wp2
      go_ret
      exact ⟨rfl, D6⟩

theorem exactOnes' (a0 : Option Addr) (len0 cap0 : Nat) (z0 : List Int) (w : World) (w0 : IsRow .i64 w a0 len0 cap0 z0) :
    Calls Try.prog 15 #[.slice a0 len0 cap0] w fun e w' => e = .returned (.bool true) ∧ Below w.heap.size w w' :=
  exactOnes _ (z0.take len0) w len0 cap0 a0 rfl w0.arg.1 w0.arg.2


set_option maxHeartbeats 2000000 in
theorem exactEnd (v : Value) (xs : List Int) (w : World) (n0 c0 : Nat) (p0 : Option Addr) (ev : v = .slice p0 n0 c0) (hv : ArgI w v xs) (hlx : xs.length = n0) :
    Calls Try.prog 16 #[v] w fun e w' => e = .returned (.bool true) ∧ Below w.heap.size w w' := by
  by_cases hbx : 1048576 < n0
  · subst ev
    clear hv
    go_enter Try.func16, Try.ntmps16
    go_wp2
    go_ret
    exact ⟨rfl, Below.refl _ _⟩
  · have hT := fun W (h : Below w.heap.size w W) => toIntS_in w v xs W hv h (by omega)
    have hbx' : ¬ (1048576 : Int) < n0 := by omega
    have hxl : xs.length ≤ 1048576 := by omega
    have hS := fun W x (h : Ints W x xs) (hl : Lies x) => specLast x xs W h (by omega)
    have hI := fun W x (h : Ints W x xs) (hl : Lies x) => implEnd x xs W h hl (by omega)
    obtain ⟨R, hR⟩ : ∃ R, endV xs = R := ⟨_, rfl⟩
    simp only [hR] at hS hI
    clear hR
    subst ev
    clear hv hlx hbx
    first | skip
    all_goals
      go_enter Try.func16, Try.ntmps16
      have D0 := Below.refl w.heap.size w
      go_wp2_with fail
      go_at_call 45
      refine (hT _ D0).mono ?_
      rintro e w1 ⟨r0, rfl, hown1, b1⟩
      have D1 := D0.trans (b1.mono D0.size)
      have z1 := b1.size
      have lr0 := Lies.of_owns hown1
      have or0 := OwnI.of_owns hown1
      clear b1 hown1
      go_wp2_with fail
      go_at_call 39
      refine (hS _ _ (OwnI.ints or0) lr0).mono ?_
      rintro e w2 ⟨rfl, b2⟩
      have D2 := D1.trans (b2.mono D1.size)
      replace or0 := OwnI.below or0 b2
      have z2 := b2.size
      clear b2
      clear or0
      go_wp2_with fail
      go_at_call 45
      refine (hT _ D2).mono ?_
      rintro e w3 ⟨x0, rfl, hown3, b3⟩
      have D3 := D2.trans (b3.mono D2.size)
      have z3 := b3.size
      have lx0 := Lies.of_owns hown3
      have ox0 := OwnI.of_owns hown3
      clear b3 hown3
      go_wp2_with fail
      go_at_call 38
      refine (hI _ _ (OwnI.ints ox0) lx0).mono ?_
      rintro e w4 ⟨rfl, b4⟩
      have D4 := D3.trans (b4.mono D3.size)
      replace ox0 := OwnI.below ox0 b4
      have z4 := b4.size
      clear b4
      go_wp2_with fail
      go_at_call 45
      refine (hT _ D4).mono ?_
      rintro e w5 ⟨s0, rfl, hown5, b5⟩
      have D5 := D4.trans (b5.mono D4.size)
      replace ox0 := OwnI.below ox0 b5
      have z5 := b5.size
      have ls0 := Lies.of_owns hown5
      have os0 := OwnI.of_owns hown5
      clear b5 hown5
      go_wp2_with fail
      go_at_call 46
      refine (eqIntS_in _ _ xs _ (by omega) (OwnI.ints ox0) (OwnI.ints os0)).mono ?_
      rintro e w6 ⟨rfl, b6⟩
      have D6 := D5.trans (b6.mono D5.size)
      replace ox0 := OwnI.below ox0 b6
      replace os0 := OwnI.below os0 b6
      have z6 := b6.size
      clear b6
      go_wp2
      go_ret
      exact ⟨rfl, D6⟩

theorem exactEnd' (a0 : Option Addr) (len0 cap0 : Nat) (z0 : List Int) (w : World) (w0 : IsRow .i64 w a0 len0 cap0 z0) :
    Calls Try.prog 16 #[.slice a0 len0 cap0] w fun e w' => e = .returned (.bool true) ∧ Below w.heap.size w w' :=
  exactEnd _ (z0.take len0) w len0 cap0 a0 rfl w0.arg.1 w0.arg.2


set_option maxHeartbeats 2000000 in
theorem exactUndr (v : Value) (xs : List Int) (w : World) (n0 c0 : Nat) (p0 : Option Addr) (ev : v = .slice p0 n0 c0) (hv : ArgI w v xs) (hlx : xs.length = n0) :
    Calls Try.prog 13 #[v] w fun e w' => e = .returned (.bool true) ∧ Below w.heap.size w w' := by
  by_cases hbx : 1048576 < n0
  · subst ev
    clear hv
    go_enter Try.func13, Try.ntmps13
    go_wp2
    go_ret
    exact ⟨rfl, Below.refl _ _⟩
  · have hT := fun W (h : Below w.heap.size w W) => toIntS_in w v xs W hv h (by omega)
    have hbx' : ¬ (1048576 : Int) < n0 := by omega
    have hxl : xs.length ≤ 1048576 := by omega
    have hS := fun W x (h : Ints W x xs) (hl : Lies x) => specUnder9 x xs W h (by omega)
    have hI := fun W x (h : Ints W x xs) (hl : Lies x) => implUndr x xs W h hl (by omega)
    have hRl := undrV_len xs
    obtain ⟨R, hR⟩ : ∃ R, undrV xs = R := ⟨_, rfl⟩
    simp only [hR] at hS hI
    rw [hR] at hRl
    clear hR
    subst ev
    clear hv hlx hbx
    first | skip
    all_goals
      go_enter Try.func13, Try.ntmps13
      have D0 := Below.refl w.heap.size w
      go_wp2_with fail
      go_at_call 45
      refine (hT _ D0).mono ?_
      rintro e w1 ⟨r0, rfl, hown1, b1⟩
      have D1 := D0.trans (b1.mono D0.size)
      have z1 := b1.size
      have lr0 := Lies.of_owns hown1
      have or0 := OwnI.of_owns hown1
      clear b1 hown1
      go_wp2_with fail
      go_at_call 28
      refine (hS _ _ (OwnI.ints or0) lr0).mono ?_
      rintro e w2 ⟨v0, rfl, hown2, b2⟩
      have D2 := D1.trans (b2.mono D1.size)
      replace or0 := OwnI.below or0 b2
      have z2 := b2.size
      have ov0 := OwnI.of_owns hown2
      clear b2 hown2
      clear or0
      go_wp2_with fail
      go_at_call 45
      refine (hT _ D2).mono ?_
      rintro e w3 ⟨x0, rfl, hown3, b3⟩
      have D3 := D2.trans (b3.mono D2.size)
      replace ov0 := OwnI.below ov0 b3
      have z3 := b3.size
      have lx0 := Lies.of_owns hown3
      have ox0 := OwnI.of_owns hown3
      clear b3 hown3
      go_wp2_with fail
      go_at_call 27
      refine (hI _ _ (OwnI.ints ox0) lx0).mono ?_
      rintro e w4 ⟨g0, rfl, hown4, b4⟩
      have D4 := D3.trans (b4.mono D3.size)
      replace ov0 := OwnI.below ov0 b4
      replace ox0 := OwnI.below ox0 b4
      have z4 := b4.size
      have og0 := OwnI.of_owns hown4
      clear b4 hown4
      go_wp2_with fail
      go_at_call 46
      refine (eqIntS_in _ _ R _ (by omega) (OwnI.ints og0) (OwnI.ints ov0)).mono ?_
      rintro e w5 ⟨rfl, b5⟩
      have D5 := D4.trans (b5.mono D4.size)
      replace ov0 := OwnI.below ov0 b5
      replace ox0 := OwnI.below ox0 b5
      replace og0 := OwnI.below og0 b5
      have z5 := b5.size
      clear b5
      go_wp2_with fail
      go_at_call 45
      refine (hT _ D5).mono ?_
      rintro e w6 ⟨s0, rfl, hown6, b6⟩
      have D6 := D5.trans (b6.mono D5.size)
      replace ov0 := OwnI.below ov0 b6
      replace ox0 := OwnI.below ox0 b6
      replace og0 := OwnI.below og0 b6
      have z6 := b6.size
      have ls0 := Lies.of_owns hown6
      have os0 := OwnI.of_owns hown6
      clear b6 hown6
      go_wp2_with fail
      go_at_call 46
      refine (eqIntS_in _ _ xs _ (by omega) (OwnI.ints ox0) (OwnI.ints os0)).mono ?_
      rintro e w7 ⟨rfl, b7⟩
      have D7 := D6.trans (b7.mono D6.size)
      replace ov0 := OwnI.below ov0 b7
      replace ox0 := OwnI.below ox0 b7
      replace og0 := OwnI.below og0 b7
      replace os0 := OwnI.below os0 b7
      have z7 := b7.size
      clear b7
      clear os0
      go_wp2_with fail
      go_at_call 47
      refine (mark_own ox0 (by omega) 1 (by omega)).mono ?_
      rintro e w8 ⟨rfl, omx0, row8, hg8, hr8⟩
      have D8 := D7.grown hg8 D7.size (fun j e => by have := hr8 j e; omega)
      have z8 := hg8.size
      replace ov0 := OwnI.grown ov0 hg8 (fun j e => by have := hr8 j e; omega)
      replace og0 := OwnI.grown og0 hg8 (fun j e => by have := hr8 j e; omega)
      clear hg8 hr8 ox0
      clear omx0
      have hk0 : ¬ ((1 + xs.length : Nat) : Int) < 0 := by omega
      go_wp2_with fail
      go_at_call 46
      refine (eqIntS_in _ _ R _ (by omega) (OwnI.ints og0) (OwnI.ints ov0)).mono ?_
      rintro e w9 ⟨rfl, b9⟩
      have D9 := D8.trans (b9.mono D8.size)
      replace ov0 := OwnI.below ov0 b9
      replace og0 := OwnI.below og0 b9
      have z9 := b9.size
      clear b9
      go_wp2_with fail
      go_at_call 47
      refine (mark_own og0 (by omega) 1 (by omega)).mono ?_
      rintro e w10 ⟨rfl, omg0, row10, hg10, hr10⟩
      have D10 := D9.grown hg10 D9.size (fun j e => by have := hr10 j e; omega)
      have z10 := hg10.size
      replace ov0 := OwnI.grown ov0 hg10 (fun j e => by have := hr10 j e; omega)
      clear hg10 hr10 og0
      go_wp2_with fail
      go_at_call 48
      refine (held_own 1 omg0 (by omega) (by omega)).mono ?_
      rintro e w0 ⟨rfl, rfl⟩
      have hq0 : ¬ ((1 + R.length : Nat) : Int) < 0 := by omega
      go_wp2_with fail
      go_at_call 45
      refine (hT _ D10).mono ?_
      rintro e w11 ⟨r2, rfl, hown11, b11⟩
      have D11 := D10.trans (b11.mono D10.size)
      replace ov0 := OwnI.below ov0 b11
      replace omg0 := OwnI.below omg0 b11
      have z11 := b11.size
      have lr2 := Lies.of_owns hown11
      have or2 := OwnI.of_owns hown11
      clear b11 hown11
      go_wp2_with fail
      go_at_call 27
      refine (hI _ _ (OwnI.ints or2) lr2).mono ?_
      rintro e w12 ⟨h0, rfl, hown12, b12⟩
      have D12 := D11.trans (b12.mono D11.size)
      replace ov0 := OwnI.below ov0 b12
      replace omg0 := OwnI.below omg0 b12
      replace or2 := OwnI.below or2 b12
      have z12 := b12.size
      have oh0 := OwnI.of_owns hown12
      clear b12 hown12
      go_wp2_with fail
      go_at_call 46
      refine (eqIntS_in _ _ R _ (by omega) (OwnI.ints oh0) (OwnI.ints ov0)).mono ?_
      rintro e w13 ⟨rfl, b13⟩
      have D13 := D12.trans (b13.mono D12.size)
      replace ov0 := OwnI.below ov0 b13
      replace omg0 := OwnI.below omg0 b13
      replace or2 := OwnI.below or2 b13
      replace oh0 := OwnI.below oh0 b13
      have z13 := b13.size
      clear b13
      go_wp2_with fail
      go_at_call 48
      refine (held_own 1 omg0 (by omega) (by omega)).mono ?_
      rintro e w0 ⟨rfl, rfl⟩
      go_wp2
      go_ret
      exact ⟨rfl, D13⟩

theorem exactUndr' (a0 : Option Addr) (len0 cap0 : Nat) (z0 : List Int) (w : World) (w0 : IsRow .i64 w a0 len0 cap0 z0) :
    Calls Try.prog 13 #[.slice a0 len0 cap0] w fun e w' => e = .returned (.bool true) ∧ Below w.heap.size w w' :=
  exactUndr _ (z0.take len0) w len0 cap0 a0 rfl w0.arg.1 w0.arg.2


set_option maxHeartbeats 2000000 in
theorem exactRowsU (v : Value) (xs : List Int) (w : World) (n0 c0 : Nat) (p0 : Option Addr) (ev : v = .slice p0 n0 c0) (hv : ArgI w v xs) (hlx : xs.length = n0) :
    Calls Try.prog 14 #[v] w fun e w' => e = .returned (.bool true) ∧ Below w.heap.size w w' := by
  by_cases hbx : 1048576 < n0
  · subst ev
    clear hv
    go_enter Try.func14, Try.ntmps14
    go_wp2
    go_ret
    exact ⟨rfl, Below.refl _ _⟩
  · have hT := fun W (h : Below w.heap.size w W) => toIntS_in w v xs W hv h (by omega)
    have hbx' : ¬ (1048576 : Int) < n0 := by omega
    have hxl : xs.length ≤ 1048576 := by omega
    have hS := fun W x (h : Ints W x xs) (hl : Lies x) => specRows x xs W h hl (by omega)
    have hI := fun W x (h : Ints W x xs) (hl : Lies x) => implRowsU x xs W h hl (by omega)
    have hRl := rowsV_len xs
    have hRn := fun j (hj : j < (rowsV xs).length) => rowsV_row hj
    obtain ⟨R, hR⟩ : ∃ R, rowsV xs = R := ⟨_, rfl⟩
    simp only [hR] at hS hI
    rw [hR] at hRl hRn
    have hR1 := fun j hj => (hRn j hj).1
    have hR2 : ∀ j, j < R.length → (R.getD j []).length ≤ 100 := fun j hj => by have := (hRn j hj).2; omega
    have hR3 : ∀ j, j < R.length → (R.getD j []).length ≤ 1000000 := fun j hj => by have := (hRn j hj).2; omega
    clear hR hRn
    subst ev
    clear hv hlx hbx
    first | skip
    all_goals
      go_enter Try.func14, Try.ntmps14
      have D0 := Below.refl w.heap.size w
      go_wp2_with fail
      go_at_call 45
      refine (hT _ D0).mono ?_
      rintro e w1 ⟨r0, rfl, hown1, b1⟩
      have D1 := D0.trans (b1.mono D0.size)
      have z1 := b1.size
      have lr0 := Lies.of_owns hown1
      have or0 := OwnI.of_owns hown1
      clear b1 hown1
      go_wp2_with fail
      go_at_call 32
      refine (hS _ _ (OwnI.ints or0) lr0).mono ?_
      rintro e w2 ⟨v0, rfl, hown2, b2⟩
      have D2 := D1.trans (b2.mono D1.size)
      replace or0 := OwnI.below or0 b2
      have z2 := b2.size
      have ov0 := RowsB.of (OwnSS.rowsI hown2)
      clear b2 hown2
      clear or0
      go_wp2_with fail
      go_at_call 45
      refine (hT _ D2).mono ?_
      rintro e w3 ⟨x0, rfl, hown3, b3⟩
      have D3 := D2.trans (b3.mono D2.size)
      replace ov0 := RowsB.below ov0 b3
      have z3 := b3.size
      have lx0 := Lies.of_owns hown3
      have ox0 := OwnI.of_owns hown3
      clear b3 hown3
      go_wp2_with fail
      go_at_call 30
      refine (hI _ _ (OwnI.ints ox0) lx0).mono ?_
      rintro e w4 ⟨g0, rfl, hown4, b4⟩
      have D4 := D3.trans (b4.mono D3.size)
      replace ov0 := RowsB.below ov0 b4
      replace ox0 := OwnI.below ox0 b4
      have z4 := b4.size
      have og0 := OwnG.of_rows hown4 hR1
      clear b4 hown4
      go_wp2_with fail
      go_at_call 49
      refine (eqSS_in _ _ R _ (by omega) hR3 (OwnG.rowsI og0) (RowsB.rowsI ov0)).mono ?_
      rintro e w5 ⟨rfl, b5⟩
      have D5 := D4.trans (b5.mono D4.size)
      replace ov0 := RowsB.below ov0 b5
      replace ox0 := OwnI.below ox0 b5
      replace og0 := OwnG.below og0 b5
      have z5 := b5.size
      clear b5
      go_wp2_with fail
      go_at_call 45
      refine (hT _ D5).mono ?_
      rintro e w6 ⟨s0, rfl, hown6, b6⟩
      have D6 := D5.trans (b6.mono D5.size)
      replace ov0 := RowsB.below ov0 b6
      replace ox0 := OwnI.below ox0 b6
      replace og0 := OwnG.below og0 b6
      have z6 := b6.size
      have ls0 := Lies.of_owns hown6
      have os0 := OwnI.of_owns hown6
      clear b6 hown6
      go_wp2_with fail
      go_at_call 46
      refine (eqIntS_in _ _ xs _ (by omega) (OwnI.ints ox0) (OwnI.ints os0)).mono ?_
      rintro e w7 ⟨rfl, b7⟩
      have D7 := D6.trans (b7.mono D6.size)
      replace ov0 := RowsB.below ov0 b7
      replace ox0 := OwnI.below ox0 b7
      replace og0 := OwnG.below og0 b7
      replace os0 := OwnI.below os0 b7
      have z7 := b7.size
      clear b7
      clear os0
      go_wp2_with fail
      go_at_call 47
      refine (mark_own ox0 (by omega) 1 (by omega)).mono ?_
      rintro e w8 ⟨rfl, omx0, row8, hg8, hr8⟩
      have D8 := D7.grown hg8 D7.size (fun j e => by have := hr8 j e; omega)
      have z8 := hg8.size
      replace ov0 := RowsB.grown ov0 hg8 (fun j e => by have := hr8 j e; omega)
      replace og0 := OwnG.grown og0 hg8 (fun j e => by have := hr8 j e; omega)
      clear hg8 hr8 ox0 omx0
      have hk0 : ¬ ((1 + xs.length : Nat) : Int) < 0 := by omega
      go_wp2_with fail
      go_at_call 49
      refine (eqSS_in _ _ R _ (by omega) hR3 (OwnG.rowsI og0) (RowsB.rowsI ov0)).mono ?_
      rintro e w9 ⟨rfl, b9⟩
      have D9 := D8.trans (b9.mono D8.size)
      replace ov0 := RowsB.below ov0 b9
      replace og0 := OwnG.below og0 b9
      have z9 := b9.size
      clear b9
      go_wp2_with fail
      go_at_call 50
      refine (markSS_in og0 hR2 (by omega) 1 (by omega)).mono ?_
      rintro e w10 ⟨rfl, omg0, hbt10⟩
      have D10 := hbt10.below D9 (by omega) D9.size
      have z10 := hbt10.size
      replace ov0 := RowsB.between ov0 hbt10 (by omega)
      clear og0 hbt10
      go_wp2_with fail
      go_at_call 51
      refine (heldSS_in 1 omg0 hR2 (by omega) (by omega)).mono ?_
      rintro e w0 ⟨rfl, rfl⟩
      have hq0 : ¬ ((1 + accN (fun j => (R.getD j []).length) R.length : Nat) : Int) < 0 := by omega
      go_wp2_with fail
      go_at_call 45
      refine (hT _ D10).mono ?_
      rintro e w11 ⟨r2, rfl, hown11, b11⟩
      have D11 := D10.trans (b11.mono D10.size)
      replace ov0 := RowsB.below ov0 b11
      replace omg0 := OwnG.below omg0 b11
      have z11 := b11.size
      have lr2 := Lies.of_owns hown11
      have or2 := OwnI.of_owns hown11
      clear b11 hown11
      go_wp2_with fail
      go_at_call 30
      refine (hI _ _ (OwnI.ints or2) lr2).mono ?_
      rintro e w12 ⟨h0, rfl, hown12, b12⟩
      have D12 := D11.trans (b12.mono D11.size)
      replace ov0 := RowsB.below ov0 b12
      replace omg0 := OwnG.below omg0 b12
      replace or2 := OwnI.below or2 b12
      have z12 := b12.size
      have oh0 := OwnG.of_rows hown12 hR1
      clear b12 hown12
      go_wp2_with fail
      go_at_call 49
      refine (eqSS_in _ _ R _ (by omega) hR3 (OwnG.rowsI oh0) (RowsB.rowsI ov0)).mono ?_
      rintro e w13 ⟨rfl, b13⟩
      have D13 := D12.trans (b13.mono D12.size)
      replace ov0 := RowsB.below ov0 b13
      replace omg0 := OwnG.below omg0 b13
      replace or2 := OwnI.below or2 b13
      replace oh0 := OwnG.below oh0 b13
      have z13 := b13.size
      clear b13
      go_wp2_with fail
      go_at_call 51
      refine (heldSS_in 1 omg0 hR2 (by omega) (by omega)).mono ?_
      rintro e w0 ⟨rfl, rfl⟩
      go_wp2
      go_ret
      exact ⟨rfl, D13⟩

theorem exactRowsU' (a0 : Option Addr) (len0 cap0 : Nat) (z0 : List Int) (w : World) (w0 : IsRow .i64 w a0 len0 cap0 z0) :
    Calls Try.prog 14 #[.slice a0 len0 cap0] w fun e w' => e = .returned (.bool true) ∧ Below w.heap.size w w' :=
  exactRowsU _ (z0.take len0) w len0 cap0 a0 rfl w0.arg.1 w0.arg.2


end Go.Proofs.Ytlkcdcmmcjkedaa
