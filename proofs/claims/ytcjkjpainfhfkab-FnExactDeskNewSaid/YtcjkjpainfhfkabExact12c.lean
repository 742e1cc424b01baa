/-
  The walk of the exact law on DeskNew.
-/
import Derived.Test.YtcjkjpainfhfkabExact12b
import Derived.Test.YtcjkjpainfhfkabLawKit9
import Derived.Test.YtcjkjpainfhfkabSpec12j
namespace Go.Proofs.Ytcjkjpainfhfkab
open Go.RowKit

theorem newV_two (xs : List Int) : (newV xs).2 = [] := by unfold newV; split <;> rfl
theorem deskI_newV {W : World} {base : Nat} {x : Value} {xs : List Int} (h : W.ownsRow base 3 1 x (newV xs).1.length ((newV xs).1.map (Value.int .i64))) : DeskI W (.agg #[x, .slice none 0 0]) (newV xs) :=
  ⟨x, _, rfl, Ints.of_owns h, by rw [newV_two]; exact PastI.none _ _ _⟩
theorem newV_len (xs : List Int) : (newV xs).1.length ≤ 12 := by
  unfold newV
  split
  · rename_i h; exact (sideB_len h).2
  · simp

set_option maxRecDepth 100000 in
set_option maxHeartbeats 4000000 in
theorem exactDeskNew (v : Value) (xs : List Int) (w : World) (n0 c0 : Nat) (p0 : Option Addr) (ev : v = .slice p0 n0 c0) (hv : ArgI w v xs) (hlx : xs.length = n0) :
    Calls Try.prog 4 #[v] w fun e w' => e = .returned (.bool true) ∧ Below w.heap.size w w' := by
  by_cases hbx : 1048576 < n0
  · subst ev
    clear hv
    go_enter Try.func4, Try.ntmps4
    go_wp2
    go_ret
    exact ⟨rfl, Below.refl _ _⟩
  · have hT := fun W (h : Below w.heap.size w W) => toIntS_in w v xs W hv h (by omega)
    have hbx' : ¬ (1048576 : Int) < n0 := by omega
    have hxl : xs.length ≤ 1048576 := by omega
    have hS := fun W x (h : Ints W x xs) => specNew x xs W h (by omega)
    have hI := fun W x (h : Ints W x xs) => implDeskNew x xs W h (by omega)
    have hdi := fun (W : World) (base : Nat) (x : Value) h => deskI_newV (W := W) (base := base) (x := x) (xs := xs) h
    have hD1 := newV_len xs
    have hD2 := newV_two xs
    generalize newV xs = D at *
    generalize sideB xs = bb at *
    have hsz : D.1.length ≤ 2000000 ∧ D.2.length ≤ 2000000 ∧ ∀ j, j < D.2.length → (D.2.getD j []).length ≤ 2000000 := ⟨by omega, by rw [hD2]; simp, fun j hj => by rw [hD2] at hj; simp at hj⟩
    have hr0 : ∀ j, j < D.2.length → 0 < (D.2.getD j []).length := fun j hj => by rw [hD2] at hj; simp at hj
    have hr1 : ∀ j, j < D.2.length → (D.2.getD j []).length ≤ 100 := fun j hj => by rw [hD2] at hj; simp at hj
    have hr2 : D.2.length ≤ 100 := by rw [hD2]; simp
    have hacc : accN (fun j => (D.2.getD j []).length) D.2.length ≤ 10000 := by
      have h1 := accN_le hr1 D.2.length (Nat.le_refl _)
      omega
    subst ev
    have D0 := Below.refl w.heap.size w
    clear hv hlx hbx hD2
    go_enter Try.func4, Try.ntmps4
    go_wp2_with fail
    go_at_call 13
    refine (hT _ D0).mono ?_
    rintro e w1 ⟨r0, rfl, hown1, b1⟩
    have hi1 := Ints.of_owns hown1
    go_wp2_with fail
    go_at_call 12
    refine (hS _ _ hi1).mono ?_
    rintro e w2 ⟨m0, rfl, hown2, b2⟩
    have hmd2 := hdi _ _ _ hown2
    obtain ⟨ma, mc, rfl⟩ := own_form hown2
    have dm2 := D0.trans ((b1.trans (b2.mono b1.size)).mono D0.size)
    have ba := (Below.refl _ w2).alloc (Nat.le_refl _) (.cells #[.slice ma D.1.length mc, .slice none 0 0] 28)
    have ka := World.alloc_heap_new w2 (.cells #[.slice ma D.1.length mc, .slice none 0 0] 28)
    clear hown1 hown2 b1 b2 hi1 hdi hS
    go_wp2_with fail
    obtain ⟨wm, hwm⟩ : ∃ wm, w2.alloc (.cells #[.slice ma D.1.length mc, .slice none 0 0] 28) = wm := ⟨_, rfl⟩
    rw [hwm] at ba ka ⊢
    clear hwm
    have hmod := hmd2.below ba
    have dm := dm2.trans (ba.mono dm2.size)
    have lm := (Array.getElem?_eq_some_iff.1 ka).1
    have hms := dm.size
    clear hmd2 dm2 ba
    generalize w2.heap.size = B0 at *
    have hm0 := Below.refl wm.heap.size wm
    go_at_call 13
    refine (hT _ dm).mono ?_
    rintro e w3 ⟨x0, rfl, hown3, b3⟩
    have hm3 := hm0.trans (b3.mono hm0.size)
    have ox3 := OwnI.of_owns hown3
    have hi3 := Ints.of_owns hown3
    obtain ⟨xa, xc, rfl⟩ := own_form hown3
    clear hown3
    go_wp2_with fail
    go_at_call 14
    refine (hI _ _ hi3).mono ?_
    rintro e w4 ⟨g0, rfl, hg4, b4⟩
    obtain ⟨mid, og4⟩ := OwnD.of hg4 hr0
    obtain ⟨g1, g2, g3, g4, rfl⟩ := hg4.form
    have hm4 := hm3.trans (b4.mono hm3.size)
    have ox4 := ox3.below b4
    have bc := (Below.refl _ w4).alloc (Nat.le_refl _) (.cells #[.slice g1 D.1.length g2, .slice g3 D.2.length g4] 28)
    have kc := World.alloc_heap_new w4 (.cells #[.slice g1 D.1.length g2, .slice g3 D.2.length g4] 28)
    obtain ⟨w5, hw5⟩ : ∃ w5, w4.alloc (.cells #[.slice g1 D.1.length g2, .slice g3 D.2.length g4] 28) = w5 := ⟨_, rfl⟩
    rw [hw5] at bc kc
    have hm5 := hm4.trans (bc.mono hm4.size)
    have og5 := og4.below bc
    have ox5 := ox4.below bc
    have zm3 := hm3.size
    have z34 := b4.size
    have zx3 := b3.size
    have lc := (Array.getElem?_eq_some_iff.1 kc).1
    obtain ⟨e0, e1, _, _⟩ := row_at ((hm5.block _ lm).trans ka)
    obtain ⟨f0, f1, _, _⟩ := row_at kc
    clear hi3 hg4 og4 ox3 ox4 bc hm3 hm4
    go_wp2_with fail
    go_at_call 11
    refine (eqDesk_in _ _ D _ hsz og5.deskI (hmod.below hm5)).mono ?_
    rintro e w6 ⟨rfl, b6⟩
    have hm6 := hm5.trans (b6.mono hm5.size)
    have og6 := og5.below b6
    have ox6 := ox5.below b6
    have kc6 := (b6.block _ lc).trans kc
    have z56 := b6.size
    clear og5 ox5 b6 hm5 e0 e1 f0 f1
    go_wp2_with fail
    go_at_call 13
    refine (hT _ (dm.trans (hm6.mono hms))).mono ?_
    rintro e w7 ⟨r7, rfl, hown7, b7⟩
    have hm7 := hm6.trans (b7.mono hm6.size)
    have og7 := og6.below b7
    have ox7 := ox6.below b7
    have kc7 := (b7.block _ (Array.getElem?_eq_some_iff.1 kc6).1).trans kc6
    have hi7 := Ints.of_owns hown7
    obtain ⟨ra, rc, rfl⟩ := own_form hown7
    clear og6 ox6 hm6 hown7 kc6
    go_wp2_with fail
    go_at_call 15
    refine (eqIntS_in _ _ xs _ (by omega) (OwnI.ints ox7) hi7).mono ?_
    rintro e w8 ⟨rfl, b8⟩
    have hm8 := hm7.trans (b8.mono hm7.size)
    have og8 := og7.below b8
    have ox8 := ox7.below b8
    have kc8 := (b8.block _ (Array.getElem?_eq_some_iff.1 kc7).1).trans kc7
    have zz := b7.size
    have zy := b8.size
    clear og7 ox7 hm7 hi7 kc7 b7 b8
    go_wp2_with fail
    go_at_call 16
    refine (mark_own ox8 (by omega) 1 (by omega)).mono ?_
    rintro e w9 ⟨rfl, _, row9, hg9, hr9⟩
    have hx9 : Between wm.heap.size w3.heap.size w8 w9 := ⟨hg9.os, hg9.tape, hg9.output, hg9.size, fun k hk ho => hg9.block k hk (fun e => by have := hr9 k e.symm; omega)⟩
    have hm9 := hx9.below hm8 (by omega) hm8.size
    have og9 := og8.between hx9 (.inr (by omega))
    have kc9 := (hx9.block _ (Array.getElem?_eq_some_iff.1 kc8).1 (.inr (by omega))).trans kc8
    have hk1 : ¬ ((1 + xs.length : Nat) : Int) < 0 := by omega
    obtain ⟨e0, e1, _, _⟩ := row_at ((hm9.block _ lm).trans ka)
    obtain ⟨f0, f1, _, _⟩ := row_at kc9
    have zg := hg9.size
    clear og8 ox8 hm8 hg9 hr9 kc8 hx9
    go_wp2_with fail
    go_at_call 11
    refine (eqDesk_in _ _ D _ hsz og9.deskI (hmod.below hm9)).mono ?_
    rintro e w10 ⟨rfl, b10⟩
    have hm10 := hm9.trans (b10.mono hm9.size)
    have og10 := og9.below b10
    have kc10 := (b10.block _ (Array.getElem?_eq_some_iff.1 kc9).1).trans kc9
    obtain ⟨f0, f1, _, _⟩ := row_at kc10
    have zb := b10.size
    clear og9 hm9 kc9 b10 e0 e1
    go_wp2_with fail
    go_at_call 17
    refine (markDesk_in og10 (by omega) hr1 hr2 1 (by omega)).mono ?_
    rintro e w11 ⟨rfl, om11, hx11⟩
    have hm11 := hx11.below hm10 (by omega) hm10.size
    have kc11 := (hx11.block _ (Array.getElem?_eq_some_iff.1 kc10).1 (.inr (by omega))).trans kc10
    obtain ⟨f0, f1, _, _⟩ := row_at kc11
    have zc := hx11.size
    clear og10 hm10 kc10 hx11
    have hq1 : ¬ ((1 + D.1.length + accN (fun j => (D.2.getD j []).length) D.2.length : Nat) : Int) < 0 := by omega
    go_wp2_with fail
    go_at_call 18
    refine (heldDesk_in 1 om11 (by omega) hr1 hr2 (by omega)).mono ?_
    rintro e w12 ⟨rfl, b12⟩
    have hm12 := hm11.trans (b12.mono hm11.size)
    have om12 := om11.below b12
    have kc12 := (b12.block _ (Array.getElem?_eq_some_iff.1 kc11).1).trans kc11
    have zd := b12.size
    clear om11 hm11 kc11 b12 f0 f1
    go_wp2_with fail
    go_at_call 13
    refine (hT _ (dm.trans (hm12.mono hms))).mono ?_
    rintro e w13 ⟨r13, rfl, hown13, b13⟩
    have hm13 := hm12.trans (b13.mono hm12.size)
    have om13 := om12.below b13
    have kc13 := (b13.block _ (Array.getElem?_eq_some_iff.1 kc12).1).trans kc12
    have hi13 := Ints.of_owns hown13
    have ze := b13.size
    clear om12 hm12 kc12 b13 hown13
    go_wp2_with fail
    go_at_call 14
    refine (hI _ _ hi13).mono ?_
    rintro e w14 ⟨h0, rfl, hg14, b14⟩
    have hd14 := hg14.deskI
    obtain ⟨h1, h2, h3, h4, rfl⟩ := hg14.form
    have hm14 := hm13.trans (b14.mono hm13.size)
    have om14 := om13.below b14
    have kc14 := (b14.block _ (Array.getElem?_eq_some_iff.1 kc13).1).trans kc13
    have bh := (Below.refl _ w14).alloc (Nat.le_refl _) (.cells #[.slice h1 D.1.length h2, .slice h3 D.2.length h4] 28)
    have kh := World.alloc_heap_new w14 (.cells #[.slice h1 D.1.length h2, .slice h3 D.2.length h4] 28)
    obtain ⟨w15, hw15⟩ : ∃ w15, w14.alloc (.cells #[.slice h1 D.1.length h2, .slice h3 D.2.length h4] 28) = w15 := ⟨_, rfl⟩
    rw [hw15] at bh kh
    have hm15 := hm14.trans (bh.mono hm14.size)
    have om15 := om14.below bh
    have kc15 := (bh.block _ (Array.getElem?_eq_some_iff.1 kc14).1).trans kc14
    have hd15 := hd14.below bh
    obtain ⟨e0, e1, _, _⟩ := row_at ((hm15.block _ lm).trans ka)
    obtain ⟨p0, p1, _, _⟩ := row_at kh
    clear om13 hm13 kc13 hi13 hg14 hd14 hm14 om14 kc14 bh b14
    go_wp2_with fail
    go_at_call 11
    refine (eqDesk_in _ _ D _ hsz hd15 (hmod.below hm15)).mono ?_
    rintro e w16 ⟨rfl, b16⟩
    have hm16 := hm15.trans (b16.mono hm15.size)
    have om16 := om15.below b16
    have kc16 := (b16.block _ (Array.getElem?_eq_some_iff.1 kc15).1).trans kc15
    obtain ⟨f0, f1, _, _⟩ := row_at kc16
    clear om15 hm15 kc15 b16 e0 e1 p0 p1 hd15
    go_wp2_with fail
    go_at_call 18
    refine (heldDesk_in 1 om16 (by omega) hr1 hr2 (by omega)).mono ?_
    rintro e w17 ⟨rfl, b17⟩
    have hm17 := hm16.trans (b17.mono hm16.size)
    go_wp2
    go_ret
    exact ⟨rfl, dm.trans (hm17.mono hms)⟩
theorem exactDeskNew' (a0 : Option Addr) (len0 cap0 : Nat) (z0 : List Int) (w : World) (w0 : IsRow .i64 w a0 len0 cap0 z0) :
    Calls Try.prog 4 #[.slice a0 len0 cap0] w fun e w' => e = .returned (.bool true) ∧ Below w.heap.size w w' :=
  exactDeskNew _ (z0.take len0) w len0 cap0 a0 rfl w0.arg.1 w0.arg.2
end Go.Proofs.Ytcjkjpainfhfkab
