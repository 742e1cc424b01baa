/-
  The draws of a number and of a prime: how far the reader moves, and what stays.
-/
import Derived.Test.YtdhcdgmceiganaaReader2
import Derived.Test.YtdhcdgmceiganaaDrawPrime
namespace Go.Proofs.Ytdhcdgmceiganaa
open Go.RowKit

theorem bits_fits2 (o : BinOp) (x y : Int) : Fits (bits o .i64 x y) := by
  unfold bits
  exact wrap_fits _
/-- The reader has moved on by no more than K. -/
def Moved (W0 : World) (R : Nat) (a : Option Addr) (len cap p K : Nat) (w w' : World) : Prop := ∃ q, q ≤ p + K ∧ Rd W0 R a len cap w' q ∧ w.grownBy w' (some R)
theorem l20Prime2 (W0 : World) (R len cap p : Nat) (a : Option Addr) (w : World) (hb : Bytes W0 a len) (h : Rd W0 R a len cap w p) (hp : p ≤ 900000) :
    Calls Try.prog 34 #[.pointer (some ⟨R, 0, none⟩)] w fun e w' => Int1 e ∧ Moved W0 R a len cap p 3 w w' :=
  (l20Prime_in W0 R len cap p a w hb h hp).mono fun e w' ⟨h1, h2, h3⟩ => ⟨h1, _, by omega, h2, h3⟩

set_option maxHeartbeats 4000000 in
set_option maxRecDepth 100000 in
theorem l20Big2 (W0 : World) (R len cap p : Nat) (a : Option Addr) (w : World) (hb : Bytes W0 a len) (h : Rd W0 R a len cap w p) (hp : p ≤ 900000) :
    Calls Try.prog 33 #[.pointer (some ⟨R, 0, none⟩)] w fun e w' => Int1 e ∧ Moved W0 R a len cap p 40 w w' := by
  go_enter Try.func33, Try.ntmps33
  go_upto_region 1 with fail
  refine wp_region_reader2 W0 R len cap p a 1 (by decide) (by kernel_rfl) (by kernel_rfl) (by decide) h
    (fun s => { tmps := #[.pointer (some ⟨R, 0, none⟩), undef, .int .i64 0, s 29, s 0, s 1, s 2, s 3, s 4, s 5, s 6, s 7, s 8, s 9, s 10, s 11, s 12, s 13, s 14, s 15, s 16, s 17, s 18, s 19, s 20, s 21, s 22, s 23, s 24, s 25, s 26, s 27, s 28, undef, undef, undef, undef, undef, undef, undef, undef, undef, undef, undef], defers := [] })
    [.rd, .fit, .rd, .fit, .fit, .rd, .fit, .fit, .rd, .fit, .fit, .rd, .fit, .fit, .fit, .rd, .fit, .fit, .rd, .rng 28, .fit, .rd, .fit, .fit, .lit 4, .rd, .rng 4, .adr, .fit, .fit] ?h0 ?put ?step ?fin
  case h0 => exact ⟨fun k => undef, by simp⟩
  case put =>
    intro i o s v ho
    have hi : i < 30 := (Array.getElem?_eq_some_iff.1 ho).1
    rcases (show i = 0 ∨ i = 1 ∨ i = 2 ∨ i = 3 ∨ i = 4 ∨ i = 5 ∨ i = 6 ∨ i = 7 ∨ i = 8 ∨ i = 9 ∨ i = 10 ∨ i = 11 ∨ i = 12 ∨ i = 13 ∨ i = 14 ∨ i = 15 ∨ i = 16 ∨ i = 17 ∨ i = 18 ∨ i = 19 ∨ i = 20 ∨ i = 21 ∨ i = 22 ∨ i = 23 ∨ i = 24 ∨ i = 25 ∨ i = 26 ∨ i = 27 ∨ i = 28 ∨ i = 29 by omega) with rfl | rfl | rfl | rfl | rfl | rfl | rfl | rfl | rfl | rfl | rfl | rfl | rfl | rfl | rfl | rfl | rfl | rfl | rfl | rfl | rfl | rfl | rfl | rfl | rfl | rfl | rfl | rfl | rfl | rfl
    all_goals
      simp at ho
      subst ho
      simp [Act.put]
  case step =>
    intro i o s W q hq ho hRW hd Q' hQ'
    have hi : i < 30 := (Array.getElem?_eq_some_iff.1 ho).1
    rcases (show i = 0 ∨ i = 1 ∨ i = 2 ∨ i = 3 ∨ i = 4 ∨ i = 5 ∨ i = 6 ∨ i = 7 ∨ i = 8 ∨ i = 9 ∨ i = 10 ∨ i = 11 ∨ i = 12 ∨ i = 13 ∨ i = 14 ∨ i = 15 ∨ i = 16 ∨ i = 17 ∨ i = 18 ∨ i = 19 ∨ i = 20 ∨ i = 21 ∨ i = 22 ∨ i = 23 ∨ i = 24 ∨ i = 25 ∨ i = 26 ∨ i = 27 ∨ i = 28 ∨ i = 29 by omega) with rfl | rfl | rfl | rfl | rfl | rfl | rfl | rfl | rfl | rfl | rfl | rfl | rfl | rfl | rfl | rfl | rfl | rfl | rfl | rfl | rfl | rfl | rfl | rfl | rfl | rfl | rfl | rfl | rfl | rfl
    all_goals
      simp at ho
      subst ho
      simp [Act.put] at hQ'
      have hQ := hide hQ'
      clear hQ' 
    case inl =>
      gi_wp2
      exact hQ.out _ W q (by omega) hRW (grownBy_refl _ _) rfl
    case inr.inl =>
      have e1 : s 0 = .pointer (some ⟨R, 0, none⟩) := hd 0 (by kernel_rfl)
      gi_wp2_with (refine ⟨trivial, ?_⟩; gi_at_call 32; refine (callsIn_wide.2 (pick_in W0 R len cap _ a (40) _ hb hRW (by omega))).mono ?_; rintro e W' ⟨x, rfl, hx0, hx2, hx1, hrd, hgr, _⟩)
      have hr := hQ.out
      try simp only [e1] at hr
      exact hr _ W' _ (by omega) hrd hgr ⟨x, by unfold Fits; omega, rfl⟩
    case inr.inr.inl =>
      gi_wp2
      exact hQ.out _ W q (by omega) hRW (grownBy_refl _ _) rfl
    case inr.inr.inr.inl =>
      have e1 : s 2 = .pointer (some ⟨R, 0, none⟩) := hd 2 (by kernel_rfl)
      gi_wp2_with (refine ⟨trivial, ?_⟩; gi_at_call 32; refine (callsIn_wide.2 (pick_in W0 R len cap _ a (256) _ hb hRW (by omega))).mono ?_; rintro e W' ⟨x, rfl, hx0, hx2, hx1, hrd, hgr, _⟩)
      have hr := hQ.out
      try simp only [e1] at hr
      exact hr _ W' _ (by omega) hrd hgr ⟨x, by unfold Fits; omega, rfl⟩
    case inr.inr.inr.inr.inl =>
      obtain ⟨x, hx, ex⟩ : ∃ x : Int, Fits x ∧ s 3 = .int .i64 x := hd 3 (by kernel_rfl)
      gi_wp2
      have hr := hQ.out
      try simp only [ex] at hr
      exact hr _ W q (by omega) hRW (grownBy_refl _ _) ⟨_, (by first | exact wrap_fits _ | exact wrap64_fits _ | exact bits_fits2 _ _ _ | (unfold Fits; omega)), rfl⟩
    case inr.inr.inr.inr.inr.inl =>
      gi_wp2
      exact hQ.out _ W q (by omega) hRW (grownBy_refl _ _) rfl
    case inr.inr.inr.inr.inr.inr.inl =>
      have e1 : s 5 = .pointer (some ⟨R, 0, none⟩) := hd 5 (by kernel_rfl)
      gi_wp2_with (refine ⟨trivial, ?_⟩; gi_at_call 32; refine (callsIn_wide.2 (pick_in W0 R len cap _ a (256) _ hb hRW (by omega))).mono ?_; rintro e W' ⟨x, rfl, hx0, hx2, hx1, hrd, hgr, _⟩)
      have hr := hQ.out
      try simp only [e1] at hr
      exact hr _ W' _ (by omega) hrd hgr ⟨x, by unfold Fits; omega, rfl⟩
    case inr.inr.inr.inr.inr.inr.inr.inl =>
      obtain ⟨x, hx, ex⟩ : ∃ x : Int, Fits x ∧ s 4 = .int .i64 x := hd 4 (by kernel_rfl)
      obtain ⟨y, hy, ey⟩ : ∃ x : Int, Fits x ∧ s 6 = .int .i64 x := hd 6 (by kernel_rfl)
      gi_wp2
      have hr := hQ.out
      try simp only [ex, ey] at hr
      exact hr _ W q (by omega) hRW (grownBy_refl _ _) ⟨_, (by first | exact wrap_fits _ | exact wrap64_fits _ | exact bits_fits2 _ _ _ | (unfold Fits; omega)), rfl⟩
    case inr.inr.inr.inr.inr.inr.inr.inr.inl =>
      gi_wp2
      exact hQ.out _ W q (by omega) hRW (grownBy_refl _ _) rfl
    case inr.inr.inr.inr.inr.inr.inr.inr.inr.inl =>
      have e1 : s 8 = .pointer (some ⟨R, 0, none⟩) := hd 8 (by kernel_rfl)
      gi_wp2_with (refine ⟨trivial, ?_⟩; gi_at_call 32; refine (callsIn_wide.2 (pick_in W0 R len cap _ a (250) _ hb hRW (by omega))).mono ?_; rintro e W' ⟨x, rfl, hx0, hx2, hx1, hrd, hgr, _⟩)
      have hr := hQ.out
      try simp only [e1] at hr
      exact hr _ W' _ (by omega) hrd hgr ⟨x, by unfold Fits; omega, rfl⟩
    case inr.inr.inr.inr.inr.inr.inr.inr.inr.inr.inl =>
      obtain ⟨x, hx, ex⟩ : ∃ x : Int, Fits x ∧ s 9 = .int .i64 x := hd 9 (by kernel_rfl)
      gi_wp2
      have hr := hQ.out
      try simp only [ex] at hr
      exact hr _ W q (by omega) hRW (grownBy_refl _ _) ⟨_, (by first | exact wrap_fits _ | exact wrap64_fits _ | exact bits_fits2 _ _ _ | (unfold Fits; omega)), rfl⟩
    case inr.inr.inr.inr.inr.inr.inr.inr.inr.inr.inr.inl =>
      gi_wp2
      exact hQ.out _ W q (by omega) hRW (grownBy_refl _ _) rfl
    case inr.inr.inr.inr.inr.inr.inr.inr.inr.inr.inr.inr.inl =>
      have e1 : s 11 = .pointer (some ⟨R, 0, none⟩) := hd 11 (by kernel_rfl)
      gi_wp2_with (refine ⟨trivial, ?_⟩; gi_at_call 32; refine (callsIn_wide.2 (pick_in W0 R len cap _ a (250) _ hb hRW (by omega))).mono ?_; rintro e W' ⟨x, rfl, hx0, hx2, hx1, hrd, hgr, _⟩)
      have hr := hQ.out
      try simp only [e1] at hr
      exact hr _ W' _ (by omega) hrd hgr ⟨x, by unfold Fits; omega, rfl⟩
    case inr.inr.inr.inr.inr.inr.inr.inr.inr.inr.inr.inr.inr.inl =>
      obtain ⟨x, hx, ex⟩ : ∃ x : Int, Fits x ∧ s 12 = .int .i64 x := hd 12 (by kernel_rfl)
      gi_wp2
      have hr := hQ.out
      try simp only [ex] at hr
      exact hr _ W q (by omega) hRW (grownBy_refl _ _) ⟨_, (by first | exact wrap_fits _ | exact wrap64_fits _ | exact bits_fits2 _ _ _ | (unfold Fits; omega)), rfl⟩
    case inr.inr.inr.inr.inr.inr.inr.inr.inr.inr.inr.inr.inr.inr.inl =>
      obtain ⟨x, hx, ex⟩ : ∃ x : Int, Fits x ∧ s 10 = .int .i64 x := hd 10 (by kernel_rfl)
      obtain ⟨y, hy, ey⟩ : ∃ x : Int, Fits x ∧ s 13 = .int .i64 x := hd 13 (by kernel_rfl)
      gi_wp2
      have hr := hQ.out
      try simp only [ex, ey] at hr
      exact hr _ W q (by omega) hRW (grownBy_refl _ _) ⟨_, (by first | exact wrap_fits _ | exact wrap64_fits _ | exact bits_fits2 _ _ _ | (unfold Fits; omega)), rfl⟩
    case inr.inr.inr.inr.inr.inr.inr.inr.inr.inr.inr.inr.inr.inr.inr.inl =>
      gi_wp2
      exact hQ.out _ W q (by omega) hRW (grownBy_refl _ _) rfl
    case inr.inr.inr.inr.inr.inr.inr.inr.inr.inr.inr.inr.inr.inr.inr.inr.inl =>
      have e1 : s 15 = .pointer (some ⟨R, 0, none⟩) := hd 15 (by kernel_rfl)
      gi_wp2_with (refine ⟨trivial, ?_⟩; gi_at_call 32; refine (callsIn_wide.2 (pick_in W0 R len cap _ a (250) _ hb hRW (by omega))).mono ?_; rintro e W' ⟨x, rfl, hx0, hx2, hx1, hrd, hgr, _⟩)
      have hr := hQ.out
      try simp only [e1] at hr
      exact hr _ W' _ (by omega) hrd hgr ⟨x, by unfold Fits; omega, rfl⟩
    case inr.inr.inr.inr.inr.inr.inr.inr.inr.inr.inr.inr.inr.inr.inr.inr.inr.inl =>
      obtain ⟨x, hx, ex⟩ : ∃ x : Int, Fits x ∧ s 14 = .int .i64 x := hd 14 (by kernel_rfl)
      obtain ⟨y, hy, ey⟩ : ∃ x : Int, Fits x ∧ s 16 = .int .i64 x := hd 16 (by kernel_rfl)
      gi_wp2
      have hr := hQ.out
      try simp only [ex, ey] at hr
      exact hr _ W q (by omega) hRW (grownBy_refl _ _) ⟨_, (by first | exact wrap_fits _ | exact wrap64_fits _ | exact bits_fits2 _ _ _ | (unfold Fits; omega)), rfl⟩
    case inr.inr.inr.inr.inr.inr.inr.inr.inr.inr.inr.inr.inr.inr.inr.inr.inr.inr.inl =>
      gi_wp2
      exact hQ.out _ W q (by omega) hRW (grownBy_refl _ _) rfl
    case inr.inr.inr.inr.inr.inr.inr.inr.inr.inr.inr.inr.inr.inr.inr.inr.inr.inr.inr.inl =>
      have e1 : s 18 = .pointer (some ⟨R, 0, none⟩) := hd 18 (by kernel_rfl)
      gi_wp2_with (refine ⟨trivial, ?_⟩; gi_at_call 32; refine (callsIn_wide.2 (pick_in W0 R len cap _ a (28) _ hb hRW (by omega))).mono ?_; rintro e W' ⟨x, rfl, hx0, hx2, hx1, hrd, hgr, _⟩)
      replace hx1 := hx1 (by omega)
      obtain ⟨y, rfl⟩ : ∃ y : Nat, x = y := ⟨x.toNat, by omega⟩
      have hr := hQ.out
      try simp only [e1] at hr
      exact hr _ W' _ (by omega) hrd hgr ⟨y, by omega, rfl⟩
    case inr.inr.inr.inr.inr.inr.inr.inr.inr.inr.inr.inr.inr.inr.inr.inr.inr.inr.inr.inr.inl =>
      obtain ⟨y, hy, ey⟩ : ∃ x : Nat, x < 28 ∧ s 19 = .int .i64 x := hd 19 (by kernel_rfl)
      have hyi : (0 : Int) ≤ (y : Int) := by omega
      gi_wp2
      have hr := hQ.out
      try simp only [ey] at hr
      exact hr _ W q (by omega) hRW (grownBy_refl _ _) ⟨_, (by first | exact wrap_fits _ | exact wrap64_fits _ | exact bits_fits2 _ _ _ | (unfold Fits; omega)), rfl⟩
    case inr.inr.inr.inr.inr.inr.inr.inr.inr.inr.inr.inr.inr.inr.inr.inr.inr.inr.inr.inr.inr.inl =>
      gi_wp2
      exact hQ.out _ W q (by omega) hRW (grownBy_refl _ _) rfl
    case inr.inr.inr.inr.inr.inr.inr.inr.inr.inr.inr.inr.inr.inr.inr.inr.inr.inr.inr.inr.inr.inr.inl =>
      have e1 : s 21 = .pointer (some ⟨R, 0, none⟩) := hd 21 (by kernel_rfl)
      gi_wp2_with (refine ⟨trivial, ?_⟩; gi_at_call 32; refine (callsIn_wide.2 (pick_in W0 R len cap _ a (2) _ hb hRW (by omega))).mono ?_; rintro e W' ⟨x, rfl, hx0, hx2, hx1, hrd, hgr, _⟩)
      have hr := hQ.out
      try simp only [e1] at hr
      exact hr _ W' _ (by omega) hrd hgr ⟨x, by unfold Fits; omega, rfl⟩
    case inr.inr.inr.inr.inr.inr.inr.inr.inr.inr.inr.inr.inr.inr.inr.inr.inr.inr.inr.inr.inr.inr.inr.inl =>
      obtain ⟨x, hx, ex⟩ : ∃ x : Int, Fits x ∧ s 20 = .int .i64 x := hd 20 (by kernel_rfl)
      obtain ⟨y, hy, ey⟩ : ∃ x : Int, Fits x ∧ s 22 = .int .i64 x := hd 22 (by kernel_rfl)
      gi_wp2
      have hr := hQ.out
      try simp only [ex, ey] at hr
      exact hr _ W q (by omega) hRW (grownBy_refl _ _) ⟨_, (by first | exact wrap_fits _ | exact wrap64_fits _ | exact bits_fits2 _ _ _ | (unfold Fits; omega)), rfl⟩
    case inr.inr.inr.inr.inr.inr.inr.inr.inr.inr.inr.inr.inr.inr.inr.inr.inr.inr.inr.inr.inr.inr.inr.inr.inl =>
      obtain ⟨x0, hx0, ex0⟩ : ∃ x : Int, Fits x ∧ s 1 = .int .i64 x := hd 1 (by kernel_rfl)
      obtain ⟨x1, hx1, ex1⟩ : ∃ x : Int, Fits x ∧ s 7 = .int .i64 x := hd 7 (by kernel_rfl)
      obtain ⟨x2, hx2, ex2⟩ : ∃ x : Int, Fits x ∧ s 17 = .int .i64 x := hd 17 (by kernel_rfl)
      obtain ⟨x3, hx3, ex3⟩ : ∃ x : Int, Fits x ∧ s 23 = .int .i64 x := hd 23 (by kernel_rfl)
      have hne := hRW.ne
      gi_wp2
      have hr := hQ.out
      try simp only [ex0, ex1, ex2, ex3] at hr
      exact hr _ _ q (by omega) (hRW.alloc _) (World.grownBy_alloc _ _ _) ⟨W.heap.size, rfl, fun e => by rw [hne] at e; exact e, by simp, fun i hi => ⟨_, sel4_fits hx0 hx1 hx2 hx3, sel4_cell hi W x0 x1 x2 x3⟩⟩
    case inr.inr.inr.inr.inr.inr.inr.inr.inr.inr.inr.inr.inr.inr.inr.inr.inr.inr.inr.inr.inr.inr.inr.inr.inr.inl =>
      gi_wp2
      exact hQ.out _ W q (by omega) hRW (grownBy_refl _ _) rfl
    case inr.inr.inr.inr.inr.inr.inr.inr.inr.inr.inr.inr.inr.inr.inr.inr.inr.inr.inr.inr.inr.inr.inr.inr.inr.inr.inl =>
      have e1 : s 25 = .pointer (some ⟨R, 0, none⟩) := hd 25 (by kernel_rfl)
      gi_wp2_with (refine ⟨trivial, ?_⟩; gi_at_call 32; refine (callsIn_wide.2 (pick_in W0 R len cap _ a (4) _ hb hRW (by omega))).mono ?_; rintro e W' ⟨x, rfl, hx0, hx2, hx1, hrd, hgr, _⟩)
      replace hx1 := hx1 (by omega)
      obtain ⟨y, rfl⟩ : ∃ y : Nat, x = y := ⟨x.toNat, by omega⟩
      have hr := hQ.out
      try simp only [e1] at hr
      exact hr _ W' _ (by omega) hrd hgr ⟨y, by omega, rfl⟩
    case inr.inr.inr.inr.inr.inr.inr.inr.inr.inr.inr.inr.inr.inr.inr.inr.inr.inr.inr.inr.inr.inr.inr.inr.inr.inr.inr.inl =>
      obtain ⟨g, e1, g1, g2, g3⟩ : ∃ g, s 24 = .slice (some ⟨g, 0, none⟩) 4 4 ∧ g ≠ R ∧ g < W.heap.size ∧ ∀ i, i < 4 → ∃ x : Int, Fits x ∧ W.cell? ⟨g, i, none⟩ = some (.int .i64 x) := hd 24 (by kernel_rfl)
      obtain ⟨y, hy, e2⟩ : ∃ x : Nat, x < 4 ∧ s 26 = .int .i64 x := hd 26 (by kernel_rfl)
      have hg := g3 y (by omega)
      clear g3
      have hyi : (y : Int) < 4 := by omega
      gi_wp2
      have hr := hQ.out
      try simp only [e1, e2] at hr
      exact hr _ W q (by omega) hRW (grownBy_refl _ _) ⟨g, y, rfl, g1, g2, hg⟩
    case inr.inr.inr.inr.inr.inr.inr.inr.inr.inr.inr.inr.inr.inr.inr.inr.inr.inr.inr.inr.inr.inr.inr.inr.inr.inr.inr.inr.inl =>
      obtain ⟨g, y, e1, _, _, x, hx, hc⟩ : ∃ g i, s 27 = .pointer (some ⟨g, i, none⟩) ∧ g ≠ R ∧ g < W.heap.size ∧ ∃ x : Int, Fits x ∧ W.cell? ⟨g, i, none⟩ = some (.int .i64 x) := hd 27 (by kernel_rfl)
      gi_wp2
      have hr := hQ.out
      try simp only [e1] at hr
      exact hr _ W q (by omega) hRW (grownBy_refl _ _) ⟨x, hx, rfl⟩
    case inr.inr.inr.inr.inr.inr.inr.inr.inr.inr.inr.inr.inr.inr.inr.inr.inr.inr.inr.inr.inr.inr.inr.inr.inr.inr.inr.inr.inr =>
      obtain ⟨x, hx, ex⟩ : ∃ x : Int, Fits x ∧ s 28 = .int .i64 x := hd 28 (by kernel_rfl)
      gi_wp2
      have hr := hQ.out
      try simp only [ex] at hr
      exact hr _ W q (by omega) hRW (grownBy_refl _ _) ⟨_, hx, rfl⟩
  case fin =>
    rintro s W q hq hRW hgW hall
    obtain ⟨x, hx, ex⟩ : ∃ x : Int, Fits x ∧ s 29 = .int .i64 x := hall 29 (by decide)
    have hq' : q ≤ p + 30 := by have := hq; exact this
    clear hq
    rw [ex]
    go_wp2_with (go_at_call 32; (with_reducible refine (pick_in W0 R len cap _ a _ _ hb (by assumption) (by omega)).mono ?_); rintro e w' ⟨x2, rfl, hx0, _, hx1, hrd, hgr, hon⟩; clear hx0 hx1 hon; replace hgW := hgW.trans hgr; clear hgr)
    all_goals
      go_ret
      refine ⟨⟨_, by first | exact wrap_fits _ | exact wrap64_fits _, rfl⟩, _, ?_, by assumption, hgW⟩
      omega
end Go.Proofs.Ytdhcdgmceiganaa
