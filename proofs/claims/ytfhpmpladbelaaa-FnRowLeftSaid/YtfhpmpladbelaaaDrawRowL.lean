/-
  The draw of the law on RowLeft: two numbers, and nothing that was there is written.
-/
import Derived.Test.YtfhpmpladbelaaaReader
namespace Go.Proofs.Ytfhpmpladbelaaa
open Go.RowKit

theorem sel_fits {i : Nat} {a b c : Int} (ha : Fits a) (hb : Fits b) (hc : Fits c) : Fits (sel i a b c) := by
  unfold sel; split
  · exact ha
  · split
    · exact hb
    · exact hc

set_option maxHeartbeats 4000000 in
set_option maxRecDepth 100000 in
theorem drawRowLeft (w : World) (a : Option Addr) (len cap : Nat) (zs : List Int) (h : IsRow .u8 w a len cap zs) : Calls Try.prog 15 #[.slice a len cap] w fun e w' => Int2 e ∧ Below w.heap.size w w' := by
  go_enter Try.func15, Try.ntmps15
  go_wp2_with fail
  go_at_call 27
  refine (open_in w a len cap zs h).mono ?_
  rintro e w1 ⟨R, n, c, rfl, hb, hR⟩
  go_upto_region 2 with fail
  refine wp_region_reader w R n c 0 a (by kernel_rfl) (by kernel_rfl) (by decide) (by omega) hR
    (fun s => { tmps := #[.slice a len cap, undef, s 23, s 24, .pointer (some ⟨R, 0, none⟩), .slice a len cap, .pointer (some ⟨R, 0, none⟩), s 0, s 1, s 2, s 3, s 4, s 5, s 6, s 7, s 8, s 9, s 10, s 11, s 12, s 13, s 14, s 15, s 16, s 17, s 18, s 19, s 20, s 21, s 22], defers := [] })
    [.rd, .fit, .rd, .fit, .rd, .fit, .lit 3, .rd, .rng 5, .rng 3, .adr, .fit, .rd, .fit, .rd, .fit, .fit, .lit 3, .rd, .rng 9, .rng 3, .adr, .fit, .fit, .fit] ?h0 ?put ?step ?fin
  case h0 => exact ⟨fun k => if k = 23 ∨ k = 24 then .int .i64 0 else undef, by simp⟩
  case put =>
    intro i o s v ho
    have hi : i < 25 := (Array.getElem?_eq_some_iff.1 ho).1
    rcases (show i = 0 ∨ i = 1 ∨ i = 2 ∨ i = 3 ∨ i = 4 ∨ i = 5 ∨ i = 6 ∨ i = 7 ∨ i = 8 ∨ i = 9 ∨ i = 10 ∨ i = 11 ∨ i = 12 ∨ i = 13 ∨ i = 14 ∨ i = 15 ∨ i = 16 ∨ i = 17 ∨ i = 18 ∨ i = 19 ∨ i = 20 ∨ i = 21 ∨ i = 22 ∨ i = 23 ∨ i = 24 by omega) with rfl | rfl | rfl | rfl | rfl | rfl | rfl | rfl | rfl | rfl | rfl | rfl | rfl | rfl | rfl | rfl | rfl | rfl | rfl | rfl | rfl | rfl | rfl | rfl | rfl
    all_goals
      simp at ho
      subst ho
      simp [Act.put]
  case step =>
    intro i o s W q hq ho hRW hd Q' hQ'
    have hi : i < 25 := (Array.getElem?_eq_some_iff.1 ho).1
    rcases (show i = 0 ∨ i = 1 ∨ i = 2 ∨ i = 3 ∨ i = 4 ∨ i = 5 ∨ i = 6 ∨ i = 7 ∨ i = 8 ∨ i = 9 ∨ i = 10 ∨ i = 11 ∨ i = 12 ∨ i = 13 ∨ i = 14 ∨ i = 15 ∨ i = 16 ∨ i = 17 ∨ i = 18 ∨ i = 19 ∨ i = 20 ∨ i = 21 ∨ i = 22 ∨ i = 23 ∨ i = 24 by omega) with rfl | rfl | rfl | rfl | rfl | rfl | rfl | rfl | rfl | rfl | rfl | rfl | rfl | rfl | rfl | rfl | rfl | rfl | rfl | rfl | rfl | rfl | rfl | rfl | rfl
    all_goals
      simp at ho
      subst ho
      simp [Act.put] at hQ'
      have hQ := hide hQ'
      clear hQ' 
    case inl =>
      gi_wp2
      exact hQ.out _ W q (by omega) hRW (grownBy_refl _ _) rfl
    case inr.inl =>
      have e1 : s 0 = .pointer (some ⟨R, 0, none⟩) := hd 0 (by kernel_rfl)
      gi_wp2_with (refine ⟨trivial, ?_⟩; gi_at_call 38; refine (callsIn_wide.2 (pick_in w R n c _ a 20 _ hb hRW (by omega))).mono ?_; rintro e W' ⟨x, rfl, hx0, _, hx1, hrd, hgr, _⟩; replace hx1 := hx1 (by omega))
      have hr := hQ.out
      try simp only [e1] at hr
      exact hr _ W' _ (by omega) hrd hgr ⟨x, by unfold Fits; omega, rfl⟩
    case inr.inr.inl =>
      gi_wp2
      exact hQ.out _ W q (by omega) hRW (grownBy_refl _ _) rfl
    case inr.inr.inr.inl =>
      have e1 : s 2 = .pointer (some ⟨R, 0, none⟩) := hd 2 (by kernel_rfl)
      gi_wp2_with (refine ⟨trivial, ?_⟩; gi_at_call 38; refine (callsIn_wide.2 (pick_in w R n c _ a 90 _ hb hRW (by omega))).mono ?_; rintro e W' ⟨x, rfl, hx0, _, hx1, hrd, hgr, _⟩; replace hx1 := hx1 (by omega))
      have hr := hQ.out
      try simp only [e1] at hr
      exact hr _ W' _ (by omega) hrd hgr ⟨x, by unfold Fits; omega, rfl⟩
    case inr.inr.inr.inr.inl =>
      gi_wp2
      exact hQ.out _ W q (by omega) hRW (grownBy_refl _ _) rfl
    case inr.inr.inr.inr.inr.inl =>
      have e1 : s 4 = .pointer (some ⟨R, 0, none⟩) := hd 4 (by kernel_rfl)
      gi_wp2_with (refine ⟨trivial, ?_⟩; gi_at_call 38; refine (callsIn_wide.2 (pick_in w R n c _ a 302 _ hb hRW (by omega))).mono ?_; rintro e W' ⟨x, rfl, hx0, _, hx1, hrd, hgr, _⟩; replace hx1 := hx1 (by omega))
      have hr := hQ.out
      try simp only [e1] at hr
      exact hr _ W' _ (by omega) hrd hgr ⟨x, by unfold Fits; omega, rfl⟩
    case inr.inr.inr.inr.inr.inr.inl =>
      obtain ⟨x0, f0, e0⟩ : ∃ x : Int, Fits x ∧ s 1 = .int .i64 x := hd 1 (by kernel_rfl)
      obtain ⟨x1, f1, e1⟩ : ∃ x : Int, Fits x ∧ s 3 = .int .i64 x := hd 3 (by kernel_rfl)
      obtain ⟨x2, f2, e2⟩ : ∃ x : Int, Fits x ∧ s 5 = .int .i64 x := hd 5 (by kernel_rfl)
      have hne := hRW.ne
      gi_wp2
      have hr := hQ.out
      try simp only [e0, e1, e2] at hr
      exact hr _ _ q (by omega) (hRW.alloc _) (World.grownBy_alloc _ _ _) ⟨W.heap.size, rfl, fun e => by rw [hne] at e; exact e, by simp, fun i hi => ⟨_, sel_fits f0 f1 f2, sel_cell hi W x0 x1 x2⟩⟩
    case inr.inr.inr.inr.inr.inr.inr.inl =>
      gi_wp2
      exact hQ.out _ W q (by omega) hRW (grownBy_refl _ _) rfl
    case inr.inr.inr.inr.inr.inr.inr.inr.inl =>
      have e1 : s 7 = .pointer (some ⟨R, 0, none⟩) := hd 7 (by kernel_rfl)
      gi_wp2_with (refine ⟨trivial, ?_⟩; gi_at_call 38; refine (callsIn_wide.2 (pick_in w R n c _ a 5 _ hb hRW (by omega))).mono ?_; rintro e W' ⟨x, rfl, hx0, _, hx1, hrd, hgr, _⟩; replace hx1 := hx1 (by omega))
      obtain ⟨y, rfl⟩ : ∃ y : Nat, x = y := ⟨x.toNat, by omega⟩
      have hr := hQ.out
      try simp only [e1] at hr
      exact hr _ W' _ (by omega) hrd hgr ⟨y, by omega, rfl⟩
    case inr.inr.inr.inr.inr.inr.inr.inr.inr.inl =>
      obtain ⟨x, hx, e1⟩ : ∃ x : Nat, x < 5 ∧ s 8 = .int .i64 x := hd 8 (by kernel_rfl)
      gi_wp2
      have hr := hQ.out
      try simp only [e1] at hr
      exact hr (.int .i64 ((x : Int) / 2)) W q (by omega) hRW (grownBy_refl _ _) ⟨x / 2, by omega, by simp⟩
    case inr.inr.inr.inr.inr.inr.inr.inr.inr.inr.inl =>
      obtain ⟨g, e1, g1, g2, g3⟩ : ∃ g, s 6 = .slice (some ⟨g, 0, none⟩) 3 3 ∧ g ≠ R ∧ g < W.heap.size ∧ ∀ i, i < 3 → ∃ x : Int, Fits x ∧ W.cell? ⟨g, i, none⟩ = some (.int .i64 x) := hd 6 (by kernel_rfl)
      obtain ⟨y, hy, e2⟩ : ∃ x : Nat, x < 3 ∧ s 9 = .int .i64 x := hd 9 (by kernel_rfl)
      have hg := g3 y hy
      clear g3
      have hyi : (y : Int) < 3 := by omega
      gi_wp2
      have hr := hQ.out
      try simp only [e1, e2] at hr
      exact hr _ W q (by omega) hRW (grownBy_refl _ _) ⟨g, y, rfl, g1, g2, hg⟩
    case inr.inr.inr.inr.inr.inr.inr.inr.inr.inr.inr.inl =>
      obtain ⟨g, y, e1, _, _, x, hx, hc⟩ : ∃ g i, s 10 = .pointer (some ⟨g, i, none⟩) ∧ g ≠ R ∧ g < W.heap.size ∧ ∃ x : Int, Fits x ∧ W.cell? ⟨g, i, none⟩ = some (.int .i64 x) := hd 10 (by kernel_rfl)
      gi_wp2
      have hr := hQ.out
      try simp only [e1] at hr
      exact hr _ W q (by omega) hRW (grownBy_refl _ _) ⟨x, hx, rfl⟩
    case inr.inr.inr.inr.inr.inr.inr.inr.inr.inr.inr.inr.inl =>
      gi_wp2
      exact hQ.out _ W q (by omega) hRW (grownBy_refl _ _) rfl
    case inr.inr.inr.inr.inr.inr.inr.inr.inr.inr.inr.inr.inr.inl =>
      have e1 : s 12 = .pointer (some ⟨R, 0, none⟩) := hd 12 (by kernel_rfl)
      gi_wp2_with (refine ⟨trivial, ?_⟩; gi_at_call 29; refine (callsIn_wide.2 (l20Prime_in w R n c _ a _ hb hRW (by omega))).mono ?_; rintro e W' ⟨⟨x, hx, rfl⟩, hrd, hgr⟩)
      have hr := hQ.out
      try simp only [e1] at hr
      exact hr _ W' _ (by omega) hrd hgr ⟨x, hx, rfl⟩
    case inr.inr.inr.inr.inr.inr.inr.inr.inr.inr.inr.inr.inr.inr.inl =>
      gi_wp2
      exact hQ.out _ W q (by omega) hRW (grownBy_refl _ _) rfl
    case inr.inr.inr.inr.inr.inr.inr.inr.inr.inr.inr.inr.inr.inr.inr.inl =>
      have e1 : s 14 = .pointer (some ⟨R, 0, none⟩) := hd 14 (by kernel_rfl)
      gi_wp2_with (refine ⟨trivial, ?_⟩; gi_at_call 38; refine (callsIn_wide.2 (pick_in w R n c _ a 40 _ hb hRW (by omega))).mono ?_; rintro e W' ⟨x, rfl, hx0, _, hx1, hrd, hgr, _⟩; replace hx1 := hx1 (by omega))
      have hr := hQ.out
      try simp only [e1] at hr
      exact hr _ W' _ (by omega) hrd hgr ⟨x, by unfold Fits; omega, rfl⟩
    case inr.inr.inr.inr.inr.inr.inr.inr.inr.inr.inr.inr.inr.inr.inr.inr.inl =>
      obtain ⟨x, hx, e1⟩ : ∃ x : Int, Fits x ∧ s 15 = .int .i64 x := hd 15 (by kernel_rfl)
      gi_wp2
      have hr := hQ.out
      try simp only [e1] at hr
      exact hr _ W q (by omega) hRW (grownBy_refl _ _) ⟨_, by first | exact wrap_fits _ | exact wrap64_fits _, rfl⟩
    case inr.inr.inr.inr.inr.inr.inr.inr.inr.inr.inr.inr.inr.inr.inr.inr.inr.inl =>
      obtain ⟨x0, f0, e0⟩ : ∃ x : Int, Fits x ∧ s 13 = .int .i64 x := hd 13 (by kernel_rfl)
      obtain ⟨x1, f1, e1⟩ : ∃ x : Int, Fits x ∧ s 16 = .int .i64 x := hd 16 (by kernel_rfl)
      have hne := hRW.ne
      gi_wp2
      have hr := hQ.out
      try simp only [e0, e1] at hr
      exact hr _ _ q (by omega) (hRW.alloc _) (World.grownBy_alloc _ _ _) ⟨W.heap.size, rfl, fun e => by rw [hne] at e; exact e, by simp, fun i hi => ⟨_, sel_fits f0 f1 (by unfold Fits; omega), sel_cell hi W x0 x1 (1001)⟩⟩
    case inr.inr.inr.inr.inr.inr.inr.inr.inr.inr.inr.inr.inr.inr.inr.inr.inr.inr.inl =>
      gi_wp2
      exact hQ.out _ W q (by omega) hRW (grownBy_refl _ _) rfl
    case inr.inr.inr.inr.inr.inr.inr.inr.inr.inr.inr.inr.inr.inr.inr.inr.inr.inr.inr.inl =>
      have e1 : s 18 = .pointer (some ⟨R, 0, none⟩) := hd 18 (by kernel_rfl)
      gi_wp2_with (refine ⟨trivial, ?_⟩; gi_at_call 38; refine (callsIn_wide.2 (pick_in w R n c _ a 9 _ hb hRW (by omega))).mono ?_; rintro e W' ⟨x, rfl, hx0, _, hx1, hrd, hgr, _⟩; replace hx1 := hx1 (by omega))
      obtain ⟨y, rfl⟩ : ∃ y : Nat, x = y := ⟨x.toNat, by omega⟩
      have hr := hQ.out
      try simp only [e1] at hr
      exact hr _ W' _ (by omega) hrd hgr ⟨y, by omega, rfl⟩
    case inr.inr.inr.inr.inr.inr.inr.inr.inr.inr.inr.inr.inr.inr.inr.inr.inr.inr.inr.inr.inl =>
      obtain ⟨x, hx, e1⟩ : ∃ x : Nat, x < 9 ∧ s 19 = .int .i64 x := hd 19 (by kernel_rfl)
      gi_wp2
      have hr := hQ.out
      try simp only [e1] at hr
      exact hr (.int .i64 ((x : Int) / 4)) W q (by omega) hRW (grownBy_refl _ _) ⟨x / 4, by omega, by simp⟩
    case inr.inr.inr.inr.inr.inr.inr.inr.inr.inr.inr.inr.inr.inr.inr.inr.inr.inr.inr.inr.inr.inl =>
      obtain ⟨g, e1, g1, g2, g3⟩ : ∃ g, s 17 = .slice (some ⟨g, 0, none⟩) 3 3 ∧ g ≠ R ∧ g < W.heap.size ∧ ∀ i, i < 3 → ∃ x : Int, Fits x ∧ W.cell? ⟨g, i, none⟩ = some (.int .i64 x) := hd 17 (by kernel_rfl)
      obtain ⟨y, hy, e2⟩ : ∃ x : Nat, x < 3 ∧ s 20 = .int .i64 x := hd 20 (by kernel_rfl)
      have hg := g3 y hy
      clear g3
      have hyi : (y : Int) < 3 := by omega
      gi_wp2
      have hr := hQ.out
      try simp only [e1, e2] at hr
      exact hr _ W q (by omega) hRW (grownBy_refl _ _) ⟨g, y, rfl, g1, g2, hg⟩
    case inr.inr.inr.inr.inr.inr.inr.inr.inr.inr.inr.inr.inr.inr.inr.inr.inr.inr.inr.inr.inr.inr.inl =>
      obtain ⟨g, y, e1, _, _, x, hx, hc⟩ : ∃ g i, s 21 = .pointer (some ⟨g, i, none⟩) ∧ g ≠ R ∧ g < W.heap.size ∧ ∃ x : Int, Fits x ∧ W.cell? ⟨g, i, none⟩ = some (.int .i64 x) := hd 21 (by kernel_rfl)
      gi_wp2
      have hr := hQ.out
      try simp only [e1] at hr
      exact hr _ W q (by omega) hRW (grownBy_refl _ _) ⟨x, hx, rfl⟩
    case inr.inr.inr.inr.inr.inr.inr.inr.inr.inr.inr.inr.inr.inr.inr.inr.inr.inr.inr.inr.inr.inr.inr.inl =>
      obtain ⟨x, hx, e1⟩ : ∃ x : Int, Fits x ∧ s 11 = .int .i64 x := hd 11 (by kernel_rfl)
      gi_wp2
      have hr := hQ.out
      try simp only [e1] at hr
      exact hr _ W q (by omega) hRW (grownBy_refl _ _) ⟨x, hx, rfl⟩
    case inr.inr.inr.inr.inr.inr.inr.inr.inr.inr.inr.inr.inr.inr.inr.inr.inr.inr.inr.inr.inr.inr.inr.inr =>
      obtain ⟨x, hx, e1⟩ : ∃ x : Int, Fits x ∧ s 22 = .int .i64 x := hd 22 (by kernel_rfl)
      gi_wp2
      have hr := hQ.out
      try simp only [e1] at hr
      exact hr _ W q (by omega) hRW (grownBy_refl _ _) ⟨x, hx, rfl⟩
  case fin =>
    rintro s W q hq hRW hall
    obtain ⟨x, hx, ex⟩ : ∃ x : Int, Fits x ∧ s 23 = .int .i64 x := hall 23 (by decide)
    obtain ⟨y, hy, ey⟩ : ∃ x : Int, Fits x ∧ s 24 = .int .i64 x := hall 24 (by decide)
    rw [ex, ey]
    go_wp2
    go_ret2
    exact ⟨⟨_, _, hx, hy, rfl⟩, hRW.1⟩
end Go.Proofs.Ytfhpmpladbelaaa
