/-
  The draws of chapter 5: each hands back two numbers, and nothing that was there is written.
-/
import Derived.Test.YtdhcdgmceiganaaDrawBig3
import Derived.Test.YtdhcdgmceiganaaSpec3
namespace Go.Proofs.Ytdhcdgmceiganaa
open Go.RowKit

set_option maxHeartbeats 4000000 in
set_option maxRecDepth 100000 in
theorem drawLeftIn (w : World) (a : Option Addr) (len cap : Nat) (zs : List Int) (h : IsRow .u8 w a len cap zs) : Calls Try.prog 11 #[.slice a len cap] w fun e w' => Int2 e ∧ Below w.heap.size w w' := by
  go_enter Try.func11, Try.ntmps11
  go_wp2_with fail
  go_at_call 31
  refine (open_in w a len cap zs h).mono ?_
  rintro e w1 ⟨R, n, c, rfl, hb, hR⟩
  go_upto_region 2 with fail
  refine wp_region_reader2 w R n c 0 a 40 (by decide) (by kernel_rfl) (by kernel_rfl) (by decide) hR
    (fun s => { tmps := #[.slice a len cap, undef, s 11, s 12, .pointer (some ⟨R, 0, none⟩), .slice a len cap, .pointer (some ⟨R, 0, none⟩), s 0, s 1, s 2, s 3, s 4, s 5, s 6, s 7, s 8, s 9, s 10], defers := [] })
    [.rd, .fit, .rd, .fit, .lit 2, .rd, .rng 2, .adr, .fit, .rd, .fit, .fit, .fit] ?h0 ?put ?step ?fin
  case h0 => exact ⟨fun k => if k = 11 then .int .i64 0 else if k = 12 then .int .i64 0 else undef, by simp⟩
  case put =>
    intro i o s v ho
    have hi : i < 13 := (Array.getElem?_eq_some_iff.1 ho).1
    rcases (show i = 0 ∨ i = 1 ∨ i = 2 ∨ i = 3 ∨ i = 4 ∨ i = 5 ∨ i = 6 ∨ i = 7 ∨ i = 8 ∨ i = 9 ∨ i = 10 ∨ i = 11 ∨ i = 12 by omega) with rfl | rfl | rfl | rfl | rfl | rfl | rfl | rfl | rfl | rfl | rfl | rfl | rfl
    all_goals
      simp at ho
      subst ho
      simp [Act.put]
  case step =>
    intro i o s W q hq ho hRW hd Q' hQ'
    have hi : i < 13 := (Array.getElem?_eq_some_iff.1 ho).1
    rcases (show i = 0 ∨ i = 1 ∨ i = 2 ∨ i = 3 ∨ i = 4 ∨ i = 5 ∨ i = 6 ∨ i = 7 ∨ i = 8 ∨ i = 9 ∨ i = 10 ∨ i = 11 ∨ i = 12 by omega) with rfl | rfl | rfl | rfl | rfl | rfl | rfl | rfl | rfl | rfl | rfl | rfl | rfl
    all_goals
      simp at ho
      subst ho
      simp [Act.put] at hQ'
      have hQ := hide hQ'
      clear hQ' 
    case inl =>
      gi_wp2
      exact hQ.out _ W q (by omega) hRW (grownBy_refl _ _) rfl
    case inr.inl =>
      have e1 : s 0 = .pointer (some ⟨R, 0, none⟩) := hd 0 (by kernel_rfl)
      gi_wp2_with (refine ⟨trivial, ?_⟩; gi_at_call 32; refine (callsIn_wide.2 (pick_in w R n c _ a (200) _ hb hRW (by omega))).mono ?_; rintro e W' ⟨x, rfl, hx0, hx2, hx1, hrd, hgr, _⟩)
      have hr := hQ.out
      try simp only [e1] at hr
      exact hr _ W' _ (by omega) hrd hgr ⟨x, by unfold Fits; omega, rfl⟩
    case inr.inr.inl =>
      gi_wp2
      exact hQ.out _ W q (by omega) hRW (grownBy_refl _ _) rfl
    case inr.inr.inr.inl =>
      have e1 : s 2 = .pointer (some ⟨R, 0, none⟩) := hd 2 (by kernel_rfl)
      gi_wp2_with (refine ⟨trivial, ?_⟩; gi_at_call 33; refine (callsIn_wide.2 (l20Big2 w R n c _ a _ hb hRW (by omega))).mono ?_; rintro e W' ⟨⟨x, hx, rfl⟩, q', hq', hrd, hgr⟩)
      have hr := hQ.out
      try simp only [e1] at hr
      exact hr _ W' q' (by omega) hrd hgr ⟨x, hx, rfl⟩
    case inr.inr.inr.inr.inl =>
      obtain ⟨x0, hx0, ex0⟩ : ∃ x : Int, Fits x ∧ s 1 = .int .i64 x := hd 1 (by kernel_rfl)
      obtain ⟨x1, hx1, ex1⟩ : ∃ x : Int, Fits x ∧ s 3 = .int .i64 x := hd 3 (by kernel_rfl)
      have hne := hRW.ne
      gi_wp2
      have hr := hQ.out
      try simp only [ex0, ex1] at hr
      exact hr _ _ q (by omega) (hRW.alloc _) (World.grownBy_alloc _ _ _) ⟨W.heap.size, rfl, fun e => by rw [hne] at e; exact e, by simp, fun i hi => ⟨_, two_fits hx0 hx1, two_cell hi W x0 x1⟩⟩
    case inr.inr.inr.inr.inr.inl =>
      gi_wp2
      exact hQ.out _ W q (by omega) hRW (grownBy_refl _ _) rfl
    case inr.inr.inr.inr.inr.inr.inl =>
      have e1 : s 5 = .pointer (some ⟨R, 0, none⟩) := hd 5 (by kernel_rfl)
      gi_wp2_with (refine ⟨trivial, ?_⟩; gi_at_call 32; refine (callsIn_wide.2 (pick_in w R n c _ a (2) _ hb hRW (by omega))).mono ?_; rintro e W' ⟨x, rfl, hx0, hx2, hx1, hrd, hgr, _⟩)
      replace hx1 := hx1 (by omega)
      obtain ⟨y, rfl⟩ : ∃ y : Nat, x = y := ⟨x.toNat, by omega⟩
      have hr := hQ.out
      try simp only [e1] at hr
      exact hr _ W' _ (by omega) hrd hgr ⟨y, by omega, rfl⟩
    case inr.inr.inr.inr.inr.inr.inr.inl =>
      obtain ⟨g, e1, g1, g2, g3⟩ : ∃ g, s 4 = .slice (some ⟨g, 0, none⟩) 2 2 ∧ g ≠ R ∧ g < W.heap.size ∧ ∀ i, i < 2 → ∃ x : Int, Fits x ∧ W.cell? ⟨g, i, none⟩ = some (.int .i64 x) := hd 4 (by kernel_rfl)
      obtain ⟨y, hy, e2⟩ : ∃ x : Nat, x < 2 ∧ s 6 = .int .i64 x := hd 6 (by kernel_rfl)
      have hg := g3 y (by omega)
      clear g3
      have hyi : (y : Int) < 2 := by omega
      gi_wp2
      have hr := hQ.out
      try simp only [e1, e2] at hr
      exact hr _ W q (by omega) hRW (grownBy_refl _ _) ⟨g, y, rfl, g1, g2, hg⟩
    case inr.inr.inr.inr.inr.inr.inr.inr.inl =>
      obtain ⟨g, y, e1, _, _, x, hx, hc⟩ : ∃ g i, s 7 = .pointer (some ⟨g, i, none⟩) ∧ g ≠ R ∧ g < W.heap.size ∧ ∃ x : Int, Fits x ∧ W.cell? ⟨g, i, none⟩ = some (.int .i64 x) := hd 7 (by kernel_rfl)
      gi_wp2
      have hr := hQ.out
      try simp only [e1] at hr
      exact hr _ W q (by omega) hRW (grownBy_refl _ _) ⟨x, hx, rfl⟩
    case inr.inr.inr.inr.inr.inr.inr.inr.inr.inl =>
      gi_wp2
      exact hQ.out _ W q (by omega) hRW (grownBy_refl _ _) rfl
    case inr.inr.inr.inr.inr.inr.inr.inr.inr.inr.inl =>
      have e1 : s 9 = .pointer (some ⟨R, 0, none⟩) := hd 9 (by kernel_rfl)
      gi_wp2_with (refine ⟨trivial, ?_⟩; gi_at_call 34; refine (callsIn_wide.2 (l20Prime2 w R n c _ a _ hb hRW (by omega))).mono ?_; rintro e W' ⟨⟨x, hx, rfl⟩, q', hq', hrd, hgr⟩)
      have hr := hQ.out
      try simp only [e1] at hr
      exact hr _ W' q' (by omega) hrd hgr ⟨x, hx, rfl⟩
    case inr.inr.inr.inr.inr.inr.inr.inr.inr.inr.inr.inl =>
      obtain ⟨x, hx, ex⟩ : ∃ x : Int, Fits x ∧ s 8 = .int .i64 x := hd 8 (by kernel_rfl)
      gi_wp2
      have hr := hQ.out
      try simp only [ex] at hr
      exact hr _ W q (by omega) hRW (grownBy_refl _ _) ⟨_, hx, rfl⟩
    case inr.inr.inr.inr.inr.inr.inr.inr.inr.inr.inr.inr =>
      obtain ⟨x, hx, ex⟩ : ∃ x : Int, Fits x ∧ s 10 = .int .i64 x := hd 10 (by kernel_rfl)
      gi_wp2
      have hr := hQ.out
      try simp only [ex] at hr
      exact hr _ W q (by omega) hRW (grownBy_refl _ _) ⟨_, hx, rfl⟩
  case fin =>
    rintro s W q hq hRW hgW hall
    obtain ⟨x, hx, ex⟩ : ∃ x : Int, Fits x ∧ s 11 = .int .i64 x := hall 11 (by decide)
    obtain ⟨y, hy, ey⟩ : ∃ x : Int, Fits x ∧ s 12 = .int .i64 x := hall 12 (by decide)
    clear hq
    rw [ex, ey]
    go_wp2
    go_ret2
    exact ⟨⟨_, _, hx, hy, rfl⟩, hRW.1⟩

set_option maxHeartbeats 4000000 in
set_option maxRecDepth 100000 in
theorem drawWholeUp (w : World) (a : Option Addr) (len cap : Nat) (zs : List Int) (h : IsRow .u8 w a len cap zs) : Calls Try.prog 23 #[.slice a len cap] w fun e w' => Int2 e ∧ Below w.heap.size w w' := by
  go_enter Try.func23, Try.ntmps23
  go_wp2_with fail
  go_at_call 31
  refine (open_in w a len cap zs h).mono ?_
  rintro e w1 ⟨R, n, c, rfl, hb, hR⟩
  go_upto_region 2 with fail
  refine wp_region_reader2 w R n c 0 a 40 (by decide) (by kernel_rfl) (by kernel_rfl) (by decide) hR
    (fun s => { tmps := #[.slice a len cap, undef, s 11, s 12, .pointer (some ⟨R, 0, none⟩), .slice a len cap, .pointer (some ⟨R, 0, none⟩), s 0, s 1, s 2, s 3, s 4, s 5, s 6, s 7, s 8, s 9, s 10], defers := [] })
    [.rd, .fit, .rd, .fit, .lit 2, .rd, .rng 2, .adr, .fit, .rd, .fit, .fit, .fit] ?h0 ?put ?step ?fin
  case h0 => exact ⟨fun k => if k = 11 then .int .i64 0 else if k = 12 then .int .i64 0 else undef, by simp⟩
  case put =>
    intro i o s v ho
    have hi : i < 13 := (Array.getElem?_eq_some_iff.1 ho).1
    rcases (show i = 0 ∨ i = 1 ∨ i = 2 ∨ i = 3 ∨ i = 4 ∨ i = 5 ∨ i = 6 ∨ i = 7 ∨ i = 8 ∨ i = 9 ∨ i = 10 ∨ i = 11 ∨ i = 12 by omega) with rfl | rfl | rfl | rfl | rfl | rfl | rfl | rfl | rfl | rfl | rfl | rfl | rfl
    all_goals
      simp at ho
      subst ho
      simp [Act.put]
  case step =>
    intro i o s W q hq ho hRW hd Q' hQ'
    have hi : i < 13 := (Array.getElem?_eq_some_iff.1 ho).1
    rcases (show i = 0 ∨ i = 1 ∨ i = 2 ∨ i = 3 ∨ i = 4 ∨ i = 5 ∨ i = 6 ∨ i = 7 ∨ i = 8 ∨ i = 9 ∨ i = 10 ∨ i = 11 ∨ i = 12 by omega) with rfl | rfl | rfl | rfl | rfl | rfl | rfl | rfl | rfl | rfl | rfl | rfl | rfl
    all_goals
      simp at ho
      subst ho
      simp [Act.put] at hQ'
      have hQ := hide hQ'
      clear hQ' 
    case inl =>
      gi_wp2
      exact hQ.out _ W q (by omega) hRW (grownBy_refl _ _) rfl
    case inr.inl =>
      have e1 : s 0 = .pointer (some ⟨R, 0, none⟩) := hd 0 (by kernel_rfl)
      gi_wp2_with (refine ⟨trivial, ?_⟩; gi_at_call 32; refine (callsIn_wide.2 (pick_in w R n c _ a (300) _ hb hRW (by omega))).mono ?_; rintro e W' ⟨x, rfl, hx0, hx2, hx1, hrd, hgr, _⟩)
      have hr := hQ.out
      try simp only [e1] at hr
      exact hr _ W' _ (by omega) hrd hgr ⟨x, by unfold Fits; omega, rfl⟩
    case inr.inr.inl =>
      gi_wp2
      exact hQ.out _ W q (by omega) hRW (grownBy_refl _ _) rfl
    case inr.inr.inr.inl =>
      have e1 : s 2 = .pointer (some ⟨R, 0, none⟩) := hd 2 (by kernel_rfl)
      gi_wp2_with (refine ⟨trivial, ?_⟩; gi_at_call 33; refine (callsIn_wide.2 (l20Big2 w R n c _ a _ hb hRW (by omega))).mono ?_; rintro e W' ⟨⟨x, hx, rfl⟩, q', hq', hrd, hgr⟩)
      have hr := hQ.out
      try simp only [e1] at hr
      exact hr _ W' q' (by omega) hrd hgr ⟨x, hx, rfl⟩
    case inr.inr.inr.inr.inl =>
      obtain ⟨x0, hx0, ex0⟩ : ∃ x : Int, Fits x ∧ s 1 = .int .i64 x := hd 1 (by kernel_rfl)
      obtain ⟨x1, hx1, ex1⟩ : ∃ x : Int, Fits x ∧ s 3 = .int .i64 x := hd 3 (by kernel_rfl)
      have hne := hRW.ne
      gi_wp2
      have hr := hQ.out
      try simp only [ex0, ex1] at hr
      exact hr _ _ q (by omega) (hRW.alloc _) (World.grownBy_alloc _ _ _) ⟨W.heap.size, rfl, fun e => by rw [hne] at e; exact e, by simp, fun i hi => ⟨_, two_fits hx0 hx1, two_cell hi W x0 x1⟩⟩
    case inr.inr.inr.inr.inr.inl =>
      gi_wp2
      exact hQ.out _ W q (by omega) hRW (grownBy_refl _ _) rfl
    case inr.inr.inr.inr.inr.inr.inl =>
      have e1 : s 5 = .pointer (some ⟨R, 0, none⟩) := hd 5 (by kernel_rfl)
      gi_wp2_with (refine ⟨trivial, ?_⟩; gi_at_call 32; refine (callsIn_wide.2 (pick_in w R n c _ a (2) _ hb hRW (by omega))).mono ?_; rintro e W' ⟨x, rfl, hx0, hx2, hx1, hrd, hgr, _⟩)
      replace hx1 := hx1 (by omega)
      obtain ⟨y, rfl⟩ : ∃ y : Nat, x = y := ⟨x.toNat, by omega⟩
      have hr := hQ.out
      try simp only [e1] at hr
      exact hr _ W' _ (by omega) hrd hgr ⟨y, by omega, rfl⟩
    case inr.inr.inr.inr.inr.inr.inr.inl =>
      obtain ⟨g, e1, g1, g2, g3⟩ : ∃ g, s 4 = .slice (some ⟨g, 0, none⟩) 2 2 ∧ g ≠ R ∧ g < W.heap.size ∧ ∀ i, i < 2 → ∃ x : Int, Fits x ∧ W.cell? ⟨g, i, none⟩ = some (.int .i64 x) := hd 4 (by kernel_rfl)
      obtain ⟨y, hy, e2⟩ : ∃ x : Nat, x < 2 ∧ s 6 = .int .i64 x := hd 6 (by kernel_rfl)
      have hg := g3 y (by omega)
      clear g3
      have hyi : (y : Int) < 2 := by omega
      gi_wp2
      have hr := hQ.out
      try simp only [e1, e2] at hr
      exact hr _ W q (by omega) hRW (grownBy_refl _ _) ⟨g, y, rfl, g1, g2, hg⟩
    case inr.inr.inr.inr.inr.inr.inr.inr.inl =>
      obtain ⟨g, y, e1, _, _, x, hx, hc⟩ : ∃ g i, s 7 = .pointer (some ⟨g, i, none⟩) ∧ g ≠ R ∧ g < W.heap.size ∧ ∃ x : Int, Fits x ∧ W.cell? ⟨g, i, none⟩ = some (.int .i64 x) := hd 7 (by kernel_rfl)
      gi_wp2
      have hr := hQ.out
      try simp only [e1] at hr
      exact hr _ W q (by omega) hRW (grownBy_refl _ _) ⟨x, hx, rfl⟩
    case inr.inr.inr.inr.inr.inr.inr.inr.inr.inl =>
      gi_wp2
      exact hQ.out _ W q (by omega) hRW (grownBy_refl _ _) rfl
    case inr.inr.inr.inr.inr.inr.inr.inr.inr.inr.inl =>
      have e1 : s 9 = .pointer (some ⟨R, 0, none⟩) := hd 9 (by kernel_rfl)
      gi_wp2_with (refine ⟨trivial, ?_⟩; gi_at_call 34; refine (callsIn_wide.2 (l20Prime2 w R n c _ a _ hb hRW (by omega))).mono ?_; rintro e W' ⟨⟨x, hx, rfl⟩, q', hq', hrd, hgr⟩)
      have hr := hQ.out
      try simp only [e1] at hr
      exact hr _ W' q' (by omega) hrd hgr ⟨x, hx, rfl⟩
    case inr.inr.inr.inr.inr.inr.inr.inr.inr.inr.inr.inl =>
      obtain ⟨x, hx, ex⟩ : ∃ x : Int, Fits x ∧ s 8 = .int .i64 x := hd 8 (by kernel_rfl)
      gi_wp2
      have hr := hQ.out
      try simp only [ex] at hr
      exact hr _ W q (by omega) hRW (grownBy_refl _ _) ⟨_, hx, rfl⟩
    case inr.inr.inr.inr.inr.inr.inr.inr.inr.inr.inr.inr =>
      obtain ⟨x, hx, ex⟩ : ∃ x : Int, Fits x ∧ s 10 = .int .i64 x := hd 10 (by kernel_rfl)
      gi_wp2
      have hr := hQ.out
      try simp only [ex] at hr
      exact hr _ W q (by omega) hRW (grownBy_refl _ _) ⟨_, hx, rfl⟩
  case fin =>
    rintro s W q hq hRW hgW hall
    obtain ⟨x, hx, ex⟩ : ∃ x : Int, Fits x ∧ s 11 = .int .i64 x := hall 11 (by decide)
    obtain ⟨y, hy, ey⟩ : ∃ x : Int, Fits x ∧ s 12 = .int .i64 x := hall 12 (by decide)
    clear hq
    rw [ex, ey]
    go_wp2
    go_ret2
    exact ⟨⟨_, _, hx, hy, rfl⟩, hRW.1⟩

theorem drawLeftUp (w : World) (a : Option Addr) (len cap : Nat) (zs : List Int) (h : IsRow .u8 w a len cap zs) : Calls Try.prog 17 #[.slice a len cap] w fun e w' => Int2 e ∧ Below w.heap.size w w' := by
  have hD := drawLeftIn w a len cap zs h
  go_enter Try.func17, Try.ntmps17
  go_wp2_with fail
  go_at_call 11
  refine hD.mono ?_
  rintro e w1 ⟨⟨x, y, hx, hy, rfl⟩, hB⟩
  go_wp2
  go_ret2
  exact ⟨⟨_, _, hx, hy, rfl⟩, hB⟩

set_option maxHeartbeats 2000000 in
set_option maxRecDepth 100000 in
theorem drawWhole (w : World) (a : Option Addr) (len cap : Nat) (zs : List Int) (h : IsRow .u8 w a len cap zs) : Calls Try.prog 20 #[.slice a len cap] w fun e w' => Int2 e ∧ Below w.heap.size w w' := by
  go_enter Try.func20, Try.ntmps20
  go_wp2_with fail
  go_at_call 31
  refine (open_in w a len cap zs h).mono ?_
  rintro e w1 ⟨R, n, c, rfl, hb, hR⟩
  go_wp2_with fail
  go_at_call 34
  refine (l20Prime_in w R n c _ a _ hb hR (by omega)).mono ?_
  rintro e w2 ⟨⟨p, hp, rfl⟩, hR2, _⟩
  go_wp2_with fail
  go_at_call 32
  refine (pick_in w R n c _ a _ _ hb hR2 (by omega)).mono ?_
  rintro e w3 ⟨k, rfl, hk0, _, hk1, hR3, _⟩
  replace hk1 := hk1 (by omega)
  have hPr := fun w => specPrime p w
  by_cases hway : k = 0 ∧ prmI p = true
  · obtain ⟨rfl, hpr⟩ := hway
    rw [hpr] at hPr
    clear hk0 hk1 hR hR2
    go_wp2_with fail
    go_at_call 37
    refine (hPr _).mono ?_
    rintro e w' ⟨rfl, rfl⟩
    go_wp2_with fail
    go_at_call 32
    refine (pick_in w R n c _ a _ _ hb hR3 (by omega)).mono ?_
    rintro e w4 ⟨m, rfl, hm0, _, hm1, hR4, _⟩
    replace hm1 := hm1 (by omega)
    clear hR3 hPr
    go_wp2
    go_loop [6, 7] (fun s t => ∃ x j : Int, s = .int .i64 x ∧ t = .int .i64 j ∧ Fits x ∧ 0 ≤ j ∧ j < 6) (fun _ t => (intOf t).toNat)
    case atStart => exact ⟨_, _, rfl, rfl, by unfold Fits; omega, by omega, by omega⟩
    case round =>
      obtain ⟨x, j, rfl, rfl, hx, hj0, hj6⟩ := hrel
      by_cases h0 : 0 < j
      · go_wp2
        go_round
        case rel => exact ⟨_, _, rfl, rfl, by first | exact wrap_fits _ | exact wrap64_fits _, by omega, by omega⟩
        case measure => simp [intOf]; omega
      · go_wp2_with fail
        go_at_call 32
        refine (pick_in w R n c _ a _ _ hb hR4 (by omega)).mono ?_
        rintro e w5 ⟨z, rfl, hz0, _, hz1, hR5, _⟩
        go_wp2
        go_ret2
        exact ⟨⟨_, _, by first | exact wrap_fits _ | exact wrap64_fits _, hp, rfl⟩, hR5.1⟩
  · have hk2 : k = 0 ∨ (k == 0) = false := by
      by_cases e : k = 0
      · exact .inl e
      · exact .inr (by simpa using e)
    rcases hk2 with rfl | hk2
    case' inl =>
      have hpr : prmI p = false := by
        cases e : prmI p with
        | false => rfl
        | true => exact absurd ⟨rfl, e⟩ hway
      rw [hpr] at hPr
      clear hway hk0 hk1 hR hR2
      go_wp2_with fail
      go_at_call 37
      refine (hPr _).mono ?_
      rintro e w' ⟨rfl, rfl⟩
    case' inr => clear hway hPr hR hR2
    all_goals
      go_wp2_with fail
      go_at_call 32
      refine (pick_in w R n c _ a _ _ hb hR3 (by omega)).mono ?_
      rintro e w4 ⟨x, rfl, hx0, _, hx1, hR4, _⟩
      replace hx1 := hx1 (by omega)
      go_wp2_with fail
      go_at_call 33
      refine (l20Big2 w R n c _ a _ hb hR4 (by omega)).mono ?_
      rintro e w5 ⟨⟨y, hy, rfl⟩, q, hq, hR5, _⟩
      go_wp2_with fail
      go_at_call 32
      refine (pick_in w R n c _ a _ _ hb (hR5.alloc _) (by omega)).mono ?_
      rintro e w6 ⟨z, rfl, hz0, _, hz1, hR6, hgr, hon⟩
      replace hz1 := hz1 (by omega)
      obtain ⟨i, hi2, rfl⟩ : ∃ i : Nat, i < 2 ∧ z = i := ⟨z.toNat, by omega, by omega⟩
      have hkc := only_cells hon
      have hne := hR5.ne
      have hs2 := two_cell hi2
      have hi4 : (i : Int) < 2 := by omega
      go_wp2
      go_ret2
      exact ⟨⟨_, _, two_fits (by unfold Fits; omega) hy, hp, rfl⟩, hR6.1⟩
end Go.Proofs.Ytdhcdgmceiganaa
