/-
  The draw of StretchedOk: it hands back three numbers, and nothing that was there is written.
-/
import Derived.Test.YtehmobcfbifocaaReader2
import Derived.Test.YtehmobcfbifocaaDrawZ
namespace Go.Proofs.Ytehmobcfbifocaa
open Go.RowKit

theorem lit_now {W : World} {xs : Array Value} {t : TypeId} {i : Nat} (hi : i < xs.size) (hall : ∀ v ∈ xs, ∃ z : Int, Fits z ∧ v = .int .i64 z) : ∃ z : Int, Fits z ∧ (W.alloc (.cells xs t)).cell? ⟨W.heap.size, i, none⟩ = some (.int .i64 z) := by
  obtain ⟨z, hz, he⟩ := hall xs[i] (Array.getElem_mem hi)
  refine ⟨z, hz, ?_⟩
  have hb : (W.alloc (.cells xs t)).heap[W.heap.size]? = some (.cells xs t) := heap_alloc_new W _
  unfold World.cell?
  rw [hb]
  simp [he, hi]
set_option maxHeartbeats 4000000 in
set_option maxRecDepth 100000 in
theorem drawStretched (w : World) (a : Option Addr) (len cap : Nat) (zs : List Int) (h : IsRow .u8 w a len cap zs) : Calls Try.prog 24 #[.slice a len cap] w fun e w' => Int3 e ∧ Below w.heap.size w w' := by
  go_enter Try.func24, Try.ntmps24
  go_wp2_with fail
  go_at_call 30
  refine (open_in w a len cap zs h).mono ?_
  rintro e w1 ⟨R, n, c, rfl, hb, hR⟩
  go_wp2_with fail
  go_at_call 31
  refine (pick_in w R n c _ a _ _ hb hR (by omega)).mono ?_
  rintro e w2 ⟨x, rfl, hx0, _, hx1, hR2, _⟩
  replace hx1 := hx1 (by omega)
  have hxf : Fits x := by unfold Fits; omega
  go_upto_region 3 with fail
  refine wp_region_reader2 w R n c 1 a 40 (by decide) (by kernel_rfl) (by kernel_rfl) (by decide) hR2
    (fun s => { tmps := #[.slice a len cap, undef, s 10, s 11, s 12, .pointer (some ⟨R, 0, none⟩), .int .i64 x, .slice a len cap, .pointer (some ⟨R, 0, none⟩), .pointer (some ⟨R, 0, none⟩), .int .i64 x, s 0, s 1, s 2, s 3, s 4, s 5, s 6, s 7, s 8, s 9], defers := [] })
    [.fit, .rd, .fit, .fit, .fit, .lit 9, .rd, .rng 9, .adr, .fit, .fit, .fit, .fit] ?h0 ?put ?step ?fin
  case h0 => exact ⟨fun k => if k = 10 then .int .i64 0 else if k = 11 then .int .i64 0 else if k = 12 then .int .i64 0 else undef, by simp⟩
  case put =>
    intro i o s v ho
    have hi : i < 13 := (Array.getElem?_eq_some_iff.1 ho).1
    rcases (show i = 0 ∨ i = 1 ∨ i = 2 ∨ i = 3 ∨ i = 4 ∨ i = 5 ∨ i = 6 ∨ i = 7 ∨ i = 8 ∨ i = 9 ∨ i = 10 ∨ i = 11 ∨ i = 12 by omega) with rfl | rfl | rfl | rfl | rfl | rfl | rfl | rfl | rfl | rfl | rfl | rfl | rfl
    all_goals
      simp at ho
      subst ho
      simp [Act.put]
  case step =>
    intro i o s W q hq ho hRW hd Q' hQ'
    have hi : i < 13 := (Array.getElem?_eq_some_iff.1 ho).1
    rcases (show i = 0 ∨ i = 1 ∨ i = 2 ∨ i = 3 ∨ i = 4 ∨ i = 5 ∨ i = 6 ∨ i = 7 ∨ i = 8 ∨ i = 9 ∨ i = 10 ∨ i = 11 ∨ i = 12 by omega) with rfl | rfl | rfl | rfl | rfl | rfl | rfl | rfl | rfl | rfl | rfl | rfl | rfl
    all_goals
      simp at ho
      subst ho
      simp [Act.put] at hQ'
      have hQ := hide hQ'
      clear hQ' 
    case inl =>
      gi_wp2
      exact hQ.out _ W q (by omega) hRW (grownBy_refl _ _) ⟨x, hxf, rfl⟩
    case inr.inl =>
      gi_wp2
      exact hQ.out _ W q (by omega) hRW (grownBy_refl _ _) rfl
    case inr.inr.inl =>
      gi_wp2
      exact hQ.out _ W q (by omega) hRW (grownBy_refl _ _) ⟨x, hxf, rfl⟩
    case inr.inr.inr.inl =>
      obtain ⟨x, hx, ex⟩ : ∃ x : Int, Fits x ∧ s 2 = .int .i64 x := hd 2 (by kernel_rfl)
      gi_wp2
      have hr := hQ.out
      try simp only [ex] at hr
      exact hr _ W q (by omega) hRW (grownBy_refl _ _) ⟨_, (by first | exact wrap_fits _ | exact wrap64_fits _ | exact bits_fits2 _ _ _ | (unfold Fits; omega)), rfl⟩
    case inr.inr.inr.inr.inl =>
      have e1 : s 1 = .pointer (some ⟨R, 0, none⟩) := hd 1 (by kernel_rfl)
      obtain ⟨N, hN, eN⟩ : ∃ x : Int, Fits x ∧ s 3 = .int .i64 x := hd 3 (by kernel_rfl)
      gi_wp2_with (refine ⟨trivial, ?_⟩; gi_at_call 31; refine (callsIn_wide.2 (pick_in w R n c _ a N _ hb hRW (by omega))).mono ?_; rintro e W' ⟨x, rfl, hx0, hx2, hx1, hrd, hgr, _⟩)
      have hr := hQ.out
      try simp only [e1, eN] at hr
      exact hr _ W' _ (by omega) hrd hgr ⟨x, (by have hN1 := hN; unfold Fits at hN1 ⊢; omega), rfl⟩
    case inr.inr.inr.inr.inr.inl =>
      have hne := hRW.ne
      gi_wp2
      exact hQ.out _ _ q (by omega) (hRW.alloc _) (World.grownBy_alloc _ _ _) ⟨W.heap.size, rfl, fun e => by rw [hne] at e; exact e, by simp, fun i hi => lit_now (by simpa using hi) (by
        intro v hv
        simp at hv
        rcases hv with rfl | rfl | rfl | rfl | rfl | rfl | rfl | rfl | rfl <;> exact ⟨_, by unfold Fits; omega, rfl⟩)⟩
    case inr.inr.inr.inr.inr.inr.inl =>
      gi_wp2
      exact hQ.out _ W q (by omega) hRW (grownBy_refl _ _) rfl
    case inr.inr.inr.inr.inr.inr.inr.inl =>
      have e1 : s 6 = .pointer (some ⟨R, 0, none⟩) := hd 6 (by kernel_rfl)
      gi_wp2_with (refine ⟨trivial, ?_⟩; gi_at_call 31; refine (callsIn_wide.2 (pick_in w R n c _ a (9) _ hb hRW (by omega))).mono ?_; rintro e W' ⟨x, rfl, hx0, hx2, hx1, hrd, hgr, _⟩)
      replace hx1 := hx1 (by omega)
      obtain ⟨y, rfl⟩ : ∃ y : Nat, x = y := ⟨x.toNat, by omega⟩
      have hr := hQ.out
      try simp only [e1] at hr
      exact hr _ W' _ (by omega) hrd hgr ⟨y, by omega, rfl⟩
    case inr.inr.inr.inr.inr.inr.inr.inr.inl =>
      obtain ⟨g, e1, g1, g2, g3⟩ : ∃ g, s 5 = .slice (some ⟨g, 0, none⟩) 9 9 ∧ g ≠ R ∧ g < W.heap.size ∧ ∀ i, i < 9 → ∃ x : Int, Fits x ∧ W.cell? ⟨g, i, none⟩ = some (.int .i64 x) := hd 5 (by kernel_rfl)
      obtain ⟨y, hy, e2⟩ : ∃ x : Nat, x < 9 ∧ s 7 = .int .i64 x := hd 7 (by kernel_rfl)
      have hg := g3 y (by omega)
      clear g3
      have hyi : (y : Int) < 9 := by omega
      gi_wp2
      have hr := hQ.out
      try simp only [e1, e2] at hr
      exact hr _ W q (by omega) hRW (grownBy_refl _ _) ⟨g, y, rfl, g1, g2, hg⟩
    case inr.inr.inr.inr.inr.inr.inr.inr.inr.inl =>
      obtain ⟨g, y, e1, _, _, x, hx, hc⟩ : ∃ g i, s 8 = .pointer (some ⟨g, i, none⟩) ∧ g ≠ R ∧ g < W.heap.size ∧ ∃ x : Int, Fits x ∧ W.cell? ⟨g, i, none⟩ = some (.int .i64 x) := hd 8 (by kernel_rfl)
      gi_wp2
      have hr := hQ.out
      try simp only [e1] at hr
      exact hr _ W q (by omega) hRW (grownBy_refl _ _) ⟨x, hx, rfl⟩
    case inr.inr.inr.inr.inr.inr.inr.inr.inr.inr.inl =>
      obtain ⟨x, hx, ex⟩ : ∃ x : Int, Fits x ∧ s 0 = .int .i64 x := hd 0 (by kernel_rfl)
      gi_wp2
      have hr := hQ.out
      try simp only [ex] at hr
      exact hr _ W q (by omega) hRW (grownBy_refl _ _) ⟨_, hx, rfl⟩
    case inr.inr.inr.inr.inr.inr.inr.inr.inr.inr.inr.inl =>
      obtain ⟨x, hx, ex⟩ : ∃ x : Int, Fits x ∧ s 4 = .int .i64 x := hd 4 (by kernel_rfl)
      gi_wp2
      have hr := hQ.out
      try simp only [ex] at hr
      exact hr _ W q (by omega) hRW (grownBy_refl _ _) ⟨_, hx, rfl⟩
    case inr.inr.inr.inr.inr.inr.inr.inr.inr.inr.inr.inr =>
      obtain ⟨x, hx, ex⟩ : ∃ x : Int, Fits x ∧ s 9 = .int .i64 x := hd 9 (by kernel_rfl)
      gi_wp2
      have hr := hQ.out
      try simp only [ex] at hr
      exact hr _ W q (by omega) hRW (grownBy_refl _ _) ⟨_, hx, rfl⟩
  case fin =>
    rintro s W q hq hRW hgW hall
    obtain ⟨x2, hx2, ex⟩ : ∃ x : Int, Fits x ∧ s 10 = .int .i64 x := hall 10 (by decide)
    obtain ⟨y, hy, ey⟩ : ∃ x : Int, Fits x ∧ s 11 = .int .i64 x := hall 11 (by decide)
    obtain ⟨z, hz, ez⟩ : ∃ x : Int, Fits x ∧ s 12 = .int .i64 x := hall 12 (by decide)
    clear hq
    rw [ex, ey, ez]
    go_wp2
    go_ret3
    exact ⟨⟨_, _, _, hx2, hy, hz, rfl⟩, hRW.1⟩
end Go.Proofs.Ytehmobcfbifocaa
