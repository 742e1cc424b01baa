/-
  The walk of the exact law on DeskDo.
-/
import Derived.Test.YtimnhedjapakhaaLawKit14
import Derived.Test.YtimnhedjapakhaaRegMadeP
import Derived.Test.YtimnhedjapakhaaImpl12c
import Derived.Test.YtimnhedjapakhaaSpec12n
import Derived.Test.YtimnhedjapakhaaSpec12r
namespace Go.Proofs.Ytimnhedjapakhaa
open Go.RowKit
attribute [local go_sem] Oper.semAt_some

set_option maxRecDepth 100000 in
set_option maxHeartbeats 4000000 in
theorem exactDeskDo (v : Value) (d : Dk) (k n : Int) (w : World) (hv : ArgD w v d) (hn1 : d.1.length ≤ 9223372036854775807) (hn : d.2.length ≤ 9223372036854775807) (hln : ∀ j, (d.2.getD j []).length ≤ 9223372036854775807) (hk : Fits k) (hn0 : Fits n) :
    Calls Try.prog 6 #[v, dV k n] w fun e w' => e = .returned (.bool true) ∧ Below w.heap.size w w' := by
  obtain ⟨va, vb, vc, ve, hform⟩ := hv.form
  obtain ⟨x, p, rfl, hx, hp⟩ := id hv
  injection hform with hform
  simp at hform
  obtain ⟨rfl, rfl⟩ := hform
  have hB : Below w.heap.size w ((w.alloc (.cells #[.slice va d.1.length vb, .slice vc d.2.length ve] 44)).alloc (.cells #[.int .i64 k, .int .i64 n] 45)) := ((Below.refl _ w).alloc (Nat.le_refl _) _).alloc (by rw [World.size_alloc]; omega) _
  have k0 : ((w.alloc (.cells #[.slice va d.1.length vb, .slice vc d.2.length ve] 44)).alloc (.cells #[.int .i64 k, .int .i64 n] 45)).heap[w.heap.size]? = some (.cells #[.slice va d.1.length vb, .slice vc d.2.length ve] 44 (0, 0)) := (Below.heap_alloc _ _ _ (by rw [World.size_alloc]; omega)).trans (World.alloc_heap_new w _)
  have k1 := World.alloc_heap_new (w.alloc (.cells #[.slice va d.1.length vb, .slice vc d.2.length ve] 44)) (.cells #[.int .i64 k, .int .i64 n] 45)
  rw [World.size_alloc] at k1
  obtain ⟨wb, hwb⟩ : ∃ wb, (w.alloc (.cells #[.slice va d.1.length vb, .slice vc d.2.length ve] 44)).alloc (.cells #[.int .i64 k, .int .i64 n] 45) = wb := ⟨_, rfl⟩
  rw [hwb] at hB k0 k1
  have hz := szDesk_in _ d 1048576 wb (hv.below hB) hn1 hn hln (Nat.le_refl _)
  obtain ⟨c0, c1, _, _⟩ := row_at k0
  have l0 := (Array.getElem?_eq_some_iff.1 k0).1
  have l1 := (Array.getElem?_eq_some_iff.1 k1).1
  have hv' := hide hv
  clear hv hx hp hn1 hn hln
  unfold dV
  refine (callsIn_wide (n := 9)).1 ?_
  refine callsIn_of_wp Try.func6 rfl trivial ?_ rfl
  simp only [Try.ntmps6, List.size_toArray, List.length_cons, List.length_nil, Nat.reduceAdd, Nat.reduceSub, Array.replicate_succ, Array.replicate_zero, List.push_toArray, List.append_toArray, List.nil_append, List.cons_append]
  gi_wp2_with fail
  refine ⟨trivial, ?_⟩
  gi_at_call 21
  refine (callsIn_wide.2 hz).mono ?_
  rintro e W2 ⟨rfl | ⟨q, rfl, hq⟩, hB2⟩
  · gi_wp2
    go_ret
    exact ⟨rfl, hB.trans (hB2.mono hB.size)⟩
  · have hq0 : ¬ (q : Int) < 0 := by omega
    have s1 : d.1.length ≤ 1048576 := by omega
    have s2 : d.2.length ≤ 1048576 := by omega
    have s3 : ∀ j, j < d.2.length → (d.2.getD j []).length ≤ 1048576 := fun j hj => by
      have := acc_each (fun j => (d.2.getD j []).length) d.2.length j hj
      exact Nat.le_trans this (by omega)
    have s4 : DkS d := ⟨by omega, by omega, fun j => by
      by_cases hj : j < d.2.length
      · have := s3 j hj; omega
      · rw [List.getD, List.getElem?_eq_none (by omega)]; simp⟩
    have s5 : accN (fun j => (d.2.getD j []).length) d.2.length ≤ 1048576 := by omega
    have hT := fun V (hV : Below w.heap.size w V) => toDeskA_in w _ d V hv'.out hV s1 s2 s3
    have hTd := fun V => toDeed_in k n V
    have hRo := doV_rows d k n
    have hSp := fun V y (hy : DeskI V y d) => specDo y d k n V hy s4 hk hn0
    have hIm := fun V y (hy : DeskI V y d ∧ CapP y) => implDo y d k n V hy.1 hy.2 s4 hk hn0
    obtain ⟨bb, hbb⟩ : ∃ bb, (doV d k n).2 = bb := ⟨_, rfl⟩
    obtain ⟨D, hD⟩ : ∃ D, (doV d k n).1 = D := ⟨_, rfl⟩
    rw [hD] at hRo
    obtain ⟨hsz, hr0, hr1, hr2, hacc⟩ := hRo.facts
    obtain ⟨hDr, hDs, hDn, hDm⟩ := hRo
    rw [hD, hbb] at hSp hIm
    unfold dV at hTd hSp hIm
    clear hbb hD
    have hBw := hB
    have hm2 := hB2
    have hAt : ∀ V, Below wb.heap.size wb V → Below w.heap.size w V ∧ (V.cell? ⟨w.heap.size, 0, none⟩ = some (.slice va d.1.length vb) ∧ V.cell? ⟨w.heap.size, 1, none⟩ = some (.slice vc d.2.length ve)) ∧ (V.cell? ⟨w.heap.size + 1, 0, none⟩ = some (.int .i64 k) ∧ V.cell? ⟨w.heap.size + 1, 1, none⟩ = some (.int .i64 n)) := fun V hV => by
      obtain ⟨a0, a1, _, _⟩ := row_at ((hV.block _ l0).trans k0)
      obtain ⟨b0, b1, _, _⟩ := row_at ((hV.block _ l1).trans k1)
      exact ⟨hBw.trans (hV.mono hBw.size), ⟨a0, a1⟩, ⟨b0, b1⟩⟩
    have hAth := hide hAt
    have hTh := hide hT
    have hTdh := hide hTd
    have hSph := hide hSp
    have hImh := hide hIm
    clear hz hB hB2 c0 c1 hq hAt k0 k1 l0 l1 hT hTd hSp hIm
    gi_wp2
    refine wpIn_region_madeP 4 D.1.length D.2.length [(some 22, 0), (some 23, 1), (some 24, 2), (some 25, 3), (some 26, 4), (some 21, 5), (some 27, 6), (some 28, 7), (some 6, 8), (none, 9)] (.bool bb) (fun V y => DeskI V y D) (by kernel_rfl) (by kernel_rfl) (by kernel_rfl) (by decide) (by kernel_rfl) (by kernel_rfl) (by rfl) (by decide)
      (fun i v V => match i with | 0 => v = .agg #[.slice va d.1.length vb, .slice vc d.2.length ve] | 1 => DeskI V v d ∧ CapP v | 2 => v = .agg #[.int .i64 k, .int .i64 n] | 3 => v = .agg #[.int .i64 k, .int .i64 n] | _ => True)
      (fun i v V V' h hb => match i, h with | 0, h => h | 1, h => ⟨h.1.below hb, h.2⟩ | 2, h => h | 3, h => h | (_ + 4), _ => trivial)
      (fun V V' y h hB => h.below hB)
      (fun V b' a1 c1 a2 c2 h _ hz => deskI_store h rfl hz hDr)
      ?step ?call ?move ?ext0 ?ext1 ?allo ?stor ?tail
    case step =>
      rintro i oo s V hi ho hV hd Q' hQ
      have hVb := hm2.trans (hV.mono hm2.size)
      obtain ⟨hVw, ⟨a0, a1⟩, ⟨b0, b1⟩⟩ := hAth.out V hVb
      have hT8 := hTh.out V hVw
      have hTd8 := hTdh.out V
      rcases (show i = 0 ∨ i = 1 ∨ i = 2 ∨ i = 3 by omega) with rfl | rfl | rfl | rfl
      all_goals
        simp at ho
        subst ho
        simp only [putsOf, Act.put, List.setIfInBounds_toArray, List.set_cons_succ, List.set_cons_zero] at hQ ⊢
        have hQ' := hide hQ
        clear hQ
      · clear hd
        gi_wp2
        exact hQ'.out _ _ (Below.refl _ _) rfl
      · have e1 : s 0 = .agg #[.slice va d.1.length vb, .slice vc d.2.length ve] := hd 0 (by decide) (by kernel_rfl)
        clear hd
        gi_wp2_with (refine ⟨trivial, ?_⟩; gi_at_call 22; go_loud (refine (callsIn_wide.2 hT8).mono ?_; rintro e W9 ⟨x9, rfl, hx9, hB9⟩))
        have hr := hQ'.out
        simp only [e1] at hr ⊢
        exact hr _ _ hB9 ⟨hx9.deskI, hx9.cap⟩
      · clear hd
        gi_wp2
        exact hQ'.out _ _ (Below.refl _ _) rfl
      · have e1 : s 2 = .agg #[.int .i64 k, .int .i64 n] := hd 2 (by decide) (by kernel_rfl)
        clear hd
        gi_wp2_with (refine ⟨trivial, ?_⟩; gi_at_call 23; go_loud (refine (callsIn_wide.2 hTd8).mono ?_; rintro e W9 ⟨rfl, hB9⟩))
        have hr := hQ'.out
        simp only [e1] at hr ⊢
        exact hr _ _ hB9 rfl
    case call =>
      rintro oo s V ho hV hd Q' hQ
      have hVb := hm2.trans (hV.mono hm2.size)
      obtain ⟨hVw, ⟨a0, a1⟩, ⟨b0, b1⟩⟩ := hAth.out V hVb
      have hT8 := hTh.out V hVw
      have hTd8 := hTdh.out V
      simp at ho
      subst ho
      simp only [putsOf, Act.put, List.setIfInBounds_toArray, List.set_cons_succ, List.set_cons_zero] at hQ ⊢
      have hQ' := hide hQ
      clear hQ
      have e1 : DeskI V (s 1) d ∧ CapP (s 1) := hd 1 (by decide) (by kernel_rfl)
      have e2 : s 3 = .agg #[.int .i64 k, .int .i64 n] := hd 3 (by decide) (by kernel_rfl)
      have hS := hSph.out V _ e1.1
      clear hd
      gi_wp2_with (refine ⟨trivial, ?_⟩; gi_at_call 14; go_loud (refine (callsIn_wide.2 hS).mono ?_; rintro e W9 ⟨y9, rfl, hy9, _, hB9⟩))
      obtain ⟨yx, yp, rfl, hyx, hyp⟩ := id hy9
      obtain ⟨y5, y6, rfl⟩ := hyx.shape
      obtain ⟨y7, y8, rfl, _⟩ := id hyp
      have hr := hQ'.out
      simp only [e2] at hr ⊢
      exact hr _ _ _ _ _ hB9 hy9
    case move =>
      rintro oo s V y Q' ho hs hQ
      simp at ho
      subst ho
      simp only [putsOf, Act.put, List.setIfInBounds_toArray, List.set_cons_succ, List.set_cons_zero] at hQ ⊢
      have hQ' := hide hQ
      clear hQ
      gi_wp2
      have hr := hQ'.out
      simp only [hs] at hr ⊢
      exact hr
    case ext0 =>
      rintro oo s V y z Q' ho hs hQ
      simp at ho
      subst ho
      simp only [putsOf, Act.put, List.setIfInBounds_toArray, List.set_cons_succ, List.set_cons_zero] at hQ ⊢
      have hQ' := hide hQ
      clear hQ
      replace hs : s 5 = .tuple #[y, z] := hs
      gi_wp2
      have hr := hQ'.out
      simp only [hs] at hr ⊢
      exact hr
    case ext1 =>
      rintro oo s V y z Q' ho hs hQ
      simp at ho
      subst ho
      simp only [putsOf, Act.put, List.setIfInBounds_toArray, List.set_cons_succ, List.set_cons_zero] at hQ ⊢
      have hQ' := hide hQ
      clear hQ
      replace hs : s 5 = .tuple #[y, z] := hs
      gi_wp2
      have hr := hQ'.out
      simp only [hs] at hr ⊢
      exact hr
    case allo =>
      rintro oo s V Q' ho hQ
      simp at ho
      subst ho
      simp only [putsOf, Act.put, List.setIfInBounds_toArray, List.set_cons_succ, List.set_cons_zero] at hQ ⊢
      have hQ' := hide hQ
      clear hQ
      gi_wp2
      exact hQ'.out
    case stor =>
      rintro oo s V b' a1 c1 a2 c2 Q' ho hs1 hs2 hz hQ
      obtain ⟨z0, z1, z2, z3⟩ := row_at hz
      simp at ho
      subst ho
      simp only [putsOf, Act.put, List.setIfInBounds_toArray, List.set_cons_succ, List.set_cons_zero] at hQ ⊢
      have hQ' := hide hQ
      clear hQ
      replace hs1 : s 8 = .pointer (some ⟨b', 0, none⟩) := hs1
      replace hs2 : s 6 = .agg #[.slice a1 D.1.length c1, .slice a2 D.2.length c2] := hs2
      gi_wp2
      have hr := hQ'.out
      simp only [hs1, hs2] at hr ⊢
      exact hr
    case tail =>
      rintro s wm b ma mn mb mc hV f8 hb8 km hmod f7
      replace f8 : s 8 = .pointer (some ⟨b, 0, none⟩) := f8
      replace f7 : s 7 = (.bool bb) := f7
      have hmm := hm2.trans (hV.mono hm2.size)
      obtain ⟨dm, ⟨c0, c1⟩, ⟨d0, d1⟩⟩ := hAth.out wm hmm
      have lm := (Array.getElem?_eq_some_iff.1 km).1
      have hms := hmm.size
      clear hV hm2
      simp only [putsOf, Act.put, List.setIfInBounds_toArray, List.set_cons_succ, List.set_cons_zero]
      simp only [List.drop_succ_cons, List.drop_zero]
      gi_wp2_with fail
      refine ⟨trivial, ?_⟩
      gi_at_call 22
      refine (callsIn_wide.2 (hTh.out _ dm)).mono ?_
      rintro e w5 ⟨y5, rfl, ox5, hB5⟩
      obtain ⟨xa, xb, xc, xe, rfl⟩ := ox5.form
      have ba := (Below.refl _ w5).alloc (Nat.le_refl _) (.cells #[.slice xa d.1.length xb, .slice xc d.2.length xe] 26)
      have kx := World.alloc_heap_new w5 (.cells #[.slice xa d.1.length xb, .slice xc d.2.length xe] 26)
      have zx := World.size_alloc w5 (.cells #[.slice xa d.1.length xb, .slice xc d.2.length xe] 26)
      obtain ⟨w6, hw6⟩ : ∃ w6, w5.alloc (.cells #[.slice xa d.1.length xb, .slice xc d.2.length xe] 26) = w6 := ⟨_, rfl⟩
      rw [hw6] at ba kx zx
      have hm6 : Below wm.heap.size wm w6 := hB5.trans (ba.mono hB5.size)
      have ox6 := ox5.below ba
      have z56 : w5.heap.size ≤ w6.heap.size := by omega
      have lx := (Array.getElem?_eq_some_iff.1 kx).1
      have zm5 := hB5.size
      have z6b := hm6.size
      clear zx ox5 hB5 ba c0 c1 d0 d1
      obtain ⟨bx, hbx⟩ : ∃ bx, w5.heap.size = bx := ⟨_, rfl⟩
      gi_wp2
      rw [hbx] at kx ox6 z56 lx zm5
      refine wpIn_region_madeP 3 D.1.length D.2.length [(some 32, 0), (some 33, 1), (some 34, 2), (some 35, 3), (some 31, 4), (some 36, 5), (some 37, 6), (some 9, 7), (none, 8)] (.bool bb) (fun V y => OwnDk V w6.heap.size y D) (by kernel_rfl) (by kernel_rfl) (by kernel_rfl) (by decide) (by kernel_rfl) (by kernel_rfl) (by rfl) (by decide)
        (fun i v V => match i with | 0 => v = .agg #[.slice xa d.1.length xb, .slice xc d.2.length xe] | 1 => v = .agg #[.int .i64 k, .int .i64 n] | 2 => v = .agg #[.int .i64 k, .int .i64 n] | _ => True)
        (fun i v V V' h hb => match i, h with | 0, h => h | 1, h => h | 2, h => h | (_ + 3), _ => trivial)
        (fun V V' y h hB => h.below hB)
        (fun V b' a1 c1 a2 c2 h _ hz => ownDk_stored h hz)
        ?step ?call ?move ?ext0 ?ext1 ?allo ?stor ?tail
      case step =>
        rintro i oo s V hi ho hV hd Q' hQ
        have hVb := hmm.trans ((hm6.trans (hV.mono hm6.size)).mono hmm.size)
        obtain ⟨hVw, ⟨a0, a1⟩, ⟨b0, b1⟩⟩ := hAth.out V hVb
        have hT8 := hTh.out V hVw
        have hTd8 := hTdh.out V
        obtain ⟨x0, x1, _, _⟩ := row_at ((hV.block _ lx).trans kx)
        rcases (show i = 0 ∨ i = 1 ∨ i = 2 by omega) with rfl | rfl | rfl
        all_goals
          simp at ho
          subst ho
          simp only [putsOf, Act.put, List.setIfInBounds_toArray, List.set_cons_succ, List.set_cons_zero] at hQ ⊢
          have hQ' := hide hQ
          clear hQ
        · clear hd
          gi_wp2
          exact hQ'.out _ _ (Below.refl _ _) rfl
        · clear hd
          gi_wp2
          exact hQ'.out _ _ (Below.refl _ _) rfl
        · have e1 : s 1 = .agg #[.int .i64 k, .int .i64 n] := hd 1 (by decide) (by kernel_rfl)
          clear hd
          gi_wp2_with (refine ⟨trivial, ?_⟩; gi_at_call 23; go_loud (refine (callsIn_wide.2 hTd8).mono ?_; rintro e W9 ⟨rfl, hB9⟩))
          have hr := hQ'.out
          simp only [e1] at hr ⊢
          exact hr _ _ hB9 rfl
      case call =>
        rintro oo s V ho hV hd Q' hQ
        have hVb := hmm.trans ((hm6.trans (hV.mono hm6.size)).mono hmm.size)
        obtain ⟨hVw, ⟨a0, a1⟩, ⟨b0, b1⟩⟩ := hAth.out V hVb
        have hT8 := hTh.out V hVw
        have hTd8 := hTdh.out V
        obtain ⟨x0, x1, _, _⟩ := row_at ((hV.block _ lx).trans kx)
        simp at ho
        subst ho
        simp only [putsOf, Act.put, List.setIfInBounds_toArray, List.set_cons_succ, List.set_cons_zero] at hQ ⊢
        have hQ' := hide hQ
        clear hQ
        have e1 : s 0 = .agg #[.slice xa d.1.length xb, .slice xc d.2.length xe] := hd 0 (by decide) (by kernel_rfl)
        have e2 : s 2 = .agg #[.int .i64 k, .int .i64 n] := hd 2 (by decide) (by kernel_rfl)
        have hS := hImh.out V _ ⟨(ox6.below hV).deskI, (ox6.below hV).cap⟩
        have zV := hV.size
        clear hd
        gi_wp2_with (refine ⟨trivial, ?_⟩; gi_at_call 13; go_loud (refine (callsIn_wide.2 hS).mono ?_; rintro e W9 ⟨y9, rfl, hy9, hB9⟩))
        obtain ⟨y1, y2, y3, y4, rfl⟩ := hy9.form
        have hr := hQ'.out
        simp only [e1, e2] at hr ⊢
        exact hr _ _ _ _ _ hB9 (hy9.down zV)
      case move =>
        rintro oo s V y Q' ho hs hQ
        simp at ho
        subst ho
        simp only [putsOf, Act.put, List.setIfInBounds_toArray, List.set_cons_succ, List.set_cons_zero] at hQ ⊢
        have hQ' := hide hQ
        clear hQ
        gi_wp2
        have hr := hQ'.out
        simp only [hs] at hr ⊢
        exact hr
      case ext0 =>
        rintro oo s V y z Q' ho hs hQ
        simp at ho
        subst ho
        simp only [putsOf, Act.put, List.setIfInBounds_toArray, List.set_cons_succ, List.set_cons_zero] at hQ ⊢
        have hQ' := hide hQ
        clear hQ
        replace hs : s 4 = .tuple #[y, z] := hs
        gi_wp2
        have hr := hQ'.out
        simp only [hs] at hr ⊢
        exact hr
      case ext1 =>
        rintro oo s V y z Q' ho hs hQ
        simp at ho
        subst ho
        simp only [putsOf, Act.put, List.setIfInBounds_toArray, List.set_cons_succ, List.set_cons_zero] at hQ ⊢
        have hQ' := hide hQ
        clear hQ
        replace hs : s 4 = .tuple #[y, z] := hs
        gi_wp2
        have hr := hQ'.out
        simp only [hs] at hr ⊢
        exact hr
      case allo =>
        rintro oo s V Q' ho hQ
        simp at ho
        subst ho
        simp only [putsOf, Act.put, List.setIfInBounds_toArray, List.set_cons_succ, List.set_cons_zero] at hQ ⊢
        have hQ' := hide hQ
        clear hQ
        gi_wp2
        exact hQ'.out
      case stor =>
        rintro oo s V b' a1 c1 a2 c2 Q' ho hs1 hs2 hz hQ
        obtain ⟨z0, z1, z2, z3⟩ := row_at hz
        simp at ho
        subst ho
        simp only [putsOf, Act.put, List.setIfInBounds_toArray, List.set_cons_succ, List.set_cons_zero] at hQ ⊢
        have hQ' := hide hQ
        clear hQ
        replace hs1 : s 7 = .pointer (some ⟨b', 0, none⟩) := hs1
        replace hs2 : s 5 = .agg #[.slice a1 D.1.length c1, .slice a2 D.2.length c2] := hs2
        gi_wp2
        have hr := hQ'.out
        simp only [hs1, hs2] at hr ⊢
        exact hr
      case tail =>
        rintro s wg bg ga gn gb gc hV f8 hbg kg og f7
        replace f8 : s 7 = .pointer (some ⟨bg, 0, none⟩) := f8
        replace f7 : s 6 = (.bool bb) := f7
        obtain ⟨mid, og⟩ := OwnD.of og hr0
        have hmg := hm6.trans (hV.mono hm6.size)
        have oxg := ox6.below hV
        have lg := (Array.getElem?_eq_some_iff.1 kg).1
        have kxg := (hV.block _ lx).trans kx
        obtain ⟨e0, e1, _, _⟩ := row_at kg
        obtain ⟨m0, m1, _, _⟩ := row_at ((hmg.block _ lm).trans km)
        obtain ⟨lim, hlim⟩ : ∃ lim, wg.heap.size = lim := ⟨_, rfl⟩
        have zg := hV.size
        rw [hlim] at og
        clear ox6 hV kx
        simp only [putsOf, Act.put, List.setIfInBounds_toArray, List.set_cons_succ, List.set_cons_zero]
        simp only [List.drop_succ_cons, List.drop_zero]
        gi_wp2_with fail
        refine ⟨trivial, ?_⟩
        gi_at_call 24
        refine (callsIn_wide.2 (eqDesk_in _ _ D _ hsz og.deskI (hmod.below hmg))).mono ?_
        rintro e w8 ⟨rfl, b8⟩
        have hm8 := hmg.trans (b8.mono hmg.size)
        have og8 := og.below b8
        have ox8 := oxg.below b8
        have kg8 := (b8.block _ lg).trans kg
        have lx8 := (Array.getElem?_eq_some_iff.1 kxg).1
        have kx8 := (b8.block _ lx8).trans kxg
        have zb8 := b8.size
        clear og oxg hmg kxg kg b8 e0 e1 m0 m1
        gi_wp2
        refine wpIn_region_put 3 [(some 47, 0), (some 48, 1), (some 49, 2)] (by kernel_rfl) (by kernel_rfl) (by kernel_rfl) (by decide) (by rfl) (by decide)
          (fun i v V => match i with | 0 => v = .agg #[.slice xa d.1.length xb, .slice xc d.2.length xe] | 1 => v = .agg #[.slice va d.1.length vb, .slice vc d.2.length ve] | 2 => DeskI V v d | _ => True)
          (fun i v V V' h hb => match i, h with | 0, h => h | 1, h => h | 2, h => h.below hb | (_ + 3), _ => trivial)
          ?step ?tail
        case step =>
          rintro i oo s V hi ho hV hd Q' hQ
          have hVb := hmm.trans ((hm8.trans (hV.mono hm8.size)).mono hmm.size)
          obtain ⟨hVw, ⟨a0, a1⟩, ⟨b0, b1⟩⟩ := hAth.out V hVb
          have hT8 := hTh.out V hVw
          have hTd8 := hTdh.out V
          obtain ⟨x0, x1, _, _⟩ := row_at ((hV.block _ (Array.getElem?_eq_some_iff.1 kx8).1).trans kx8)
          rcases (show i = 0 ∨ i = 1 ∨ i = 2 by omega) with rfl | rfl | rfl
          all_goals
            simp at ho
            subst ho
            simp only [putsOf, Act.put, List.setIfInBounds_toArray, List.set_cons_succ, List.set_cons_zero] at hQ ⊢
            have hQ' := hide hQ
            clear hQ
          · clear hd
            gi_wp2
            exact hQ'.out _ _ (Below.refl _ _) rfl
          · clear hd
            gi_wp2
            exact hQ'.out _ _ (Below.refl _ _) rfl
          · have e1 : s 1 = .agg #[.slice va d.1.length vb, .slice vc d.2.length ve] := hd 1 (by kernel_rfl)
            clear hd
            gi_wp2_with (refine ⟨trivial, ?_⟩; gi_at_call 22; go_loud (refine (callsIn_wide.2 hT8).mono ?_; rintro e W9 ⟨x9, rfl, hx9, hB9⟩))
            have hr := hQ'.out
            simp only [e1] at hr ⊢
            exact hr _ _ hB9 hx9.deskI
        case tail =>
          rintro s w10 hV hd
          have e1 : s 0 = .agg #[.slice xa d.1.length xb, .slice xc d.2.length xe] := hd 0 (by omega)
          have f2 : DeskI w10 (s 2) d := hd 2 (by omega)
          clear hd
          have hm10 := hm8.trans (hV.mono hm8.size)
          have og10 := og8.below hV
          have ox10 := ox8.below hV
          have kg10 := (hV.block _ (Array.getElem?_eq_some_iff.1 kg8).1).trans kg8
          have kx10 := (hV.block _ (Array.getElem?_eq_some_iff.1 kx8).1).trans kx8
          have z10 := hV.size
          have hE := eqDesk_in _ (s 2) d w10 ⟨by omega, by omega, fun j hj => by have := s3 j hj; omega⟩ ox10.deskI f2
          clear hm8 og8 ox8 kg8 kx8 hV
          simp only [putsOf, Act.put, List.setIfInBounds_toArray, List.set_cons_succ, List.set_cons_zero]
          simp only [List.drop_succ_cons, List.drop_zero]
          gi_wp2_with fail
          refine ⟨trivial, ?_⟩
          gi_at_call 24
          refine (callsIn_wide.2 (hE)).mono ?_
          rintro e w11 ⟨rfl, b11⟩
          have hm11 := hm10.trans (b11.mono hm10.size)
          have og11 := og10.below b11
          have ox11 := ox10.below b11
          have kg11 := (b11.block _ (Array.getElem?_eq_some_iff.1 kg10).1).trans kg10
          have kx11 := (b11.block _ (Array.getElem?_eq_some_iff.1 kx10).1).trans kx10
          have lg11 := (Array.getElem?_eq_some_iff.1 kg11).1
          obtain ⟨x0, x1, _, _⟩ := row_at kx11
          have zb11 := b11.size
          clear hm10 og10 ox10 kg10 kx10 b11 hE f2
          gi_wp2_with fail
          refine ⟨trivial, ?_⟩
          gi_at_call 25
          refine (callsIn_wide.2 (markA_in ox11 s1 s2 s5 1 (by omega))).mono ?_
          rintro e w13 ⟨rfl, hx13⟩
          have hk1 : ¬ ((1 + d.1.length + accN (fun j => (d.2.getD j []).length) d.2.length : Nat) : Int) < 0 := by omega
          have hm13 := hx13.below hm11 (by omega) hm11.size
          have og13 := og11.between hx13 (.inr (by omega))
          have kg13 := (hx13.block _ lg11 (.inr (by omega))).trans kg11
          obtain ⟨e0, e1', _, _⟩ := row_at kg13
          obtain ⟨m0, m1, _, _⟩ := row_at ((hm13.block _ lm).trans km)
          have z13 := hx13.size
          clear og11 ox11 hm11 kg11 kx11 x0 x1 hx13
          gi_wp2_with fail
          refine ⟨trivial, ?_⟩
          gi_at_call 24
          refine (callsIn_wide.2 (eqDesk_in _ _ D _ hsz og13.deskI (hmod.below hm13))).mono ?_
          rintro e w14 ⟨rfl, b14⟩
          have hm14 := hm13.trans (b14.mono hm13.size)
          have og14 := og13.below b14
          have kg14 := (b14.block _ (Array.getElem?_eq_some_iff.1 kg13).1).trans kg13
          have lg14 := (Array.getElem?_eq_some_iff.1 kg14).1
          obtain ⟨e0, e1', _, _⟩ := row_at kg14
          have z14 := b14.size
          clear og13 hm13 kg13 b14 m0 m1
          gi_wp2_with fail
          refine ⟨trivial, ?_⟩
          gi_at_call 25
          refine (callsIn_wide.2 (markDeskI_in og14 (by omega) hr1 hr2 1 (by omega))).mono ?_
          rintro e w17 ⟨rfl, om17, hx17⟩
          have hnI : ¬ IntB w14 bg := fun ⟨cur, hc⟩ => by rw [kg14] at hc; injection hc with hc; injection hc with _ hc; exact absurd hc (by decide)
          have hm17 := hx17.bet.below hm14 (by omega) hm14.size
          have kg17 := (hx17.block _ lg14 (.inr (.inr hnI))).trans kg14
          obtain ⟨e0, e1', _, _⟩ := row_at kg17
          have z17 := hx17.size
          clear og14 hm14 kg14 hx17 hnI
          have hq1 : ¬ ((1 + D.1.length + accN (fun j => (D.2.getD j []).length) D.2.length : Nat) : Int) < 0 := by omega
          gi_wp2_with fail
          refine ⟨trivial, ?_⟩
          gi_at_call 26
          refine (callsIn_wide.2 (heldDesk_in 1 om17 (by omega) hr1 hr2 (by omega))).mono ?_
          rintro e w19 ⟨rfl, b19⟩
          have hm19 := hm17.trans (b19.mono hm17.size)
          have om19 := om17.below b19
          have kg19 := (b19.block _ (Array.getElem?_eq_some_iff.1 kg17).1).trans kg17
          have z19 := b19.size
          clear om17 hm17 kg17 b19 e0 e1'
          gi_wp2
          refine wpIn_region_madeP 4 D.1.length D.2.length [(some 80, 0), (some 81, 1), (some 82, 2), (some 83, 3), (some 84, 4), (some 79, 5), (some 85, 6), (some 86, 7), (some 14, 8), (none, 9)] (.bool bb) (fun V y => DeskI V y D) (by kernel_rfl) (by kernel_rfl) (by kernel_rfl) (by decide) (by kernel_rfl) (by kernel_rfl) (by rfl) (by decide)
            (fun i v V => match i with | 0 => v = .agg #[.slice va d.1.length vb, .slice vc d.2.length ve] | 1 => DeskI V v d ∧ CapP v | 2 => v = .agg #[.int .i64 k, .int .i64 n] | 3 => v = .agg #[.int .i64 k, .int .i64 n] | _ => True)
            (fun i v V V' h hb => match i, h with | 0, h => h | 1, h => ⟨h.1.below hb, h.2⟩ | 2, h => h | 3, h => h | (_ + 4), _ => trivial)
            (fun V V' y h hB => h.below hB)
            (fun V b' a1 c1 a2 c2 h _ hz => deskI_store h rfl hz hDr)
            ?step ?call ?move ?ext0 ?ext1 ?allo ?stor ?tail
          case step =>
            rintro i oo s V hi ho hV hd Q' hQ
            have hVb := hmm.trans ((hm19.trans (hV.mono hm19.size)).mono hmm.size)
            obtain ⟨hVw, ⟨a0, a1⟩, ⟨b0, b1⟩⟩ := hAth.out V hVb
            have hT8 := hTh.out V hVw
            have hTd8 := hTdh.out V
            rcases (show i = 0 ∨ i = 1 ∨ i = 2 ∨ i = 3 by omega) with rfl | rfl | rfl | rfl
            all_goals
              simp at ho
              subst ho
              simp only [putsOf, Act.put, List.setIfInBounds_toArray, List.set_cons_succ, List.set_cons_zero] at hQ ⊢
              have hQ' := hide hQ
              clear hQ
            · clear hd
              gi_wp2
              exact hQ'.out _ _ (Below.refl _ _) rfl
            · have e1 : s 0 = .agg #[.slice va d.1.length vb, .slice vc d.2.length ve] := hd 0 (by decide) (by kernel_rfl)
              clear hd
              gi_wp2_with (refine ⟨trivial, ?_⟩; gi_at_call 22; go_loud (refine (callsIn_wide.2 hT8).mono ?_; rintro e W9 ⟨x9, rfl, hx9, hB9⟩))
              have hr := hQ'.out
              simp only [e1] at hr ⊢
              exact hr _ _ hB9 ⟨hx9.deskI, hx9.cap⟩
            · clear hd
              gi_wp2
              exact hQ'.out _ _ (Below.refl _ _) rfl
            · have e1 : s 2 = .agg #[.int .i64 k, .int .i64 n] := hd 2 (by decide) (by kernel_rfl)
              clear hd
              gi_wp2_with (refine ⟨trivial, ?_⟩; gi_at_call 23; go_loud (refine (callsIn_wide.2 hTd8).mono ?_; rintro e W9 ⟨rfl, hB9⟩))
              have hr := hQ'.out
              simp only [e1] at hr ⊢
              exact hr _ _ hB9 rfl
          case call =>
            rintro oo s V ho hV hd Q' hQ
            have hVb := hmm.trans ((hm19.trans (hV.mono hm19.size)).mono hmm.size)
            obtain ⟨hVw, ⟨a0, a1⟩, ⟨b0, b1⟩⟩ := hAth.out V hVb
            have hT8 := hTh.out V hVw
            have hTd8 := hTdh.out V
            simp at ho
            subst ho
            simp only [putsOf, Act.put, List.setIfInBounds_toArray, List.set_cons_succ, List.set_cons_zero] at hQ ⊢
            have hQ' := hide hQ
            clear hQ
            have e1 : DeskI V (s 1) d ∧ CapP (s 1) := hd 1 (by decide) (by kernel_rfl)
            have e2 : s 3 = .agg #[.int .i64 k, .int .i64 n] := hd 3 (by decide) (by kernel_rfl)
            have hS := hImh.out V _ e1
            clear hd
            gi_wp2_with (refine ⟨trivial, ?_⟩; gi_at_call 13; go_loud (refine (callsIn_wide.2 hS).mono ?_; rintro e W9 ⟨y9, rfl, hy9, hB9⟩))
            obtain ⟨y1, y2, y3, y4, rfl⟩ := hy9.form
            have hr := hQ'.out
            simp only [e2] at hr ⊢
            exact hr _ _ _ _ _ hB9 hy9.deskI
          case move =>
            rintro oo s V y Q' ho hs hQ
            simp at ho
            subst ho
            simp only [putsOf, Act.put, List.setIfInBounds_toArray, List.set_cons_succ, List.set_cons_zero] at hQ ⊢
            have hQ' := hide hQ
            clear hQ
            gi_wp2
            have hr := hQ'.out
            simp only [hs] at hr ⊢
            exact hr
          case ext0 =>
            rintro oo s V y z Q' ho hs hQ
            simp at ho
            subst ho
            simp only [putsOf, Act.put, List.setIfInBounds_toArray, List.set_cons_succ, List.set_cons_zero] at hQ ⊢
            have hQ' := hide hQ
            clear hQ
            replace hs : s 5 = .tuple #[y, z] := hs
            gi_wp2
            have hr := hQ'.out
            simp only [hs] at hr ⊢
            exact hr
          case ext1 =>
            rintro oo s V y z Q' ho hs hQ
            simp at ho
            subst ho
            simp only [putsOf, Act.put, List.setIfInBounds_toArray, List.set_cons_succ, List.set_cons_zero] at hQ ⊢
            have hQ' := hide hQ
            clear hQ
            replace hs : s 5 = .tuple #[y, z] := hs
            gi_wp2
            have hr := hQ'.out
            simp only [hs] at hr ⊢
            exact hr
          case allo =>
            rintro oo s V Q' ho hQ
            simp at ho
            subst ho
            simp only [putsOf, Act.put, List.setIfInBounds_toArray, List.set_cons_succ, List.set_cons_zero] at hQ ⊢
            have hQ' := hide hQ
            clear hQ
            gi_wp2
            exact hQ'.out
          case stor =>
            rintro oo s V b' a1 c1 a2 c2 Q' ho hs1 hs2 hz hQ
            obtain ⟨z0, z1, z2, z3⟩ := row_at hz
            simp at ho
            subst ho
            simp only [putsOf, Act.put, List.setIfInBounds_toArray, List.set_cons_succ, List.set_cons_zero] at hQ ⊢
            have hQ' := hide hQ
            clear hQ
            replace hs1 : s 8 = .pointer (some ⟨b', 0, none⟩) := hs1
            replace hs2 : s 6 = .agg #[.slice a1 D.1.length c1, .slice a2 D.2.length c2] := hs2
            gi_wp2
            have hr := hQ'.out
            simp only [hs1, hs2] at hr ⊢
            exact hr
          case tail =>
            rintro s wh bh ha hn ho hp hV f8 hbh kh hh f7
            replace f8 : s 8 = .pointer (some ⟨bh, 0, none⟩) := f8
            replace f7 : s 7 = (.bool bb) := f7
            have hmh := hm19.trans (hV.mono hm19.size)
            have omh := om19.below hV
            have kgh := (hV.block _ (Array.getElem?_eq_some_iff.1 kg19).1).trans kg19
            have zh := hV.size
            obtain ⟨e0, e1, _, _⟩ := row_at kh
            obtain ⟨m0, m1, _, _⟩ := row_at ((hmh.block _ lm).trans km)
            clear om19 hm19 kg19 hV
            simp only [putsOf, Act.put, List.setIfInBounds_toArray, List.set_cons_succ, List.set_cons_zero]
            simp only [List.drop_succ_cons, List.drop_zero]
            gi_wp2_with fail
            refine ⟨trivial, ?_⟩
            gi_at_call 24
            refine (callsIn_wide.2 (eqDesk_in _ _ D _ hsz hh (hmod.below hmh))).mono ?_
            rintro e w25 ⟨rfl, b25⟩
            have hm25 := hmh.trans (b25.mono hmh.size)
            have om25 := omh.below b25
            have kg25 := (b25.block _ (Array.getElem?_eq_some_iff.1 kgh).1).trans kgh
            obtain ⟨e0, e1, _, _⟩ := row_at kg25
            clear omh hmh kgh b25 m0 m1
            gi_wp2_with fail
            refine ⟨trivial, ?_⟩
            gi_at_call 26
            refine (callsIn_wide.2 (heldDesk_in 1 om25 (by omega) hr1 hr2 (by omega))).mono ?_
            rintro e w28 ⟨rfl, b28⟩
            have hm28 := hm25.trans (b28.mono hm25.size)
            have hmb := hmm.trans (hm28.mono hmm.size)
            have hmw := hBw.trans (hmb.mono hBw.size)
            gi_wp2
            go_ret
            exact ⟨rfl, hmw⟩
theorem exactDeskDo' (v : Value) (d : Dk) (k n : Int) (hk : Fits k) (hn0 : Fits n) (w : World) (hv : ArgD w v d) (hn1 : d.1.length ≤ 9223372036854775807) (hn : d.2.length ≤ 9223372036854775807) (hln : ∀ j, (d.2.getD j []).length ≤ 9223372036854775807) :
    Calls Try.prog 6 #[v, dV k n] w fun e w' => e = .returned (.bool true) ∧ Below w.heap.size w w' := exactDeskDo v d k n w hv hn1 hn hln hk hn0
end Go.Proofs.Ytimnhedjapakhaa
