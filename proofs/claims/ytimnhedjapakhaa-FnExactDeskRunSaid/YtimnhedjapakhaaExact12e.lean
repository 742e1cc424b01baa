/-
  The walk of the exact law on DeskRun.
-/
import Derived.Test.YtimnhedjapakhaaLawKit14
import Derived.Test.YtimnhedjapakhaaImpl12d
import Derived.Test.YtimnhedjapakhaaSpec12r
namespace Go.Proofs.Ytimnhedjapakhaa
open Go.RowKit
attribute [local go_sem] Oper.semAt_some

theorem szDeedsQ (a : Option Addr) (n c q : Nat) (w : World) (hq : q ≤ 1048576) (hn : n ≤ 9223372036854775807) : Calls Try.prog 27 #[.slice a n c, .int .i64 q] w fun e w' =>
    (e = .returned (.int .i64 (-1)) ∨ ∃ q2 : Nat, e = .returned (.int .i64 q2) ∧ n + q2 = q) ∧ w = w' := by
  by_cases h : n ≤ q
  · have h1 : (q : Int) - (n : Int) = ((q - n : Nat) : Int) := by omega
    have h2 : ¬ ((q - n : Nat) : Int) < 0 := by omega
    obtain ⟨r, hr⟩ : ∃ r, q - n = r := ⟨_, rfl⟩
    rw [hr] at h1 h2
    go_enter Try.func27, Try.ntmps27
    go_wp2
    go_ret
    exact ⟨.inr ⟨r, rfl, by omega⟩, rfl⟩
  · have h1 : (q : Int) - (n : Int) < 0 := by omega
    go_enter Try.func27, Try.ntmps27
    go_wp2
    go_ret
    exact ⟨.inl rfl, rfl⟩
theorem own_between {W W' : World} {base base' lim' n size : Nat} {e : TypeId} {v : Value} {xs : List Value} (h : W.ownsRow base e size v n xs) (hB : Between base' lim' W W') (hl : lim' ≤ base) : W'.ownsRow base e size v n xs := by
  refine ⟨h.1, ?_⟩
  rcases h.2 with h2 | ⟨g, cap, cur, e1, hb, hg, h3⟩
  · exact .inl h2
  · exact .inr ⟨g, cap, cur, e1, hb, (hB.block g (Array.getElem?_eq_some_iff.1 hg).1 (.inr (by omega))).trans hg, h3⟩

theorem own_belowN {W W' : World} {base n size : Nat} {e : TypeId} {v : Value} {xs : List Value} (h : W.ownsRow base e size v n xs) (hB : Below W.heap.size W W') : W'.ownsRow base e size v n xs := by
  refine ⟨h.1, ?_⟩
  rcases h.2 with h2 | ⟨g, cap, cur, e1, hb, hg, h3⟩
  · exact .inl h2
  · exact .inr ⟨g, cap, cur, e1, hb, (hB.block g (Array.getElem?_eq_some_iff.1 hg).1).trans hg, h3⟩

set_option maxRecDepth 100000 in
set_option maxHeartbeats 4000000 in
theorem exactDeskRun (v ls : Value) (d : Dk) (L : List (Int × Int)) (w : World) (hv : ArgD w v d) (hn1 : d.1.length ≤ 9223372036854775807) (hn : d.2.length ≤ 9223372036854775807) (hln : ∀ j, (d.2.getD j []).length ≤ 9223372036854775807) (hls : DeedsI w ls L) (hf : ∀ a ∈ L, Fits a.1 ∧ Fits a.2) (hLn : L.length ≤ 9223372036854775807) :
    Calls Try.prog 7 #[v, ls] w fun e w' => e = .returned (.bool true) ∧ Below w.heap.size w w' := by
  obtain ⟨va, vb, vc, ve, hform⟩ := hv.form
  obtain ⟨x, p, rfl, hx, hp⟩ := id hv
  injection hform with hform
  simp at hform
  obtain ⟨rfl, rfl⟩ := hform
  obtain ⟨la, lc, rfl, _⟩ := id hls
  have hB := (Below.refl _ w).alloc (Nat.le_refl _) (.cells #[.slice va d.1.length vb, .slice vc d.2.length ve] 44)
  have k0 := World.alloc_heap_new w (.cells #[.slice va d.1.length vb, .slice vc d.2.length ve] 44)
  obtain ⟨wb, hwb⟩ : ∃ wb, w.alloc (.cells #[.slice va d.1.length vb, .slice vc d.2.length ve] 44) = wb := ⟨_, rfl⟩
  rw [hwb] at hB k0
  have hz := szDesk_in _ d 1048576 wb (hv.below hB) hn1 hn hln (Nat.le_refl _)
  obtain ⟨c0, c1, _, _⟩ := row_at k0
  have l0 := (Array.getElem?_eq_some_iff.1 k0).1
  have hv' := hide hv
  have hls' := hide hls
  have hf' := hide hf
  clear hv hx hp hn1 hn hln hls hf
  refine (callsIn_wide (n := 9)).1 ?_
  refine callsIn_of_wp Try.func7 rfl trivial ?_ rfl
  simp only [Try.ntmps7, List.size_toArray, List.length_cons, List.length_nil, Nat.reduceAdd, Nat.reduceSub, Array.replicate_succ, Array.replicate_zero, List.push_toArray, List.append_toArray, List.nil_append, List.cons_append]
  gi_wp2_with fail
  refine ⟨trivial, ?_⟩
  gi_at_call 21
  refine (callsIn_wide.2 hz).mono ?_
  rintro e W2 ⟨rfl | ⟨q, rfl, hq⟩, hB2⟩
  · gi_wp2
    go_ret
    exact ⟨rfl, hB.trans (hB2.mono hB.size)⟩
  · have hq0 : ¬ (q : Int) < 0 := by omega
    have hq1 : q ≤ 1048576 := by omega
    have s1 : d.1.length ≤ 1048576 := by omega
    have s2 : d.2.length ≤ 1048576 := by omega
    have s3 : ∀ j, j < d.2.length → (d.2.getD j []).length ≤ 1048576 := fun j hj => by
      have := acc_each (fun j => (d.2.getD j []).length) d.2.length j hj
      exact Nat.le_trans this (by omega)
    have s4 : DkS d := ⟨by omega, by omega, fun j => by
      by_cases hj : j < d.2.length
      · have := s3 j hj; omega
      · rw [List.getD, List.getElem?_eq_none (by omega)]; simp⟩
    have s5 : accN (fun j => (d.2.getD j []).length) d.2.length ≤ 1048576 := by omega
    have hzl := szDeedsQ la L.length lc q W2 hq1 hLn
    clear hz hq hLn
    gi_wp2_with fail
    refine ⟨trivial, ?_⟩
    gi_at_call 27
    refine (callsIn_wide.2 hzl).mono ?_
    rintro e W2' ⟨rfl | ⟨q2, rfl, hq2⟩, rfl⟩
    · gi_wp2
      go_ret
      exact ⟨rfl, hB.trans (hB2.mono hB.size)⟩
    have hq20 : ¬ (q2 : Int) < 0 := by omega
    have hL2 : L.length ≤ 1048576 := by omega
    have hT := fun V (hV : Below w.heap.size w V) => toDeskA_in w _ d V hv'.out hV s1 s2 s3
    have hTL := fun V (hV : Below w.heap.size w V) => toDeedS_in w _ L V hls'.out hV (by omega)
    have hRo := runV_rows d L
    have hSp := fun V y z (hy : DeskI V y d) (hz : DeedsI V z L) => specRun y z d L V hy s4 hz (by omega) hf'.out
    have hIm := fun V y z (hy : DeskI V y d) (hz : DeedsI V z L) => implRun y z d L V hy s4 hz (by omega) hf'.out
    obtain ⟨cn, hcn⟩ : ∃ cn, (runV d L).2 = cn := ⟨_, rfl⟩
    obtain ⟨D, hD⟩ : ∃ D, (runV d L).1 = D := ⟨_, rfl⟩
    rw [hD] at hRo
    obtain ⟨hsz, hr0, hr1, hr2, hacc⟩ := hRo.facts
    obtain ⟨hDr, hDs, hDn, hDm⟩ := hRo
    rw [hD, hcn] at hSp hIm
    clear hcn hD hzl
    have hBw := hB
    have hm2 := hB2
    have hAt : ∀ V, Below wb.heap.size wb V → Below w.heap.size w V ∧ (V.cell? ⟨w.heap.size, 0, none⟩ = some (.slice va d.1.length vb) ∧ V.cell? ⟨w.heap.size, 1, none⟩ = some (.slice vc d.2.length ve)) := fun V hV => by
      obtain ⟨a0, a1, _, _⟩ := row_at ((hV.block _ l0).trans k0)
      exact ⟨hBw.trans (hV.mono hBw.size), a0, a1⟩
    have hAth := hide hAt
    have hTh := hide hT
    have hTLh := hide hTL
    have hSph := hide hSp
    have hImh := hide hIm
    clear hB hB2 c0 c1 hAt k0 l0 hT hTL hSp hIm
    have hbW2 := hm2
    obtain ⟨dW2, a0, a1⟩ := hAth.out W2 hbW2
    gi_wp2_with fail
    refine ⟨trivial, ?_⟩
    gi_at_call 22
    refine (callsIn_wide.2 (hTh.out _ dW2)).mono ?_
    rintro e w3 ⟨y3, rfl, oy3, b3⟩
    have hbw3 := hbW2.trans (b3.mono hbW2.size)
    obtain ⟨dw3, a0, a1⟩ := hAth.out w3 hbw3
    gi_wp2_with fail
    refine ⟨trivial, ?_⟩
    gi_at_call 28
    refine (callsIn_wide.2 (hTLh.out _ dw3)).mono ?_
    rintro e w4 ⟨z4, rfl, hz4, b4⟩
    have hbw4 := hbw3.trans (b4.mono hbw3.size)
    have hdi4 := oy3.deskI.below b4
    have hzi4 := DeedsI.of_owns hz4
    gi_wp2_with fail
    refine ⟨trivial, ?_⟩
    gi_at_call 19
    refine (callsIn_wide.2 (hSph.out _ _ _ hdi4 hzi4)).mono ?_
    rintro e w5 ⟨y5, rfl, hy5, b5⟩
    have hbw5 := hbw4.trans (b5.mono hbw4.size)
    obtain ⟨yx, yp, rfl, hyx, hyp⟩ := id hy5
    obtain ⟨m1, m2, rfl⟩ := hyx.shape
    obtain ⟨m3, m4, rfl, _⟩ := id hyp
    obtain ⟨dw5, a0, a1⟩ := hAth.out w5 hbw5
    clear oy3 b3 hz4 b4 hdi4 hzi4 b5 hyx hyp a0 a1 hbW2 hbw3 hbw4 dW2 dw3
    have hbwm0 := hbw5.alloc hbw5.size (.cells #[.slice m1 D.1.length m2, .slice m3 D.2.length m4] 26)
    obtain ⟨_, a0, a1⟩ := hAth.out _ hbwm0
    have ba := (Below.refl _ w5).alloc (Nat.le_refl _) (.cells #[.slice m1 D.1.length m2, .slice m3 D.2.length m4] 26)
    have ka := World.alloc_heap_new w5 (.cells #[.slice m1 D.1.length m2, .slice m3 D.2.length m4] 26)
    have za := World.size_alloc w5 (.cells #[.slice m1 D.1.length m2, .slice m3 D.2.length m4] 26)
    gi_wp2_with fail
    obtain ⟨wm, hwn⟩ : ∃ wn, w5.alloc (.cells #[.slice m1 D.1.length m2, .slice m3 D.2.length m4] 26) = wn := ⟨_, rfl⟩
    rw [hwn] at ba ka za ⊢
    clear hwn
    have km := ka
    have hmod := hy5.below ba
    have hmm := hbw5.trans (ba.mono hbw5.size)
    have dm := (hAth.out wm hmm).1
    have lm := (Array.getElem?_eq_some_iff.1 km).1
    have hms := hmm.size
    obtain ⟨bm, hbm⟩ : ∃ bm, w5.heap.size = bm := ⟨_, rfl⟩
    rw [hbm] at km lm ⊢
    clear ba ka za hy5 hbw5 hbwm0 dw5 hbm hm2
    refine ⟨trivial, ?_⟩
    gi_at_call 22
    refine (callsIn_wide.2 (hTh.out _ dm)).mono ?_
    rintro e w6 ⟨y6, rfl, ox6, b6⟩
    have dx6 := dm.trans (b6.mono dm.size)
    obtain ⟨x1, x2, x3, x4, rfl⟩ := ox6.form
    have ba := (Below.refl _ w6).alloc (Nat.le_refl _) (.cells #[.slice x1 d.1.length x2, .slice x3 d.2.length x4] 26)
    have ka := World.alloc_heap_new w6 (.cells #[.slice x1 d.1.length x2, .slice x3 d.2.length x4] 26)
    have za := World.size_alloc w6 (.cells #[.slice x1 d.1.length x2, .slice x3 d.2.length x4] 26)
    gi_wp2_with fail
    obtain ⟨w7, hwn⟩ : ∃ wn, w6.alloc (.cells #[.slice x1 d.1.length x2, .slice x3 d.2.length x4] 26) = wn := ⟨_, rfl⟩
    rw [hwn] at ba ka za ⊢
    clear hwn
    have kx7 := ka
    have hm7 : Below wm.heap.size wm w7 := b6.trans (ba.mono b6.size)
    have ox7 := ox6.below ba
    have z67 : w6.heap.size + 1 = w7.heap.size := za.symm
    have dw7 := dx6.trans (ba.mono dx6.size)
    obtain ⟨bx, hbx⟩ : ∃ bx, w6.heap.size = bx := ⟨_, rfl⟩
    rw [hbx] at kx7 ox7 z67 ⊢
    have z67a : bx + 1 ≤ w7.heap.size := by omega
    have z67b := hm7.size
    clear ka ba za z67 b6 ox6 dx6 hbx
    refine ⟨trivial, ?_⟩
    gi_at_call 28
    refine (callsIn_wide.2 (hTLh.out _ dw7)).mono ?_
    rintro e w8 ⟨r8, rfl, hr8, b8⟩
    obtain ⟨ra, rc, rfl⟩ := deeds_form hr8
    have hrl : ∀ g, Value.ownBlock (.slice ra L.length rc) = some g → g < w8.heap.size := fun g e => (hr8.lt g e).2
    have hm8 := hm7.trans (b8.mono hm7.size)
    have ox8 := ox7.below b8
    have kx8 := (b8.block _ (Array.getElem?_eq_some_iff.1 kx7).1).trans kx7
    have hri8 := DeedsI.of_owns hr8
    have z8 := b8.size
    obtain ⟨x5, x6, _, _⟩ := row_at kx8
    clear b8 ox7 kx7 hm7 dw7
    gi_wp2_with fail
    refine ⟨trivial, ?_⟩
    gi_at_call 18
    refine (callsIn_wide.2 (hImh.out _ _ _ ox8.deskI hri8)).mono ?_
    rintro e w9 ⟨y9, rfl, og9, b9⟩
    obtain ⟨g1, g2, g3, g4, rfl⟩ := og9.form
    obtain ⟨mid, og9⟩ := OwnD.of og9 hr0
    have hm9 := hm8.trans (b9.mono hm8.size)
    have ox9 := ox8.below b9
    have kx9 := (b9.block _ (Array.getElem?_eq_some_iff.1 kx8).1).trans kx8
    have hr9 := own_belowN hr8 b9
    have z9 := b9.size
    clear b9 ox8 kx8 hm8 hri8 hr8 x5 x6
    have bg0 := (Below.refl _ w9).alloc (Nat.le_refl _) (.cells #[.slice g1 D.1.length g2, .slice g3 D.2.length g4] 26)
    have kg10 := World.alloc_heap_new w9 (.cells #[.slice g1 D.1.length g2, .slice g3 D.2.length g4] 26)
    obtain ⟨w10, hw10⟩ : ∃ wn, w9.alloc (.cells #[.slice g1 D.1.length g2, .slice g3 D.2.length g4] 26) = wn := ⟨_, rfl⟩
    rw [hw10] at bg0 kg10
    have hm10 := hm9.trans (bg0.mono hm9.size)
    have og10 := og9.below bg0
    have ox10 := ox9.below bg0
    have kx10 := (bg0.block _ (Array.getElem?_eq_some_iff.1 kx9).1).trans kx9
    have hr10 := own_belowN hr9 bg0
    have lg10 := (Array.getElem?_eq_some_iff.1 kg10).1
    obtain ⟨e0, e1, _, _⟩ := row_at kg10
    obtain ⟨m5, m6, _, _⟩ := row_at ((hm10.block _ lm).trans km)
    clear bg0 og9 ox9 kx9 hr9 hm9
    gi_wp2_with fail
    refine ⟨trivial, ?_⟩
    gi_at_call 24
    refine (callsIn_wide.2 (eqDesk_in _ _ D _ hsz og10.deskI (hmod.below hm10))).mono ?_
    rintro e w12 ⟨rfl, b12⟩
    have hm12 := hm10.trans (b12.mono hm10.size)
    have og12 := og10.below b12
    have ox12 := ox10.below b12
    have kg12 := (b12.block _ lg10).trans kg10
    have kx12 := (b12.block _ (Array.getElem?_eq_some_iff.1 kx10).1).trans kx10
    have hr12 := own_belowN hr10 b12
    have z12 := b12.size
    obtain ⟨bg, hbg⟩ : ∃ bg, w9.heap.size = bg := ⟨_, rfl⟩
    rw [hbg] at kg12 og12 z9
    clear og10 ox10 kg10 kx10 hr10 hm10 e0 e1 m5 m6 b12
    gi_wp2
    skip
    refine wpIn_region_put 3 [(some 54, 0), (some 55, 1), (some 56, 2)] (by kernel_rfl) (by kernel_rfl) (by kernel_rfl) (by decide) (by rfl) (by decide)
      (fun i v V => match i with | 0 => v = .agg #[.slice x1 d.1.length x2, .slice x3 d.2.length x4] | 1 => v = .agg #[.slice va d.1.length vb, .slice vc d.2.length ve] | 2 => DeskI V v d | _ => True)
      (fun i v V V' h hb => match i, h with | 0, h => h | 1, h => h | 2, h => h.below hb | (_ + 3), _ => trivial)
      ?step ?tail
    case step =>
      rintro i oo s V hi ho hV hd Q' hQ
      have hVb := hmm.trans ((hm12.trans (hV.mono hm12.size)).mono hmm.size)
      obtain ⟨hVw, a0, a1⟩ := hAth.out V hVb
      have hT8 := hTh.out V hVw
      obtain ⟨x5, x6, _, _⟩ := row_at ((hV.block _ (Array.getElem?_eq_some_iff.1 kx12).1).trans kx12)
      rcases (show i = 0 ∨ i = 1 ∨ i = 2 by omega) with rfl | rfl | rfl
      all_goals
        simp at ho
        subst ho
        simp only [putsOf, Act.put, List.setIfInBounds_toArray, List.set_cons_succ, List.set_cons_zero] at hQ ⊢
        have hQ' := hide hQ
        clear hQ
      · clear hd
        gi_wp2
        exact hQ'.out _ _ (Below.refl _ _) rfl
      · clear hd
        gi_wp2
        exact hQ'.out _ _ (Below.refl _ _) rfl
      · have e1 : s 1 = .agg #[.slice va d.1.length vb, .slice vc d.2.length ve] := hd 1 (by kernel_rfl)
        clear hd
        gi_wp2_with (refine ⟨trivial, ?_⟩; gi_at_call 22; go_loud (refine (callsIn_wide.2 hT8).mono ?_; rintro e W9 ⟨x9, rfl, hx9, hB9⟩))
        have hr := hQ'.out
        simp only [e1] at hr ⊢
        exact hr _ _ hB9 hx9.deskI
    case tail =>
      rintro s w13 hV hd
      have e1 : s 0 = .agg #[.slice x1 d.1.length x2, .slice x3 d.2.length x4] := hd 0 (by omega)
      have f2 : DeskI w13 (s 2) d := hd 2 (by omega)
      clear hd
      have hm13 := hm12.trans (hV.mono hm12.size)
      have og13 := og12.below hV
      have ox13 := ox12.below hV
      have kg13 := (hV.block _ (Array.getElem?_eq_some_iff.1 kg12).1).trans kg12
      have kx13 := (hV.block _ (Array.getElem?_eq_some_iff.1 kx12).1).trans kx12
      have hr13 := own_belowN hr12 hV
      have z13 := hV.size
      have hE := eqDesk_in _ (s 2) d w13 ⟨by omega, by omega, fun j hj => by have := s3 j hj; omega⟩ ox13.deskI f2
      clear hm12 og12 ox12 kg12 kx12 hr12 hV
      simp only [putsOf, Act.put, List.setIfInBounds_toArray, List.set_cons_succ, List.set_cons_zero]
      simp only [List.drop_succ_cons, List.drop_zero]
      gi_wp2_with fail
      refine ⟨trivial, ?_⟩
      gi_at_call 24
      refine (callsIn_wide.2 (hE)).mono ?_
      rintro e w14 ⟨rfl, b14⟩
      have hm14 := hm13.trans (b14.mono hm13.size)
      have og14 := og13.below b14
      have ox14 := ox13.below b14
      have kg14 := (b14.block _ (Array.getElem?_eq_some_iff.1 kg13).1).trans kg13
      have kx14 := (b14.block _ (Array.getElem?_eq_some_iff.1 kx13).1).trans kx13
      have hr14 := own_belowN hr13 b14
      have z14 := b14.size
      have dw14 := (hAth.out _ (hmm.trans (hm14.mono hmm.size))).1
      clear hm13 og13 ox13 kg13 kx13 hr13 b14 hE f2
      gi_wp2_with fail
      refine ⟨trivial, ?_⟩
      gi_at_call 28
      refine (callsIn_wide.2 (hTLh.out _ dw14)).mono ?_
      rintro e w15 ⟨r15, rfl, hn15, b15⟩
      have hd15 := DeedsI.of_owns hn15
      have hr15 := own_belowN hr14 b15
      have hE := eqDeedS_in _ _ L w15 (by omega) (DeedsI.of_owns hr15) hd15
      have hm15 := hm14.trans (b15.mono hm14.size)
      have og15 := og14.below b15
      have ox15 := ox14.below b15
      have kg15 := (b15.block _ (Array.getElem?_eq_some_iff.1 kg14).1).trans kg14
      have kx15 := (b15.block _ (Array.getElem?_eq_some_iff.1 kx14).1).trans kx14
      have z15 := b15.size
      clear hm14 og14 ox14 kg14 kx14 hr14 b15 hn15 dw14 hd15
      gi_wp2_with fail
      refine ⟨trivial, ?_⟩
      gi_at_call 29
      refine (callsIn_wide.2 (hE)).mono ?_
      rintro e w16 ⟨rfl, b16⟩
      have hm16 := hm15.trans (b16.mono hm15.size)
      have og16 := og15.below b16
      have ox16 := ox15.below b16
      have kg16 := (b16.block _ (Array.getElem?_eq_some_iff.1 kg15).1).trans kg15
      have kx16 := (b16.block _ (Array.getElem?_eq_some_iff.1 kx15).1).trans kx15
      have hr16 := own_belowN hr15 b16
      have z16 := b16.size
      obtain ⟨x5, x6, _, _⟩ := row_at kx16
      have lg16 := (Array.getElem?_eq_some_iff.1 kg16).1
      clear hm15 og15 ox15 kg15 kx15 hr15 b16 hE
      gi_wp2_with fail
      refine ⟨trivial, ?_⟩
      gi_at_call 25
      refine (callsIn_wide.2 (markA_in ox16 s1 s2 s5 1 (by omega))).mono ?_
      rintro e w19 ⟨rfl, hx19⟩
      have hm19 := hx19.below hm16 (by omega) hm16.size
      have og19 := og16.between hx19 (.inr (by omega))
      have kg19 := (hx19.block _ lg16 (.inr (by omega))).trans kg16
      have lg19 := (Array.getElem?_eq_some_iff.1 kg19).1
      have hr19 := own_between hr16 hx19 (by omega)
      have z19 := hx19.size
      obtain ⟨K, hK⟩ : ∃ K, 1 + d.1.length + accN (fun j => (d.2.getD j []).length) d.2.length = K := ⟨_, rfl⟩
      rw [hK]
      have hKb : K ≤ 3000000 := by omega
      clear hm16 og16 ox16 kg16 kx16 hr16 hx19 lg16 x5 x6
      gi_wp2_with fail
      refine ⟨trivial, ?_⟩
      gi_at_call 30
      refine (callsIn_wide.2 (markDeedsA_in hr19 hrl (by omega) K (by omega))).mono ?_
      rintro e w20 ⟨rfl, hx20⟩
      have hk1 : ¬ ((K + L.length * 2 : Nat) : Int) < 0 := by omega
      have hm20 := hx20.below hm19 (by omega) hm19.size
      have og20 := og19.between hx20 (.inr (by omega))
      have kg20 := (hx20.block _ lg19 (.inr (by omega))).trans kg19
      have z20 := hx20.size
      obtain ⟨e0, e1', _, _⟩ := row_at kg20
      obtain ⟨m5, m6, _, _⟩ := row_at ((hm20.block _ lm).trans km)
      clear hm19 og19 kg19 hr19 hx20 hrl
      gi_wp2_with fail
      refine ⟨trivial, ?_⟩
      gi_at_call 24
      refine (callsIn_wide.2 (eqDesk_in _ _ D _ hsz og20.deskI (hmod.below hm20))).mono ?_
      rintro e w21 ⟨rfl, b21⟩
      have hm21 := hm20.trans (b21.mono hm20.size)
      have og21 := og20.below b21
      have kg21 := (b21.block _ (Array.getElem?_eq_some_iff.1 kg20).1).trans kg20
      have lg21 := (Array.getElem?_eq_some_iff.1 kg21).1
      obtain ⟨e0, e1', _, _⟩ := row_at kg21
      have z21 := b21.size
      clear og20 hm20 kg20 b21 m5 m6
      gi_wp2_with fail
      refine ⟨trivial, ?_⟩
      gi_at_call 25
      refine (callsIn_wide.2 (markDesk_in og21 (by omega) hr1 hr2 1 (by omega))).mono ?_
      rintro e w24 ⟨rfl, om24, hx24⟩
      have hm24 := hx24.below hm21 (by omega) hm21.size
      have kg24 := (hx24.block _ lg21 (.inr (Nat.le_refl _))).trans kg21
      obtain ⟨e0, e1', _, _⟩ := row_at kg24
      have z24 := hx24.size
      clear og21 hm21 kg21 hx24
      have hq1' : ¬ ((1 + D.1.length + accN (fun j => (D.2.getD j []).length) D.2.length : Nat) : Int) < 0 := by omega
      gi_wp2_with fail
      refine ⟨trivial, ?_⟩
      gi_at_call 26
      refine (callsIn_wide.2 (heldDesk_in 1 om24 (by omega) hr1 hr2 (by omega))).mono ?_
      rintro e w26 ⟨rfl, b26⟩
      have hm26 := hm24.trans (b26.mono hm24.size)
      have om26 := om24.below b26
      have kg26 := (b26.block _ (Array.getElem?_eq_some_iff.1 kg24).1).trans kg24
      have z26 := b26.size
      have hb26 := hmm.trans (hm26.mono hmm.size)
      obtain ⟨dw26, a0, a1⟩ := hAth.out w26 hb26
      clear om24 hm24 kg24 b26 e0 e1'
      gi_wp2_with fail
      refine ⟨trivial, ?_⟩
      gi_at_call 22
      refine (callsIn_wide.2 (hTh.out _ dw26)).mono ?_
      rintro e w27 ⟨y27, rfl, oy27, b27⟩
      have hm27 := hm26.trans (b27.mono hm26.size)
      have om27 := om26.below b27
      have kg27 := (b27.block _ (Array.getElem?_eq_some_iff.1 kg26).1).trans kg26
      have hb27 := hmm.trans (hm27.mono hmm.size)
      obtain ⟨dw27, _, _⟩ := hAth.out w27 hb27
      clear om26 hm26 kg26 hb26 a0 a1
      gi_wp2_with fail
      refine ⟨trivial, ?_⟩
      gi_at_call 28
      refine (callsIn_wide.2 (hTLh.out _ dw27)).mono ?_
      rintro e w28 ⟨z28, rfl, hz28, b28⟩
      have hm28 := hm27.trans (b28.mono hm27.size)
      have om28 := om27.below b28
      have kg28 := (b28.block _ (Array.getElem?_eq_some_iff.1 kg27).1).trans kg27
      have hdi := oy27.deskI.below b28
      have hzi := DeedsI.of_owns hz28
      clear om27 hm27 kg27 b27 b28 hz28 oy27 hb27
      gi_wp2_with fail
      refine ⟨trivial, ?_⟩
      gi_at_call 18
      refine (callsIn_wide.2 (hImh.out _ _ _ hdi hzi)).mono ?_
      rintro e w29 ⟨y29, rfl, hh, b29⟩
      have hm29 := hm28.trans (b29.mono hm28.size)
      have om29 := om28.below b29
      have kg29 := (b29.block _ (Array.getElem?_eq_some_iff.1 kg28).1).trans kg28
      have hh29 := hh.deskI
      obtain ⟨h1, h2, h3, h4, rfl⟩ := hh.form
      have bh0 := (Below.refl _ w29).alloc (Nat.le_refl _) (.cells #[.slice h1 D.1.length h2, .slice h3 D.2.length h4] 26)
      have kh := World.alloc_heap_new w29 (.cells #[.slice h1 D.1.length h2, .slice h3 D.2.length h4] 26)
      obtain ⟨w30, hw30⟩ : ∃ wn, w29.alloc (.cells #[.slice h1 D.1.length h2, .slice h3 D.2.length h4] 26) = wn := ⟨_, rfl⟩
      rw [hw30] at bh0 kh
      have hm30 := hm29.trans (bh0.mono hm29.size)
      have om30 := om29.below bh0
      have kg30 := (bh0.block _ (Array.getElem?_eq_some_iff.1 kg29).1).trans kg29
      have hh30 := hh29.below bh0
      obtain ⟨e0, e1, _, _⟩ := row_at kh
      obtain ⟨m5, m6, _, _⟩ := row_at ((hm30.block _ lm).trans km)
      clear om28 hm28 kg28 hdi hzi hh b29 hm29 om29 kg29 hh29 bh0
      gi_wp2_with fail
      refine ⟨trivial, ?_⟩
      gi_at_call 24
      refine (callsIn_wide.2 (eqDesk_in _ _ D _ hsz hh30 (hmod.below hm30))).mono ?_
      rintro e w32 ⟨rfl, b32⟩
      have hm32 := hm30.trans (b32.mono hm30.size)
      have om32 := om30.below b32
      have kg32 := (b32.block _ (Array.getElem?_eq_some_iff.1 kg30).1).trans kg30
      obtain ⟨e0, e1, _, _⟩ := row_at kg32
      clear om30 hm30 kg30 b32 m5 m6 hh30
      gi_wp2_with fail
      refine ⟨trivial, ?_⟩
      gi_at_call 26
      refine (callsIn_wide.2 (heldDesk_in 1 om32 (by omega) hr1 hr2 (by omega))).mono ?_
      rintro e w35 ⟨rfl, b35⟩
      have hm35 := hm32.trans (b35.mono hm32.size)
      have hmb := hmm.trans (hm35.mono hmm.size)
      have hmw := hBw.trans (hmb.mono hBw.size)
      gi_wp2
      go_ret
      exact ⟨rfl, hmw⟩
theorem exactDeskRun' (v : Value) (d : Dk) (ls : Value) (L : List (Int × Int)) (w : World) (hv : ArgD w v d) (hn1 : d.1.length ≤ 9223372036854775807) (hn : d.2.length ≤ 9223372036854775807) (hln : ∀ j, (d.2.getD j []).length ≤ 9223372036854775807) (hls : DeedsI w ls L) (hf : ∀ a ∈ L, Fits a.1 ∧ Fits a.2) (hLn : L.length ≤ 9223372036854775807) :
    Calls Try.prog 7 #[v, ls] w fun e w' => e = .returned (.bool true) ∧ Below w.heap.size w w' := exactDeskRun v ls d L w hv hn1 hn hln hls hf hLn
end Go.Proofs.Ytimnhedjapakhaa
