/-
  The walk of the law on DeskRun.
-/
import Derived.Test.YtimnhedjapakhaaDraw12e
import Derived.Test.YtimnhedjapakhaaLaws12c
import Derived.Test.YtimnhedjapakhaaImpl12d
import Derived.Test.YtimnhedjapakhaaSpec12r
import Derived.Test.YtimnhedjapakhaaLawKit14
import Derived.Test.YtimnhedjapakhaaRegMadeP
namespace Go.Proofs.Ytimnhedjapakhaa
open Go.RowKit
attribute [local go_sem] Oper.semAt_some

theorem deeds_take {W : World} {a : Option Addr} {n c : Nat} {L : List (Int × Int)} (h : DeedsI W (.slice a n c) L) (k : Nat) (hk : k ≤ L.length) : DeedsI W (.slice a k c) (L.take k) := by
  obtain ⟨a', c', e, hr⟩ := h
  injection e with e1 e2 e3
  subst e1
  subst e3
  have hl : (L.take k).length = k := by rw [List.length_take]; omega
  refine ⟨a, c, by rw [hl], fun h0 => ?_⟩
  obtain ⟨g, o, e4, hg, hc⟩ := hr (by omega)
  refine ⟨g, o, e4, hg, fun j hj => ?_⟩
  have e5 : (L.take k).getD j (0, 0) = L.getD j (0, 0) := by rw [List.getD, List.getD, List.getElem?_take, if_pos (by omega)]
  rw [e5]
  exact hc j (by omega)
theorem deeds_drop {W : World} {g n c m : Nat} {L : List (Int × Int)} (h : DeedsI W (.slice (some ⟨g, 0, none⟩) n c) L) (k : Nat) (hk : k ≤ L.length) : DeedsI W (.slice (some ⟨g, k * 2, none⟩) (L.length - k) m) (L.drop k) := by
  obtain ⟨a', c', e, hr⟩ := h
  injection e with e1 e2 e3
  subst e1
  have hl : (L.drop k).length = L.length - k := List.length_drop ..
  refine ⟨_, m, by rw [hl], fun h0 => ?_⟩
  obtain ⟨g', o, e4, hg, hc⟩ := hr (by omega)
  injection e4 with e4
  injection e4 with e4 e5
  subst e4 e5
  refine ⟨g, k * 2, rfl, hg, fun j hj => ?_⟩
  have e5 : (L.drop k).getD j (0, 0) = L.getD (k + j) (0, 0) := by rw [List.getD, List.getD, List.getElem?_drop]
  rw [e5]
  have h1 := hc (k + j) (by omega)
  rw [show 0 + (k + j) * 2 = k * 2 + j * 2 by omega] at h1
  exact h1
theorem run_halves {d : Dk} {L : List (Int × Int)} (hb : deskB d = true) (hl : L.length ≤ 40) (h : Nat) :
    (runV (runV d (L.take h)).1 (L.drop h)).1 = (runV d L).1 ∧ (runV d (L.take h)).2 + (runV (runV d (L.take h)).1 (L.drop h)).2 = (runV d L).2 ∧ deskB (runV d L).1 = true := by
  have h1 : runV d (L.take h) = runL d 0 (L.take h) := by unfold runV; rw [if_pos ⟨hb, by rw [List.length_take]; omega⟩]
  have hA := runL_desk (L.take h) d 0 hb
  have h2 : runV (runL d 0 (L.take h)).1 (L.drop h) = runL (runL d 0 (L.take h)).1 0 (L.drop h) := by unfold runV; rw [if_pos ⟨hA, by rw [List.length_drop]; omega⟩]
  have h3 : runV d L = runL d 0 L := by unfold runV; rw [if_pos ⟨hb, hl⟩]
  have h4 := runL_app (L.take h) (L.drop h) d 0
  rw [List.take_append_drop] at h4
  rw [runL_add (L.drop h)] at h4
  rw [h1, h2, h3, h4]
  refine ⟨rfl, rfl, ?_⟩
  have h5 := runL_desk L d 0 hb
  rw [h4] at h5
  exact h5

set_option maxRecDepth 100000 in
set_option maxHeartbeats 4000000 in
theorem lawDeskRun (a0 : Option Addr) (len0 cap0 : Nat) (z0 : List Int) (w : World) (w0 : IsRow .u8 w a0 len0 cap0 z0) :
    Calls Try.prog 5 #[.slice a0 len0 cap0] w fun e w' => e = .returned (.bool true) ∧ Below w.heap.size w w' := by
  by_cases hbig : 1048576 < len0
  · go_enter Try.func5, Try.ntmps5
    go_wp2
    go_ret
    exact ⟨rfl, Below.refl _ _⟩
  have hbi : ¬ (1048576 : Int) < (len0 : Int) := by omega
  refine (callsIn_wide (n := 9)).1 ?_
  refine callsIn_of_wp Try.func5 rfl trivial ?_ rfl
  simp only [Try.ntmps5, List.size_toArray, List.length_cons, List.length_nil, Nat.reduceAdd, Nat.reduceSub, Array.replicate_succ, Array.replicate_zero, List.push_toArray, List.append_toArray, List.nil_append, List.cons_append]
  gi_wp2_with fail
  refine ⟨trivial, ?_⟩
  gi_at_call 17
  refine (callsIn_wide.2 (drawDeskRun w a0 len0 cap0 z0 w0)).mono ?_
  rintro e w1 ⟨y, d, v, L, rfl, hd, hcp, hz, hL, hLn, hf, hB1⟩
  obtain ⟨x, p, rfl, hx, hp⟩ := id hd
  obtain ⟨xa, xc, rfl⟩ := hx.shape
  obtain ⟨pa, pc, rfl, _⟩ := id hp
  have hLi := DeedsI.of_owns hL
  have hlc : ∃ la lc, v = .slice la L.length lc ∧ L.length ≤ lc ∧ (0 < L.length → ∃ g, la = some ⟨g, 0, none⟩) := by
    rcases hL.2 with ⟨e, h0⟩ | ⟨g, cap, cur, e, _, _, hc, _⟩
    · exact ⟨none, 0, by rw [e, h0], by omega, fun h => by omega⟩
    · exact ⟨_, cap, e, hc, fun _ => ⟨g, rfl⟩⟩
  obtain ⟨la, lc, rfl, hlc, hla⟩ := hlc
  have ba := (Below.refl _ w1).alloc (Nat.le_refl _) (.cells #[.slice xa d.1.length xc, .slice pa d.2.length pc] 26)
  have kd := World.alloc_heap_new w1 (.cells #[.slice xa d.1.length xc, .slice pa d.2.length pc] 26)
  obtain ⟨w2, hw2⟩ : ∃ w2, w1.alloc (.cells #[.slice xa d.1.length xc, .slice pa d.2.length pc] 26) = w2 := ⟨_, rfl⟩
  rw [hw2] at ba kd
  have hd2 := hd.below ba
  have hL2 := hLi.below ba
  have hB2 := hB1.trans (ba.mono hB1.size)
  obtain ⟨bd, hbd⟩ : ∃ bd, w1.heap.size = bd := ⟨_, rfl⟩
  rw [hbd] at kd
  obtain ⟨c0, c1, _, _⟩ := row_at kd
  have hI := fun V v' d' L' (hd' : DeskI V v' d') (hs' : DkS d') (hL' : DeedsI V v' L' → True) => (trivial : True)
  clear hI hd hx hp ba hB1 hL hLi
  have hro := runV_rows d L
  have hsz := rowsOk_same hro
  have hRh := hide (fun (hb : deskB d = true) (hl : L.length ≤ 40) => run_halves hb hl (L.length / 2))
  obtain ⟨D, hD⟩ : ∃ D, (runV d L).1 = D := ⟨_, rfl⟩
  obtain ⟨cn, hcn⟩ : ∃ cn, (runV d L).2 = cn := ⟨_, rfl⟩
  have hI := implRun _ _ d L w2 hd2 hz.dkS hL2 (by omega) hf
  have hS := fun V (h1 : DeskI V (.agg #[.slice xa d.1.length xc, .slice pa d.2.length pc]) d) (h2 : DeedsI V (.slice la L.length lc) L) => specRun _ _ d L V h1 hz.dkS h2 (by omega) hf
  rw [hD] at hI hS hro hsz
  rw [hcn] at hI hS
  gi_wp2_with fail
  clear hbd hw2
  refine ⟨trivial, ?_⟩
  gi_at_call 18
  refine (callsIn_wide.2 hI).mono ?_
  clear hI
  rintro e w3 ⟨g, rfl, hg, b3⟩
  have hgd := hg.deskI
  obtain ⟨g1, g2, g3, g4, rfl⟩ := hg.form
  have b3a := (Below.refl _ w3).alloc (Nat.le_refl _) (.cells #[.slice g1 D.1.length g2, .slice g3 D.2.length g4] 26)
  have kx := World.alloc_heap_new w3 (.cells #[.slice g1 D.1.length g2, .slice g3 D.2.length g4] 26)
  have b24 := b3.trans (b3a.mono b3.size)
  have kd4 := (b24.block _ (Array.getElem?_eq_some_iff.1 kd).1).trans kd
  have hd4 := hd2.below b24
  have hL4 := hL2.below b24
  have hgd4 := hgd.below b3a
  have hB4 := hB2.trans (b24.mono hB2.size)
  obtain ⟨w4, hw4⟩ : ∃ w4, w3.alloc (.cells #[.slice g1 D.1.length g2, .slice g3 D.2.length g4] 26) = w4 := ⟨_, rfl⟩
  rw [hw4] at kx kd4 hd4 hL4 hgd4 hB4
  obtain ⟨bx, hbx⟩ : ∃ bx, w3.heap.size = bx := ⟨_, rfl⟩
  rw [hbx] at kx
  obtain ⟨c0, c1, _, _⟩ := row_at kd4
  clear hg hgd b3a b3 b24 kd hd2 hL2 hB2
  gi_wp2_with fail
  clear hbx hw4
  refine ⟨trivial, ?_⟩
  gi_at_call 19
  refine (callsIn_wide.2 (hS _ hd4 hL4)).mono ?_
  clear hS
  rintro e w5 ⟨m, rfl, hm, b5⟩
  obtain ⟨mx, mp, rfl, hmx, hmp⟩ := id hm
  obtain ⟨m1, m2, rfl⟩ := hmx.shape
  obtain ⟨m3, m4, rfl, _⟩ := id hmp
  have b5a := (Below.refl _ w5).alloc (Nat.le_refl _) (.cells #[.slice m1 D.1.length m2, .slice m3 D.2.length m4] 26)
  have km := World.alloc_heap_new w5 (.cells #[.slice m1 D.1.length m2, .slice m3 D.2.length m4] 26)
  have b46 := b5.trans (b5a.mono b5.size)
  obtain ⟨w6, hw6⟩ : ∃ w6, w5.alloc (.cells #[.slice m1 D.1.length m2, .slice m3 D.2.length m4] 26) = w6 := ⟨_, rfl⟩
  rw [hw6] at b5a km b46
  have kd6 := (b46.block _ (Array.getElem?_eq_some_iff.1 kd4).1).trans kd4
  have kx6 := (b46.block _ (Array.getElem?_eq_some_iff.1 kx).1).trans kx
  have hd6 := hd4.below b46
  have hL6 := hL4.below b46
  have hgd6 := hgd4.below b46
  have hm6 := hm.below b5a
  have hB6 := hB4.trans (b46.mono hB4.size)
  obtain ⟨x0, x1, _, _⟩ := row_at kx6
  obtain ⟨y0, y1, _, _⟩ := row_at km
  clear hd4 hL4 hgd4 hm hmx hmp b5 b5a kd4 kx km b46 hB4
  gi_wp2_with fail
  clear hw6
  refine ⟨trivial, ?_⟩
  gi_at_call 15
  refine (callsIn_wide.2 (sameDesk_in _ _ _ w6 hsz hgd6 hm6)).mono ?_
  rintro e w7 ⟨rfl, b7⟩
  have kd7 := (b7.block _ (Array.getElem?_eq_some_iff.1 kd6).1).trans kd6
  have kx7 := (b7.block _ (Array.getElem?_eq_some_iff.1 kx6).1).trans kx6
  have hd7 := hd6.below b7
  have hL7 := hL6.below b7
  have hgd7 := hgd6.below b7
  have hB7 := hB6.trans (b7.mono hB6.size)
  obtain ⟨c0, c1, _, _⟩ := row_at kd7
  have hO := specDeskOk _ d w7 hd7 hz.dkS
  clear hd6 hL6 hgd6 hm6 kd6 kx6 hB6 b7 y0 y1 x0 x1
  gi_wp2_with fail
  refine ⟨trivial, ?_⟩
  gi_at_call 10
  refine (callsIn_wide.2 hO).mono ?_
  clear hO
  rintro e w8 ⟨rfl, b8⟩
  have kd8 := (b8.block _ (Array.getElem?_eq_some_iff.1 kd7).1).trans kd7
  have kx8 := (b8.block _ (Array.getElem?_eq_some_iff.1 kx7).1).trans kx7
  have hd8 := hd7.below b8
  have hL8 := hL7.below b8
  have hgd8 := hgd7.below b8
  have hB8 := hB7.trans (b8.mono hB7.size)
  obtain ⟨x0, x1, _, _⟩ := row_at kx8
  clear hd7 hL7 hgd7 kd7 kx7 hB7 b8 c0 c1
  by_cases hok : deskB d = true ∧ L.length ≤ 40
  · obtain ⟨hb, hl⟩ := hok
    obtain ⟨hr1, hr2, hr3⟩ := hRh.out hb hl
    rw [hb]
    have hl' : ¬ (L.length : Int) > 40 := by omega
    obtain ⟨H, hH⟩ : ∃ H, L.length / 2 = H := ⟨_, rfl⟩
    have hH2 : H ≤ L.length := by omega
    have hH3 : 0 < L.length → H < L.length := fun h => by omega
    have hq : Int.tdiv (L.length : Int) 2 = (H : Int) := by rw [Int.tdiv_eq_ediv_of_nonneg (by omega)]; omega
    have hw : IntKind.i64.wrap (H : Int) = (H : Int) := IntWalk.i64_in _ (by omega)
    have hHi : (H : Int) ≤ (lc : Int) := by omega
    have hHl : (H : Int) ≤ (L.length : Int) := by omega
    have hAr := runV_rows d (L.take H)
    rw [hH] at hr1 hr2
    have hI1 := fun V (h1 : DeskI V (.agg #[.slice xa d.1.length xc, .slice pa d.2.length pc]) d) (h2 : DeedsI V (.slice la H lc) (L.take H)) => implRun _ _ d (L.take H) V h1 hz.dkS h2 (by rw [List.length_take]; omega) (fun a ha => hf a (List.mem_of_mem_take ha))
    obtain ⟨A, hA⟩ : ∃ A, (runV d (L.take H)).1 = A := ⟨_, rfl⟩
    obtain ⟨n1, hn1⟩ : ∃ n1, (runV d (L.take H)).2 = n1 := ⟨_, rfl⟩
    rw [hA] at hr1 hr2 hAr
    rw [hn1] at hr2
    simp only [hA, hn1] at hI1
    have hI2 := fun V y u (h1 : DeskI V y A) (h2 : DeedsI V u (L.drop H)) => implRun y u A (L.drop H) V h1 hAr.dkZ.dkS h2 (by rw [List.length_drop]; omega) (fun a ha => hf a (List.mem_of_mem_drop ha))
    rw [hD] at hr1 hr3
    rw [hcn] at hr2
    obtain ⟨n2, hn2⟩ : ∃ n2, (runV A (L.drop H)).2 = n2 := ⟨_, rfl⟩
    rw [hn2] at hr2
    simp only [hr1, hn2] at hI2
    have hnn : (n1 : Int) + (n2 : Int) = (cn : Int) := by omega
    have hcl := hide hcn
    have hn40 : cn ≤ 40 := by
      rw [← hcl.out]
      unfold runV
      rw [if_pos ⟨hb, hl⟩]
      have := runL_le L d
      omega
    have hwn : IntKind.i64.wrap (cn : Int) = (cn : Int) := IntWalk.i64_in _ (by omega)
    have hArow := hAr.1
    have hDrow := hro.1
    have hI1h := hide hI1
    have hI2h := hide hI2
    clear hI1 hI2 hA hn1 hn2 hD hcn hcl hH hr1 hr2 hRh hf
    gi_wp2
    refine wpIn_region_madeP 4 A.1.length A.2.length [(some 64, 0), (some 65, 1), (some 66, 2), (some 67, 3), (some 68, 4), (some 63, 5), (some 69, 6), (some 70, 7), (some 10, 8), (none, 9)] (.int .i64 (n1 : Int)) (fun V y => DeskI V y A) (by kernel_rfl) (by kernel_rfl) (by kernel_rfl) (by decide) (by kernel_rfl) (by kernel_rfl) (by rfl) (by decide)
      (fun i v V => match i with | 0 => v = .agg #[.slice xa d.1.length xc, .slice pa d.2.length pc] | 1 => v = .slice la L.length lc | 2 => v = .int .i64 H | 3 => v = .slice la H lc | _ => True)
      (fun i v V V' h hb => match i, h with | 0, h => h | 1, h => h | 2, h => h | 3, h => h | (_ + 4), _ => trivial)
      (fun V V' y h hB => h.below hB)
      (fun V b' a1 c1 a2 c2 h _ hz => deskI_store h rfl hz hArow)
      ?step ?call ?move ?ext0 ?ext1 ?allo ?stor ?tail
    case step =>
      rintro i oo s V hi ho hV hd Q' hQ
      obtain ⟨c0, c1, _, _⟩ := row_at ((hV.block _ (Array.getElem?_eq_some_iff.1 kd8).1).trans kd8)
      rcases (show i = 0 ∨ i = 1 ∨ i = 2 ∨ i = 3 by omega) with rfl | rfl | rfl | rfl
      all_goals
        simp at ho
        subst ho
        simp only [putsOf, Act.put, List.setIfInBounds_toArray, List.set_cons_succ, List.set_cons_zero] at hQ ⊢
        have hQ' := hide hQ
        clear hQ
      · clear hd
        gi_wp2
        exact hQ'.out _ _ (Below.refl _ _) rfl
      · clear hd
        gi_wp2
        exact hQ'.out _ _ (Below.refl _ _) rfl
      · clear hd
        gi_wp2
        exact hQ'.out _ _ (Below.refl _ _) rfl
      · have e1 : s 1 = .slice la L.length lc := hd 1 (by decide) (by kernel_rfl)
        have e2 : s 2 = .int .i64 H := hd 2 (by decide) (by kernel_rfl)
        clear hd
        gi_wp2
        have hr := hQ'.out
        simp only [e1, e2] at hr ⊢
        exact hr _ _ (Below.refl _ _) rfl
    case call =>
      rintro oo s V ho hV hd Q' hQ
      obtain ⟨c0, c1, _, _⟩ := row_at ((hV.block _ (Array.getElem?_eq_some_iff.1 kd8).1).trans kd8)
      simp at ho
      subst ho
      simp only [putsOf, Act.put, List.setIfInBounds_toArray, List.set_cons_succ, List.set_cons_zero] at hQ ⊢
      have hQ' := hide hQ
      clear hQ
      have e1 : s 0 = .agg #[.slice xa d.1.length xc, .slice pa d.2.length pc] := hd 0 (by decide) (by kernel_rfl)
      have e2 : s 3 = .slice la H lc := hd 3 (by decide) (by kernel_rfl)
      have hS := hI1h.out V (hd8.below hV) (deeds_take (hL8.below hV) H hH2)
      clear hd
      gi_wp2_with (refine ⟨trivial, ?_⟩; gi_at_call 18; go_loud (refine (callsIn_wide.2 hS).mono ?_; rintro e W9 ⟨y9, rfl, hy9, hB9⟩))
      obtain ⟨y1, y2, y3, y4, rfl⟩ := hy9.form
      have hr := hQ'.out
      simp only [e1, e2] at hr ⊢
      exact hr _ _ _ _ _ hB9 hy9.deskI
    case move =>
      rintro oo s V y Q' ho hs hQ
      simp at ho
      subst ho
      simp only [putsOf, Act.put, List.setIfInBounds_toArray, List.set_cons_succ, List.set_cons_zero] at hQ ⊢
      have hQ' := hide hQ
      clear hQ
      gi_wp2
      have hr := hQ'.out
      simp only [hs] at hr ⊢
      exact hr
    case ext0 =>
      rintro oo s V y z Q' ho hs hQ
      simp at ho
      subst ho
      simp only [putsOf, Act.put, List.setIfInBounds_toArray, List.set_cons_succ, List.set_cons_zero] at hQ ⊢
      have hQ' := hide hQ
      clear hQ
      replace hs : s 5 = .tuple #[y, z] := hs
      gi_wp2
      have hr := hQ'.out
      simp only [hs] at hr ⊢
      exact hr
    case ext1 =>
      rintro oo s V y z Q' ho hs hQ
      simp at ho
      subst ho
      simp only [putsOf, Act.put, List.setIfInBounds_toArray, List.set_cons_succ, List.set_cons_zero] at hQ ⊢
      have hQ' := hide hQ
      clear hQ
      replace hs : s 5 = .tuple #[y, z] := hs
      gi_wp2
      have hr := hQ'.out
      simp only [hs] at hr ⊢
      exact hr
    case allo =>
      rintro oo s V Q' ho hQ
      simp at ho
      subst ho
      simp only [putsOf, Act.put, List.setIfInBounds_toArray, List.set_cons_succ, List.set_cons_zero] at hQ ⊢
      have hQ' := hide hQ
      clear hQ
      gi_wp2
      exact hQ'.out
    case stor =>
      rintro oo s V b' a1 c1 a2 c2 Q' ho hs1 hs2 hz hQ
      obtain ⟨z0, z1, z2, z3⟩ := row_at hz
      simp at ho
      subst ho
      simp only [putsOf, Act.put, List.setIfInBounds_toArray, List.set_cons_succ, List.set_cons_zero] at hQ ⊢
      have hQ' := hide hQ
      clear hQ
      replace hs1 : s 8 = .pointer (some ⟨b', 0, none⟩) := hs1
      replace hs2 : s 6 = .agg #[.slice a1 A.1.length c1, .slice a2 A.2.length c2] := hs2
      gi_wp2
      have hr := hQ'.out
      simp only [hs1, hs2] at hr ⊢
      exact hr
    case tail =>
      rintro s w9 b t1 t2 t3 t4 hV f8 hb8 ka hA9 f7
      replace f8 : s 8 = .pointer (some ⟨b, 0, none⟩) := f8
      replace f7 : s 7 = (.int .i64 (n1 : Int)) := f7
      have kd9 := (hV.block _ (Array.getElem?_eq_some_iff.1 kd8).1).trans kd8
      have kx9 := (hV.block _ (Array.getElem?_eq_some_iff.1 kx8).1).trans kx8
      have hL9 := hL8.below hV
      have hg9 := hgd8.below hV
      have hB9 := hB8.trans (hV.mono hB8.size)
      clear hd8 hL8 hgd8 hB8 kd8 kx8 hV
      simp only [putsOf, Act.put, List.setIfInBounds_toArray, List.set_cons_succ, List.set_cons_zero]
      simp only [List.drop_succ_cons, List.drop_zero]
      simp only [f7, f8]
      gi_wp2
      refine wpIn_region_madeP 4 D.1.length D.2.length [(some 72, 0), (some 73, 1), (some 74, 2), (some 75, 3), (some 76, 4), (some 71, 5), (some 77, 6), (some 78, 7), (some 12, 8), (none, 9)] (.int .i64 (n2 : Int)) (fun V y => DeskI V y D) (by kernel_rfl) (by kernel_rfl) (by kernel_rfl) (by decide) (by kernel_rfl) (by kernel_rfl) (by rfl) (by decide)
        (fun i v V => match i with | 0 => v = .agg #[.slice t1 A.1.length t2, .slice t3 A.2.length t4] | 1 => v = .slice la L.length lc | 2 => v = .int .i64 H | 3 => DeedsI V v (L.drop H) | _ => True)
        (fun i v V V' h hb => match i, h with | 0, h => h | 1, h => h | 2, h => h | 3, h => h.below hb | (_ + 4), _ => trivial)
        (fun V V' y h hB => h.below hB)
        (fun V b' a1 c1 a2 c2 h _ hz => deskI_store h rfl hz hDrow)
        ?step ?call ?move ?ext0 ?ext1 ?allo ?stor ?tail
      case step =>
        rintro i oo s V hi ho hV hd Q' hQ
        obtain ⟨q0, q1, _, _⟩ := row_at ((hV.block _ (Array.getElem?_eq_some_iff.1 ka).1).trans ka)
        rcases (show i = 0 ∨ i = 1 ∨ i = 2 ∨ i = 3 by omega) with rfl | rfl | rfl | rfl
        all_goals
          simp at ho
          subst ho
          simp only [putsOf, Act.put, List.setIfInBounds_toArray, List.set_cons_succ, List.set_cons_zero] at hQ ⊢
          have hQ' := hide hQ
          clear hQ
        · clear hd
          gi_wp2
          exact hQ'.out _ _ (Below.refl _ _) rfl
        · clear hd
          gi_wp2
          exact hQ'.out _ _ (Below.refl _ _) rfl
        · clear hd
          gi_wp2
          exact hQ'.out _ _ (Below.refl _ _) rfl
        · have e1 : s 1 = .slice la L.length lc := hd 1 (by decide) (by kernel_rfl)
          have e2 : s 2 = .int .i64 H := hd 2 (by decide) (by kernel_rfl)
          clear hd
          rcases Nat.eq_zero_or_pos L.length with h0 | h0
          · have hL0 : L = [] := List.length_eq_zero_iff.1 h0
            subst hL0
            obtain rfl : H = 0 := by simpa using hH2
            simp only [List.length_nil] at e1 e2
            gi_wp2
            have hr := hQ'.out
            simp only [e1, e2] at hr ⊢
            exact hr _ _ (Below.refl _ _) ⟨la, lc, rfl, fun h => absurd h (Nat.lt_irrefl 0)⟩
          · obtain ⟨g, rfl⟩ := hla h0
            have hH4 := hH3 h0
            have hcH : ¬ lc = H := by omega
            have hcH2 : ¬ (lc : Int) = (H : Int) := by omega
            gi_wp2
            have hr := hQ'.out
            simp only [e1, e2] at hr ⊢
            exact hr _ _ (Below.refl _ _) (deeds_drop (hL9.below hV) H hH2)
      case call =>
        rintro oo s V ho hV hd Q' hQ
        obtain ⟨q0, q1, _, _⟩ := row_at ((hV.block _ (Array.getElem?_eq_some_iff.1 ka).1).trans ka)
        simp at ho
        subst ho
        simp only [putsOf, Act.put, List.setIfInBounds_toArray, List.set_cons_succ, List.set_cons_zero] at hQ ⊢
        have hQ' := hide hQ
        clear hQ
        have e1 : s 0 = .agg #[.slice t1 A.1.length t2, .slice t3 A.2.length t4] := hd 0 (by decide) (by kernel_rfl)
        have e2 : DeedsI V (s 3) (L.drop H) := hd 3 (by decide) (by kernel_rfl)
        have hS := hI2h.out V _ _ (hA9.below hV) e2
        clear hd
        gi_wp2_with (refine ⟨trivial, ?_⟩; gi_at_call 18; go_loud (refine (callsIn_wide.2 hS).mono ?_; rintro e W9 ⟨y9, rfl, hy9, hB9⟩))
        obtain ⟨y1, y2, y3, y4, rfl⟩ := hy9.form
        have hr := hQ'.out
        simp only [e1] at hr ⊢
        exact hr _ _ _ _ _ hB9 hy9.deskI
      case move =>
        rintro oo s V y Q' ho hs hQ
        simp at ho
        subst ho
        simp only [putsOf, Act.put, List.setIfInBounds_toArray, List.set_cons_succ, List.set_cons_zero] at hQ ⊢
        have hQ' := hide hQ
        clear hQ
        gi_wp2
        have hr := hQ'.out
        simp only [hs] at hr ⊢
        exact hr
      case ext0 =>
        rintro oo s V y z Q' ho hs hQ
        simp at ho
        subst ho
        simp only [putsOf, Act.put, List.setIfInBounds_toArray, List.set_cons_succ, List.set_cons_zero] at hQ ⊢
        have hQ' := hide hQ
        clear hQ
        replace hs : s 5 = .tuple #[y, z] := hs
        gi_wp2
        have hr := hQ'.out
        simp only [hs] at hr ⊢
        exact hr
      case ext1 =>
        rintro oo s V y z Q' ho hs hQ
        simp at ho
        subst ho
        simp only [putsOf, Act.put, List.setIfInBounds_toArray, List.set_cons_succ, List.set_cons_zero] at hQ ⊢
        have hQ' := hide hQ
        clear hQ
        replace hs : s 5 = .tuple #[y, z] := hs
        gi_wp2
        have hr := hQ'.out
        simp only [hs] at hr ⊢
        exact hr
      case allo =>
        rintro oo s V Q' ho hQ
        simp at ho
        subst ho
        simp only [putsOf, Act.put, List.setIfInBounds_toArray, List.set_cons_succ, List.set_cons_zero] at hQ ⊢
        have hQ' := hide hQ
        clear hQ
        gi_wp2
        exact hQ'.out
      case stor =>
        rintro oo s V b' a1 c1 a2 c2 Q' ho hs1 hs2 hz hQ
        obtain ⟨z0, z1, z2, z3⟩ := row_at hz
        simp at ho
        subst ho
        simp only [putsOf, Act.put, List.setIfInBounds_toArray, List.set_cons_succ, List.set_cons_zero] at hQ ⊢
        have hQ' := hide hQ
        clear hQ
        replace hs1 : s 8 = .pointer (some ⟨b', 0, none⟩) := hs1
        replace hs2 : s 6 = .agg #[.slice a1 D.1.length c1, .slice a2 D.2.length c2] := hs2
        gi_wp2
        have hr := hQ'.out
        simp only [hs1, hs2] at hr ⊢
        exact hr
      case tail =>
        rintro s w10 bc u1 u2 u3 u4 hV f8 hbc kc hC10 f7
        replace f8 : s 8 = .pointer (some ⟨bc, 0, none⟩) := f8
        replace f7 : s 7 = (.int .i64 (n2 : Int)) := f7
        have kx10 := (hV.block _ (Array.getElem?_eq_some_iff.1 kx9).1).trans kx9
        have hg10 := hg9.below hV
        have hB10 := hB9.trans (hV.mono hB9.size)
        obtain ⟨x0, x1, _, _⟩ := row_at kx10
        have hO := implDeskOk _ D w10 hg10 hro.dkZ.dkS
        rw [hr3] at hO
        clear hL9 hg9 hB9 kd9 kx9 hV ka hA9
        simp only [putsOf, Act.put, List.setIfInBounds_toArray, List.set_cons_succ, List.set_cons_zero]
        simp only [List.drop_succ_cons, List.drop_zero]
        simp only [f7, f8]
        gi_wp2_with fail
        refine ⟨trivial, ?_⟩
        gi_at_call 9
        refine (callsIn_wide.2 hO).mono ?_
        rintro e w11 ⟨rfl, b11⟩
        obtain ⟨x0, x1, _, _⟩ := row_at ((b11.block _ (Array.getElem?_eq_some_iff.1 kx10).1).trans kx10)
        obtain ⟨u0, u5, _, _⟩ := row_at ((b11.block _ (Array.getElem?_eq_some_iff.1 kc).1).trans kc)
        have hSd := sameDesk_in _ _ D w11 hsz (hC10.below b11) (hg10.below b11)
        clear hC10 hg10 kx10 kc hO
        gi_wp2_with (refine ⟨trivial, ?_⟩; gi_at_call 15; go_loud (refine (callsIn_wide.2 hSd).mono ?_; clear hSd; rintro e w12 ⟨rfl, b12⟩))
        go_ret
        exact ⟨rfl, hB10.trans ((b11.trans (b12.mono b11.size)).mono hB10.size)⟩
  · have hV : runV d L = (([], []), 0) := by unfold runV; rw [if_neg hok]
    have hD0 : D = ([], []) := by rw [← hD, hV]
    have hc0 : cn = 0 := by rw [← hcn, hV]
    subst hD0
    subst hc0
    have hNo := noDesk_in _ w8 hgd8
    clear hRh hD hcn hV
    cases hb : deskB d with
    | false =>
      gi_wp2_with (first
        | (refine ⟨trivial, ?_⟩; gi_at_call 20; go_loud (refine (callsIn_wide.2 hNo).mono ?_; clear hNo; rintro e w9 ⟨rfl, b9⟩))
        | (refine ⟨trivial, ?_⟩; gi_at_call 11; go_loud (refine (callsIn_wide.2 (alive_in _)).mono ?_; rintro e w10 ⟨rfl, b10⟩)))
      go_ret
      exact ⟨rfl, hB8.trans ((b9.trans (b10.mono b9.size)).mono hB8.size)⟩
    | true =>
      have hl' : (L.length : Int) > 40 := by
        rcases Nat.lt_or_ge 40 L.length with h | h
        · omega
        · exact absurd ⟨hb, h⟩ hok
      gi_wp2_with (first
        | (refine ⟨trivial, ?_⟩; gi_at_call 20; go_loud (refine (callsIn_wide.2 hNo).mono ?_; clear hNo; rintro e w9 ⟨rfl, b9⟩))
        | (refine ⟨trivial, ?_⟩; gi_at_call 11; go_loud (refine (callsIn_wide.2 (alive_in _)).mono ?_; rintro e w10 ⟨rfl, b10⟩)))
      go_ret
      exact ⟨rfl, hB8.trans ((b9.trans (b10.mono b9.size)).mono hB8.size)⟩
end Go.Proofs.Ytimnhedjapakhaa
