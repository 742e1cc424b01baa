/-
  The walk of the law on TurnedOf.
-/
import Derived.Test.YtlkcdcmmcjkedaaLaws9
import Derived.Test.YtlkcdcmmcjkedaaRegVals
namespace Go.Proofs.Ytlkcdcmmcjkedaa
open Go.RowKit Go.BigFrame

set_option maxRecDepth 100000 in
set_option maxHeartbeats 20000000 in
theorem lawTurned (a0 : Option Addr) (len0 cap0 : Nat) (z0 : List Int) (w : World) (w0 : IsRow .u8 w a0 len0 cap0 z0) :
    Calls Try.prog 9 #[.slice a0 len0 cap0] w fun e w' => e = .returned (.bool true) ∧ Below w.heap.size w w' := by
  by_cases hbig : 1048576 < len0
  · go_enter Try.func9, Try.ntmps9
    go_wp2
    go_ret
    exact ⟨rfl, Below.refl _ _⟩
  · go_enter Try.func9, Try.ntmps9
    go_wp2_with fail
    go_at_call 40
    refine (drawTurned w a0 len0 cap0 z0 w0).mono ?_
    rintro e w1 ⟨⟨v, xs, rfl, hv, hlies, hxl⟩, hB1⟩
    have hI := implTurned v xs w1 hv hlies (by omega)
    have hS : ∀ W, Below w1.heap.size w1 W → Calls Try.prog 41 #[v] W fun e w' => ∃ r, e = .returned r ∧ w'.ownsRow W.heap.size 3 1 r (turnV xs).length ((turnV xs).map (Value.int .i64)) ∧ Below W.heap.size W w' := fun W h => specTurned v xs W (hv.below h) hlies (by omega)
    have hO : ∀ W, Below w1.heap.size w1 W → Calls Try.prog 24 #[v] W fun e w' => e = .returned (.bool (sideB xs)) ∧ Below W.heap.size W w' := fun W h => implSide v xs W (hv.below h) (by omega)
    have hTl := turnV_len xs
    go_wp2_with fail
    go_at_call 36
    refine hI.mono ?_
    rintro e w2 ⟨r, rfl, hown2, b2⟩
    have hD2 := b2
    have hr2 := Ints.of_owns hown2
    have hl2 := Lies.of_owns hown2
    clear hI hown2
    go_wp2_with fail
    go_at_call 41
    refine (hS _ hD2).mono ?_
    rintro e w3 ⟨r', rfl, hown3, b3⟩
    have hD3 := hD2.trans (b3.mono hD2.size)
    have hr3 := hr2.below b3
    clear hS
    go_wp2_with fail
    go_at_call 19
    refine (sameInts_in r r' _ w3 (by omega) hr3 (Ints.of_owns hown3)).mono ?_
    rintro e w4 ⟨rfl, b4⟩
    have hD4 := hD3.trans (b4.mono hD3.size)
    have hr4 := hr3.below b4
    clear hown3 hr2 hr3 b3 b4 hD3
    cases hside : sideB xs with
    | false =>
      rw [hside] at hO
      obtain ⟨a, c, rfl⟩ := hr4.shape
      rw [turnV_no hside]
      clear hv hlies hside hr4
      go_wp2_with (first | (go_at_call 24; refine (hO _ hD4).mono ?_; rintro e w5 ⟨rfl, b5⟩; have hD5 := hD4.trans (b5.mono hD4.size)) | (go_at_call 21; refine (alive_in _).mono ?_; rintro e w6 ⟨rfl, b6⟩; have hD6 := hD5.trans (b6.mono hD5.size)))
      go_ret
      exact ⟨rfl, hB1.trans (hD6.mono hB1.size)⟩
    | true =>
      have hlen := sideB_len hside
      have hf := side_bit hside
      have hz := stL_zero hside
      have hsl := side_le hf xs.length
      have hsl2 := side_le hsl xs.length
      have e1 : turnV xs = stL (side (natL xs) xs.length) 0 xs.length := by
        have := turnV_stL hf hlen.1 hlen.2
        rwa [hz] at this
      have e2 := turnV_stL hsl hlen.1 hlen.2
      have e3 : turnV (stL (side (side (natL xs) xs.length) xs.length) 0 xs.length) = xs := by
        rw [turnV_stL hsl2 hlen.1 hlen.2]
        refine Eq.trans ?_ hz
        unfold stL
        refine List.map_congr_left fun k hk => ?_
        have hk' := List.mem_range.1 hk
        have := side_three hf xs.length k hk'
        simp only [st]
        rw [this]
      have o1 : onesV (stL (side (natL xs) xs.length) 0 xs.length) = (tot (st (natL xs)) xs.length : Nat) := by rw [onesV_stL hsl hlen.1 hlen.2, ones_side hf]
      have o2 := onesV_yes hside
      have l2 := endV_yes hside
      rw [e1] at hr4
      obtain ⟨gx, cx, rfl, hgx, hcx⟩ := hr4.cells (by rw [stL_len]; omega)
      have hv4 := hv.below hD4
      obtain ⟨g, cap, rfl, hg, hc⟩ := hv4.cells hlen.1
      rw [stL_len] at hcx hr4 hl2 ⊢
      obtain ⟨T, hT⟩ : ∃ T, tot (st (natL xs)) xs.length = T := ⟨_, rfl⟩
      obtain ⟨A, hA⟩ : ∃ A, natL xs (xs.length - 1) = A := ⟨_, rfl⟩
      obtain ⟨E, hE⟩ : ∃ E, st (natL xs) (xs.length - 1) 0 = E := ⟨_, rfl⟩
      rw [hT] at o1 o2
      rw [hE] at l2
      have hc0 : ∀ W, Below w4.heap.size w4 W → W.cell? ⟨gx, 0, none⟩ = some (.int .i64 A) := fun W h => (h.cell (p := ⟨gx, 0, none⟩) hgx).trans (by
        rw [hcx 0 (by omega), stL_getD _ 0 _ 0 (by omega), ← hA]
        show some (Value.int .i64 ((side (natL xs) xs.length 0 : Nat) : Int)) = _
        unfold side; rw [Nat.sub_zero]; rfl)
      have hc1 : ∀ W, Below w4.heap.size w4 W → W.cell? ⟨g, xs.length - 1, none⟩ = some (.int .i64 A) := fun W h => (h.cell (p := ⟨g, xs.length - 1, none⟩) hg).trans (by
        rw [hc (xs.length - 1) (by omega), side_get hside (by omega), hA])
      have hc2 : ∀ W, Below w4.heap.size w4 W → W.cell? ⟨gx, xs.length - 1, none⟩ = some (.int .i64 E) := fun W h => (h.cell (p := ⟨gx, xs.length - 1, none⟩) hgx).trans (by
        rw [hcx (xs.length - 1) (by omega), stL_getD _ 0 _ _ (by omega), ← hE]
        show some (Value.int .i64 ((side (natL xs) xs.length (xs.length - 1) : Nat) : Int)) = _
        unfold side; rw [Nat.sub_self])
      obtain ⟨Y, hY⟩ : ∃ Y, stL (side (side (natL xs) xs.length) xs.length) 0 xs.length = Y := ⟨_, rfl⟩
      have hYl : Y.length = xs.length := by rw [← hY, stL_len]
      rw [hY] at e2 e3
      have hT1 : ∀ W, Below w4.heap.size w4 W → Calls Try.prog 36 #[.slice (some ⟨gx, 0, none⟩) xs.length cx] W fun e w' => ∃ r, e = .returned r ∧ w'.ownsRow W.heap.size 3 1 r Y.length (Y.map (Value.int .i64)) ∧ Below W.heap.size W w' := fun W h => e2 ▸ implTurned _ _ W (hr4.below h) hl2 (by rw [stL_len]; omega)
      have hT2 : ∀ W, Below w4.heap.size w4 W → ∀ v, Ints W v Y → Lies v → Calls Try.prog 36 #[v] W fun e w' => ∃ r, e = .returned r ∧ w'.ownsRow W.heap.size 3 1 r xs.length (xs.map (Value.int .i64)) ∧ Below W.heap.size W w' := fun W _ v hv hl => e3 ▸ implTurned v Y W hv hl (by omega)
      have hEq : ∀ W, Below w4.heap.size w4 W → ∀ v, Ints W v xs → Calls Try.prog 19 #[v, .slice (some ⟨g, 0, none⟩) xs.length cap] W fun e w' => e = .returned (.bool true) ∧ Below W.heap.size W w' := fun W h v hv => sameInts_in v _ xs W (by omega) hv (hv4.below h)
      have hO1 : ∀ W, Below w4.heap.size w4 W → Calls Try.prog 34 #[.slice (some ⟨gx, 0, none⟩) xs.length cx] W fun e w' => e = .returned (.int .i64 T) ∧ Below W.heap.size W w' := fun W h => o1 ▸ implOnes _ _ W (hr4.below h) hl2 (by rw [stL_len]; omega)
      have hO2 : ∀ W, Below w4.heap.size w4 W → Calls Try.prog 34 #[.slice (some ⟨g, 0, none⟩) xs.length cap] W fun e w' => e = .returned (.int .i64 T) ∧ Below W.heap.size W w' := fun W h => o2 ▸ implOnes _ xs W (hv4.below h) hlies (by omega)
      have hL : ∀ W, Below w4.heap.size w4 W → Calls Try.prog 38 #[.slice (some ⟨g, 0, none⟩) xs.length cap] W fun e w' => e = .returned (.int .i64 E) ∧ Below W.heap.size W w' := fun W h => l2 ▸ implEnd _ xs W (hv4.below h) hlies (by omega)
      have hxn : Hid (xs.length = xs.length) := hide rfl
      clear hv hv4 hr4 hc hcx hside hf hz hsl hsl2 e1 e2 e3 o1 o2 l2 hY hT hA hE hO hTl hl2 hlies
      generalize xs.length = n at *
      have hn0 : ((n : Int) == 0) = false := by rw [beq_eq_false_iff_ne]; omega
      have hn1 : ¬ (n : Int) = 0 := by omega
      have k0 : (0 : Int) < (n : Int) := by omega
      have k1 : (0 : Int) ≤ (n : Int) - 1 := by omega
      have k2 : ((n : Int) - 1).toNat = n - 1 := by omega
      have k3 : (n : Int) - 1 < (n : Int) := by omega
      have k4 : IntKind.i64.wrap ((n : Int) - 1) = (n : Int) - 1 := IntWalk.i64_in _ (by omega)
      go_upto_region 9 with fail
      -- the region
      refine wp_region_vals w4 (by kernel_rfl) (by kernel_rfl) (Below.refl _ _)
        (fun s => { tmps := #[.slice a0 len0 cap0, undef, s 42, .slice (some ⟨g, 0, none⟩) n cap, .slice (some ⟨gx, 0, none⟩) n cx, .slice a0 len0 cap0, .int .i64 len0, .bool (decide (1048576 < (len0 : Int))), .slice a0 len0 cap0, .slice (some ⟨g, 0, none⟩) n cap, .slice (some ⟨g, 0, none⟩) n cap, .slice (some ⟨gx, 0, none⟩) n cx, .slice (some ⟨gx, 0, none⟩) n cx, .slice (some ⟨g, 0, none⟩) n cap, r', .bool true, .bool false, .slice (some ⟨gx, 0, none⟩) n cx, .int .i64 n, .bool false, undef, undef, undef, undef, undef, undef, s 0, s 1, s 2, s 3, s 4, s 5, s 6, s 7, s 8, s 9, s 10, s 11, s 12, s 13, s 14, s 15, s 16, s 17, s 18, s 19, s 20, s 21, s 22, s 23, s 24, s 25, s 26, s 27, s 28, s 29, s 30, s 31, s 32, s 33, s 34, s 35, s 36, s 37, s 38, s 39, s 40, s 41], defers := [] })
        [.val (.slice (some ⟨gx, 0, none⟩) n cx), .ints (Y), .ints (xs), .val (.slice (some ⟨g, 0, none⟩) n cap), .val (.bool true), .val (.bool true), .val (.slice (some ⟨gx, 0, none⟩) n cx), .val (.int .i64 T), .val (.slice (some ⟨g, 0, none⟩) n cap), .val (.int .i64 T), .val (.bool true), .val (.bool true), .val (.bool true), .val (.slice (some ⟨gx, 0, none⟩) n cx), .val (.pointer (some ⟨gx, 0, none⟩)), .val (.int .i64 A), .val (.slice (some ⟨g, 0, none⟩) n cap), .val (.slice (some ⟨g, 0, none⟩) n cap), .val (.int .i64 n), .val (.int .i64 ((n : Int) - 1)), .val (.pointer (some ⟨g, n - 1, none⟩)), .val (.int .i64 A), .val (.bool true), .val (.bool true), .val (.bool true), .val (.slice (some ⟨gx, 0, none⟩) n cx), .val (.slice (some ⟨gx, 0, none⟩) n cx), .val (.int .i64 n), .val (.int .i64 ((n : Int) - 1)), .val (.pointer (some ⟨gx, n - 1, none⟩)), .val (.int .i64 E), .val (.slice (some ⟨g, 0, none⟩) n cap), .val (.int .i64 E), .val (.bool true), .val (.bool true), .val (.bool true), .val (.slice (some ⟨gx, 0, none⟩) n cx), .val (.int .i64 n), .val (.slice (some ⟨g, 0, none⟩) n cap), .val (.int .i64 n), .val (.bool true), .val (.bool true), .val (.bool true)] ?h0 ?put ?step ?fin
      case h0 => exact ⟨fun j => if j = 42 then .bool false else undef, by simp⟩
      case put =>
        intro i o s v ho
        have hi : i < 43 := (Array.getElem?_eq_some_iff.1 ho).1
        rcases (show i = 0 ∨ i = 1 ∨ i = 2 ∨ i = 3 ∨ i = 4 ∨ i = 5 ∨ i = 6 ∨ i = 7 ∨ i = 8 ∨ i = 9 ∨ i = 10 ∨ i = 11 ∨ i = 12 ∨ i = 13 ∨ i = 14 ∨ i = 15 ∨ i = 16 ∨ i = 17 ∨ i = 18 ∨ i = 19 ∨ i = 20 ∨ i = 21 ∨ i = 22 ∨ i = 23 ∨ i = 24 ∨ i = 25 ∨ i = 26 ∨ i = 27 ∨ i = 28 ∨ i = 29 ∨ i = 30 ∨ i = 31 ∨ i = 32 ∨ i = 33 ∨ i = 34 ∨ i = 35 ∨ i = 36 ∨ i = 37 ∨ i = 38 ∨ i = 39 ∨ i = 40 ∨ i = 41 ∨ i = 42 by omega) with rfl | rfl | rfl | rfl | rfl | rfl | rfl | rfl | rfl | rfl | rfl | rfl | rfl | rfl | rfl | rfl | rfl | rfl | rfl | rfl | rfl | rfl | rfl | rfl | rfl | rfl | rfl | rfl | rfl | rfl | rfl | rfl | rfl | rfl | rfl | rfl | rfl | rfl | rfl | rfl | rfl | rfl | rfl
        all_goals
          simp at ho
          subst ho
          simp [Act.put]
      case step =>
        intro i o s W ho hW hd Q' hQ'
        have hi : i < 43 := (Array.getElem?_eq_some_iff.1 ho).1
        rcases (show i = 0 ∨ i = 1 ∨ i = 2 ∨ i = 3 ∨ i = 4 ∨ i = 5 ∨ i = 6 ∨ i = 7 ∨ i = 8 ∨ i = 9 ∨ i = 10 ∨ i = 11 ∨ i = 12 ∨ i = 13 ∨ i = 14 ∨ i = 15 ∨ i = 16 ∨ i = 17 ∨ i = 18 ∨ i = 19 ∨ i = 20 ∨ i = 21 ∨ i = 22 ∨ i = 23 ∨ i = 24 ∨ i = 25 ∨ i = 26 ∨ i = 27 ∨ i = 28 ∨ i = 29 ∨ i = 30 ∨ i = 31 ∨ i = 32 ∨ i = 33 ∨ i = 34 ∨ i = 35 ∨ i = 36 ∨ i = 37 ∨ i = 38 ∨ i = 39 ∨ i = 40 ∨ i = 41 ∨ i = 42 by omega) with rfl | rfl | rfl | rfl | rfl | rfl | rfl | rfl | rfl | rfl | rfl | rfl | rfl | rfl | rfl | rfl | rfl | rfl | rfl | rfl | rfl | rfl | rfl | rfl | rfl | rfl | rfl | rfl | rfl | rfl | rfl | rfl | rfl | rfl | rfl | rfl | rfl | rfl | rfl | rfl | rfl | rfl | rfl
        all_goals
          simp at ho
          subst ho
          simp [Act.put] at hQ'
          have hQ := hide hQ'
          clear hQ' 
        case inl =>
          clear hd
          gi_wp2
          have hr := hQ.out
          exact hr _ W hW (Below.refl _ _) rfl
        case inr.inl =>
          have e0 : s 0 = .slice (some ⟨gx, 0, none⟩) n cx := hd 0 (by kernel_rfl)
          have hcall := hT1 W hW
          clear hd
          gi_wp2_with (refine ⟨trivial, ?_⟩; gi_at_call 36; refine (callsIn_wide.2 hcall).mono ?_; clear hcall; rintro e W' ⟨r, rfl, hown, hb⟩)
          have hr := hQ.out
          try simp only [e0] at hr
          exact hr _ W' (hW.trans (hb.mono hW.size)) hb ⟨Ints.of_owns hown, Lies.of_owns hown⟩
        case inr.inr.inl =>
          obtain ⟨i1, l1⟩ : Ints W (s 1) (Y) ∧ Lies (s 1) := hd 1 (by kernel_rfl)
          have hcall := hT2 W hW _ i1 l1
          clear hd
          gi_wp2_with (refine ⟨trivial, ?_⟩; gi_at_call 36; refine (callsIn_wide.2 hcall).mono ?_; clear hcall; rintro e W' ⟨r, rfl, hown, hb⟩)
          have hr := hQ.out
          exact hr _ W' (hW.trans (hb.mono hW.size)) hb ⟨Ints.of_owns hown, Lies.of_owns hown⟩
        case inr.inr.inr.inl =>
          clear hd
          gi_wp2
          have hr := hQ.out
          exact hr _ W hW (Below.refl _ _) rfl
        case inr.inr.inr.inr.inl =>
          obtain ⟨i2, l2⟩ : Ints W (s 2) (xs) ∧ Lies (s 2) := hd 2 (by kernel_rfl)
          have e3 : s 3 = .slice (some ⟨g, 0, none⟩) n cap := hd 3 (by kernel_rfl)
          have hcall := hEq W hW _ i2
          clear hd
          gi_wp2_with (refine ⟨trivial, ?_⟩; gi_at_call 19; refine (callsIn_wide.2 hcall).mono ?_; clear hcall; rintro e W' ⟨rfl, hb⟩)
          have hr := hQ.out
          try simp only [e3] at hr
          exact hr _ W' (hW.trans (hb.mono hW.size)) hb rfl
        case inr.inr.inr.inr.inr.inl =>
          have e4 : s 4 = .bool true := hd 4 (by kernel_rfl)
          clear hd
          gi_wp2
          have hr := hQ.out
          try simp only [e4] at hr
          exact hr _ W hW (Below.refl _ _) rfl
        case inr.inr.inr.inr.inr.inr.inl =>
          have e5 : s 5 = .bool true := hd 5 (by kernel_rfl)
          clear hd
          gi_wp2
          have hr := hQ.out
          try simp only [e5] at hr
          exact hr _ W hW (Below.refl _ _) rfl
        case inr.inr.inr.inr.inr.inr.inr.inl =>
          have e5 : s 5 = .bool true := hd 5 (by kernel_rfl)
          have e6 : s 6 = .slice (some ⟨gx, 0, none⟩) n cx := hd 6 (by kernel_rfl)
          have hcall := hO1 W hW
          clear hd
          gi_wp2_with (refine ⟨trivial, ?_⟩; gi_at_call 34; refine (callsIn_wide.2 hcall).mono ?_; clear hcall; rintro e W' ⟨rfl, hb⟩)
          have hr := hQ.out
          try simp only [e5, e6] at hr
          exact hr _ W' (hW.trans (hb.mono hW.size)) hb rfl
        case inr.inr.inr.inr.inr.inr.inr.inr.inl =>
          have e5 : s 5 = .bool true := hd 5 (by kernel_rfl)
          clear hd
          gi_wp2
          have hr := hQ.out
          try simp only [e5] at hr
          exact hr _ W hW (Below.refl _ _) rfl
        case inr.inr.inr.inr.inr.inr.inr.inr.inr.inl =>
          have e5 : s 5 = .bool true := hd 5 (by kernel_rfl)
          have e8 : s 8 = .slice (some ⟨g, 0, none⟩) n cap := hd 8 (by kernel_rfl)
          have hcall := hO2 W hW
          clear hd
          gi_wp2_with (refine ⟨trivial, ?_⟩; gi_at_call 34; refine (callsIn_wide.2 hcall).mono ?_; clear hcall; rintro e W' ⟨rfl, hb⟩)
          have hr := hQ.out
          try simp only [e5, e8] at hr
          exact hr _ W' (hW.trans (hb.mono hW.size)) hb rfl
        case inr.inr.inr.inr.inr.inr.inr.inr.inr.inr.inl =>
          have e5 : s 5 = .bool true := hd 5 (by kernel_rfl)
          have e7 : s 7 = .int .i64 T := hd 7 (by kernel_rfl)
          have e9 : s 9 = .int .i64 T := hd 9 (by kernel_rfl)
          clear hd
          gi_wp2
          have hr := hQ.out
          try simp only [e5, e7, e9] at hr
          exact hr _ W hW (Below.refl _ _) rfl
        case inr.inr.inr.inr.inr.inr.inr.inr.inr.inr.inr.inl =>
          have e5 : s 5 = .bool true := hd 5 (by kernel_rfl)
          have e10 : s 10 = .bool true := hd 10 (by kernel_rfl)
          clear hd
          gi_wp2
          have hr := hQ.out
          try simp only [e5, e10] at hr
          exact hr _ W hW (Below.refl _ _) rfl
        case inr.inr.inr.inr.inr.inr.inr.inr.inr.inr.inr.inr.inl =>
          have e11 : s 11 = .bool true := hd 11 (by kernel_rfl)
          clear hd
          gi_wp2
          have hr := hQ.out
          try simp only [e11] at hr
          exact hr _ W hW (Below.refl _ _) rfl
        case inr.inr.inr.inr.inr.inr.inr.inr.inr.inr.inr.inr.inr.inl =>
          have e12 : s 12 = .bool true := hd 12 (by kernel_rfl)
          clear hd
          gi_wp2
          have hr := hQ.out
          try simp only [e12] at hr
          exact hr _ W hW (Below.refl _ _) rfl
        case inr.inr.inr.inr.inr.inr.inr.inr.inr.inr.inr.inr.inr.inr.inl =>
          have e12 : s 12 = .bool true := hd 12 (by kernel_rfl)
          have e13 : s 13 = .slice (some ⟨gx, 0, none⟩) n cx := hd 13 (by kernel_rfl)
          clear hd
          gi_wp2
          have hr := hQ.out
          try simp only [e12, e13] at hr
          exact hr _ W hW (Below.refl _ _) rfl
        case inr.inr.inr.inr.inr.inr.inr.inr.inr.inr.inr.inr.inr.inr.inr.inl =>
          have e12 : s 12 = .bool true := hd 12 (by kernel_rfl)
          have e14 : s 14 = .pointer (some ⟨gx, 0, none⟩) := hd 14 (by kernel_rfl)
          have c1 := hc0 W hW
          clear hd
          gi_wp2
          have hr := hQ.out
          try simp only [e12, e14] at hr
          exact hr _ W hW (Below.refl _ _) rfl
        case inr.inr.inr.inr.inr.inr.inr.inr.inr.inr.inr.inr.inr.inr.inr.inr.inl =>
          have e12 : s 12 = .bool true := hd 12 (by kernel_rfl)
          clear hd
          gi_wp2
          have hr := hQ.out
          try simp only [e12] at hr
          exact hr _ W hW (Below.refl _ _) rfl
        case inr.inr.inr.inr.inr.inr.inr.inr.inr.inr.inr.inr.inr.inr.inr.inr.inr.inl =>
          have e12 : s 12 = .bool true := hd 12 (by kernel_rfl)
          clear hd
          gi_wp2
          have hr := hQ.out
          try simp only [e12] at hr
          exact hr _ W hW (Below.refl _ _) rfl
        case inr.inr.inr.inr.inr.inr.inr.inr.inr.inr.inr.inr.inr.inr.inr.inr.inr.inr.inl =>
          have e12 : s 12 = .bool true := hd 12 (by kernel_rfl)
          have e17 : s 17 = .slice (some ⟨g, 0, none⟩) n cap := hd 17 (by kernel_rfl)
          clear hd
          gi_wp2
          have hr := hQ.out
          try simp only [e12, e17] at hr
          exact hr _ W hW (Below.refl _ _) rfl
        case inr.inr.inr.inr.inr.inr.inr.inr.inr.inr.inr.inr.inr.inr.inr.inr.inr.inr.inr.inl =>
          have e12 : s 12 = .bool true := hd 12 (by kernel_rfl)
          have e18 : s 18 = .int .i64 n := hd 18 (by kernel_rfl)
          clear hd
          gi_wp2
          have hr := hQ.out
          try simp only [e12, e18] at hr
          exact hr _ W hW (Below.refl _ _) rfl
        case inr.inr.inr.inr.inr.inr.inr.inr.inr.inr.inr.inr.inr.inr.inr.inr.inr.inr.inr.inr.inl =>
          have e12 : s 12 = .bool true := hd 12 (by kernel_rfl)
          have e16 : s 16 = .slice (some ⟨g, 0, none⟩) n cap := hd 16 (by kernel_rfl)
          have e19 : s 19 = .int .i64 ((n : Int) - 1) := hd 19 (by kernel_rfl)
          clear hd
          gi_wp2
          have hr := hQ.out
          try simp only [e12, e16, e19] at hr
          exact hr _ W hW (Below.refl _ _) rfl
        case inr.inr.inr.inr.inr.inr.inr.inr.inr.inr.inr.inr.inr.inr.inr.inr.inr.inr.inr.inr.inr.inl =>
          have e12 : s 12 = .bool true := hd 12 (by kernel_rfl)
          have e20 : s 20 = .pointer (some ⟨g, n - 1, none⟩) := hd 20 (by kernel_rfl)
          have c1 := hc1 W hW
          clear hd
          gi_wp2
          have hr := hQ.out
          try simp only [e12, e20] at hr
          exact hr _ W hW (Below.refl _ _) rfl
        case inr.inr.inr.inr.inr.inr.inr.inr.inr.inr.inr.inr.inr.inr.inr.inr.inr.inr.inr.inr.inr.inr.inl =>
          have e12 : s 12 = .bool true := hd 12 (by kernel_rfl)
          have e15 : s 15 = .int .i64 A := hd 15 (by kernel_rfl)
          have e21 : s 21 = .int .i64 A := hd 21 (by kernel_rfl)
          clear hd
          gi_wp2
          have hr := hQ.out
          try simp only [e12, e15, e21] at hr
          exact hr _ W hW (Below.refl _ _) rfl
        case inr.inr.inr.inr.inr.inr.inr.inr.inr.inr.inr.inr.inr.inr.inr.inr.inr.inr.inr.inr.inr.inr.inr.inl =>
          have e12 : s 12 = .bool true := hd 12 (by kernel_rfl)
          have e22 : s 22 = .bool true := hd 22 (by kernel_rfl)
          clear hd
          gi_wp2
          have hr := hQ.out
          try simp only [e12, e22] at hr
          exact hr _ W hW (Below.refl _ _) rfl
        case inr.inr.inr.inr.inr.inr.inr.inr.inr.inr.inr.inr.inr.inr.inr.inr.inr.inr.inr.inr.inr.inr.inr.inr.inl =>
          have e23 : s 23 = .bool true := hd 23 (by kernel_rfl)
          clear hd
          gi_wp2
          have hr := hQ.out
          try simp only [e23] at hr
          exact hr _ W hW (Below.refl _ _) rfl
        case inr.inr.inr.inr.inr.inr.inr.inr.inr.inr.inr.inr.inr.inr.inr.inr.inr.inr.inr.inr.inr.inr.inr.inr.inr.inl =>
          have e24 : s 24 = .bool true := hd 24 (by kernel_rfl)
          clear hd
          gi_wp2
          have hr := hQ.out
          try simp only [e24] at hr
          exact hr _ W hW (Below.refl _ _) rfl
        case inr.inr.inr.inr.inr.inr.inr.inr.inr.inr.inr.inr.inr.inr.inr.inr.inr.inr.inr.inr.inr.inr.inr.inr.inr.inr.inl =>
          have e24 : s 24 = .bool true := hd 24 (by kernel_rfl)
          clear hd
          gi_wp2
          have hr := hQ.out
          try simp only [e24] at hr
          exact hr _ W hW (Below.refl _ _) rfl
        case inr.inr.inr.inr.inr.inr.inr.inr.inr.inr.inr.inr.inr.inr.inr.inr.inr.inr.inr.inr.inr.inr.inr.inr.inr.inr.inr.inl =>
          have e24 : s 24 = .bool true := hd 24 (by kernel_rfl)
          have e26 : s 26 = .slice (some ⟨gx, 0, none⟩) n cx := hd 26 (by kernel_rfl)
          clear hd
          gi_wp2
          have hr := hQ.out
          try simp only [e24, e26] at hr
          exact hr _ W hW (Below.refl _ _) rfl
        case inr.inr.inr.inr.inr.inr.inr.inr.inr.inr.inr.inr.inr.inr.inr.inr.inr.inr.inr.inr.inr.inr.inr.inr.inr.inr.inr.inr.inl =>
          have e24 : s 24 = .bool true := hd 24 (by kernel_rfl)
          have e27 : s 27 = .int .i64 n := hd 27 (by kernel_rfl)
          clear hd
          gi_wp2
          have hr := hQ.out
          try simp only [e24, e27] at hr
          exact hr _ W hW (Below.refl _ _) rfl
        case inr.inr.inr.inr.inr.inr.inr.inr.inr.inr.inr.inr.inr.inr.inr.inr.inr.inr.inr.inr.inr.inr.inr.inr.inr.inr.inr.inr.inr.inl =>
          have e24 : s 24 = .bool true := hd 24 (by kernel_rfl)
          have e25 : s 25 = .slice (some ⟨gx, 0, none⟩) n cx := hd 25 (by kernel_rfl)
          have e28 : s 28 = .int .i64 ((n : Int) - 1) := hd 28 (by kernel_rfl)
          clear hd
          gi_wp2
          have hr := hQ.out
          try simp only [e24, e25, e28] at hr
          exact hr _ W hW (Below.refl _ _) rfl
        case inr.inr.inr.inr.inr.inr.inr.inr.inr.inr.inr.inr.inr.inr.inr.inr.inr.inr.inr.inr.inr.inr.inr.inr.inr.inr.inr.inr.inr.inr.inl =>
          have e24 : s 24 = .bool true := hd 24 (by kernel_rfl)
          have e29 : s 29 = .pointer (some ⟨gx, n - 1, none⟩) := hd 29 (by kernel_rfl)
          have c1 := hc2 W hW
          clear hd
          gi_wp2
          have hr := hQ.out
          try simp only [e24, e29] at hr
          exact hr _ W hW (Below.refl _ _) rfl
        case inr.inr.inr.inr.inr.inr.inr.inr.inr.inr.inr.inr.inr.inr.inr.inr.inr.inr.inr.inr.inr.inr.inr.inr.inr.inr.inr.inr.inr.inr.inr.inl =>
          have e24 : s 24 = .bool true := hd 24 (by kernel_rfl)
          clear hd
          gi_wp2
          have hr := hQ.out
          try simp only [e24] at hr
          exact hr _ W hW (Below.refl _ _) rfl
        case inr.inr.inr.inr.inr.inr.inr.inr.inr.inr.inr.inr.inr.inr.inr.inr.inr.inr.inr.inr.inr.inr.inr.inr.inr.inr.inr.inr.inr.inr.inr.inr.inl =>
          have e24 : s 24 = .bool true := hd 24 (by kernel_rfl)
          have e31 : s 31 = .slice (some ⟨g, 0, none⟩) n cap := hd 31 (by kernel_rfl)
          have hcall := hL W hW
          clear hd
          gi_wp2_with (refine ⟨trivial, ?_⟩; gi_at_call 38; refine (callsIn_wide.2 hcall).mono ?_; clear hcall; rintro e W' ⟨rfl, hb⟩)
          have hr := hQ.out
          try simp only [e24, e31] at hr
          exact hr _ W' (hW.trans (hb.mono hW.size)) hb rfl
        case inr.inr.inr.inr.inr.inr.inr.inr.inr.inr.inr.inr.inr.inr.inr.inr.inr.inr.inr.inr.inr.inr.inr.inr.inr.inr.inr.inr.inr.inr.inr.inr.inr.inl =>
          have e24 : s 24 = .bool true := hd 24 (by kernel_rfl)
          have e30 : s 30 = .int .i64 E := hd 30 (by kernel_rfl)
          have e32 : s 32 = .int .i64 E := hd 32 (by kernel_rfl)
          clear hd
          gi_wp2
          have hr := hQ.out
          try simp only [e24, e30, e32] at hr
          exact hr _ W hW (Below.refl _ _) rfl
        case inr.inr.inr.inr.inr.inr.inr.inr.inr.inr.inr.inr.inr.inr.inr.inr.inr.inr.inr.inr.inr.inr.inr.inr.inr.inr.inr.inr.inr.inr.inr.inr.inr.inr.inl =>
          have e24 : s 24 = .bool true := hd 24 (by kernel_rfl)
          have e33 : s 33 = .bool true := hd 33 (by kernel_rfl)
          clear hd
          gi_wp2
          have hr := hQ.out
          try simp only [e24, e33] at hr
          exact hr _ W hW (Below.refl _ _) rfl
        case inr.inr.inr.inr.inr.inr.inr.inr.inr.inr.inr.inr.inr.inr.inr.inr.inr.inr.inr.inr.inr.inr.inr.inr.inr.inr.inr.inr.inr.inr.inr.inr.inr.inr.inr.inl =>
          have e34 : s 34 = .bool true := hd 34 (by kernel_rfl)
          clear hd
          gi_wp2
          have hr := hQ.out
          try simp only [e34] at hr
          exact hr _ W hW (Below.refl _ _) rfl
        case inr.inr.inr.inr.inr.inr.inr.inr.inr.inr.inr.inr.inr.inr.inr.inr.inr.inr.inr.inr.inr.inr.inr.inr.inr.inr.inr.inr.inr.inr.inr.inr.inr.inr.inr.inr.inl =>
          have e35 : s 35 = .bool true := hd 35 (by kernel_rfl)
          clear hd
          gi_wp2
          have hr := hQ.out
          try simp only [e35] at hr
          exact hr _ W hW (Below.refl _ _) rfl
        case inr.inr.inr.inr.inr.inr.inr.inr.inr.inr.inr.inr.inr.inr.inr.inr.inr.inr.inr.inr.inr.inr.inr.inr.inr.inr.inr.inr.inr.inr.inr.inr.inr.inr.inr.inr.inr.inl =>
          have e35 : s 35 = .bool true := hd 35 (by kernel_rfl)
          have e36 : s 36 = .slice (some ⟨gx, 0, none⟩) n cx := hd 36 (by kernel_rfl)
          clear hd
          gi_wp2
          have hr := hQ.out
          try simp only [e35, e36] at hr
          exact hr _ W hW (Below.refl _ _) rfl
        case inr.inr.inr.inr.inr.inr.inr.inr.inr.inr.inr.inr.inr.inr.inr.inr.inr.inr.inr.inr.inr.inr.inr.inr.inr.inr.inr.inr.inr.inr.inr.inr.inr.inr.inr.inr.inr.inr.inl =>
          have e35 : s 35 = .bool true := hd 35 (by kernel_rfl)
          clear hd
          gi_wp2
          have hr := hQ.out
          try simp only [e35] at hr
          exact hr _ W hW (Below.refl _ _) rfl
        case inr.inr.inr.inr.inr.inr.inr.inr.inr.inr.inr.inr.inr.inr.inr.inr.inr.inr.inr.inr.inr.inr.inr.inr.inr.inr.inr.inr.inr.inr.inr.inr.inr.inr.inr.inr.inr.inr.inr.inl =>
          have e35 : s 35 = .bool true := hd 35 (by kernel_rfl)
          have e38 : s 38 = .slice (some ⟨g, 0, none⟩) n cap := hd 38 (by kernel_rfl)
          clear hd
          gi_wp2
          have hr := hQ.out
          try simp only [e35, e38] at hr
          exact hr _ W hW (Below.refl _ _) rfl
        case inr.inr.inr.inr.inr.inr.inr.inr.inr.inr.inr.inr.inr.inr.inr.inr.inr.inr.inr.inr.inr.inr.inr.inr.inr.inr.inr.inr.inr.inr.inr.inr.inr.inr.inr.inr.inr.inr.inr.inr.inl =>
          have e35 : s 35 = .bool true := hd 35 (by kernel_rfl)
          have e37 : s 37 = .int .i64 n := hd 37 (by kernel_rfl)
          have e39 : s 39 = .int .i64 n := hd 39 (by kernel_rfl)
          clear hd
          gi_wp2
          have hr := hQ.out
          try simp only [e35, e37, e39] at hr
          exact hr _ W hW (Below.refl _ _) rfl
        case inr.inr.inr.inr.inr.inr.inr.inr.inr.inr.inr.inr.inr.inr.inr.inr.inr.inr.inr.inr.inr.inr.inr.inr.inr.inr.inr.inr.inr.inr.inr.inr.inr.inr.inr.inr.inr.inr.inr.inr.inr.inl =>
          have e35 : s 35 = .bool true := hd 35 (by kernel_rfl)
          have e40 : s 40 = .bool true := hd 40 (by kernel_rfl)
          clear hd
          gi_wp2
          have hr := hQ.out
          try simp only [e35, e40] at hr
          exact hr _ W hW (Below.refl _ _) rfl
        case inr.inr.inr.inr.inr.inr.inr.inr.inr.inr.inr.inr.inr.inr.inr.inr.inr.inr.inr.inr.inr.inr.inr.inr.inr.inr.inr.inr.inr.inr.inr.inr.inr.inr.inr.inr.inr.inr.inr.inr.inr.inr =>
          have e41 : s 41 = .bool true := hd 41 (by kernel_rfl)
          clear hd
          gi_wp2
          have hr := hQ.out
          try simp only [e41] at hr
          exact hr _ W hW (Below.refl _ _) rfl
      case fin =>
        intro s W hW hall
        have e42 : s 42 = .bool true := hall 42 (by decide)
        simp only [e42]
        clear hall
        go_wp2
        go_ret
        exact ⟨rfl, hB1.trans ((hD4.trans (hW.mono hD4.size)).mono hB1.size)⟩
end Go.Proofs.Ytlkcdcmmcjkedaa
