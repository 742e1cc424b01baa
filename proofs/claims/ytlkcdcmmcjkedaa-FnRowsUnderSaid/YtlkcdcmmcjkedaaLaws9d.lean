/-
  The walk of the law on RowsUnder.
-/
import Derived.Test.YtlkcdcmmcjkedaaLaws9
import Derived.Test.YtlkcdcmmcjkedaaRegVals
namespace Go.Proofs.Ytlkcdcmmcjkedaa
open Go.RowKit Go.BigFrame

theorem undr_row {xs : List Int} (h : sideB xs = true) {j : Nat} (hj : j + 1 < xs.length) : undrV ((rowsV xs).getD j []) = (rowsV xs).getD (j + 1) [] := by
  have hlen := sideB_len h
  rw [rowsV_at h (by omega), rowsV_at h hj]
  obtain ⟨m, hm⟩ : ∃ m, xs.length - j = m + 1 := ⟨xs.length - j - 1, by omega⟩
  rw [hm, undrV_yes (stL_side (side_bit h) j (m + 1) (by omega) (by omega)), stL_len, Nat.add_sub_cancel, stL_next, show xs.length - (j + 1) = m by omega]

set_option maxRecDepth 100000 in
set_option maxHeartbeats 4000000 in
theorem lawRows (a0 : Option Addr) (len0 cap0 : Nat) (z0 : List Int) (w : World) (w0 : IsRow .u8 w a0 len0 cap0 z0) :
    Calls Try.prog 6 #[.slice a0 len0 cap0] w fun e w' => e = .returned (.bool true) ∧ Below w.heap.size w w' := by
  by_cases hbig : 1048576 < len0
  · go_enter Try.func6, Try.ntmps6
    go_wp2
    go_ret
    exact ⟨rfl, Below.refl _ _⟩
  · go_enter Try.func6, Try.ntmps6
    go_wp2_with fail
    go_at_call 29
    refine (drawRows w a0 len0 cap0 z0 w0).mono ?_
    rintro e w1 ⟨⟨v, xs, rfl, hv, hlies, hxl⟩, hB1⟩
    have hI := implRowsU v xs w1 hv hlies (by omega)
    have hS : ∀ W, Below w1.heap.size w1 W → Calls Try.prog 32 #[v] W fun e w' => ∃ r, e = .returned r ∧ OwnSS w' W.heap.size r (rowsV xs) ∧ Below W.heap.size W w' := fun W h => specRows v xs W (hv.below h) hlies (by omega)
    have hO : ∀ W, Below w1.heap.size w1 W → Calls Try.prog 24 #[v] W fun e w' => e = .returned (.bool (sideB xs)) ∧ Below W.heap.size W w' := fun W h => implSide v xs W (hv.below h) (by omega)
    have hRl := rowsV_len xs
    have hRn := fun j (hj : j < (rowsV xs).length) => rowsV_row hj
    go_wp2_with fail
    go_at_call 30
    refine hI.mono ?_
    rintro e w2 ⟨r, rfl, hown2, b2⟩
    have hD2 := b2
    have hr2 := hown2.ownSS.rowsI
    have hread := fun h0 => hown2.ownSS.read h0
    clear hI hown2
    go_wp2_with fail
    go_at_call 32
    refine (hS _ hD2).mono ?_
    rintro e w3 ⟨r', rfl, hown3, b3⟩
    have hD3 := hD2.trans (b3.mono hD2.size)
    have hr3 := hr2.below b3
    clear hS
    go_wp2_with fail
    go_at_call 31
    refine (sameRows_in r r' _ w3 (by omega) (fun j hj => by have := (hRn j hj).2; omega) hr3 hown3.rowsI).mono ?_
    rintro e w4 ⟨rfl, b4⟩
    have hD4 := hD3.trans (b4.mono hD3.size)
    have hD24 : Below w2.heap.size w2 w4 := b3.trans (b4.mono b3.size)
    have hr4 := hr3.below b4
    clear hown3 hr2 hr3 b3 b4 hD3
    cases hside : sideB xs with
    | false =>
      rw [hside] at hO
      obtain ⟨a, c, rfl, _⟩ := hr4
      rw [rowsV_no hside]
      clear hread hRl hRn hv hlies hside
      go_wp2_with (first | (go_at_call 24; refine (hO _ hD4).mono ?_; rintro e w5 ⟨rfl, b5⟩; have hD5 := hD4.trans (b5.mono hD4.size)) | (go_at_call 21; refine (alive_in _).mono ?_; rintro e w6 ⟨rfl, b6⟩; have hD6 := hD5.trans (b6.mono hD5.size)))
      go_ret
      exact ⟨rfl, hB1.trans (hD6.mono hB1.size)⟩
    | true =>
      have hlen := sideB_len hside
      have hrl := rowsV_length hside
      have hun := fun j (hj : j + 1 < xs.length) => undr_row hside hj
      have hlast : ((rowsV xs).getD (xs.length - 1) []).length = 1 := by rw [rowsV_at hside (by omega), stL_len]; omega
      have hfirst : (rowsV xs).getD 0 [] = xs := by rw [rowsV_at hside (by omega), Nat.sub_zero, stL_zero hside]
      obtain ⟨G, cG, rfl, hG, hGr⟩ := hread (by omega)
      generalize rowsV xs = rows at *
      rw [hrl] at hRl hRn hGr ⊢
      have hat : ∀ j, ∃ u, j < xs.length → w2.cell? ⟨G, j, none⟩ = some u ∧ Ints w2 u (rows.getD j []) ∧ Lies u := fun j => by
        by_cases hj : j < xs.length
        · obtain ⟨u, h⟩ := hGr j hj; exact ⟨u, fun _ => h⟩
        · exact ⟨undef, fun h => absurd h hj⟩
      obtain ⟨us, hus⟩ : ∃ us : Nat → Value, ∀ j, j < xs.length → w2.cell? ⟨G, j, none⟩ = some (us j) ∧ Ints w2 (us j) (rows.getD j []) ∧ Lies (us j) := ⟨fun j => Classical.choose (hat j), fun j => Classical.choose_spec (hat j)⟩
      clear hGr hat hread hO
      obtain ⟨n, hn⟩ : ∃ n, xs.length = n := ⟨_, rfl⟩
      rw [hn] at hlen hRl hRn hun hlast hus hrl hxl ⊢
      have hn0 : ((n : Int) == 0) = false := by rw [beq_eq_false_iff_ne]; omega
      have hn1 : ¬ (n : Int) = 0 := by omega
      go_wp2
      go_loopw [5] (fun i wr => ∃ k : Nat, 1 ≤ k ∧ k ≤ n ∧ i = .int .i64 k ∧ Below w2.heap.size w2 wr) (fun i _ => n - (intOf i).toNat)
      case atStart => exact ⟨1, by omega, by omega, rfl, hD24⟩
      case round =>
        obtain ⟨k, hk1, hk, rfl, hB⟩ := hrel
        by_cases hlt : k < n
        · have hki : (k : Int) < (n : Int) := by omega
          have q1 : (0 : Int) ≤ (k : Int) - 1 := by omega
          have q2 : ((k : Int) - 1).toNat = k - 1 := by omega
          have q3 : (k : Int) - 1 < (n : Int) := by omega
          have q4 : IntKind.i64.wrap ((k : Int) - 1) = (k : Int) - 1 := IntWalk.i64_in _ (by omega)
          have hk0 := hus k hlt
          have hj0 := hus (k - 1) (by omega)
          have hrk := hRn k hlt
          have hrj := hRn (k - 1) (by omega)
          have hunk := hun (k - 1) (by omega)
          rw [Nat.sub_add_cancel hk1] at hunk
          obtain ⟨X, hX⟩ : ∃ X, rows.getD k [] = X := ⟨_, rfl⟩
          obtain ⟨Y, hY⟩ : ∃ Y, rows.getD (k - 1) [] = Y := ⟨_, rfl⟩
          rw [hX] at hk0 hrk hunk
          rw [hY] at hj0 hrj hunk
          obtain ⟨ak, ck, ek⟩ := hk0.2.1.shape
          obtain ⟨aj, cj, ej⟩ := hj0.2.1.shape
          rw [ek] at hk0
          rw [ej] at hj0
          have hck : ∀ W, Below w2.heap.size w2 W → W.cell? ⟨G, k, none⟩ = some (.slice ak X.length ck) := fun W h => (h.cell (p := ⟨G, k, none⟩) hG).trans hk0.1
          have hcj : ∀ W, Below w2.heap.size w2 W → W.cell? ⟨G, k - 1, none⟩ = some (.slice aj Y.length cj) := fun W h => (h.cell (p := ⟨G, k - 1, none⟩) hG).trans hj0.1
          have hU : ∀ W, Below w2.heap.size w2 W → Calls Try.prog 27 #[.slice aj Y.length cj] W fun e w' => ∃ r, e = .returned r ∧ w'.ownsRow W.heap.size 3 1 r X.length (X.map (Value.int .i64)) ∧ Below W.heap.size W w' := fun W h => hunk ▸ implUndr _ Y W (hj0.2.1.below h) hj0.2.2 (by omega)
          have hE : ∀ W, Below w2.heap.size w2 W → ∀ u, Ints W u X → Calls Try.prog 19 #[.slice ak X.length ck, u] W fun e w' => e = .returned (.bool true) ∧ Below W.heap.size W w' := fun W h u hu => sameInts_in _ u _ W (by omega) (hk0.2.1.below h) hu
          clear hun hus hfirst hlast hunk hk0 hj0 hRn hX hY ek ej hrk hrj hrl hRl hlen
          go_upto_region 12 with fail
          -- the region
          refine wp_region_vals w2 (by kernel_rfl) (by kernel_rfl) hB
            (fun s => { tmps := #[.slice a0 len0 cap0, undef, u2, v, .slice (some ⟨G, 0, none⟩) n cG, .int .i64 k, .slice a0 len0 cap0, .int .i64 len0, .bool (decide (1048576 < (len0 : Int))), .slice a0 len0 cap0, v, v, .slice (some ⟨G, 0, none⟩) n cG, .slice (some ⟨G, 0, none⟩) n cG, v, r', .bool true, .bool false, .slice (some ⟨G, 0, none⟩) n cG, .int .i64 n, .bool false, undef, undef, undef, undef, undef, undef, .int .i64 k, .slice (some ⟨G, 0, none⟩) n cG, .int .i64 n, .bool true, u31, u32, s 0, s 1, s 2, s 3, s 4, s 5, s 6, s 7, s 8, s 9, s 10, s 11, undef, undef, undef, undef, undef, undef, undef, undef, undef, undef, undef, undef, undef, undef, undef, undef, undef, undef, undef, undef, undef, undef], defers := [] })
            [.val (.slice (some ⟨G, 0, none⟩) n cG), .val (.int .i64 k), .val (.pointer (some ⟨G, k, none⟩)), .val (.slice ak X.length ck), .val (.slice (some ⟨G, 0, none⟩) n cG), .val (.int .i64 k), .val (.int .i64 ((k : Int) - 1)), .val (.pointer (some ⟨G, k - 1, none⟩)), .val (.slice aj Y.length cj), .ints (X), .val (.bool true), .val (.bool false)] ?h0 ?put ?step ?fin
          case h0 => exact ⟨fun j => match j with | 0 => u33 | 1 => u34 | 2 => u35 | 3 => u36 | 4 => u37 | 5 => u38 | 6 => u39 | 7 => u40 | 8 => u41 | 9 => u42 | 10 => u43 | _ => u44, by simp⟩
          case put =>
            intro i o s v ho
            have hi : i < 12 := (Array.getElem?_eq_some_iff.1 ho).1
            rcases (show i = 0 ∨ i = 1 ∨ i = 2 ∨ i = 3 ∨ i = 4 ∨ i = 5 ∨ i = 6 ∨ i = 7 ∨ i = 8 ∨ i = 9 ∨ i = 10 ∨ i = 11 by omega) with rfl | rfl | rfl | rfl | rfl | rfl | rfl | rfl | rfl | rfl | rfl | rfl
            all_goals
              simp at ho
              subst ho
              simp [Act.put]
          case step =>
            intro i o s W ho hW hd Q' hQ'
            have hi : i < 12 := (Array.getElem?_eq_some_iff.1 ho).1
            rcases (show i = 0 ∨ i = 1 ∨ i = 2 ∨ i = 3 ∨ i = 4 ∨ i = 5 ∨ i = 6 ∨ i = 7 ∨ i = 8 ∨ i = 9 ∨ i = 10 ∨ i = 11 by omega) with rfl | rfl | rfl | rfl | rfl | rfl | rfl | rfl | rfl | rfl | rfl | rfl
            all_goals
              simp at ho
              subst ho
              simp [Act.put] at hQ'
              have hQ := hide hQ'
              clear hQ' 
            case inl =>
              clear hd
              gi_wp2
              have hr := hQ.out
              exact hr _ W hW (Below.refl _ _) rfl
            case inr.inl =>
              clear hd
              gi_wp2
              have hr := hQ.out
              exact hr _ W hW (Below.refl _ _) rfl
            case inr.inr.inl =>
              have e0 : s 0 = .slice (some ⟨G, 0, none⟩) n cG := hd 0 (by kernel_rfl)
              have e1 : s 1 = .int .i64 k := hd 1 (by kernel_rfl)
              clear hd
              gi_wp2
              have hr := hQ.out
              try simp only [e0, e1] at hr
              exact hr _ W hW (Below.refl _ _) rfl
            case inr.inr.inr.inl =>
              have e2 : s 2 = .pointer (some ⟨G, k, none⟩) := hd 2 (by kernel_rfl)
              have c1 := hck W hW
              clear hd
              gi_wp2
              have hr := hQ.out
              try simp only [e2] at hr
              exact hr _ W hW (Below.refl _ _) rfl
            case inr.inr.inr.inr.inl =>
              clear hd
              gi_wp2
              have hr := hQ.out
              exact hr _ W hW (Below.refl _ _) rfl
            case inr.inr.inr.inr.inr.inl =>
              clear hd
              gi_wp2
              have hr := hQ.out
              exact hr _ W hW (Below.refl _ _) rfl
            case inr.inr.inr.inr.inr.inr.inl =>
              have e5 : s 5 = .int .i64 k := hd 5 (by kernel_rfl)
              clear hd
              gi_wp2
              have hr := hQ.out
              try simp only [e5] at hr
              exact hr _ W hW (Below.refl _ _) rfl
            case inr.inr.inr.inr.inr.inr.inr.inl =>
              have e4 : s 4 = .slice (some ⟨G, 0, none⟩) n cG := hd 4 (by kernel_rfl)
              have e6 : s 6 = .int .i64 ((k : Int) - 1) := hd 6 (by kernel_rfl)
              clear hd
              gi_wp2
              have hr := hQ.out
              try simp only [e4, e6] at hr
              exact hr _ W hW (Below.refl _ _) rfl
            case inr.inr.inr.inr.inr.inr.inr.inr.inl =>
              have e7 : s 7 = .pointer (some ⟨G, k - 1, none⟩) := hd 7 (by kernel_rfl)
              have c1 := hcj W hW
              clear hd
              gi_wp2
              have hr := hQ.out
              try simp only [e7] at hr
              exact hr _ W hW (Below.refl _ _) rfl
            case inr.inr.inr.inr.inr.inr.inr.inr.inr.inl =>
              have e8 : s 8 = .slice aj Y.length cj := hd 8 (by kernel_rfl)
              have hcall := hU W hW
              clear hd
              gi_wp2_with (refine ⟨trivial, ?_⟩; gi_at_call 27; refine (callsIn_wide.2 hcall).mono ?_; clear hcall; rintro e W' ⟨r, rfl, hown, hb⟩)
              have hr := hQ.out
              try simp only [e8] at hr
              exact hr _ W' (hW.trans (hb.mono hW.size)) hb ⟨Ints.of_owns hown, Lies.of_owns hown⟩
            case inr.inr.inr.inr.inr.inr.inr.inr.inr.inr.inl =>
              have e3 : s 3 = .slice ak X.length ck := hd 3 (by kernel_rfl)
              obtain ⟨i9, l9⟩ : Ints W (s 9) (X) ∧ Lies (s 9) := hd 9 (by kernel_rfl)
              have hcall := hE W hW _ i9
              clear hd
              gi_wp2_with (refine ⟨trivial, ?_⟩; gi_at_call 19; refine (callsIn_wide.2 hcall).mono ?_; clear hcall; rintro e W' ⟨rfl, hb⟩)
              have hr := hQ.out
              try simp only [e3] at hr
              exact hr _ W' (hW.trans (hb.mono hW.size)) hb rfl
            case inr.inr.inr.inr.inr.inr.inr.inr.inr.inr.inr =>
              have e10 : s 10 = .bool true := hd 10 (by kernel_rfl)
              clear hd
              gi_wp2
              have hr := hQ.out
              try simp only [e10] at hr
              exact hr _ W hW (Below.refl _ _) rfl
          case fin =>
            intro s W hW hall
            have e11 : s 11 = .bool false := hall 11 (by decide)
            clear hall hck hcj hU hE
            simp only [e11]
            go_wp2
            go_roundw
            case rel => exact ⟨k + 1, by omega, by omega, by go_num, hW⟩
            case measure => simp [intOf]; omega
        · obtain rfl : k = n := by omega
          have h0 := hus 0 (by omega)
          have h1 := hus (k - 1) (by omega)
          rw [hfirst] at h0
          obtain ⟨a0', c0', e0⟩ := h0.2.1.shape
          obtain ⟨a1', c1', e1⟩ := h1.2.1.shape
          rw [hlast] at e1
          rw [hn] at e0
          have hE : Calls Try.prog 19 #[us 0, v] wr fun e w' => e = .returned (.bool true) ∧ Below wr.heap.size wr w' := sameInts_in _ v xs wr (by omega) (h0.2.1.below hB) (hv.below (hD2.trans (hB.mono hD2.size)))
          obtain ⟨av, cv, ev⟩ := hv.shape
          rw [hn] at ev
          subst ev
          rw [e0] at hE
          rw [e0] at h0
          rw [e1] at h1
          have c0 : wr.cell? ⟨G, 0, none⟩ = some (.slice a0' k c0') := (hB.cell (p := ⟨G, 0, none⟩) hG).trans h0.1
          have c1 : ∀ W, Below w2.heap.size w2 W → W.cell? ⟨G, k - 1, none⟩ = some (.slice a1' 1 c1') := fun W h => (h.cell (p := ⟨G, k - 1, none⟩) hG).trans h1.1
          have k0 : (0 : Int) < (k : Int) := by omega
          have k1 : (0 : Int) ≤ (k : Int) - 1 := by omega
          have k2 : ((k : Int) - 1).toNat = k - 1 := by omega
          have k4 : IntKind.i64.wrap ((k : Int) - 1) = (k : Int) - 1 := IntWalk.i64_in _ (by omega)
          clear hus hun hlast hfirst h0 h1 hRn hRl hrl e0 e1 hv
          go_wp2_with fail
          go_at_call 19
          refine hE.mono ?_
          rintro e w5 ⟨rfl, b5⟩
          have hD5 := hB.trans (b5.mono hB.size)
          have c2 := c1 w5 hD5
          clear hE c1 c0
          go_wp2
          go_ret
          exact ⟨rfl, hB1.trans ((hD2.trans (hD5.mono hD2.size)).mono hB1.size)⟩
end Go.Proofs.Ytlkcdcmmcjkedaa
