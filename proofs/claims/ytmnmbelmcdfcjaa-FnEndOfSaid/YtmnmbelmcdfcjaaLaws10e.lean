/-
  The walk of the law on EndOf.
-/
import Derived.Test.YtmnmbelmcdfcjaaLaws10d
import Derived.Test.YtmnmbelmcdfcjaaKit4
import Derived.Test.YtmnmbelmcdfcjaaRegVals
namespace Go.Proofs.Ytmnmbelmcdfcjaa
open Go.RowKit Go.BigFrame

theorem end_false {xs : List Int} (h : endB xs = false) : endI xs = -1 := by
  unfold endB at h
  unfold endI
  cases e : endN xs with
  | none => rfl
  | some p => rw [e] at h; cases h
theorem end_eight {xs : List Int} (h : endB xs = false) (hs : ringB xs = true) : ¬ (xs.length = 1 ∨ xs.length = 2 ∨ xs.length = 4 ∨ xs.length = 8) := by
  intro hn
  have hf := ringF_le hs
  have hz := dR_ends 7 (ringF xs) (per_eight ringF_per hn) (fun k => by have := hf k; show _ < 128; omega)
  unfold endB at h
  cases e : endN xs with
  | some p => rw [e] at h; cases h
  | none =>
    unfold endN at e
    rw [if_pos hs, firstI_none] at e
    have := e 56 (by omega)
    rw [zeroB_iff.2 fun k _ => hz k] at this
    cases this
theorem end_row {xs : List Int} {e : Nat} (h : ∀ k, k < xs.length → dR (ringF xs) e k = 0) : rgL (dR (ringF xs) e) xs.length = List.replicate xs.length 0 := by
  rw [rgL_congr (g := fun _ => 0) _ h]
  unfold rgL
  rw [show (fun k : Nat => (((fun _ => 0 : Nat → Nat) k : Nat) : Int)) = fun _ => 0 from rfl, List.map_const', List.length_range]
theorem lies_new {g n : Nat} : Lies (.slice (some ⟨g, 0, none⟩) n n) := by
  intros
  exact .inr ⟨_, _, _, rfl⟩
theorem end_more {n : Nat} {f : Nat → Nat} (h : ¬ ∀ k, k < n → f k = 0) : ∃ i, i < n ∧ (rgL f n).getD i 0 ≠ (List.replicate n (0 : Int)).getD i 0 := by
  simp only [Classical.not_forall] at h
  obtain ⟨k, hk, h0⟩ := h
  refine ⟨k, hk, ?_⟩
  rw [rgL_getD _ _ _ hk]
  simp [List.getD, hk]
  omega

set_option maxHeartbeats 4000000 in
theorem lawEnd10 (a0 : Option Addr) (len0 cap0 : Nat) (z0 : List Int) (w : World) (w0 : IsRow .u8 w a0 len0 cap0 z0) :
    Calls Try.prog 6 #[.slice a0 len0 cap0] w fun e w' => e = .returned (.bool true) ∧ Below w.heap.size w w' := by
  by_cases hbig : 1048576 < len0
  · go_enter Try.func6, Try.ntmps6
    go_wp2
    go_ret
    exact ⟨rfl, Below.refl _ _⟩
  · go_enter Try.func6, Try.ntmps6
    go_wp2_with fail
    go_at_call 26
    refine (drawEnd w a0 len0 cap0 z0 w0).mono ?_
    rintro e w1 ⟨⟨v, xs, rfl, hv, hlies, hxl⟩, hB1⟩
    have hI : ∀ W, Below w1.heap.size w1 W → Calls Try.prog 27 #[v] W fun e w' => e = .returned (.tuple #[.int .i64 (endI xs), .bool (endB xs)]) ∧ Below W.heap.size W w' := fun W h => implEnd10 v xs W (hv.below h) hlies (by omega)
    have hS : ∀ W, Below w1.heap.size w1 W → Calls Try.prog 28 #[v] W fun e w' => e = .returned (.tuple #[.int .i64 (endI xs), .bool (endB xs)]) ∧ Below W.heap.size W w' := fun W h => specEnd10 v xs W (hv.below h) hlies (by omega)
    have hG : ∀ W, Below w1.heap.size w1 W → Calls Try.prog 16 #[v] W fun e w' => e = .returned (.bool (ringB xs)) ∧ Below W.heap.size W w' := fun W h => implRing v xs W (hv.below h) (by omega)
    have hD := Below.refl w1.heap.size w1
    cases hen : endB xs with
    | false =>
      have hm1 := end_false hen
      have h8 := end_eight hen
      rw [hen, hm1] at hI hS
      obtain ⟨ga, ca, rfl⟩ := hv.shape
      obtain ⟨n, hn⟩ : ∃ n, xs.length = n := ⟨_, rfl⟩
      rw [hn] at hI hS hG hlies hxl h8 ⊢
      cases hr : ringB xs with
      | false =>
        rw [hr] at hG
        clear hv hlies hen hm1 h8 hr hn
        go_wp2_with (first | (go_at_call 27; (with_reducible refine (hI _ hD).mono ?_); rintro e w' ⟨rfl, hB'⟩; replace hD := hD.trans (hB'.mono hD.size); clear hB') | (go_at_call 28; (with_reducible refine (hS _ hD).mono ?_); rintro e w' ⟨rfl, hB'⟩; replace hD := hD.trans (hB'.mono hD.size); clear hB') | (go_at_call 16; (with_reducible refine (hG _ hD).mono ?_); rintro e w' ⟨rfl, hB'⟩; replace hD := hD.trans (hB'.mono hD.size); clear hB') | (go_at_call 18; refine (alive_in _).mono ?_; rintro e w' ⟨rfl, hB'⟩; replace hD := hD.trans (hB'.mono hD.size); clear hB'))
        go_ret
        exact ⟨rfl, hB1.trans (hD.mono hB1.size)⟩
      | true =>
        have h8 := h8 hr
        rw [hr] at hG
        have n1 : ((n : Int) == 1) = false := by rw [beq_eq_false_iff_ne]; omega
        have n2 : ((n : Int) == 2) = false := by rw [beq_eq_false_iff_ne]; omega
        have n4 : ((n : Int) == 4) = false := by rw [beq_eq_false_iff_ne]; omega
        have n8 : ((n : Int) == 8) = false := by rw [beq_eq_false_iff_ne]; omega
        have p1 : ((n : Int) != 1) = true := by rw [bne_iff_ne]; omega
        have p2 : ((n : Int) != 2) = true := by rw [bne_iff_ne]; omega
        have p4 : ((n : Int) != 4) = true := by rw [bne_iff_ne]; omega
        have p8 : ((n : Int) != 8) = true := by rw [bne_iff_ne]; omega
        have o1 : ¬ (n : Int) = 1 := by omega
        have o2 : ¬ (n : Int) = 2 := by omega
        have o4 : ¬ (n : Int) = 4 := by omega
        have o8 : ¬ (n : Int) = 8 := by omega
        clear hv hlies hen hm1 h8 hr hn
        go_wp2_with (first | (go_at_call 27; (with_reducible refine (hI _ hD).mono ?_); rintro e w' ⟨rfl, hB'⟩; replace hD := hD.trans (hB'.mono hD.size); clear hB') | (go_at_call 28; (with_reducible refine (hS _ hD).mono ?_); rintro e w' ⟨rfl, hB'⟩; replace hD := hD.trans (hB'.mono hD.size); clear hB') | (go_at_call 16; (with_reducible refine (hG _ hD).mono ?_); rintro e w' ⟨rfl, hB'⟩; replace hD := hD.trans (hB'.mono hD.size); clear hB') | (go_at_call 18; refine (alive_in _).mono ?_; rintro e w' ⟨rfl, hB'⟩; replace hD := hD.trans (hB'.mono hD.size); clear hB'))
        go_ret
        exact ⟨rfl, hB1.trans (hD.mono hB1.size)⟩
    | true =>
      obtain ⟨E, hE, he1, hz, hfirst⟩ := end_yes hen
      have hside : ringB xs = true := by
        cases h : ringB xs with
        | true => rfl
        | false => exact absurd ((endN_no h).2.symm.trans hen) (by decide)
      have hlen := ringB_len hside
      rw [hen, he1] at hI hS
      have hrow := end_row hz
      by_cases hE0 : E = 0
      · subst hE0
        have hxs : xs = List.replicate xs.length 0 := by
          rw [← hrow]
          exact (rgL_self hside).symm
        obtain ⟨ga, ca, rfl⟩ := hv.shape
        obtain ⟨n, hn⟩ : ∃ n, xs.length = n := ⟨_, rfl⟩
        rw [hn] at hI hS hlies hxl hxs hlen
        rw [hn]
        have hEq : ∀ u W, Below w1.heap.size w1 W → Ints W u (List.replicate n 0) → Calls Try.prog 21 #[.slice ga n ca, u] W fun e w' => e = .returned (.bool true) ∧ Below W.heap.size W w' := fun u W h hu => by
          have hv' := hv.below h
          rw [hn] at hv'
          exact sameInts_in _ u _ W (by rw [List.length_replicate]; omega) (by rw [← hxs]; exact hv') hu
        clear hv hlies hG hen he1 hz hfirst hside hrow hxs
        go_wp2_with (first | (go_at_call 27; (with_reducible refine (hI _ hD).mono ?_); rintro e w' ⟨rfl, hB'⟩; replace hD := hD.trans (hB'.mono hD.size); clear hB') | (go_at_call 28; (with_reducible refine (hS _ hD).mono ?_); rintro e w' ⟨rfl, hB'⟩; replace hD := hD.trans (hB'.mono hD.size); clear hB'))
        obtain ⟨w5, hrun, r1, r2⟩ := make_run w' n (by omega)
        rw [hrun]
        simp only [Result.andThen]
        rw [Oper.upon_value]
        have hD5 := hD.grown r2 hD.size (fun k e => by cases e)
        go_wp2_with (first | (go_at_call 21; refine (hEq _ _ hD5 r1).mono ?_; rintro e w6 ⟨rfl, hB'⟩; replace hD5 := hD5.trans (hB'.mono hD5.size); clear hB') | (go_at_call 18; refine (alive_in _).mono ?_; rintro e w7 ⟨rfl, hB'⟩; replace hD5 := hD5.trans (hB'.mono hD5.size); clear hB'))
        go_ret
        exact ⟨rfl, hB1.trans (hD5.mono hB1.size)⟩
      · have hnot := hfirst (E - 1) (by omega)
        obtain ⟨i0, hi0, hne⟩ := end_more hnot
        have hR : ∀ W, Below w1.heap.size w1 W → Calls Try.prog 24 #[v, .int .i64 E] W fun e w' => ∃ u, e = .returned u ∧ w'.ownsRow W.heap.size 3 1 u xs.length ((List.replicate xs.length (0 : Int)).map (Value.int .i64)) ∧ Below W.heap.size W w' := fun W h => by
          have h9 := implRounds v xs E (by unfold Fits; omega) W (hv.below h) hlies (by omega)
          rw [roundsV_nat hside hE, rgL_len, hrow] at h9
          exact h9
        have hR2 : ∀ W, Below w1.heap.size w1 W → Calls Try.prog 24 #[v, .int .i64 ((E : Int) - 1)] W fun e w' => ∃ u, e = .returned u ∧ w'.ownsRow W.heap.size 3 1 u xs.length ((rgL (dR (ringF xs) (E - 1)) xs.length).map (Value.int .i64)) ∧ Below W.heap.size W w' := fun W h => by
          have h9 := implRounds v xs ((E - 1 : Nat) : Int) (by unfold Fits; omega) W (hv.below h) hlies (by omega)
          rw [roundsV_nat hside (by omega), rgL_len, show ((E - 1 : Nat) : Int) = (E : Int) - 1 by omega] at h9
          exact h9
        obtain ⟨ga, ca, rfl⟩ := hv.shape
        obtain ⟨n, hn⟩ : ∃ n, xs.length = n := ⟨_, rfl⟩
        generalize hY : rgL (dR (ringF xs) (E - 1)) xs.length = Y at hne hR2
        have hYl : Y.length = n := by rw [← hY, rgL_len, hn]
        rw [hn] at hI hS hR hR2 hlies hxl hlen hi0 hne
        rw [hn]
        have hE0i : ((E : Int) == 0) = false := by rw [beq_eq_false_iff_ne]; omega
        have hE0n : ¬ (E : Int) = 0 := by omega
        have hsame : ∀ a b W, Ints W a (List.replicate n 0) → Ints W b (List.replicate n 0) → Calls Try.prog 21 #[a, b] W fun e w' => e = .returned (.bool true) ∧ Below W.heap.size W w' := fun a b W h1 h2 => sameInts_in a b _ W (by rw [List.length_replicate]; omega) h1 h2
        have hdiff : ∀ a b W, Ints W a Y → Ints W b (List.replicate n 0) → Calls Try.prog 21 #[a, b] W fun e w' => e = .returned (.bool false) ∧ Below W.heap.size W w' := fun a b W h1 h2 => sameInts_ne a b _ _ W (by rw [List.length_replicate, hYl]) (by omega) h1 h2 i0 (by omega) hne
        clear hv hlies hG hen he1 hz hfirst hside hrow hnot hY hne
        go_wp2_with (first | (go_at_call 27; (with_reducible refine (hI _ hD).mono ?_); rintro e w' ⟨rfl, hB'⟩; replace hD := hD.trans (hB'.mono hD.size); clear hB') | (go_at_call 28; (with_reducible refine (hS _ hD).mono ?_); rintro e w' ⟨rfl, hB'⟩; replace hD := hD.trans (hB'.mono hD.size); clear hB'))
        -- the region
        refine wp_region_vals w1 (by kernel_rfl) (by kernel_rfl) hD
          (fun s => { tmps := #[.slice a0 len0 cap0, undef, s 18, .slice ga n ca, .int .i64 E, .bool true, .int .i64 E, .bool true, undef, .slice a0 len0 cap0, .int .i64 len0, .bool (decide (1048576 < (len0 : Int))), .slice a0 len0 cap0, .slice ga n ca, .tuple #[.int .i64 E, .bool true], .slice ga n ca, .tuple #[.int .i64 E, .bool true], .int .i64 E, .bool true, .tuple #[.int .i64 E, .bool true], .slice ga n ca, .tuple #[.int .i64 E, .bool true], .int .i64 E, .bool true, .int .i64 E, .int .i64 E, .bool false, .bool false, .bool true, .bool true, .bool false, .bool false, .bool true, .bool false, undef, undef, undef, undef, undef, undef, undef, undef, undef, undef, undef, undef, undef, undef, undef, undef, undef, undef, undef, undef, undef, undef, undef, undef, undef, undef, undef, undef, .int .i64 E, .bool false, undef, undef, undef, undef, undef, undef, undef, undef, s 0, s 1, s 2, s 3, s 4, s 5, s 6, s 7, s 8, s 9, s 10, s 11, s 12, s 13, s 14, s 15, s 16, s 17], defers := [] })
          [.val (.slice ga n ca), .val (.int .i64 E), .ints (List.replicate n 0), .val (.slice ga n ca), .val (.int .i64 n), .ints (List.replicate n 0), .val (.bool true), .val (.bool true), .val (.slice ga n ca), .val (.int .i64 E), .val (.int .i64 ((E : Int) - 1)), .ints (Y), .val (.slice ga n ca), .val (.int .i64 n), .ints (List.replicate n 0), .val (.bool false), .val (.bool true), .val (.bool true), .val (.bool true)] ?h0 ?put ?step ?fin
        case h0 => exact ⟨fun j => if j = 18 then .bool false else undef, by simp⟩
        case put =>
          intro i o s v ho
          have hi : i < 19 := (Array.getElem?_eq_some_iff.1 ho).1
          rcases (show i = 0 ∨ i = 1 ∨ i = 2 ∨ i = 3 ∨ i = 4 ∨ i = 5 ∨ i = 6 ∨ i = 7 ∨ i = 8 ∨ i = 9 ∨ i = 10 ∨ i = 11 ∨ i = 12 ∨ i = 13 ∨ i = 14 ∨ i = 15 ∨ i = 16 ∨ i = 17 ∨ i = 18 by omega) with rfl | rfl | rfl | rfl | rfl | rfl | rfl | rfl | rfl | rfl | rfl | rfl | rfl | rfl | rfl | rfl | rfl | rfl | rfl
          all_goals
            simp at ho
            subst ho
            simp [Act.put]
        case step =>
          intro i o s W ho hW hd Q' hQ'
          have hi : i < 19 := (Array.getElem?_eq_some_iff.1 ho).1
          rcases (show i = 0 ∨ i = 1 ∨ i = 2 ∨ i = 3 ∨ i = 4 ∨ i = 5 ∨ i = 6 ∨ i = 7 ∨ i = 8 ∨ i = 9 ∨ i = 10 ∨ i = 11 ∨ i = 12 ∨ i = 13 ∨ i = 14 ∨ i = 15 ∨ i = 16 ∨ i = 17 ∨ i = 18 by omega) with rfl | rfl | rfl | rfl | rfl | rfl | rfl | rfl | rfl | rfl | rfl | rfl | rfl | rfl | rfl | rfl | rfl | rfl | rfl
          all_goals
            simp at ho
            subst ho
            simp [Act.put] at hQ'
            have hQ := hide hQ'
            clear hQ' 
          case inl =>
            clear hd
            gi_wp2
            have hr := hQ.out
            exact hr _ W hW (Below.refl _ _) rfl
          case inr.inl =>
            clear hd
            gi_wp2
            have hr := hQ.out
            exact hr _ W hW (Below.refl _ _) rfl
          case inr.inr.inl =>
            have e0 : s 0 = .slice ga n ca := hd 0 (by kernel_rfl)
            have e1 : s 1 = .int .i64 E := hd 1 (by kernel_rfl)
            have hcall := hR W hW
            clear hd
            gi_wp2_with (refine ⟨trivial, ?_⟩; gi_at_call 24; refine (callsIn_wide.2 hcall).mono ?_; clear hcall; rintro e W' ⟨r, rfl, hown, hb⟩)
            have hr := hQ.out
            try simp only [e0, e1] at hr
            exact hr _ W' (hW.trans (hb.mono hW.size)) hb ⟨Ints.of_owns hown, Lies.of_owns hown⟩
          case inr.inr.inr.inl =>
            clear hd
            gi_wp2
            have hr := hQ.out
            exact hr _ W hW (Below.refl _ _) rfl
          case inr.inr.inr.inr.inl =>
            have e3 : s 3 = .slice ga n ca := hd 3 (by kernel_rfl)
            clear hd
            gi_wp2
            have hr := hQ.out
            try simp only [e3] at hr
            exact hr _ W hW (Below.refl _ _) rfl
          case inr.inr.inr.inr.inr.inl =>
            have e4 : s 4 = .int .i64 n := hd 4 (by kernel_rfl)
            clear hd
            obtain ⟨W2, hrun, r1, r2⟩ := make_run W n (by omega)
            gi_wp2
            have hr := hQ.out
            try simp only [e4] at hr
            exact hr _ W2 (hW.grown r2 hW.size (fun k e => by cases e)) ((Below.refl _ _).grown r2 (Nat.le_refl _) (fun k e => by cases e)) ⟨r1, lies_new⟩
          case inr.inr.inr.inr.inr.inr.inl =>
            obtain ⟨i2, l2⟩ : Ints W (s 2) (List.replicate n 0) ∧ Lies (s 2) := hd 2 (by kernel_rfl)
            obtain ⟨i5, l5⟩ : Ints W (s 5) (List.replicate n 0) ∧ Lies (s 5) := hd 5 (by kernel_rfl)
            have hcall := hsame _ _ W i2 i5
            clear hd
            gi_wp2_with (refine ⟨trivial, ?_⟩; gi_at_call 21; refine (callsIn_wide.2 hcall).mono ?_; clear hcall; rintro e W' ⟨rfl, hb⟩)
            have hr := hQ.out
            exact hr _ W' (hW.trans (hb.mono hW.size)) hb rfl
          case inr.inr.inr.inr.inr.inr.inr.inl =>
            have e6 : s 6 = .bool true := hd 6 (by kernel_rfl)
            clear hd
            gi_wp2
            have hr := hQ.out
            try simp only [e6] at hr
            exact hr _ W hW (Below.refl _ _) rfl
          case inr.inr.inr.inr.inr.inr.inr.inr.inl =>
            have e7 : s 7 = .bool true := hd 7 (by kernel_rfl)
            clear hd
            gi_wp2
            have hr := hQ.out
            try simp only [e7] at hr
            exact hr _ W hW (Below.refl _ _) rfl
          case inr.inr.inr.inr.inr.inr.inr.inr.inr.inl =>
            have e7 : s 7 = .bool true := hd 7 (by kernel_rfl)
            clear hd
            gi_wp2
            have hr := hQ.out
            try simp only [e7] at hr
            exact hr _ W hW (Below.refl _ _) rfl
          case inr.inr.inr.inr.inr.inr.inr.inr.inr.inr.inl =>
            have e7 : s 7 = .bool true := hd 7 (by kernel_rfl)
            have e9 : s 9 = .int .i64 E := hd 9 (by kernel_rfl)
            clear hd
            gi_wp2
            have hr := hQ.out
            try simp only [e7, e9] at hr
            exact hr _ W hW (Below.refl _ _) rfl
          case inr.inr.inr.inr.inr.inr.inr.inr.inr.inr.inr.inl =>
            have e7 : s 7 = .bool true := hd 7 (by kernel_rfl)
            have e8 : s 8 = .slice ga n ca := hd 8 (by kernel_rfl)
            have e10 : s 10 = .int .i64 ((E : Int) - 1) := hd 10 (by kernel_rfl)
            have hcall := hR2 W hW
            clear hd
            gi_wp2_with (refine ⟨trivial, ?_⟩; gi_at_call 24; refine (callsIn_wide.2 hcall).mono ?_; clear hcall; rintro e W' ⟨r, rfl, hown, hb⟩)
            have hr := hQ.out
            try simp only [e7, e8, e10] at hr
            exact hr _ W' (hW.trans (hb.mono hW.size)) hb ⟨Ints.of_owns hown, Lies.of_owns hown⟩
          case inr.inr.inr.inr.inr.inr.inr.inr.inr.inr.inr.inr.inl =>
            have e7 : s 7 = .bool true := hd 7 (by kernel_rfl)
            clear hd
            gi_wp2
            have hr := hQ.out
            try simp only [e7] at hr
            exact hr _ W hW (Below.refl _ _) rfl
          case inr.inr.inr.inr.inr.inr.inr.inr.inr.inr.inr.inr.inr.inl =>
            have e7 : s 7 = .bool true := hd 7 (by kernel_rfl)
            have e12 : s 12 = .slice ga n ca := hd 12 (by kernel_rfl)
            clear hd
            gi_wp2
            have hr := hQ.out
            try simp only [e7, e12] at hr
            exact hr _ W hW (Below.refl _ _) rfl
          case inr.inr.inr.inr.inr.inr.inr.inr.inr.inr.inr.inr.inr.inr.inl =>
            have e13 : s 13 = .int .i64 n := hd 13 (by kernel_rfl)
            have e7 : s 7 = .bool true := hd 7 (by kernel_rfl)
            clear hd
            obtain ⟨W2, hrun, r1, r2⟩ := make_run W n (by omega)
            gi_wp2
            have hr := hQ.out
            try simp only [e13, e7] at hr
            exact hr _ W2 (hW.grown r2 hW.size (fun k e => by cases e)) ((Below.refl _ _).grown r2 (Nat.le_refl _) (fun k e => by cases e)) ⟨r1, lies_new⟩
          case inr.inr.inr.inr.inr.inr.inr.inr.inr.inr.inr.inr.inr.inr.inr.inl =>
            have e7 : s 7 = .bool true := hd 7 (by kernel_rfl)
            obtain ⟨i11, l11⟩ : Ints W (s 11) (Y) ∧ Lies (s 11) := hd 11 (by kernel_rfl)
            obtain ⟨i14, l14⟩ : Ints W (s 14) (List.replicate n 0) ∧ Lies (s 14) := hd 14 (by kernel_rfl)
            have hcall := hdiff _ _ W i11 i14
            clear hd
            gi_wp2_with (refine ⟨trivial, ?_⟩; gi_at_call 21; refine (callsIn_wide.2 hcall).mono ?_; clear hcall; rintro e W' ⟨rfl, hb⟩)
            have hr := hQ.out
            try simp only [e7] at hr
            exact hr _ W' (hW.trans (hb.mono hW.size)) hb rfl
          case inr.inr.inr.inr.inr.inr.inr.inr.inr.inr.inr.inr.inr.inr.inr.inr.inl =>
            have e7 : s 7 = .bool true := hd 7 (by kernel_rfl)
            have e15 : s 15 = .bool false := hd 15 (by kernel_rfl)
            clear hd
            gi_wp2
            have hr := hQ.out
            try simp only [e7, e15] at hr
            exact hr _ W hW (Below.refl _ _) rfl
          case inr.inr.inr.inr.inr.inr.inr.inr.inr.inr.inr.inr.inr.inr.inr.inr.inr.inl =>
            have e7 : s 7 = .bool true := hd 7 (by kernel_rfl)
            have e16 : s 16 = .bool true := hd 16 (by kernel_rfl)
            clear hd
            gi_wp2
            have hr := hQ.out
            try simp only [e7, e16] at hr
            exact hr _ W hW (Below.refl _ _) rfl
          case inr.inr.inr.inr.inr.inr.inr.inr.inr.inr.inr.inr.inr.inr.inr.inr.inr.inr =>
            have e17 : s 17 = .bool true := hd 17 (by kernel_rfl)
            clear hd
            gi_wp2
            have hr := hQ.out
            try simp only [e17] at hr
            exact hr _ W hW (Below.refl _ _) rfl
        case fin =>
          intro s W hW hall
          have e18 : s 18 = .bool true := hall 18 (by decide)
          clear hall
          simp only [e18]
          go_wp2
          go_ret
          exact ⟨rfl, hB1.trans (hW.mono hB1.size)⟩
end Go.Proofs.Ytmnmbelmcdfcjaa
