/-
  The program's GapOk at every argument.
-/
import Derived.Test.YtjghhmgnbcabdaaImpl6b
import Derived.Laws.EntriesVeiled
namespace Go.Proofs.Ytjghhmgnbcabdaa
open Go.RowKit Go.Shelf Go.BigFrame

set_option maxHeartbeats 1000000 in
theorem each_gap (J : World → Prop) (R : Nat) (hR : R ≤ 64) (H : Nat → Nat → Bool) (a : Value)
    (hcall : ∀ W (i j : Nat), J W → i < R → j < i + 1 → Calls Try.prog 49 #[.int .i64 i, .int .i64 j, a] W fun e w' => e = .returned (.bool (H i j)) ∧ J w') (w : World) (hw : J w) :
    Calls Try.prog 47 #[.int .i64 R, .func (.func 49) #[] #[a]] w fun e w' => e = .returned (.bool (each H R)) ∧ J w' := by
  obtain ⟨S, hS⟩ : ∃ S, each H R = S := ⟨_, rfl⟩
  rw [hS]
  have hS' := hide hS
  clear hS
  go_enter Try.func47, Try.ntmps47
  go_wp2
  go_loopw [8] (fun i wr => ∃ n : Nat, n ≤ R ∧ i = .int .i64 n ∧ Hid (∀ m, m < n → ∀ k, k < m + 1 → H m k = true) ∧ J wr) (fun i _ => R - (intOf i).toNat)
  case atStart => exact ⟨0, Nat.zero_le _, rfl, hide (fun m hm => by omega), hw⟩
  case round =>
    clear hw
    obtain ⟨n, hn, rfl, hall, hJ⟩ := hrel
    by_cases hlt : n < R
    · have hni : (n : Int) < (R : Int) := by omega
      go_wp2
      go_loopw [13] (fun i wi => ∃ k : Nat, k ≤ n + 1 ∧ i = .int .i64 k ∧ Hid (∀ j, j < k → H n j = true) ∧ J wi) (fun i _ => n + 1 - (intOf i).toNat)
      case atStart => exact ⟨0, Nat.zero_le _, rfl, hide (fun m hm => by omega), hJ⟩
      case round =>
        clear hJ
        obtain ⟨k, hk, rfl, hrow, hJ⟩ := hrel
        by_cases hkn : k < n + 1
        · have hki : (k : Int) < (n : Int) + 1 := by omega
          have hc := hcall wr n k hJ hlt hkn
          obtain ⟨v, hv⟩ : ∃ v, H n k = v := ⟨_, rfl⟩
          rw [hv] at hc
          have hv' := hide hv
          clear hcall hv
          cases v with
          | true =>
            have hrow' : Hid (∀ j, j < k + 1 → H n j = true) := hide (fun j hj => by
              by_cases e : j = k
              · subst e; exact hv'.out
              · exact hrow.out j (by omega))
            clear hrow hv'
            go_wp2_with (go_at_call 49; (with_reducible refine hc.mono ?_); clear hc; rintro e w' ⟨rfl, hJ'⟩)
            go_roundw
            case rel => exact ⟨k + 1, by omega, by go_num, hrow', hJ'⟩
            case measure => simp [intOf]; omega
          | false =>
            obtain rfl : S = false := by
              rw [← hS'.out]
              unfold each
              rw [decide_eq_false_iff_not]
              exact fun h => by have := h n hlt k hkn; rw [hv'.out] at this; cases this
            clear hrow hv'
            go_wp2_with (go_at_call 49; (with_reducible refine hc.mono ?_); clear hc; rintro e w' ⟨rfl, hJ'⟩)
            go_ret
            exact ⟨rfl, hJ'⟩
        · obtain rfl : k = n + 1 := by omega
          have hki : ¬ (n : Int) + 1 < (n : Int) + 1 := by omega
          have hall' : Hid (∀ m, m < n + 1 → ∀ k, k < m + 1 → H m k = true) := hide (fun m hm j hjm => by
            by_cases e : m = n
            · subst e; exact hrow.out j hjm
            · exact hall.out m (by omega) j hjm)
          clear hrow hcall
          go_wp2
          go_roundw
          case rel => exact ⟨n + 1, by omega, by go_num, hall', hJ⟩
          case measure => simp [intOf]; omega
    · obtain rfl : n = R := by omega
      obtain rfl : S = true := by
        rw [← hS'.out]
        unfold each
        rw [decide_eq_true_eq]
        exact hall.out
      clear hcall
      go_wp2
      go_ret
      exact ⟨rfl, hJ⟩

/-- What the gap's closure reads: the small triangle and the corner. -/
structure GapJ (w0 : World) (R p N K a x y z : Nat) (w : World) : Prop where
  sm : Sm w R p
  here : Cor w R x y z N K
  bh : Boxed w a 32 (fromF x y z)
  bel : Below w0.heap.size w0 w
  up : w0.heap.size ≤ R
  ne : a ≠ R ∧ x ≠ R ∧ y ≠ R ∧ z ≠ R
theorem GapJ.grown {w0 : World} {R p N K a x y z : Nat} {w w' : World} (h : GapJ w0 R p N K a x y z w) (hS : Sm w' R p) (hg : w.grownBy w' (some R)) : GapJ w0 R p N K a x y z w' := by
  obtain ⟨h1, h2, h4, h8, h9, n1, n5, n6, n7⟩ := h
  have q : ∀ {a : Nat}, a ≠ R → some a ≠ some R := fun h e => h (Option.some.inj e)
  exact ⟨hS, h2.kept hg (q n5) (q n6) (q n7), h4.kept hg (q n1), h8.grown hg h8.size (fun k e => by cases e; exact h9), h9, n1, n5, n6, n7⟩

set_option maxRecDepth 100000 in
set_option maxHeartbeats 1000000 in
theorem gap_call (w0 : World) (R p N K a x y z i j : Nat) (hp : prm p) (hN : N ≤ 100000) (hK : K ≤ N) (hi : i < 64) (hj : j < i + 1) (w : World) (h : GapJ w0 R p N K a x y z w) :
    Calls Try.prog 49 #[.int .i64 i, .int .i64 j, .pointer (some ⟨a, 0, none⟩)] w fun e w' => e = .returned (.bool (leftN p (N + j) (K + i) == 0)) ∧ GapJ w0 R p N K a x y z w' := by
  have hc := here_in R p x y z N K j i hp (by omega) (by omega) w h.sm h.here
  have h1 := h.bh.cell
  obtain ⟨u, hu⟩ : ∃ u, leftN p (N + j) (K + i) = u := ⟨_, rfl⟩
  rw [hu] at hc ⊢
  have hb : ((u : Int) == 0) = (u == 0) := cast_beq u 0
  rw [← hb]
  clear hb hu
  unfold fromF at h1
  go_enter Try.func49, Try.ntmps49
  go_wp2_with (go_at_call 68; (with_reducible refine hc.mono ?_); rintro e w1 ⟨rfl, hS1, hg1⟩)
  go_ret
  exact ⟨rfl, h.grown hS1 hg1⟩

set_option maxRecDepth 100000 in
set_option maxHeartbeats 2000000 in
theorem implGap_ok (N K R P : Nat) (hN : N ≤ 100000) (hK : K ≤ N) (hR1 : 1 ≤ R) (hR : R ≤ 64) (hp : prm P) (w : World) : Calls Try.prog 26 #[.int .i64 N, .int .i64 K, .int .i64 R, .int .i64 P] w fun e w' => e = .returned (.bool (gapOk P N K R)) ∧ Below w.heap.size w w' := by
  have hp2 := prm_two hp
  have hP := fun w => implPrime_is (p := (P : Int)) (by unfold Fits; omega) (prmI_ok hp) w
  have hS : each (fun i j => leftN P (N + j) (K + i) == 0) R = gapOk P N K R := by
    unfold each gapOk
    simp only [beq_iff_eq]
    rw [decide_eq_decide]
    exact ⟨fun h n hn k hk hnk => h k hk n (by omega), fun h i hi j hj => h j (by omega) i hi (by omega)⟩
  rw [← hS]
  clear hS
  go_enter Try.func26, Try.ntmps26
  go_wp2_with (first
    | (go_at_call 45; refine (corner_t _ _ _ (by omega) (by omega) (by omega) (by omega)).mono ?_; rintro e w' ⟨rfl, rfl⟩)
    | (go_at_call 39; refine (drawn_t _ _ (by omega) (by omega)).mono ?_; rintro e w' ⟨rfl, rfl⟩)
    | (go_at_call 32; (with_reducible refine (hP _).mono ?_); rintro e w1 ⟨rfl, hB1⟩)
    | (refine build_sm rfl _ rfl P rfl ?_)
    | (refine alloc_sm rfl rfl ?_)
    | (refine store_sm rfl _ _ rfl w1.heap.size P rfl rfl (heap_alloc_new _ _) ?_; intro w2 hS2 hg2)
    | (go_at_call 46; (with_reducible refine (from_in _ (N : Int) (K : Int) _).mono ?_); rintro e w3 ⟨rfl, hw3⟩))
  clear hP
  go_at_call 47
  have hsz1 : w.heap.size ≤ w1.heap.size := hB1.size
  have hsz2 : w1.heap.size + 1 ≤ w2.heap.size := by have := hg2.size; simp at this; omega
  have hsz3 : w3.heap.size = w2.heap.size + 3 := by rw [← hw3, fromW_size]
  have hB2 : Below w.heap.size w w2 := (hB1.alloc (by omega) _).grown hg2 (by simp; omega) (fun k e => by cases e; omega)
  have g3 : w2.grownBy w3 none := hw3 ▸ fromW_grown _ _ _ _
  have hB3 : Below w.heap.size w w3 := hB2.grown g3 (by omega) (fun k e => by cases e)
  have hS3 : Sm w3 w1.heap.size P := Sm.kept (.inl hS2) g3 (by simp)
  have q3 : Cor w3 w1.heap.size w2.heap.size (w2.heap.size + 1) (w2.heap.size + 2) N K := hw3 ▸ Cor.new w2 w1.heap.size N K
  clear hw3 g3 hg2 hS2 hB1
  refine (each_gap (GapJ w w1.heap.size P N K w3.heap.size w2.heap.size (w2.heap.size + 1) (w2.heap.size + 2)) R hR _ _ (fun W i j hi hJ hj => gap_call w w1.heap.size P N K _ _ _ _ i j hp hN hK (by omega) (by omega) W (by assumption)) _ ?_).mono ?_
  · have k1 := fun (W : World) o => World.grownBy_alloc W o none
    exact ⟨hS3.kept (k1 _ _) (by simp), q3.kept (k1 _ _) (by simp) (by simp) (by simp), Boxed.new _ _ _, hB3.alloc (by omega) _, by omega, by omega, by omega, by omega, by omega⟩
  · rintro e w5 ⟨rfl, hJ⟩
    go_wp2
    go_ret
    exact ⟨rfl, hJ.bel⟩

theorem implGap (row place rows p : Int) (hf : Fits p) (w : World) : Calls Try.prog 26 #[.int .i64 row, .int .i64 place, .int .i64 rows, .int .i64 p] w fun e w' => e = .returned (.bool (gapV row place rows p)) ∧ Below w.heap.size w w' := by
  by_cases hbad : badG row place rows p
  · rw [gapV_bad hbad]
    unfold badG at hbad
    by_cases h1 : row < 0 ∨ 100000 < row ∨ place < 0 ∨ row < place
    · clear hbad
      go_enter Try.func26, Try.ntmps26
      go_wp2_with (go_at_call 45; refine (corner_f _ _ _ h1).mono ?_; rintro e w' ⟨rfl, rfl⟩)
      go_ret
      exact ⟨rfl, Below.refl _ _⟩
    · by_cases h2 : rows < 1 ∨ 64 < rows
      · clear hbad
        go_enter Try.func26, Try.ntmps26
        go_wp2_with (first | (go_at_call 45; refine (corner_t _ _ _ (by omega) (by omega) (by omega) (by omega)).mono ?_; rintro e w' ⟨rfl, rfl⟩) | (go_at_call 39; refine (drawn_f _ _ h2).mono ?_; rintro e w' ⟨rfl, rfl⟩))
        go_ret
        exact ⟨rfl, Below.refl _ _⟩
      · have hpr : prmI p = false := by
          rcases hbad with h | h | h | h | h | h | h
          · exact h
          · exact absurd (.inl h) h2
          · exact absurd (.inr h) h2
          · exact absurd (.inl h) h1
          · exact absurd (.inr (.inl h)) h1
          · exact absurd (.inr (.inr (.inl h))) h1
          · exact absurd (.inr (.inr (.inr h))) h1
        have hP := fun w => implPrime_is hf hpr w
        clear hbad hpr
        go_enter Try.func26, Try.ntmps26
        go_wp2_with (first | (go_at_call 45; refine (corner_t _ _ _ (by omega) (by omega) (by omega) (by omega)).mono ?_; rintro e w' ⟨rfl, rfl⟩) | (go_at_call 39; refine (drawn_t _ _ (by omega) (by omega)).mono ?_; rintro e w' ⟨rfl, rfl⟩) | (go_at_call 32; (with_reducible refine (hP _).mono ?_); rintro e w1 ⟨rfl, hB1⟩))
        go_ret
        exact ⟨rfl, hB1⟩
  · obtain ⟨N, K, R, P, rfl, rfl, rfl, rfl, hN, hK, hR1, hR, hp⟩ := badG_nat hbad
    rw [gapV_nat hN hK hR1 hR hp]
    exact implGap_ok N K R P hN hK hR1 hR hp w
end Go.Proofs.Ytjghhmgnbcabdaa
