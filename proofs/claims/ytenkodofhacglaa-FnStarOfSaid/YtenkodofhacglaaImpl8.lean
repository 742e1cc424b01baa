/-
  The program's chapter 8: SharedOf, LeastOver, LeastOfAll, StarOf and TripleOf at every argument.
-/
import Derived.Test.YtenkodofhacglaaFold8
import Derived.Test.YtenkodofhacglaaLast8
import Derived.Test.YtenkodofhacglaaSpec8
import Derived.Test.YtenkodofhacglaaImplCell
namespace Go.Proofs.Ytenkodofhacglaa
open Go.RowKit Go.Shelf
attribute [local go_sem] Oper.semAt_some

theorem values_in (a : Option Addr) (l c : Nat) (w : World) : Calls Try.prog 43 #[.slice a l c] w fun e w' => e = .returned (.func (.func 55) #[] #[.pointer (some ⟨w.heap.size, 0, none⟩)]) ∧ w.alloc (.cells #[.slice a l c] 27) = w' := by
  have hmf : ∀ (fn : Fn) (first cap : Array Value) (w : World), (Instr.makeFunc fn first cap).run Try.prog w = .ok (.func fn first cap) w := fun _ _ _ _ => rfl
  go_enter Try.func43, Try.ntmps43
  go_wp2
  go_ret
  exact ⟨rfl, rfl⟩

theorem numbersTo_in (N : Int) (w : World) : Calls Try.prog 45 #[.int .i64 N] w fun e w' => e = .returned (.func (.func 56) #[] #[.pointer (some ⟨w.heap.size, 0, none⟩)]) ∧ w.alloc (.cells #[.int .i64 N] 3) = w' := by
  have hmf : ∀ (fn : Fn) (first cap : Array Value) (w : World), (Instr.makeFunc fn first cap).run Try.prog w = .ok (.func fn first cap) w := fun _ _ _ _ => rfl
  go_enter Try.func45, Try.ntmps45
  go_wp2
  go_ret
  exact ⟨rfl, rfl⟩

/-- The numbers of a slice, folded. -/
theorem foldVals_in (jf : Nat) (hjf : jf = 51 ∨ jf = 44 ∨ jf = 58) (b off L cap : Nat) (f g : Nat → Int) (hL : L ≤ 1000000) (w : World) (hb : b < w.heap.size)
    (hv : ∀ i, i < L → w.cell? ⟨b, off + i, none⟩ = some (.int .i64 (f i)))
    (hj : ∀ j W, j < L → Calls Try.prog jf #[.int .i64 (g j), .int .i64 (f j)] W fun e W' => e = .returned (.int .i64 (g (j + 1))) ∧ Below W.heap.size W W') :
    Calls Try.prog 42 #[.func (.func 55) #[] #[.pointer (some ⟨w.heap.size, 0, none⟩)], .int .i64 (g 0), .func (.func jf) #[] #[]]
      (w.alloc (.cells #[.slice (some ⟨b, off, none⟩) L cap] 27)) fun e w' => e = .returned (.int .i64 (g L)) ∧ Below w.heap.size w w' := by
  have hA := (Below.refl w.heap.size w).alloc (Nat.le_refl _) (.cells #[.slice (some ⟨b, off, none⟩) L cap] 27)
  have hbx := Boxed.new w 27 (.slice (some ⟨b, off, none⟩) L cap)
  obtain ⟨W0, hW0⟩ : ∃ W0, w.alloc (.cells #[.slice (some ⟨b, off, none⟩) L cap] 27) = W0 := ⟨_, rfl⟩
  rw [hW0] at hA hbx ⊢
  refine (fold_in 55 jf L hjf _ f g (fun _ k => k = b) W0 (enters_of Try.func55 (by kernel_rfl) rfl) (fun W hW => ?_) (fun _ k hk => by have := hA.size; omega) hj).mono
    fun e w' h => ⟨h.1, hA.trans (h.2.mono hA.size)⟩
  have hs := hA.size
  have hs2 := hW.size
  exact vals_stops 8 w.heap.size b off L cap f hL (by omega) W (Nat.lt_of_lt_of_le hbx.lt hs2) (by omega) ((hW.cell (p := ⟨w.heap.size, 0, none⟩) hbx.lt).trans hbx.cell)
    (fun i hi => (hW.cell (p := ⟨b, off + i, none⟩) (by show b < _; omega)).trans ((hA.cell (p := ⟨b, off + i, none⟩) hb).trans (hv i hi)))

theorem sharedOfAll_in (b off L cap : Nat) (f : Nat → Nat) (hL : L ≤ 1000000) (w : World) (hb : b < w.heap.size) (hf : ∀ i, i < L → 0 < f i ∧ f i ≤ 1152921504606846976)
    (hv : ∀ i, i < L → w.cell? ⟨b, off + i, none⟩ = some (.int .i64 (f i : Nat))) :
    Calls Try.prog 37 #[.slice (some ⟨b, off, none⟩) L cap] w fun e w' => e = .returned (.int .i64 (gcdU f L : Nat)) ∧ Below w.heap.size w w' := by
  have hF := foldVals_in 51 (.inl rfl) b off L cap (fun i => (f i : Nat)) (fun i => (gcdU f i : Nat)) hL w hb hv (fun j W hj => by
    have h1 := gcdU_le f j (fun i hi => (hf i (by omega)).1) (fun i hi => (hf i (by omega)).2)
    have h2 := (hf j hj).2
    exact two_in (gcdU f j) (f j) (by omega) (by omega) W)
  have hF' : Calls Try.prog 42 #[.func (.func 55) #[] #[.pointer (some ⟨w.heap.size, 0, none⟩)], .int .i64 0, .func (.func 51) #[] #[]]
      (w.alloc (.cells #[.slice (some ⟨b, off, none⟩) L cap] 27)) fun e w' => e = .returned (.int .i64 (gcdU f L : Nat)) ∧ Below w.heap.size w w' := hF
  clear hF hv hf
  go_enter Try.func37, Try.ntmps37
  go_wp2_with (first | (go_at_call 43; refine (values_in _ _ _ _).mono ?_; rintro e w' ⟨rfl, rfl⟩) | (go_at_call 42; refine hF'.mono ?_; rintro e w2 ⟨rfl, hB⟩))
  go_ret
  exact ⟨rfl, hB⟩

/-- The product of the first numbers. -/
def prodU (f : Nat → Nat) : Nat → Nat
  | 0 => 1
  | m + 1 => prodU f m * f m

theorem productOfAll_in (b off L cap : Nat) (f : Nat → Nat) (hL : L ≤ 1000000) (w : World) (hb : b < w.heap.size) (hf : ∀ i, i < L → prodU f (i + 1) ≤ 4000000000000000000)
    (hv : ∀ i, i < L → w.cell? ⟨b, off + i, none⟩ = some (.int .i64 (f i : Nat))) :
    Calls Try.prog 50 #[.slice (some ⟨b, off, none⟩) L cap] w fun e w' => e = .returned (.int .i64 (prodU f L : Nat)) ∧ Below w.heap.size w w' := by
  have hF := foldVals_in 58 (.inr (.inr rfl)) b off L cap (fun i => (f i : Nat)) (fun i => (prodU f i : Nat)) hL w hb hv (fun j W hj =>
    times_in (prodU f j) (f j) (prodU f (j + 1)) rfl (hf j hj) W)
  have hF' : Calls Try.prog 42 #[.func (.func 55) #[] #[.pointer (some ⟨w.heap.size, 0, none⟩)], .int .i64 1, .func (.func 58) #[] #[]]
      (w.alloc (.cells #[.slice (some ⟨b, off, none⟩) L cap] 27)) fun e w' => e = .returned (.int .i64 (prodU f L : Nat)) ∧ Below w.heap.size w w' := hF
  clear hF hv hf
  go_enter Try.func50, Try.ntmps50
  go_wp2_with (first | (go_at_call 43; refine (values_in _ _ _ _).mono ?_; rintro e w' ⟨rfl, rfl⟩) | (go_at_call 42; refine hF'.mono ?_; rintro e w2 ⟨rfl, hB⟩))
  go_ret
  exact ⟨rfl, hB⟩

set_option maxHeartbeats 1000000 in
theorem implShared (row : Int) (w : World) : Calls Try.prog 14 #[.int .i64 row] w fun e w' => e = .returned (.int .i64 (sharedV row)) ∧ Below w.heap.size w w' := by
  by_cases hbad : row < 2 ∨ 60 < row
  · rw [sharedV_bad hbad]
    by_cases h2 : row < 2
    all_goals
      go_enter Try.func14, Try.ntmps14
      go_wp2
      go_ret
      exact ⟨rfl, Below.refl _ _⟩
  · obtain ⟨N, rfl⟩ : ∃ N : Nat, row = N := ⟨row.toNat, by omega⟩
    have hN2 : 2 ≤ N := by omega
    have hN : N ≤ 60 := by omega
    rw [sharedV_nat hN2 hN]
    have h1 : (1 : Int) ≤ (N : Int) := by omega
    have h3 : ¬ (N : Int) < 2 := by omega
    have h4 : ¬ (60 : Int) < (N : Int) := by omega
    have h5 : (N : Int) ≤ (N : Int) + 1 := by omega
    have hsh : shared N = gcdU (fun k => bin N (k + 1)) (N - 1) := rfl
    clear hbad
    go_enter Try.func14, Try.ntmps14
    go_wp2_with (go_at_call 38; refine (lastRow_in N hN _).mono ?_; rintro e w1 ⟨g, rfl, hrow, hB⟩)
    have hS := sharedOfAll_in g 1 (N - 1) N (fun k => bin N (k + 1)) (by omega) w1 hrow.lt (fun i hi => ⟨bin_pos _ _ (by omega), bin_60 hN _⟩) (fun i hi => by have := hrow.cell (i := i + 1) (by omega); rw [Nat.add_comm 1 i]; exact this)
    rw [← hsh] at hS
    clear hsh
    go_wp2_with (go_at_call 37; refine hS.mono ?_; rintro e w2 ⟨rfl, hB2⟩)
    go_ret
    exact ⟨rfl, hB.trans (hB2.mono hB.size)⟩

set_option maxHeartbeats 1000000 in
theorem implOver (row : Int) (w : World) : Calls Try.prog 18 #[.int .i64 row] w fun e w' => e = .returned (.int .i64 (overV row)) ∧ Below w.heap.size w w' := by
  by_cases hbad : row < 0 ∨ 36 < row
  · rw [overV_bad hbad]
    go_enter Try.func18, Try.ntmps18
    go_wp2_with (go_at_call 41; refine (within_f _ _ _ (by assumption)).mono ?_; rintro e w' ⟨rfl, rfl⟩)
    go_ret
    exact ⟨rfl, Below.refl _ _⟩
  · obtain ⟨N, rfl⟩ : ∃ N : Nat, row = N := ⟨row.toNat, by omega⟩
    have hN : N ≤ 36 := by omega
    rw [overV_nat hN]
    have hol := over_le hN
    have hov : over N = lcmU (bin N) (N + 1) := rfl
    have hpos : ∀ i, i < N + 1 → 0 < bin N i := fun i hi => bin_pos _ _ (by omega)
    have hle : ∀ j, j ≤ N + 1 → lcmU (bin N) j ≤ 6000000000000000 := fun j hj => by
      have h1 := lcmU_mono (f := bin N) j (N + 1 - j) (fun i hi => hpos i (by omega))
      rw [show j + (N + 1 - j) = N + 1 by omega] at h1
      omega
    have hF : ∀ (b : Nat) (w1 : World), RowAt w1 b (N + 1) (fun i => (bin N i : Int)) →
        Calls Try.prog 42 #[.func (.func 55) #[] #[.pointer (some ⟨w1.heap.size, 0, none⟩)], .int .i64 1, .func (.func 44) #[] #[]]
          (w1.alloc (.cells #[.slice (some ⟨b, 0, none⟩) (N + 1) (N + 1)] 27)) fun e w' => e = .returned (.int .i64 (over N : Nat)) ∧ Below w1.heap.size w1 w' := fun b w1 hrow =>
      foldVals_in 44 (.inr (.inl rfl)) b 0 (N + 1) (N + 1) (fun i => (bin N i : Int)) (fun i => (lcmU (bin N) i : Nat)) (by omega) w1 hrow.lt
        (fun i hi => by rw [Nat.zero_add]; exact hrow.cell hi)
        (fun j W hj => by
          have h1 := hle j (by omega)
          have h2 := hle (j + 1) (by omega)
          have h3 := bin_60 (show N ≤ 60 by omega) j
          exact least_in (lcmU (bin N) j) (bin N j) (lcmU (bin N) (j + 1)) (lcmU_pos j (fun i hi => hpos i (by omega))) (by omega) (hpos j hj) (by omega) rfl (by omega) W)
    have h1a : (0 : Int) ≤ N := by omega
    have h1b : (N : Int) ≤ 36 := by omega
    clear hbad hov hpos hle
    go_enter Try.func18, Try.ntmps18
    go_wp2_with (first | (go_at_call 41; refine (within_t _ _ _ (by assumption) (by assumption)).mono ?_; rintro e w' ⟨rfl, rfl⟩) | (go_at_call 38; refine (lastRow_in N (by omega) _).mono ?_; rintro e w1 ⟨g, rfl, hrow, hB⟩) | (go_at_call 43; refine (values_in _ _ _ _).mono ?_; rintro e w' ⟨rfl, rfl⟩) | (go_at_call 42; refine (hF _ _ (by assumption)).mono ?_; rintro e w2 ⟨rfl, hB2⟩))
    go_ret
    exact ⟨rfl, hB.trans (hB2.mono hB.size)⟩

set_option maxHeartbeats 1000000 in
theorem implOfAll (n : Int) (w : World) : Calls Try.prog 21 #[.int .i64 n] w fun e w' => e = .returned (.int .i64 (ofAllV n)) ∧ Below w.heap.size w w' := by
  by_cases hbad : n < 1 ∨ 37 < n
  · rw [ofAllV_bad hbad]
    by_cases h2 : n < 1
    all_goals
      go_enter Try.func21, Try.ntmps21
      go_wp2
      go_ret
      exact ⟨rfl, Below.refl _ _⟩
  · obtain ⟨N, rfl⟩ : ∃ N : Nat, n = N := ⟨n.toNat, by omega⟩
    have hN1 : 1 ≤ N := by omega
    have hN : N ≤ 37 := by omega
    rw [ofAllV_nat hN1 hN]
    have hol := ofAll_le hN
    have hov : ofAll N = lcmU (fun k => k + 1) N := rfl
    have hle : ∀ j, j ≤ N → lcmU (fun k => k + 1) j ≤ 6000000000000000 := fun j hj => by
      have h1 := lcmU_mono (f := fun k => k + 1) j (N - j) (fun i hi => by show 0 < i + 1; omega)
      rw [show j + (N - j) = N by omega] at h1
      omega
    have hF : ∀ w1 : World,
        Calls Try.prog 42 #[.func (.func 56) #[] #[.pointer (some ⟨w1.heap.size, 0, none⟩)], .int .i64 1, .func (.func 44) #[] #[]]
          (w1.alloc (.cells #[.int .i64 N] 3)) fun e w' => e = .returned (.int .i64 (ofAll N : Nat)) ∧ Below w1.heap.size w1 w' := fun w1 => by
      have hA := (Below.refl w1.heap.size w1).alloc (Nat.le_refl _) (.cells #[.int .i64 N] 3)
      have hbx := Boxed.new w1 3 (.int .i64 N)
      obtain ⟨W0, hW0⟩ : ∃ W0, w1.alloc (.cells #[.int .i64 N] 3) = W0 := ⟨_, rfl⟩
      rw [hW0] at hA hbx ⊢
      refine (fold_in 56 44 N (.inr (.inl rfl)) _ (fun j => (j : Int) + 1) (fun i => (lcmU (fun k => k + 1) i : Nat)) (fun _ k => k = w1.heap.size) W0 (enters_of Try.func56 (by kernel_rfl) rfl)
        (fun W hW => numbers_stops 8 w1.heap.size N (by omega) (by omega) W (Nat.lt_of_lt_of_le hbx.lt hW.size) ((hW.cell (p := ⟨w1.heap.size, 0, none⟩) hbx.lt).trans hbx.cell)) (fun _ k hk => by have := hbx.lt; omega) (fun j W hj => ?_)).mono
        fun e w' h => ⟨h.1, hA.trans (h.2.mono hA.size)⟩
      have h1 := hle j (by omega)
      have h2 := hle (j + 1) (by omega)
      exact least_in (lcmU (fun k => k + 1) j) (j + 1) (lcmU (fun k => k + 1) (j + 1)) (lcmU_pos j (fun i hi => by show 0 < i + 1; omega)) (by omega) (by omega) (by omega) rfl (by omega) W
    have h3 : ¬ (N : Int) < 1 := by omega
    have h4 : ¬ (37 : Int) < (N : Int) := by omega
    clear hbad hov hle
    go_enter Try.func21, Try.ntmps21
    go_wp2_with (first | (go_at_call 45; refine (numbersTo_in _ _).mono ?_; rintro e w' ⟨rfl, rfl⟩) | (go_at_call 42; refine (hF _).mono ?_; rintro e w2 ⟨rfl, hB2⟩))
    go_ret
    exact ⟨rfl, hB2⟩

/-- Whether a cell has cells around it. -/
theorem around_t (row place most : Int) (w : World) (h1 : 2 ≤ row) (h2 : row ≤ most) (h3 : 1 ≤ place) (h4 : place < row) : Calls Try.prog 46 #[.int .i64 row, .int .i64 place, .int .i64 most] w fun e w' => e = .returned (.bool true) ∧ w = w' := by
  go_enter Try.func46, Try.ntmps46
  go_wp2
  go_ret
  exact ⟨rfl, rfl⟩
theorem around_f (row place most : Int) (w : World) (h : row < 2 ∨ most < row ∨ place < 1 ∨ row - 1 < place) : Calls Try.prog 46 #[.int .i64 row, .int .i64 place, .int .i64 most] w fun e w' => e = .returned (.bool false) ∧ w = w' := by
  by_cases h1 : 2 ≤ row
  · by_cases h2 : row ≤ most
    · by_cases h3 : 1 ≤ place
      · have h4 : ¬ place < row := by omega
        clear h
        go_enter Try.func46, Try.ntmps46
        go_wp2
        go_ret
        exact ⟨rfl, rfl⟩
      · clear h
        go_enter Try.func46, Try.ntmps46
        go_wp2
        go_ret
        exact ⟨rfl, rfl⟩
    · clear h
      go_enter Try.func46, Try.ntmps46
      go_wp2
      go_ret
      exact ⟨rfl, rfl⟩
  · clear h
    go_enter Try.func46, Try.ntmps46
    go_wp2
    go_ret
    exact ⟨rfl, rfl⟩

set_option maxHeartbeats 1000000 in
theorem implStar (row place : Int) (w : World) : Calls Try.prog 25 #[.int .i64 row, .int .i64 place] w fun e w' =>
    ∃ v, e = .returned v ∧ w'.ownsRow w.heap.size 3 1 v (starV row place).length ((starV row place).map (Value.int .i64)) ∧ Below w.heap.size w w' := by
  by_cases hbad : badS row place
  · rw [starV_bad hbad]
    unfold badS at hbad
    go_enter Try.func25, Try.ntmps25
    go_wp2_with (go_at_call 46; refine (around_f _ _ _ _ (by assumption)).mono ?_; rintro e w' ⟨rfl, rfl⟩)
    go_ret
    exact ⟨_, rfl, World.ownsRow_nil _ _ _ _, Below.refl _ _⟩
  · obtain ⟨N, K, rfl, rfl, hN, hK1, hK⟩ := badS_nat hbad
    rw [starV_nat hN hK1 hK]
    have hcell : ∀ (a b : Nat) (x y : Int), a ≤ 60 → (a : Int) = x → (b : Int) = y → ∀ w, Calls Try.prog 28 #[.int .i64 x, .int .i64 y] w fun e w' => e = .returned (.int .i64 (bin a b : Nat)) ∧ Below w.heap.size w w' := fun a b x y ha hx hy w => by
      subst hx hy
      have h := implCell a b w
      rwa [cellV_nat ha] at h
    have hC0 := hcell (N - 1) (K - 1) ((N : Int) - 1) ((K : Int) - 1) (by omega) (by omega) (by omega)
    have hC1 := hcell (N - 1) K ((N : Int) - 1) K (by omega) (by omega) rfl
    have hC2 := hcell N (K + 1) N ((K : Int) + 1) (by omega) rfl (by omega)
    have hC3 := hcell (N + 1) (K + 1) ((N : Int) + 1) ((K : Int) + 1) (by omega) (by omega) (by omega)
    have hC4 := hcell (N + 1) K ((N : Int) + 1) K (by omega) (by omega) rfl
    have hC5 := hcell N (K - 1) N ((K : Int) - 1) (by omega) rfl (by omega)
    rw [starL_lit]
    obtain ⟨s0, e0⟩ : ∃ s, bin (N - 1) (K - 1) = s := ⟨_, rfl⟩
    obtain ⟨s1, e1⟩ : ∃ s, bin (N - 1) K = s := ⟨_, rfl⟩
    obtain ⟨s2, e2⟩ : ∃ s, bin N (K + 1) = s := ⟨_, rfl⟩
    obtain ⟨s3, e3⟩ : ∃ s, bin (N + 1) (K + 1) = s := ⟨_, rfl⟩
    obtain ⟨s4, e4⟩ : ∃ s, bin (N + 1) K = s := ⟨_, rfl⟩
    obtain ⟨s5, e5⟩ : ∃ s, bin N (K - 1) = s := ⟨_, rfl⟩
    have es0 : star N K 0 = s0 := e0
    have es1 : star N K 1 = s1 := e1
    have es2 : star N K 2 = s2 := e2
    have es3 : star N K 3 = s3 := e3
    have es4 : star N K 4 = s4 := e4
    have es5 : star N K 5 = s5 := e5
    rw [es0, es1, es2, es3, es4, es5]
    rw [e0] at hC0
    rw [e1] at hC1
    rw [e2] at hC2
    rw [e3] at hC3
    rw [e4] at hC4
    rw [e5] at hC5
    have hA := fun w => around_t N K 30 w (by omega) (by omega) (by omega) (by omega)
    clear hcell e0 e1 e2 e3 e4 e5 es0 es1 es2 es3 es4 es5 hbad
    have hB0 := Below.refl w.heap.size w
    go_enter Try.func25, Try.ntmps25
    go_wp2_with (first
      | (go_at_call 46; refine (hA _).mono ?_; rintro e w' ⟨rfl, rfl⟩)
      | (go_at_call 28; (with_reducible refine (hC0 _).mono ?_); rintro e w' ⟨rfl, hB'⟩; replace hB0 := hB0.trans (hB'.mono hB0.size); clear hB')
      | (go_at_call 28; (with_reducible refine (hC1 _).mono ?_); rintro e w' ⟨rfl, hB'⟩; replace hB0 := hB0.trans (hB'.mono hB0.size); clear hB')
      | (go_at_call 28; (with_reducible refine (hC2 _).mono ?_); rintro e w' ⟨rfl, hB'⟩; replace hB0 := hB0.trans (hB'.mono hB0.size); clear hB')
      | (go_at_call 28; (with_reducible refine (hC3 _).mono ?_); rintro e w' ⟨rfl, hB'⟩; replace hB0 := hB0.trans (hB'.mono hB0.size); clear hB')
      | (go_at_call 28; (with_reducible refine (hC4 _).mono ?_); rintro e w' ⟨rfl, hB'⟩; replace hB0 := hB0.trans (hB'.mono hB0.size); clear hB')
      | (go_at_call 28; (with_reducible refine (hC5 _).mono ?_); rintro e w' ⟨rfl, hB'⟩; replace hB0 := hB0.trans (hB'.mono hB0.size); clear hB'))
    go_ret
    exact ⟨_, rfl, World.ownsRow_lit _ #[.int .i64 s0, .int .i64 s1, .int .i64 s2, .int .i64 s3, .int .i64 s4, .int .i64 s5] 6 hB0.size (by decide) rfl, hB0.alloc hB0.size _⟩

set_option maxHeartbeats 2000000 in
theorem implTriple8 (row place which : Int) (w : World) : Calls Try.prog 30 #[.int .i64 row, .int .i64 place, .int .i64 which] w fun e w' =>
    e = .returned (.tuple #[.int .i64 (tripN row place which), .int .i64 (tripD row place which), .bool (tripB row place which)]) ∧ Below w.heap.size w w' := by
  by_cases hbad : badT8 row place which
  · obtain ⟨e1, e2, e3⟩ := trip_bad hbad
    rw [e1, e2, e3]
    clear e1 e2 e3
    unfold badT8 badS at hbad
    by_cases hs : row < 2 ∨ 20 < row ∨ place < 1 ∨ row - 1 < place
    · clear hbad
      go_enter Try.func30, Try.ntmps30
      go_wp2_with (go_at_call 46; refine (around_f _ _ _ _ (by assumption)).mono ?_; rintro e w' ⟨rfl, rfl⟩)
      go_ret3
      exact ⟨rfl, Below.refl _ _⟩
    · have hA := fun w => around_t row place 20 w (by omega) (by omega) (by omega) (by omega)
      have hW : which < 0 ∨ 1 < which := by omega
      clear hbad hs
      go_enter Try.func30, Try.ntmps30
      go_wp2_with (first | (go_at_call 46; refine (hA _).mono ?_; rintro e w' ⟨rfl, rfl⟩) | (go_at_call 41; refine (within_f _ _ _ (by assumption)).mono ?_; rintro e w' ⟨rfl, rfl⟩))
      go_ret3
      exact ⟨rfl, Below.refl _ _⟩
  · obtain ⟨N, K, W, rfl, rfl, rfl, hN, hK1, hK, hW⟩ := badT8_nat hbad
    have hSt := fun w => implStar N K w
    rw [tripN_nat hN hK1 hK hW, tripD_nat hN hK1 hK hW, tripB_nat hN hK1 hK hW]
    rw [starV_nat (by omega) hK1 hK] at hSt
    have hp := triP_le hN hK1 hK hW
    have hl0 := star_le (n := N) (k := K) (by omega) W
    have hl2 := star_le (n := N) (k := K) (by omega) (W + 2)
    have hl4 := star_le (n := N) (k := K) (by omega) (W + 4)
    have hp0 := star_pos hK1 hK W
    have hp2 := star_pos hK1 hK (W + 2)
    have hp4 := star_pos hK1 hK (W + 4)
    have hem : ∀ w, Calls Try.prog 25 #[.int .i64 N, .int .i64 K] w fun e w' => ∃ g c, e = .returned (.slice (some ⟨g, 0, none⟩) 6 c) ∧ w'.cell? ⟨g, W, none⟩ = some (.int .i64 (star N K W : Nat)) ∧ w'.cell? ⟨g, W + 2, none⟩ = some (.int .i64 (star N K (W + 2) : Nat)) ∧ w'.cell? ⟨g, W + 4, none⟩ = some (.int .i64 (star N K (W + 4) : Nat)) ∧ Below w.heap.size w w' := fun w => (hSt w).mono fun e w' ⟨v, he, hown, hB⟩ => by
      obtain ⟨g, cap, rfl, _, _, _, hc⟩ := owns_open hown (by simp [starL])
      have hcc : ∀ i, i < 6 → w'.cell? ⟨g, i, none⟩ = some (.int .i64 (star N K i : Nat)) := fun i hi => hc i _ (by unfold starL; rw [List.getElem?_map, List.getElem?_map, List.getElem?_range hi]; rfl)
      exact ⟨g, cap, he, hcc W (by omega), hcc (W + 2) (by omega), hcc (W + 4) (by omega), hB⟩
    have hpe : triP N K W = star N K W * star N K (W + 2) * star N K (W + 4) := rfl
    have hge : triG N K W = Nat.gcd (Nat.gcd (star N K W) (star N K (W + 2))) (star N K (W + 4)) := rfl
    generalize triP N K W = Pn at *
    generalize triG N K W = Gn at *
    generalize star N K W = x at *
    generalize star N K (W + 2) = y at *
    generalize star N K (W + 4) = z at *
    obtain ⟨f, hf⟩ : ∃ f : Nat → Nat, f = fun i => if i = 0 then x else if i = 1 then y else z := ⟨_, rfl⟩
    have hDl : x * y ≤ Pn := by rw [hpe]; exact Nat.le_mul_of_pos_right _ hp4
    have hxl : x ≤ x * y := Nat.le_mul_of_pos_right _ hp2
    have hpr : prodU f 3 = Pn := by rw [hpe, hf]; simp [prodU]
    have hgc : gcdU f 3 = Gn := by rw [hge, hf]; simp [gcdU]
    have hf0 : ∀ i, i < 3 → prodU f (i + 1) ≤ 4000000000000000000 := fun i hi => by
      rcases (show i = 0 ∨ i = 1 ∨ i = 2 by omega) with rfl | rfl | rfl
      · rw [show prodU f (0 + 1) = x by rw [hf]; simp [prodU]]; omega
      · rw [show prodU f (1 + 1) = x * y by rw [hf]; simp [prodU]]; omega
      · rw [hpr]; omega
    have hf1 : ∀ i, i < 3 → 0 < f i ∧ f i ≤ 1152921504606846976 := fun i hi => by
      rcases (show i = 0 ∨ i = 1 ∨ i = 2 by omega) with rfl | rfl | rfl
      · rw [show f 0 = x by rw [hf]; rfl]; omega
      · rw [show f 1 = y by rw [hf]; rfl]; omega
      · rw [show f 2 = z by rw [hf]; rfl]; omega
    have hP : ∀ (b : Nat) (w : World), b < w.heap.size → (∀ i, i < 3 → w.cell? ⟨b, 0 + i, none⟩ = some (.int .i64 (f i : Nat))) → Calls Try.prog 50 #[.slice (some ⟨b, 0, none⟩) 3 3] w fun e w' => e = .returned (.int .i64 Pn) ∧ Below w.heap.size w w' := fun b w hb hv => by
      have h := productOfAll_in b 0 3 3 f (by omega) w hb hf0 hv
      rwa [hpr] at h
    have hG : ∀ (b : Nat) (w : World), b < w.heap.size → (∀ i, i < 3 → w.cell? ⟨b, 0 + i, none⟩ = some (.int .i64 (f i : Nat))) → Calls Try.prog 37 #[.slice (some ⟨b, 0, none⟩) 3 3] w fun e w' => e = .returned (.int .i64 Gn) ∧ Below w.heap.size w w' := fun b w hb hv => by
      have h := sharedOfAll_in b 0 3 3 f (by omega) w hb hf1 hv
      rwa [hgc] at h
    have hA := fun w => around_t N K 20 w (by omega) (by omega) (by omega) (by omega)
    have hWa : (0 : Int) ≤ (W : Int) := by omega
    have hWb : (W : Int) ≤ 1 := by omega
    have hWi : (W : Int) < 6 := by omega
    have hW2 : (W : Int) + 2 < 6 := by omega
    have hW4 : (W : Int) + 4 < 6 := by omega
    have hW2n : ((W : Int) + 2).toNat = W + 2 := by omega
    have hW4n : ((W : Int) + 4).toNat = W + 4 := by omega
    have h2 : (0 : Int) ≤ (W : Int) + 2 := by omega
    have h4 : (0 : Int) ≤ (W : Int) + 4 := by omega
    clear hSt hbad hpe hge hDl hxl hpr hgc hf0 hf1
    go_enter Try.func30, Try.ntmps30
    go_wp2_with (first | (go_at_call 46; refine (hA _).mono ?_; rintro e w' ⟨rfl, rfl⟩) | (go_at_call 41; refine (within_t _ _ _ (by assumption) (by assumption)).mono ?_; rintro e w' ⟨rfl, rfl⟩) | (go_at_call 25; refine (hem _).mono ?_; rintro e w1 ⟨g, c, rfl, hc0, hc2, hc4, hB1⟩))
    have hlit : ∀ i, i < 3 → ((w1.alloc (Obj.cells #[Value.int IntKind.i64 x, Value.int IntKind.i64 y, Value.int IntKind.i64 z] 3)).drew).cell? ⟨w1.heap.size, 0 + i, none⟩ = some (.int .i64 (f i : Nat)) := fun i hi => by
      rw [hf]
      have hn := World.alloc_heap_new w1 (Obj.cells #[Value.int IntKind.i64 x, Value.int IntKind.i64 y, Value.int IntKind.i64 z] 3)
      have hd : ((w1.alloc (Obj.cells #[Value.int IntKind.i64 x, Value.int IntKind.i64 y, Value.int IntKind.i64 z] 3)).drew).heap[w1.heap.size]? = some (Obj.cells #[Value.int IntKind.i64 x, Value.int IntKind.i64 y, Value.int IntKind.i64 z] 3) := hn
      generalize (w1.alloc (Obj.cells #[Value.int IntKind.i64 x, Value.int IntKind.i64 y, Value.int IntKind.i64 z] 3)).drew = Wq at hd ⊢
      generalize w1.heap.size = b at hd ⊢
      rcases (show i = 0 ∨ i = 1 ∨ i = 2 by omega) with rfl | rfl | rfl
      · simp only [World.cell?, hd]; rfl
      · simp only [World.cell?, hd]; rfl
      · simp only [World.cell?, hd]; rfl
    have hBn : Below w.heap.size w ((w1.alloc (Obj.cells #[Value.int IntKind.i64 x, Value.int IntKind.i64 y, Value.int IntKind.i64 z] 3)).drew) := (hB1.alloc hB1.size _).drew
    have hlt : w1.heap.size < ((w1.alloc (Obj.cells #[Value.int IntKind.i64 x, Value.int IntKind.i64 y, Value.int IntKind.i64 z] 3)).drew).heap.size := by
      have : ((w1.alloc (Obj.cells #[Value.int IntKind.i64 x, Value.int IntKind.i64 y, Value.int IntKind.i64 z] 3)).drew).heap.size = w1.heap.size + 1 := by show (w1.alloc _).heap.size = _; simp
      omega
    go_region
    generalize (w1.alloc (Obj.cells #[Value.int IntKind.i64 x, Value.int IntKind.i64 y, Value.int IntKind.i64 z] 3)).drew = W2 at *
    go_wp2_with (first | (go_at_call 50; refine (hP _ _ hlt hlit).mono ?_; rintro e W3 ⟨rfl, hB3⟩; have hlit3 : ∀ i, i < 3 → W3.cell? ⟨w1.heap.size, 0 + i, none⟩ = some (.int .i64 (f i : Nat)) := fun i hi => (hB3.cell (p := ⟨w1.heap.size, 0 + i, none⟩) hlt).trans (hlit i hi)) | (go_at_call 37; refine (hG _ _ (Nat.lt_of_lt_of_le hlt hB3.size) hlit3).mono ?_; rintro e W4 ⟨rfl, hB4⟩))
    go_ret3
    exact ⟨rfl, (hBn.trans (hB3.mono hBn.size)).trans (hB4.mono (Nat.le_trans hBn.size hB3.size))⟩
end Go.Proofs.Ytenkodofhacglaa
