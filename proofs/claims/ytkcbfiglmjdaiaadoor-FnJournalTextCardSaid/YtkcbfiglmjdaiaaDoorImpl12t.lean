/-
  The program's DeedText at every deed: numbers up to ninety-nine.
-/
import Derived.Test.YtkcbfiglmjdaiaaDoorSpecZ
import Derived.Test.YtkcbfiglmjdaiaaDoorBaseZ
import Derived.BigQuiet
namespace Go.Proofs.YtkcbfiglmjdaiaaDoor
open Go.RowKit Go.BigFrame

def digS : ByteArray := ⟨#[48, 49, 50, 51, 52, 53, 54, 55, 56, 57, 97, 98, 99, 100, 101, 102, 103, 104, 105, 106, 107, 108, 109, 110, 111, 112, 113, 114, 115, 116, 117, 118, 119, 120, 121, 122]⟩
def twoS : ByteArray := ⟨((List.range 100).flatMap fun i => [UInt8.ofNat (48 + i / 10), UInt8.ofNat (48 + i % 10)]).toArray⟩
theorem dig_ten : ((List.range 10).all fun i => decide (digS.extract i (i + 1) = str (decF 20 i))) = true := by decide +kernel
theorem dig_two : ((List.range 100).all fun i => decide (i < 10 ∨ twoS.extract (i * 2) (i * 2 + 2) = str (decF 20 i))) = true := by decide +kernel
set_option maxRecDepth 100000 in
set_option maxHeartbeats 1000000 in
theorem small_ten (i : Nat) (hi : i < 10) (w : World) : Calls Tryd.prog 55 #[.int .i64 i] w fun e w' => e = .returned (.string (str (decF 20 i))) ∧ w = w' := by
  have h := List.all_eq_true.1 dig_ten i (List.mem_range.2 hi)
  simp only [decide_eq_true_eq] at h
  unfold digS at h
  have h1 : (i : Int) < 10 := by omega
  rw [← h]
  clear h
  go_enter Tryd.func55, Tryd.ntmps55
  go_wp2
  go_ret
  exact ⟨rfl, rfl⟩
set_option maxRecDepth 100000 in
set_option maxHeartbeats 1000000 in
theorem small_two (i : Nat) (h10 : 10 ≤ i) (hi : i < 100) (w : World) : Calls Tryd.prog 55 #[.int .i64 i] w fun e w' => e = .returned (.string (str (decF 20 i))) ∧ w = w' := by
  have h := List.all_eq_true.1 dig_two i (List.mem_range.2 hi)
  simp only [decide_eq_true_eq] at h
  have h := h.resolve_left (by omega)
  have h1 : ¬ (i : Int) < 10 := by omega
  rw [← h]
  clear h
  go_enter Tryd.func55, Tryd.ntmps55
  go_wp2
  go_ret
  exact ⟨by rfl, rfl⟩
theorem small_in (i : Nat) (hi : i < 100) (w : World) : Calls Tryd.prog 55 #[.int .i64 i] w fun e w' => e = .returned (.string (str (decF 20 i))) ∧ w = w' := by
  by_cases h : i < 10
  · exact small_ten i h w
  · exact small_two i (by omega) hi w
set_option maxRecDepth 100000 in
set_option maxHeartbeats 1000000 in
theorem formatInt_in (i : Nat) (hi : i < 100) (w : World) : Calls Tryd.prog 48 #[.int .i64 i, .int .i64 10] w fun e w' => e = .returned (.string (str (decF 20 i))) ∧ w = w' := by
  have hS := small_in i hi w
  have h1 : (0 : Int) ≤ (i : Int) := by omega
  have h2 : (i : Int) < 100 := by omega
  generalize str (decF 20 i) = s at *
  go_enter Tryd.func48, Tryd.ntmps48
  go_wp2_with (go_at_call 55; refine hS.mono ?_; clear hS; rintro e w' ⟨rfl, rfl⟩)
  go_ret
  exact ⟨rfl, rfl⟩
theorem itoa_in (i : Nat) (hi : i < 100) (w : World) : Calls Tryd.prog 28 #[.int .i64 i] w fun e w' => e = .returned (.string (str (decF 20 i))) ∧ w = w' := by
  have hF := formatInt_in i hi w
  generalize str (decF 20 i) = s at *
  have hI : Calls Tryd.prog 40 #[.int .i64 i] w fun e w' => e = .returned (.string s) ∧ w = w' := by
    go_enter Tryd.func40, Tryd.ntmps40
    go_wp2_with (go_at_call 48; refine hF.mono ?_; clear hF; rintro e w' ⟨rfl, rfl⟩)
    go_ret
    exact ⟨rfl, rfl⟩
  go_enter Tryd.func28, Tryd.ntmps28
  go_wp2_with (go_at_call 40; refine hI.mono ?_; clear hI; rintro e w' ⟨rfl, rfl⟩)
  go_ret
  exact ⟨rfl, rfl⟩
/-- The greatest number that is named. -/
def mostT (k : Int) : Int := if k = 0 then 99 else if k = 1 then 9 else 0
theorem mostT_in (k : Int) (w : World) : Calls Tryd.prog 26 #[.int .i64 k] w fun e w' => e = .returned (.int .i64 (mostT k)) ∧ w = w' := by
  by_cases h0 : k = 0
  · subst h0
    go_enter Tryd.func26, Tryd.ntmps26
    go_wp2
    go_ret
    exact ⟨rfl, rfl⟩
  by_cases h1 : k = 1
  · subst h1
    go_enter Tryd.func26, Tryd.ntmps26
    go_wp2
    go_ret
    exact ⟨rfl, rfl⟩
  · have hm : mostT k = 0 := by unfold mostT; rw [if_neg h0, if_neg h1]
    rw [hm]
    have b0 : (k == 0) = false := by rw [beq_eq_false_iff_ne]; exact h0
    have b1 : (k == 1) = false := by rw [beq_eq_false_iff_ne]; exact h1
    clear h0 h1 hm
    go_enter Tryd.func26, Tryd.ntmps26
    go_wp2
    go_ret
    exact ⟨rfl, rfl⟩
def wordsA : Array Value := #[.string ⟨#[102, 108, 105, 112]⟩, .string ⟨#[112, 117, 116]⟩, .string ⟨#[117, 110, 100, 101, 114]⟩, .string ⟨#[116, 117, 114, 110]⟩, .string ⟨#[114, 111, 117, 110, 100]⟩, .string ⟨#[98, 97, 99, 107]⟩]
theorem words_in (w : World) : Calls Tryd.prog 27 #[] w fun e w' => e = .returned (.slice (some ⟨w.heap.size, 0, none⟩) 6 6) ∧ w' = w.alloc (.cells wordsA 9) := by
  unfold wordsA
  go_enter Tryd.func27, Tryd.ntmps27
  go_wp2
  go_ret
  exact ⟨rfl, rfl⟩
theorem word_at (W : World) (k : Nat) (v : Value) (h : wordsA[k]? = some v) : (W.alloc (.cells wordsA 9)).cell? ⟨W.heap.size, k, none⟩ = some v := by
  have hb := World.alloc_heap_new W (.cells wordsA 9)
  unfold World.cell?
  rw [hb]
  exact h

theorem words_at (w : World) : Calls Tryd.prog 27 #[] w fun e w' => e = .returned (.slice (some ⟨w.heap.size, 0, none⟩) 6 6) ∧ (∀ k v, wordsA[k]? = some v → w'.cell? ⟨w.heap.size, k, none⟩ = some v) ∧ Below w.heap.size w w' :=
  (words_in w).mono fun _ _ ⟨he, hw⟩ => ⟨he, by rw [hw]; exact fun k v h => word_at w k v h, by rw [hw]; exact (Below.refl _ w).alloc (Nat.le_refl _) _⟩
/-- What is known when the text is asked for: the deed lies boxed. -/
structure Dt (w : World) (k n : Int) (W : World) : Prop where
  eq : w.alloc (.cells #[.int .i64 k, .int .i64 n] 36) = W
  below : Below w.heap.size w W
  c0 : ∀ m : After W, m.now.cell? ⟨w.heap.size, 0, none⟩ = some (.int .i64 k)
  c1 : ∀ m : After W, m.now.cell? ⟨w.heap.size, 1, none⟩ = some (.int .i64 n)
theorem Dt.new (w : World) (k n : Int) : ∃ W, Dt w k n W := by
  have hb := World.alloc_heap_new w (.cells #[.int .i64 k, .int .i64 n] 36)
  refine ⟨_, rfl, (Below.refl _ w).alloc (Nat.le_refl _) _, fun m => ?_, fun m => ?_⟩
  · refine (m.ok.cell (p := ⟨w.heap.size, 0, none⟩) (by simp)).trans ?_
    unfold World.cell?; rw [hb]; rfl
  · refine (m.ok.cell (p := ⟨w.heap.size, 1, none⟩) (by simp)).trans ?_
    unfold World.cell?; rw [hb]; rfl
theorem below_of {P : Program} {f : Nat} {args : Array Value} {v : Value} {W : World} (h : Calls P f args W fun e w' => e = .returned v ∧ W = w') : Calls P f args W fun e w' => e = .returned v ∧ Below W.heap.size W w' := h.mono fun _ _ ⟨he, hw⟩ => ⟨he, hw ▸ Below.refl _ _⟩

set_option maxRecDepth 100000 in
set_option maxHeartbeats 1000000 in
/-- No deed that has a text: its kind is none. -/
theorem deedText_kind (k n : Int) (w : World) (h : k < 0 ∨ 5 < k) : Calls Tryd.prog 13 #[dV k n] w fun e w' => e = .returned (.string ⟨#[]⟩) ∧ Below w.heap.size w w' := by
  obtain ⟨W1, hW1, hB0, d0, d1⟩ := Dt.new w k n
  have hW : ∀ m : After W1, Calls Tryd.prog 25 #[.int .i64 k, .int .i64 5] m.now fun e w' => e = .returned (.bool false) ∧ Below m.now.heap.size m.now w' := fun m => below_of (within_f k 5 m.now h)
  unfold dV
  clear h
  go_enter Tryd.func13, Tryd.ntmps13
  go_wp2
  refine wp_region_below W1 (by kernel_rfl) (by kernel_rfl) (Below.refl _ _) ?_
  repeat (go_big_quiet_step ((go_at_call 25; with_reducible exact after_of (hW _))))
  refine wpQuiet_nil ?_
  rintro _ ⟨nq, rfl⟩
  go_wp2
  go_ret
  exact ⟨rfl, hB0.trans (nq.ok.mono hB0.size)⟩

set_option maxRecDepth 100000 in
set_option maxHeartbeats 1000000 in
/-- No deed that has a text: its number is none. -/
theorem deedText_num (k n : Int) (w : World) (h1 : 0 ≤ k) (h2 : k ≤ 5) (h : n < 0 ∨ mostT k < n) : Calls Tryd.prog 13 #[dV k n] w fun e w' => e = .returned (.string ⟨#[]⟩) ∧ Below w.heap.size w w' := by
  obtain ⟨W1, hW1, hB0, d0, d1⟩ := Dt.new w k n
  have hW : ∀ m : After W1, Calls Tryd.prog 25 #[.int .i64 k, .int .i64 5] m.now fun e w' => e = .returned (.bool true) ∧ Below m.now.heap.size m.now w' := fun m => below_of (within_t k 5 m.now h1 h2)
  have hM : ∀ m : After W1, Calls Tryd.prog 26 #[.int .i64 k] m.now fun e w' => e = .returned (.int .i64 (mostT k)) ∧ Below m.now.heap.size m.now w' := fun m => below_of (mostT_in k m.now)
  have hN : ∀ m : After W1, Calls Tryd.prog 25 #[.int .i64 n, .int .i64 (mostT k)] m.now fun e w' => e = .returned (.bool false) ∧ Below m.now.heap.size m.now w' := fun m => below_of (within_f n (mostT k) m.now h)
  unfold dV
  generalize mostT k = M at *
  clear h h1 h2
  go_enter Tryd.func13, Tryd.ntmps13
  go_wp2
  refine wp_region_below W1 (by kernel_rfl) (by kernel_rfl) (Below.refl _ _) ?_
  repeat (go_big_quiet_step (first | (go_at_call 25; with_reducible exact after_of (hW _)) | (go_at_call 25; with_reducible exact after_of (hN _)) | (go_at_call 26; with_reducible exact after_of (hM _))))
  refine wpQuiet_nil ?_
  rintro _ ⟨nq, rfl⟩
  go_wp2
  go_ret
  exact ⟨rfl, hB0.trans (nq.ok.mono hB0.size)⟩

set_option maxRecDepth 100000 in
set_option maxHeartbeats 1000000 in
/-- A deed without a number: its word. -/
theorem deedText_word (K : Nat) (hK : 2 ≤ K) (hK5 : K ≤ 5) (s : ByteArray) (hs : wordsA[K]? = some (.string s)) (w : World) : Calls Tryd.prog 13 #[dV K 0] w fun e w' => e = .returned (.string s) ∧ Below w.heap.size w w' := by
  obtain ⟨W1, hW1, hB0, d0, d1⟩ := Dt.new w K 0
  have hmk : mostT K = 0 := by unfold mostT; rw [if_neg (by omega), if_neg (by omega)]
  have hW : ∀ m : After W1, Calls Tryd.prog 25 #[.int .i64 K, .int .i64 5] m.now fun e w' => e = .returned (.bool true) ∧ Below m.now.heap.size m.now w' := fun m => below_of (within_t K 5 m.now (by omega) (by omega))
  have hM0 : ∀ V, Calls Tryd.prog 26 #[.int .i64 K] V fun e w' => e = .returned (.int .i64 0) ∧ V = w' := fun V => by have := mostT_in K V; rwa [hmk] at this
  have hM : ∀ m : After W1, Calls Tryd.prog 26 #[.int .i64 K] m.now fun e w' => e = .returned (.int .i64 0) ∧ Below m.now.heap.size m.now w' := fun m => below_of (hM0 m.now)
  have hN : ∀ m : After W1, Calls Tryd.prog 25 #[.int .i64 0, .int .i64 0] m.now fun e w' => e = .returned (.bool true) ∧ Below m.now.heap.size m.now w' := fun m => below_of (within_t 0 0 m.now (by omega) (by omega))
  have hKi : (K : Int) < 6 := by omega
  unfold dV
  have hsh := hide hs
  clear hmk hs
  go_enter Tryd.func13, Tryd.ntmps13
  go_wp2
  refine wp_region_below W1 (by kernel_rfl) (by kernel_rfl) (Below.refl _ _) ?_
  repeat (go_big_quiet_step (first | (go_at_call 25; with_reducible exact after_of (hW _)) | (go_at_call 25; with_reducible exact after_of (hN _)) | (go_at_call 26; with_reducible exact after_of (hM _))))
  refine wpQuiet_nil ?_
  rintro _ ⟨nq, rfl⟩
  have e0 := d0 nq
  have hl0 : w.heap.size < nq.now.heap.size := World.block_lt_of_cell? _ _ e0
  have hBq := nq.ok
  generalize nq.now = W2 at *
  have e0' : ∀ V, Below W2.heap.size W2 V → V.cell? ⟨w.heap.size, 0, none⟩ = some (.int .i64 K) := fun V hV => (hV.cell (p := ⟨w.heap.size, 0, none⟩) hl0).trans e0
  go_wp2
  go_region_with (go_at_call 27; go_loud (refine (words_at _).mono ?_; rintro e w3 ⟨rfl, hwk, hB3⟩; have hwk' : w3.cell? ⟨W2.heap.size, K, none⟩ = some (.string s) := hwk K _ hsh.out; have hwk2 : w3.cell? ⟨W2.drew.heap.size, K, none⟩ = some (.string s) := hwk K _ hsh.out; have hB23 : Below W2.heap.size W2 w3 := (Below.trans ((Below.refl _ W2).drew) hB3); have e0w := e0' w3 hB23; clear hwk))
  all_goals
    go_wp2_with (go_at_call 26; refine (hM0 _).mono ?_; rintro e w4 ⟨rfl, rfl⟩)
    go_ret
    exact ⟨rfl, hB0.trans ((hBq.trans (hB23.mono hBq.size)).mono hB0.size)⟩
theorem dec_small : ((List.range 100).all fun i => decide ((str (decF 20 i)).size ≤ 100)) = true := by decide +kernel
set_option maxRecDepth 100000 in
set_option maxHeartbeats 1000000 in
/-- A deed with a number: its word, a space and the number. -/
theorem deedText_named (K N M : Nat) (hK : K ≤ 1) (hmk : mostT K = M) (hNM : N ≤ M) (hM1 : 1 ≤ M) (hM99 : M ≤ 99) (s : ByteArray) (hsz : s.size ≤ 100) (hs : wordsA[K]? = some (.string s)) (w : World) : Calls Tryd.prog 13 #[dV K N] w fun e w' => e = .returned (.string (s ++ ⟨#[32]⟩ ++ str (decF 20 N))) ∧ Below w.heap.size w w' := by
  obtain ⟨W1, hW1, hB0, d0, d1⟩ := Dt.new w K N
  have hW : ∀ m : After W1, Calls Tryd.prog 25 #[.int .i64 K, .int .i64 5] m.now fun e w' => e = .returned (.bool true) ∧ Below m.now.heap.size m.now w' := fun m => below_of (within_t K 5 m.now (by omega) (by omega))
  have hM0 : ∀ V, Calls Tryd.prog 26 #[.int .i64 K] V fun e w' => e = .returned (.int .i64 M) ∧ V = w' := fun V => by have := mostT_in K V; rwa [hmk] at this
  have hM : ∀ m : After W1, Calls Tryd.prog 26 #[.int .i64 K] m.now fun e w' => e = .returned (.int .i64 M) ∧ Below m.now.heap.size m.now w' := fun m => below_of (hM0 m.now)
  have hN : ∀ m : After W1, Calls Tryd.prog 25 #[.int .i64 N, .int .i64 M] m.now fun e w' => e = .returned (.bool true) ∧ Below m.now.heap.size m.now w' := fun m => below_of (within_t N M m.now (by omega) (by omega))
  have hKi : (K : Int) < 6 := by omega
  have hIt := fun V => itoa_in N (by omega) V
  have hMne : ¬ M = 0 := by omega
  have hds : (str (decF 20 N)).size ≤ 100 := by
    have h := List.all_eq_true.1 dec_small N (List.mem_range.2 (by omega))
    simpa using h
  generalize str (decF 20 N) = D at *
  unfold dV
  have hsh := hide hs
  clear hmk hs
  go_enter Tryd.func13, Tryd.ntmps13
  go_wp2
  refine wp_region_below W1 (by kernel_rfl) (by kernel_rfl) (Below.refl _ _) ?_
  repeat (go_big_quiet_step (first | (go_at_call 25; with_reducible exact after_of (hW _)) | (go_at_call 25; with_reducible exact after_of (hN _)) | (go_at_call 26; with_reducible exact after_of (hM _))))
  refine wpQuiet_nil ?_
  rintro _ ⟨nq, rfl⟩
  have e0 := d0 nq
  have f0 := d1 nq
  have hl0 : w.heap.size < nq.now.heap.size := World.block_lt_of_cell? _ _ e0
  have hBq := nq.ok
  generalize nq.now = W2 at *
  have e0' : ∀ V, Below W2.heap.size W2 V → V.cell? ⟨w.heap.size, 0, none⟩ = some (.int .i64 K) := fun V hV => (hV.cell (p := ⟨w.heap.size, 0, none⟩) hl0).trans e0
  have f0' : ∀ V, Below W2.heap.size W2 V → V.cell? ⟨w.heap.size, 1, none⟩ = some (.int .i64 N) := fun V hV => (hV.cell (p := ⟨w.heap.size, 1, none⟩) hl0).trans f0
  go_wp2
  go_region_with (go_at_call 27; go_loud (refine (words_at _).mono ?_; rintro e w3 ⟨rfl, hwk, hB3⟩; have hwk' : w3.cell? ⟨W2.heap.size, K, none⟩ = some (.string s) := hwk K _ hsh.out; have hwk2 : w3.cell? ⟨W2.drew.heap.size, K, none⟩ = some (.string s) := hwk K _ hsh.out; have hB23 : Below W2.heap.size W2 w3 := (Below.trans ((Below.refl _ W2).drew) hB3); have e0w := e0' w3 hB23; have f0w := f0' w3 hB23; clear hwk))
  all_goals
    go_wp2_with (first | (go_at_call 26; refine (hM0 _).mono ?_; rintro e w4 ⟨rfl, rfl⟩) | (go_at_call 28; refine (hIt _).mono ?_; rintro e w4 ⟨rfl, rfl⟩))
    go_ret
    exact ⟨rfl, hB0.trans ((hBq.trans (hB23.mono hBq.size)).mono hB0.size)⟩

theorem implDeedText (k n : Int) (_hk : Fits k) (_hn : Fits n) (w : World) : Calls Tryd.prog 13 #[dV k n] w fun e w' => e = .returned (.string (str (deedT k n))) ∧ Below w.heap.size w w' := by
  by_cases hk : k < 0 ∨ 5 < k
  · have hd : deedT k n = [] := by
      unfold deedT
      rw [if_neg (by omega), if_neg (by omega), if_neg (by omega), if_neg (by omega), if_neg (by omega), if_neg (by omega)]
    rw [hd]
    exact deedText_kind k n w hk
  obtain ⟨K, rfl⟩ : ∃ K : Nat, k = K := ⟨k.toNat, by omega⟩
  by_cases hn : n < 0 ∨ mostT K < n
  · have hd : deedT K n = [] := by
      unfold mostT at hn
      unfold deedT
      by_cases h0 : (K : Int) = 0
      · rw [if_pos h0] at hn
        rw [if_neg (by omega), if_neg (by omega), if_neg (by omega), if_neg (by omega), if_neg (by omega), if_neg (by omega)]
      · rw [if_neg h0] at hn
        by_cases h1 : (K : Int) = 1
        · rw [if_pos h1] at hn
          rw [if_neg (by omega), if_neg (by omega), if_neg (by omega), if_neg (by omega), if_neg (by omega), if_neg (by omega)]
        · rw [if_neg h1] at hn
          rw [if_neg (by omega), if_neg (by omega), if_neg (by omega), if_neg (by omega), if_neg (by omega), if_neg (by omega)]
    rw [hd]
    exact deedText_num K n w (by omega) (by omega) hn
  obtain ⟨N, rfl⟩ : ∃ N : Nat, n = N := ⟨n.toNat, by omega⟩
  have hN0 : 2 ≤ K → N = 0 := fun h2 => by
    have : mostT (K : Int) = 0 := by unfold mostT; rw [if_neg (by omega), if_neg (by omega)]
    omega
  rcases (show K = 0 ∨ K = 1 ∨ K = 2 ∨ K = 3 ∨ K = 4 ∨ K = 5 by omega) with rfl | rfl | rfl | rfl | rfl | rfl
  · have hN : (N : Int) ≤ 99 := by have : mostT ((0 : Nat) : Int) = 99 := rfl
                                   omega
    have hd : str (deedT ((0 : Nat) : Int) N) = (⟨#[102, 108, 105, 112]⟩ : ByteArray) ++ ⟨#[32]⟩ ++ str (decF 20 N) := by
      unfold deedT
      rw [if_pos ⟨rfl, by omega, hN⟩, Int.toNat_natCast, ← str_app]
      rfl
    rw [hd]
    exact deedText_named 0 N 99 (by omega) rfl (by omega) (by omega) (by omega) _ (by decide) rfl w
  · have hN : (N : Int) ≤ 9 := by have : mostT ((1 : Nat) : Int) = 9 := rfl
                                  omega
    have hd : str (deedT ((1 : Nat) : Int) N) = (⟨#[112, 117, 116]⟩ : ByteArray) ++ ⟨#[32]⟩ ++ str (decF 20 N) := by
      unfold deedT
      rw [if_neg (by omega), if_pos ⟨rfl, by omega, hN⟩, Int.toNat_natCast, ← str_app]
      rfl
    rw [hd]
    exact deedText_named 1 N 9 (by omega) rfl (by omega) (by omega) (by omega) _ (by decide) rfl w
  · obtain rfl := hN0 (by omega)
    exact deedText_word 2 (by omega) (by omega) _ rfl w
  · obtain rfl := hN0 (by omega)
    exact deedText_word 3 (by omega) (by omega) _ rfl w
  · obtain rfl := hN0 (by omega)
    exact deedText_word 4 (by omega) (by omega) _ rfl w
  · obtain rfl := hN0 (by omega)
    exact deedText_word 5 (by omega) (by omega) _ rfl w
end Go.Proofs.YtkcbfiglmjdaiaaDoor
