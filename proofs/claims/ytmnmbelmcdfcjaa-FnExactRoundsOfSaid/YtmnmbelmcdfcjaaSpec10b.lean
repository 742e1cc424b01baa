/-
  The model's RoundsOf and EndOf: for every ring what they hand back.
-/
import Derived.Test.YtmnmbelmcdfcjaaSpec10
namespace Go.Proofs.Ytmnmbelmcdfcjaa
open Go.RowKit

theorem hundred {f : Nat → Nat} (hf : ∀ k, f k ≤ 100) (r : Nat) : ∀ k, dR f r k ≤ 100 := dR_le hf r
theorem dR_next (f : Nat → Nat) (r : Nat) : dF (dR f r) = dR f (r + 1) := rfl

set_option maxHeartbeats 2000000 in
theorem specRounds (v : Value) (xs : List Int) (r : Int) (w : World) (hv : Ints w v xs) (hlies : Lies v) (hl : xs.length ≤ 10000000) : Calls Try.prog 25 #[v, .int .i64 r] w fun e w' =>
    ∃ u, e = .returned u ∧ w'.ownsRow w.heap.size 3 1 u (roundsV xs r).length ((roundsV xs r).map (Value.int .i64)) ∧ Below w.heap.size w w' := by
  have hS := specRing v xs w hv (by omega)
  cases hside : ringB xs with
  | false =>
    rw [roundsV_no (.inl hside)]
    rw [hside] at hS
    obtain ⟨a, c, rfl⟩ := hv.shape
    clear hv hside
    go_enter Try.func25, Try.ntmps25
    go_wp2_with (go_at_call 17; refine hS.mono ?_; clear hS; rintro e w' ⟨rfl, rfl⟩)
    go_ret
    exact ⟨_, rfl, World.ownsRow_made _ _ _ (Nat.le_refl _) (by decide) rfl, (Below.refl _ _).alloc (Nat.le_refl _) _⟩
  | true =>
    rw [hside] at hS
    by_cases hr : r < 0 ∨ 2000 < r
    · rw [roundsV_no (.inr hr)]
      obtain ⟨a, c, rfl⟩ := hv.shape
      clear hv hside
      go_enter Try.func25, Try.ntmps25
      go_wp2_with (first | (go_at_call 17; refine hS.mono ?_; clear hS; rintro e w' ⟨rfl, rfl⟩) | (go_at_call 42; refine (l1In_f _ _ _ _ (by omega)).mono ?_; rintro e w' ⟨rfl, rfl⟩))
      go_ret
      exact ⟨_, rfl, World.ownsRow_made _ _ _ (Nat.le_refl _) (by decide) rfl, (Below.refl _ _).alloc (Nat.le_refl _) _⟩
    · obtain ⟨R, rfl⟩ : ∃ R : Nat, r = R := ⟨r.toNat, by omega⟩
      have hR : R ≤ 2000 := by omega
      rw [roundsV_nat hside hR, rgL_len]
      have hlen := ringB_len hside
      have hf := ringF_le hside
      have hp := ringF_per (xs := xs)
      have hz := rgL_self hside
      have hmade : (w.alloc (.cells #[] 3)).ownsRow w.heap.size 3 1 (.slice (some ⟨w.heap.size, 0, none⟩) 0 0) 0 [] := World.ownsRow_made _ _ _ (Nat.le_refl _) (by decide) rfl
      have hA : Below w.heap.size w (w.alloc (.cells #[] 3)) := (Below.refl _ w).alloc (Nat.le_refl _) _
      have hvA := hv.below hA
      obtain ⟨a, c, rfl⟩ := hv.shape
      clear hside hv
      generalize ringF xs = f at *
      obtain ⟨n, hn⟩ : ∃ n, xs.length = n := ⟨_, rfl⟩
      rw [hn] at hlen hp hz hvA hlies hS ⊢
      have hl8 : xs.length ≤ 8 := by omega
      clear hn
      go_enter Try.func25, Try.ntmps25
      go_wp2_with (first
        | (go_at_call 17; refine hS.mono ?_; clear hS; rintro e w' ⟨rfl, rfl⟩)
        | (go_at_call 42; refine (l1In_t _ _ _ _ (by omega) (by omega)).mono ?_; rintro e w' ⟨rfl, rfl⟩)
        | (at_builtin; refine append_ints rfl _ _ rfl w.heap.size _ 0 [] rfl hmade _ xs rfl hvA hlies (by omega) (by simp) ?_; intro nw w2 hnw hgr2))
      rw [Nat.zero_add, List.nil_append] at hnw
      have hB2 : Below w.heap.size w w2 := hA.grown hgr2 hA.size (fun k e => by cases e; exact Nat.le_refl _)
      rw [← hz] at hnw
      rw [rgL_len] at hnw
      clear hz hvA hlies hl hmade hA hgr2 hl8
      go_loopw [5, 6] (fun o i wr => ∃ k : Nat, k ≤ R ∧ i = .int .i64 k ∧ wr.ownsRow w.heap.size 3 1 o n ((rgL (dR f k) n).map (Value.int .i64)) ∧ Below w.heap.size w wr) (fun _ i _ => R - (intOf i).toNat)
      case atStart => exact ⟨0, by omega, rfl, hnw, hB2⟩
      case round =>
        clear hnw hB2
        obtain ⟨k, hk, rfl, hown, hB⟩ := hrel
        obtain ⟨ao, co, rfl⟩ := own_form hown
        by_cases hlt : k < R
        · have hki : (k : Int) < (R : Int) := by omega
          have hD := specRound _ _ wr (Ints.of_owns hown) (by rw [rgL_len]; omega)
          rw [roundV_rgL (hundred hf k) hlen.1 hlen.2 (per_dR hp k), dR_next, rgL_len] at hD
          clear hown hf hp
          go_wp2_with (go_at_call 22; refine hD.mono ?_; clear hD; rintro e w3 ⟨u, rfl, hown3, hB3⟩)
          go_roundw
          case rel => exact ⟨k + 1, by omega, by go_num, owns_from hown3 hB.size, hB.trans (hB3.mono hB.size)⟩
          case measure => simp [intOf]; omega
        · obtain rfl : k = R := by omega
          clear hf hp
          go_wp2
          go_ret
          exact ⟨_, rfl, hown, hB⟩

/-- The greatest of the first k numbers. -/
def mostF (f : Nat → Nat) : Nat → Nat
  | 0 => 0
  | k + 1 => max (mostF f k) (f k)
theorem mostF_le {f : Nat → Nat} {M : Nat} (h : ∀ k, f k ≤ M) : ∀ n, mostF f n ≤ M
  | 0 => Nat.zero_le _
  | n + 1 => by have := mostF_le h n; have := h n; show max _ _ ≤ M; omega
theorem mostF_zero {f : Nat → Nat} : ∀ {n : Nat}, mostF f n = 0 ↔ ∀ k, k < n → f k = 0
  | 0 => by simp [mostF]
  | n + 1 => by
    show max (mostF f n) (f n) = 0 ↔ _
    have h := mostF_zero (f := f) (n := n)
    constructor
    · intro h1 k hk
      by_cases e : k = n
      · subst e; omega
      · exact h.1 (by omega) k (by omega)
    · intro h1
      have h2 := h.2 fun k hk => h1 k (by omega)
      have h3 := h1 n (by omega)
      omega

theorem endN_no {xs : List Int} (h : ringB xs = false) : endI xs = -1 ∧ endB xs = false := by
  have : endN xs = none := by unfold endN; rw [h]; rfl
  unfold endI endB; rw [this]; exact ⟨rfl, rfl⟩
theorem endN_at {xs : List Int} (h : ringB xs = true) {r : Nat} (h1 : r ≤ 2000) (h2 : ∀ k, k < xs.length → dR (ringF xs) r k = 0) (h3 : ∀ j, j < r → ¬ ∀ k, k < xs.length → dR (ringF xs) j k = 0) : endI xs = r ∧ endB xs = true := by
  have : endN xs = some r := by
    unfold endN
    rw [if_pos h, firstI_some]
    refine ⟨by omega, zeroB_iff.2 h2, fun j hj => ?_⟩
    cases e : zeroB (ringF xs) xs.length j with
    | false => rfl
    | true => exact absurd (zeroB_iff.1 e) (h3 j hj)
  unfold endI endB; rw [this]; exact ⟨rfl, rfl⟩
theorem endN_none {xs : List Int} (h : ringB xs = true) (h3 : ∀ j, j ≤ 2000 → ¬ ∀ k, k < xs.length → dR (ringF xs) j k = 0) : endI xs = -1 ∧ endB xs = false := by
  have : endN xs = none := by
    unfold endN
    rw [if_pos h, firstI_none]
    intro j hj
    cases e : zeroB (ringF xs) xs.length j with
    | false => rfl
    | true => exact absurd (zeroB_iff.1 e) (h3 j (by omega))
  unfold endI endB; rw [this]; exact ⟨rfl, rfl⟩

set_option maxHeartbeats 4000000 in
theorem specEnd10 (v : Value) (xs : List Int) (w : World) (hv : Ints w v xs) (hlies : Lies v) (hl : xs.length ≤ 10000000) : Calls Try.prog 28 #[v] w fun e w' =>
    e = .returned (.tuple #[.int .i64 (endI xs), .bool (endB xs)]) ∧ Below w.heap.size w w' := by
  have hmade : (w.alloc (.cells #[] 3)).ownsRow w.heap.size 3 1 (.slice (some ⟨w.heap.size, 0, none⟩) 0 0) 0 [] := World.ownsRow_made _ _ _ (Nat.le_refl _) (by decide) rfl
  have hA : Below w.heap.size w (w.alloc (.cells #[] 3)) := (Below.refl _ w).alloc (Nat.le_refl _) _
  have hvA := hv.below hA
  obtain ⟨a, c, rfl⟩ := hv.shape
  cases hside : ringB xs with
  | false =>
    rw [(endN_no hside).1, (endN_no hside).2]
    go_enter Try.func28, Try.ntmps28
    go_wp2_with (at_builtin; refine append_ints rfl _ _ rfl w.heap.size _ 0 [] rfl hmade _ xs rfl hvA hlies (by omega) (by simp) ?_; intro nw w2 hnw hgr2)
    rw [Nat.zero_add, List.nil_append] at hnw
    have hB2 : Below w.heap.size w w2 := hA.grown hgr2 hA.size (fun k e => by cases e; exact Nat.le_refl _)
    have hS := specRing nw xs w2 (Ints.of_owns hnw) (by omega)
    rw [hside] at hS
    obtain ⟨a1, c1, rfl⟩ := own_form hnw
    clear hnw hv hvA hlies hside hmade hA hgr2
    refine wp_loop_rounds 1 ?_
    rw [rounds_succ]
    go_wp2_with (go_at_call 17; refine hS.mono ?_; clear hS; rintro e w' ⟨rfl, rfl⟩)
    go_ret2
    exact ⟨rfl, hB2⟩
  | true =>
    have hlen := ringB_len hside
    have hf := ringF_le hside
    have hp := ringF_per (xs := xs)
    have hz := rgL_self hside
    have hat := fun {r : Nat} h1 h2 h3 => endN_at hside (r := r) h1 h2 h3
    have hnone := fun h3 => endN_none hside h3
    clear hside hv
    generalize ringF xs = f at *
    obtain ⟨n, hn⟩ : ∃ n, xs.length = n := ⟨_, rfl⟩
    rw [hn] at hlen hp hz hvA hlies hat hnone ⊢
    have hl8 : xs.length ≤ 8 := by omega
    obtain ⟨I, hI⟩ : ∃ I, endI xs = I := ⟨_, rfl⟩
    obtain ⟨B, hBB⟩ : ∃ B, endB xs = B := ⟨_, rfl⟩
    simp only [hI, hBB] at hat hnone ⊢
    clear hn hI hBB
    go_enter Try.func28, Try.ntmps28
    go_wp2_with (at_builtin; refine append_ints rfl _ _ rfl w.heap.size _ 0 [] rfl hmade _ xs rfl hvA hlies (by omega) (by simp) ?_; intro nw w2 hnw hgr2)
    rw [Nat.zero_add, List.nil_append] at hnw
    have hB2 : Below w.heap.size w w2 := hA.grown hgr2 hA.size (fun k e => by cases e; exact Nat.le_refl _)
    rw [← hz] at hnw
    rw [rgL_len] at hnw
    clear hz hvA hlies hl hmade hA hgr2 hl8
    go_loopw [4, 5] (fun o i wr => ∃ k : Nat, k ≤ 2001 ∧ i = .int .i64 k ∧ wr.ownsRow w.heap.size 3 1 o n ((rgL (dR f k) n).map (Value.int .i64)) ∧ Below w.heap.size w wr ∧ Hid (∀ j, j < k → ¬ ∀ q, q < n → dR f j q = 0)) (fun _ i _ => 2001 - (intOf i).toNat)
    case atStart => exact ⟨0, by omega, rfl, hnw, hB2, hide (fun j hj => by omega)⟩
    case round =>
      clear hnw hB2
      obtain ⟨k, hk, rfl, hown, hB, hfirst⟩ := hrel
      obtain ⟨ao, co, rfl⟩ := own_form hown
      by_cases hlt : k < 2001
      · have hki : (k : Int) ≤ 2000 := by omega
        have hin := Ints.of_owns hown
        have hS := specRing _ _ wr hin (by rw [rgL_len]; omega)
        rw [rgL_ring (hundred hf k) n hlen.1 hlen.2] at hS
        have hD := specRound _ _ wr hin (by rw [rgL_len]; omega)
        rw [roundV_rgL (hundred hf k) hlen.1 hlen.2 (per_dR hp k), dR_next, rgL_len] at hD
        obtain ⟨g, cg, eg, hg, hc⟩ := hin.cells (by rw [rgL_len]; omega)
        rw [rgL_len] at eg hc
        injection eg with eg1 _ eg2
        subst eg1 eg2
        have hc' : ∀ i, i < n → wr.cell? ⟨g, i, none⟩ = some (.int .i64 (dR f k i : Nat)) := fun i hi => by rw [hc i hi, rgL_getD _ _ _ hi]
        have hb := hundred hf k
        have hml := mostF_le hb
        have hmz := mostF_zero (f := dR f k) (n := n)
        clear hc hin
        obtain ⟨h, hh⟩ : ∃ h, dR f k = h := ⟨_, rfl⟩
        rw [hh] at hc' hb hml hmz
        go_wp2_with (go_at_call 17; refine hS.mono ?_; clear hS; rintro e w' ⟨rfl, rfl⟩)
        go_loop [6, 7] (fun o i => ∃ j : Nat, j ≤ n ∧ i = .int .i64 j ∧ o = .int .i64 (mostF h j : Nat)) (fun _ i => n - (intOf i).toNat)
        case atStart => exact ⟨0, by omega, rfl, rfl⟩
        case round =>
          obtain ⟨j, hj, rfl, rfl⟩ := hrel
          have hmj := hml j
          by_cases hjl : j < n
          · have hcj := hc' j hjl
            have hbj := hb j
            have hms : ((mostF h (j + 1) : Nat) : Int) = if mostF h j < h j then (h j : Int) else (mostF h j : Int) := by
              show ((max (mostF h j) (h j) : Nat) : Int) = _
              split <;> omega
            have hms' := hide hms
            have hji : (j : Int) < (n : Int) := by omega
            clear hc' hb hml hmz hms hD hat hnone
            generalize h j = z at *
            generalize mostF h j = s at *
            go_wp2
            go_round
            case rel => exact ⟨j + 1, by omega, by go_num, by rw [hms'.out]⟩
            case measure => simp [intOf]; omega
          · obtain rfl : j = n := by omega
            by_cases hm0 : mostF h j = 0
            · obtain ⟨hI, hB2⟩ := hat (r := k) (by omega) (by rw [hh]; exact hmz.1 hm0) hfirst.out
              subst hI hB2
              clear hc' hb hml hmz hD hat hnone
              generalize mostF h j = s at *
              subst hm0
              go_wp2
              go_ret2
              exact ⟨rfl, hB⟩
            · have hmi : ((mostF h j : Nat) : Int) ≠ 0 := by omega
              have hmb : (((mostF h j : Nat) : Int) == 0) = false := by rw [beq_eq_false_iff_ne]; exact hmi
              have hfirst' : Hid (∀ i, i < k + 1 → ¬ ∀ q, q < j → dR f i q = 0) := hide (fun i hi => by
                by_cases e : i = k
                · subst e; rw [hh]; exact fun h => hm0 (hmz.2 h)
                · exact hfirst.out i (by omega))
              clear hc' hb hml hmz hat hnone
              generalize mostF h j = s at *
              go_wp2_with (go_at_call 22; refine hD.mono ?_; clear hD; rintro e w3 ⟨u, rfl, hown3, hB3⟩)
              go_roundw
              case rel => exact ⟨k + 1, by omega, by go_num, owns_from hown3 hB.size, hB.trans (hB3.mono hB.size), hfirst'⟩
              case measure => simp [intOf]; omega
      · obtain rfl : k = 2001 := by omega
        obtain ⟨hI, hB2⟩ := hnone fun j hj => hfirst.out j (by omega)
        subst hI hB2
        clear hat hnone hf hp
        go_wp2
        go_ret2
        exact ⟨rfl, hB⟩
end Go.Proofs.Ytmnmbelmcdfcjaa
