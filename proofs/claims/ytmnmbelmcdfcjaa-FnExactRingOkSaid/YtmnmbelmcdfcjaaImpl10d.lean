/-
  The program's BitsAfter at every argument.
-/
import Derived.Test.YtmnmbelmcdfcjaaImpl10a
import Derived.Test.YtmnmbelmcdfcjaaImpl4
import Derived.StillTailTactics
namespace Go.Proofs.Ytmnmbelmcdfcjaa
open Go.RowKit

/-- The sum of the first m cells of the row times the numbers from a place on. -/
def totB (f : Nat → Nat) (R i m : Nat) : Nat := sumF (fun j => leftN 2 R j * f (i + j)) m
theorem totB_succ (f : Nat → Nat) (R i m : Nat) : totB f R i (m + 1) = totB f R i m + leftN 2 R m * f (i + m) := rfl
theorem totB_le {f : Nat → Nat} (hf : ∀ k, f k ≤ 1) (R i : Nat) : ∀ m, totB f R i m ≤ m
  | 0 => Nat.le_refl _
  | m + 1 => by
    rw [totB_succ]
    have h1 := totB_le hf R i m
    have h2 : leftN 2 R m ≤ 1 := by have := leftN_lt (show 2 ≤ 2 by omega) R m; omega
    have h3 := Nat.mul_le_mul h2 (hf (i + m))
    omega
/-- What lies at place i while the sums of k places are whole and that of place k has m numbers. -/
def bsumV (f : Nat → Nat) (R k m i : Nat) : Int := ((if i < k then totB f R i (R + 1) else if i = k then totB f R k m else 0 : Nat) : Int)
theorem bsumV_zero (f : Nat → Nat) (R i : Nat) : (0 : Int) = bsumV f R 0 0 i := by
  unfold bsumV
  rw [if_neg (by omega)]
  split <;> rfl
theorem bsumV_here (f : Nat → Nat) (R k m : Nat) : bsumV f R k m k = (totB f R k m : Int) := by
  unfold bsumV
  rw [if_neg (by omega), if_pos rfl]
theorem bsumV_up (f : Nat → Nat) (R k i : Nat) : bsumV f R k (R + 1) i = bsumV f R (k + 1) 0 i := by
  unfold bsumV
  by_cases e : i < k
  · rw [if_pos e, if_pos (by omega)]
  · rw [if_neg e]
    by_cases e2 : i = k
    · subst e2; rw [if_pos rfl, if_pos (by omega)]
    · rw [if_neg e2, if_neg (by omega)]
      split <;> rfl
theorem bsumV_next (f : Nat → Nat) (R k m i : Nat) : (if i = k then ((totB f R k (m + 1) : Nat) : Int) else bsumV f R k m i) = bsumV f R k (m + 1) i := by
  unfold bsumV
  by_cases e : i = k
  · subst e; rw [if_pos rfl, if_neg (by omega), if_pos rfl]
  · rw [if_neg e]
    by_cases e2 : i < k
    · rw [if_pos e2, if_pos e2]
    · rw [if_neg e2, if_neg e2, if_neg e, if_neg e]
theorem withB_bits {xs : List Int} : withB xs 8 1 = true ↔ ringB xs = true ∧ xs.all (fun x => decide (x ≤ 1)) = true := by
  unfold withB ringB
  simp only [Bool.and_eq_true, decide_eq_true_eq, List.all_eq_true]
  constructor
  · rintro ⟨h1, h2⟩
    exact ⟨⟨h1, fun x hx => by have := h2 x hx; omega⟩, fun x hx => by have := h2 x hx; omega⟩
  · rintro ⟨⟨h1, h2⟩, h3⟩
    exact ⟨h1, fun x hx => by have := h2 x hx; have := h3 x hx; omega⟩

set_option maxRecDepth 100000 in
set_option maxHeartbeats 1000000 in
theorem implBits_in (v : Value) (xs : List Int) (R : Nat) (hR : R ≤ 300) (w : World) (hv : Ints w v xs) (hs : withB xs 8 1 = true) : Calls Try.prog 30 #[v, .int .i64 R] w fun e w' =>
    ∃ u, e = .returned u ∧ w'.ownsRow w.heap.size 3 1 u xs.length ((rgL (st (ringF xs) R) xs.length).map (Value.int .i64)) ∧ Below w.heap.size w w' := by
  obtain ⟨hr, hone⟩ := withB_bits.1 hs
  have hlen := ringB_len hr
  have hA := allWithin_in v xs 8 1 w hv (by omega) (by omega)
  rw [hs] at hA
  have hf : ∀ k, ringF xs k ≤ 1 := fun k => by
    rw [List.all_eq_true] at hone
    have hk := Nat.mod_lt k (show 0 < xs.length by omega)
    have h1 := ringF_get hr hk
    have h2 := hone (xs.getD (k % xs.length) 0) (by rw [List.getD, List.getElem?_eq_getElem hk]; simp)
    rw [h1] at h2
    have h3 : ringF xs (k % xs.length) = ringF xs k := per_mod ringF_per k
    rw [h3] at h2
    simp at h2
    omega
  have hp := ringF_per (xs := xs)
  obtain ⟨g, cap, rfl, hg, hc⟩ := ints_open hv hlen.1
  have hcf : ∀ i, i < xs.length → w.cell? ⟨g, i, none⟩ = some (.int .i64 (ringF xs i : Nat)) := fun i hi => by rw [hc i hi, ringF_get hr hi]
  clear hc hv hs hr hone
  generalize ringF xs = f at *
  generalize xs.length = n at *
  have hL := fun V => implRowLeft_in R 2 hR (by omega) (by omega) V
  rw [rowLN_len] at hL
  go_enter Try.func30, Try.ntmps30
  go_wp2_with (first
    | (go_at_call 41; refine hA.mono ?_; clear hA; rintro e w' ⟨rfl, rfl⟩)
    | (go_at_call 48; refine (within_t _ _ _ (by omega) (by omega)).mono ?_; rintro e w' ⟨rfl, rfl⟩)
    | (go_at_call 52; refine (hL _).mono ?_; clear hL; go_loud (rintro e w1 ⟨c, rfl, hown, hB1⟩; obtain ⟨gr, cr, rfl, hgr0, hgr, _, hcr⟩ := owns_open hown (by omega)))
    | (refine make_blk _ rfl _ _ rfl _ _ n rfl rfl rfl rfl (by omega) ?_; intro w2 hb2 hg2))
  have hcw : ∀ i, i < n → w2.cell? ⟨g, i, none⟩ = some (.int .i64 (f i : Nat)) := fun i hi => hg2.cell ((hB1.cell (p := ⟨g, i, none⟩) hg).trans (hcf i hi)) (by simp)
  have hcc : ∀ j, j < R + 1 → w2.cell? ⟨gr, j, none⟩ = some (.int .i64 (leftN 2 R j : Nat)) := fun j hj => hg2.cell (hcr j _ (by
    have h5 : (rowLN 2 R)[j]? = some (leftN 2 R j : Int) := by
      have h6 : (rowLN 2 R).getD j 0 = (leftN 2 R j : Int) := by unfold rowLN; rw [rowLP_getD 2 R (R + 1) j hj]
      rw [← h6, List.getD, List.getElem?_eq_getElem (by rw [rowLN_len]; omega)]; rfl
    rw [List.getElem?_map, h5]; rfl)) (by simp)
  have hBw : Below w.heap.size w w2 := hB1.grown hg2 hB1.size (fun _ e => by cases e)
  have hgS : g < w1.heap.size := Nat.lt_of_lt_of_le hg hB1.size
  have hS0 : w.heap.size ≤ w1.heap.size := hB1.size
  clear hown hcr hcf hB1 hg2
  generalize w1.heap.size = S at *
  go_loopw [25] (fun p wr => ∃ k : Nat, k ≤ n ∧ p = .int .i64 k ∧ BlkAt wr S 3 n (intsV n (bsumV f R k 0)) ∧ w2.grownBy wr (some S)) (fun p _ => n - (intOf p).toNat)
  case atStart => exact ⟨0, by omega, rfl, hb2.congr (fun i _ => bsumV_zero f R i), grownBy_refl _ _⟩
  case round =>
    clear hb2
    obtain ⟨k, hk, rfl, hb, hg2⟩ := hrel
    by_cases hlt : k < n
    · have hki : (k : Int) < (n : Int) := by omega
      go_wp2
      go_loopw [30] (fun p wi => ∃ m : Nat, m ≤ R + 1 ∧ p = .int .i64 m ∧ BlkAt wi S 3 n (intsV n (bsumV f R k m)) ∧ w2.grownBy wi (some S)) (fun p _ => R + 1 - (intOf p).toNat)
      case atStart => exact ⟨0, by omega, rfl, hb, hg2⟩
      case round =>
        clear hb hg2
        obtain ⟨m, hm, rfl, hb, hg2⟩ := hrel
        by_cases hml : m < R + 1
        · obtain ⟨q, hq⟩ : ∃ q, (k + m) % n = q := ⟨_, rfl⟩
          have hql : q < n := by rw [← hq]; exact Nat.mod_lt _ (by omega)
          have hfq : f q = f (k + m) := by rw [← hq]; exact per_mod hp (k + m)
          have htm : Int.tmod ((k : Int) + (m : Int)) (n : Int) = (q : Int) := by have := tmod_n (k + m) n; rw [hq] at this; simpa using this
          have c1 := hg2.cell (hcw q hql) (by simp; omega)
          have c2 := hg2.cell (hcc m hml) (by simp; omega)
          have c3 := hb.cell (i := k) (intsV_at hlt)
          have c4 := hb.frozen k
          rw [bsumV_here] at c3
          rw [hfq] at c1
          have hnext := hide (bsumV_next f R k m)
          rw [totB_succ] at hnext
          have htl := totB_le hf R k m
          have hlf := leftN_lt (show 2 ≤ 2 by omega) R m
          have hfl := hf (k + m)
          generalize totB f R k m = T at *
          generalize leftN 2 R m = y at *
          generalize f (k + m) = z at *
          have hyz : y * z ≤ 1 := by have := Nat.mul_le_mul (show y ≤ 1 by omega) hfl; omega
          have hn0 : ¬ n = 0 := by omega
          have hqi : (q : Int) < (n : Int) := by omega
          have hmi : (m : Int) < (R : Int) + 1 := by omega
          have hw1 : IntKind.i64.wrap ((k : Int) + (m : Int)) = (k : Int) + (m : Int) := IntWalk.i64_in _ (by omega)
          have hw2 : IntKind.i64.wrap (q : Int) = q := IntWalk.i64_in _ (by omega)
          have hw3 : IntKind.i64.wrap ((y : Int) * (z : Int)) = (y : Int) * (z : Int) := by
            rw [← Int.natCast_mul]; exact IntWalk.i64_in _ (by omega)
          have hw4 : IntKind.i64.wrap ((T : Int) + (y : Int) * (z : Int)) = (T : Int) + (y : Int) * (z : Int) := by
            rw [← Int.natCast_mul]; exact IntWalk.i64_in _ (by omega)
          clear hq hfq hcw hcc hf hp
          go_wp2
          go_still_tail 17, (by kernel_rfl)
          change wpList _ _ _ _ _ wr.drew
          have hbd : BlkAt wr.drew S 3 n (intsV n (bsumV f R k m)) := hb.of_block rfl
          have c4' := hbd.frozen k
          have c3' : wr.drew.cell? ⟨S, k, none⟩ = some (.int .i64 T) := c3
          go_wp2
          go_roundw
          case rel =>
            refine ⟨m + 1, by omega, by go_num, (hbd.setI _ hlt).congr (fun i _ => ?_), grownBy_set (grownBy_drew hg2) _ _⟩
            rw [← hnext.out i, Int.natCast_add, Int.natCast_mul]
          case measure => simp [intOf]; omega
        · obtain rfl : m = R + 1 := by omega
          go_wp2
          go_roundw
          case rel => exact ⟨k + 1, by omega, by go_num, hb.congr (fun i _ => bsumV_up f R k i), hg2⟩
          case measure => simp [intOf]; omega
    · obtain rfl : k = n := by omega
      have hkl := keepLeft_blk S 0 k k k 3 (intsV k (bsumV f R k 0)) (fun i => totB f R i (R + 1)) 2 wr (by omega) (by omega) (by omega) (by omega) (fun i => by have := totB_le hf R i (R + 1); omega) hb (fun i hi => by
        rw [Nat.zero_add, intsV_at hi]
        unfold bsumV
        rw [if_pos hi])
      have hst : ∀ i, i < k → totB f R i (R + 1) % 2 = st f R i := fun i _ => (st_row hf R i).symm
      have hst' := hide hst
      clear hst hcw hcc hp
      go_wp2_with (go_at_call 53; refine hkl.mono ?_; clear hkl; rintro e w3 ⟨⟨v2, rfl⟩, hb3, hg3⟩)
      go_ret
      refine ⟨_, rfl, ?_, (hBw.grown hg2 hBw.size (fun _ e => by cases e; omega)).grown hg3 (Nat.le_trans hBw.size hg2.size) (fun _ e => by cases e; omega)⟩
      exact hb3.owns (rgL_len _ _) (fun i hi => by
        rw [if_pos (by omega), Nat.sub_zero, hst'.out i hi, rgL_getD _ _ _ hi]) (by omega) (by omega)

theorem implBits (v : Value) (xs : List Int) (r : Int) (_hf : Fits r) (w : World) (hv : Ints w v xs) (_hlies : Lies v) (hl : xs.length ≤ 10000000) : Calls Try.prog 30 #[v, .int .i64 r] w fun e w' =>
    ∃ u, e = .returned u ∧ w'.ownsRow w.heap.size 3 1 u (bitsV xs r).length ((bitsV xs r).map (Value.int .i64)) ∧ Below w.heap.size w w' := by
  have hA := allWithin_in v xs 8 1 w hv (by omega) (by omega)
  cases hs : withB xs 8 1 with
  | false =>
    have hno : bitsV xs r = [] := by
      unfold bitsV
      rw [if_neg]
      rintro ⟨h1, _, h3⟩
      rw [withB_bits.2 ⟨h1, h3⟩] at hs
      cases hs
    rw [hno]
    rw [hs] at hA
    clear hv
    go_enter Try.func30, Try.ntmps30
    go_wp2_with (go_at_call 41; refine hA.mono ?_; clear hA; rintro e w1 ⟨rfl, rfl⟩)
    go_ret
    exact ⟨_, rfl, World.ownsRow_nil _ _ _ _, Below.refl _ _⟩
  | true =>
    by_cases h : r < 0 ∨ 300 < r
    · have hno : bitsV xs r = [] := by
        unfold bitsV
        rw [if_neg]
        rintro ⟨_, h2, _⟩
        omega
      rw [hno]
      rw [hs] at hA
      clear hv
      go_enter Try.func30, Try.ntmps30
      go_wp2_with (first
        | (go_at_call 41; refine hA.mono ?_; clear hA; rintro e w1 ⟨rfl, rfl⟩)
        | (go_at_call 48; refine (within_f _ _ _ (by omega)).mono ?_; rintro e w' ⟨rfl, rfl⟩))
      go_ret
      exact ⟨_, rfl, World.ownsRow_nil _ _ _ _, Below.refl _ _⟩
    · obtain ⟨R, rfl⟩ : ∃ R : Nat, r = R := ⟨r.toNat, by omega⟩
      have hb := implBits_in v xs R (by omega) w hv hs
      obtain ⟨h1, h3⟩ := withB_bits.1 hs
      have hyes : bitsV xs R = rgL (st (ringF xs) R) xs.length := by
        unfold bitsV
        rw [if_pos ⟨h1, by omega, h3⟩]; rfl
      rw [hyes, rgL_len]
      exact hb
end Go.Proofs.Ytmnmbelmcdfcjaa
