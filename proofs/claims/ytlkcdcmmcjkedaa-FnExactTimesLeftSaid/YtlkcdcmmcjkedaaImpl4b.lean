/-
  The program's TimesLeft: for every two rows of numbers and every number it hands back the product's rest, or nothing.
-/
import Derived.Test.YtlkcdcmmcjkedaaImpl4
import Derived.Test.YtlkcdcmmcjkedaaSpec4c
import Derived.Test.YtlkcdcmmcjkedaaWithin9
namespace Go.Proofs.Ytlkcdcmmcjkedaa
open Go.RowKit

theorem rowOk_within (xs : List Int) (Q : Int) : rowOk xs Q = withB xs 300 (Q - 1) := by
  unfold rowOk withB
  congr 2
  funext x
  have : (0 ≤ x ∧ x < Q) = (0 ≤ x ∧ x ≤ Q - 1) := by apply propext; omega
  simp only [this]
theorem factorOk_in (v : Value) (xs : List Int) (Q : Nat) (w : World) (hv : Ints w v xs) (hQ : 2 ≤ Q) (hQ2 : Q ≤ 1000) (hl : xs.length ≤ 1000000000) : Calls Try.prog 59 #[v, .int .i64 Q] w fun e w' => e = .returned (.bool (rowOk xs Q)) ∧ w = w' := by
  have hW := allWithin_in v xs 300 ((Q : Int) - 1) w hv (by omega) hl
  rw [← rowOk_within] at hW
  clear hv hl
  generalize rowOk xs Q = B at *
  go_enter Try.func59, Try.ntmps59
  go_wp2_with (go_at_call 66; refine hW.mono ?_; rintro e w' ⟨rfl, rfl⟩)
  go_ret
  exact ⟨rfl, rfl⟩

def SumsI (w : World) (g N : Nat) (X Y : Nat → Nat) (k j : Nat) : Prop := BlkAt w g 3 N (intsV N fun t => (convI X Y k j t : Int))

set_option maxHeartbeats 2000000 in
set_option maxRecDepth 100000 in
theorem implTimesLeft_in (v u : Value) (xs ys : List Int) (Q : Nat) (w : World) (hv : Ints w v xs) (hu : Ints w u ys) (hQ : 2 ≤ Q) (hQ2 : Q ≤ 1000) (hxo : rowOk xs Q = true) (hyo : rowOk ys Q = true) :
    Calls Try.prog 18 #[v, u, .int .i64 Q] w fun e w' => ∃ r, e = .returned r ∧ w'.ownsRow w.heap.size 3 1 r (timesLN Q xs ys).length ((timesLN Q xs ys).map (Value.int .i64)) ∧ Below w.heap.size w w' := by
  have hx := rowOk_len hxo
  have hy := rowOk_len hyo
  have hF1 := fun w' (h : Ints w' v xs) => factorOk_in v xs Q w' h hQ hQ2 (by omega)
  have hF2 := fun w' (h : Ints w' u ys) => factorOk_in u ys Q w' h hQ hQ2 (by omega)
  rw [hxo] at hF1
  rw [hyo] at hF2
  have hv0 := hv
  have hu0 := hu
  have hF1' := hF1 w hv
  have hF2' := hF2 w hu
  obtain ⟨gx, cx, rfl, hgx, hcx⟩ := hv.open hx.1
  obtain ⟨gy, cy, rfl, hgy, hcy⟩ := hu.open hy.1
  clear hv hu hv0 hu0 hF1 hF2
  have hcx' : ∀ i, i < xs.length → w.cell? ⟨gx, i, none⟩ = some (.int .i64 (natL xs i)) ∧ natL xs i < Q := fun i hi => ⟨by rw [hcx i hi, (natL_at hxo hi).1], by have := (natL_at hxo hi).2; omega⟩
  have hcy' : ∀ i, i < ys.length → w.cell? ⟨gy, i, none⟩ = some (.int .i64 (natL ys i)) ∧ natL ys i < Q := fun i hi => ⟨by rw [hcy i hi, (natL_at hyo hi).1], by have := (natL_at hyo hi).2; omega⟩
  have hle : ∀ k j t, convI (natL xs) (natL ys) k j t ≤ (k + 1) * (Q * Q) := fun k j t => convI_le (natL_le hxo) (natL_le hyo) k j t
  clear hcx hcy
  have hlenT := timesLN_len Q xs ys
  have hgetT : ∀ t, t < xs.length + ys.length - 1 → (timesLN Q xs ys).getD t 0 = ((conv (natL xs) (natL ys) t % Q : Nat) : Int) := fun t ht => timesLN_getD Q xs ys t ht
  have hX0 : ∀ i, xs.length ≤ i → natL xs i = 0 := fun i hi => natL_over xs i hi
  have hY0 : ∀ i, ys.length ≤ i → natL ys i = 0 := fun i hi => natL_over ys i hi
  generalize xs.length = nx at *
  generalize ys.length = ny at *
  obtain ⟨N, hN⟩ : ∃ N, nx + ny - 1 = N := ⟨_, rfl⟩
  have hNi : (nx : Int) + (ny : Int) - 1 = (N : Int) := by omega
  have hQQ : Q * Q ≤ 1000000 := Nat.mul_le_mul hQ2 hQ2
  have hNb : N ≤ 599 ∧ nx ≤ N ∧ ny ≤ N := by omega
  have hN' := hide hN
  rw [hN] at hlenT hgetT
  have hlenT' := hide hlenT
  clear hN hlenT hxo hyo
  go_enter Try.func18, Try.ntmps18
  go_wp2_with (first
    | (go_at_call 58; refine (leftByOk_t _ _ (by omega) (by omega)).mono ?_; rintro e w' ⟨rfl, rfl⟩)
    | (go_at_call 59; (with_reducible refine hF1'.mono ?_); rintro e w' ⟨rfl, rfl⟩)
    | (go_at_call 59; (with_reducible refine hF2'.mono ?_); rintro e w' ⟨rfl, rfl⟩)
    | (refine make_blk _ rfl _ _ rfl _ _ N rfl rfl (by first | exact hNi | rfl | omega) (by first | exact hNi | rfl | omega) (by omega) ?_; intro w1 hb1 hg1))
  have hst : SumsI w1 w.heap.size N (natL xs) (natL ys) 0 0 := BlkAt.congr hb1 (fun i _ => by rw [convI_start]; rfl)
  have hBs : Below w.heap.size w w1 := (Below.refl _ w).grown hg1 (Nat.le_refl _) (fun _ e => by cases e)
  clear hb1 hg1 hNi hF1' hF2'
  go_loopw [36] (fun n wr => ∃ k : Nat, k ≤ nx ∧ n = .int .i64 k ∧ SumsI wr w.heap.size N (natL xs) (natL ys) k 0 ∧ Below w.heap.size w wr) (fun n _ => nx - (intOf n).toNat)
  case atStart => exact ⟨0, by omega, rfl, hst, hBs⟩
  case round =>
    clear hst hBs
    obtain ⟨k, hk, rfl, hS, hB⟩ := hrel
    by_cases hlt : k < nx
    · have hcxk := (hB.cell (p := ⟨gx, k, none⟩) hgx).trans (hcx' k hlt).1
      have haQ := (hcx' k hlt).2
      have hki : (k : Int) < (nx : Int) := by omega
      obtain ⟨a, ha⟩ : ∃ a, natL xs k = a := ⟨_, rfl⟩
      rw [ha] at hcxk haQ
      have ha' := hide ha
      clear ha
      go_wp2
      obtain ⟨wo, rfl⟩ : ∃ wo : World, wo = wr := ⟨_, rfl⟩
      clear hcxk
      go_loopw [43] (fun n wi => ∃ j : Nat, j ≤ ny ∧ n = .int .i64 j ∧ SumsI wi w.heap.size N (natL xs) (natL ys) k j ∧ Below w.heap.size w wi) (fun n _ => ny - (intOf n).toNat)
      case atStart => exact ⟨0, by omega, rfl, hS, hB⟩
      case round =>
        clear hS hB
        obtain ⟨j, hj, rfl, hS, hB⟩ := hrel
        by_cases hltj : j < ny
        · have hcyj := (hB.cell (p := ⟨gy, j, none⟩) hgy).trans (hcy' j hltj).1
          have hbQ := (hcy' j hltj).2
          obtain ⟨b, hb⟩ : ∃ b, natL ys j = b := ⟨_, rfl⟩
          rw [hb] at hcyj hbQ
          have hcs := BlkAt.cell hS (intsV_at (show k + j < N by have := hN'.out; omega))
          have hfr := BlkAt.frozen hS (k + j)
          have hstep := convI_at (natL xs) (natL ys) k j
          rw [ha'.out, hb] at hstep
          have hAl := hle k j (k + j)
          have hAl2 : (k + 1) * (Q * Q) ≤ 301 * 1000000 := Nat.mul_le_mul (by omega) hQQ
          obtain ⟨A, hA⟩ : ∃ A, convI (natL xs) (natL ys) k j (k + j) = A := ⟨_, rfl⟩
          rw [hA] at hstep hcs hAl
          obtain ⟨D, hD⟩ : ∃ D, a * b = D := ⟨_, rfl⟩
          have hDl : D ≤ 1000 * 1000 := by rw [← hD]; exact Nat.mul_le_mul (by omega) (by omega)
          have hDi : (a : Int) * (b : Int) = (D : Int) := by rw [← hD]; simp
          rw [hD] at hstep
          have hSn : SumsI (wr.setCell ⟨w.heap.size, k + j, none⟩ (.int .i64 ((A : Int) + (D : Int)))) w.heap.size N (natL xs) (natL ys) k (j + 1) := (BlkAt.setI hS _ (by have := hN'.out; omega)).congr (fun t _ => by
            by_cases e : t = k + j
            · subst e; rw [if_pos rfl, hstep]; simp
            · rw [if_neg e, convI_other _ _ _ _ _ e])
          have hBn : Below w.heap.size w (wr.setCell ⟨w.heap.size, k + j, none⟩ (.int .i64 ((A : Int) + (D : Int)))) := hB.setCell (p := ⟨w.heap.size, k + j, none⟩) (Nat.le_refl _) _
          have hkjN : (k : Int) + (j : Int) < (N : Int) := by have := hN'.out; omega
          clear hS hB hstep hA hD hb hcx' hcy' hle
          have hw1 : IntKind.i64.wrap (D : Int) = D := IntWalk.i64_in _ (by omega)
          have hw3 : IntKind.i64.wrap ((A : Int) + (D : Int)) = (A : Int) + (D : Int) := IntWalk.i64_in _ (by omega)
          have hw4 : IntKind.i64.wrap ((k : Int) + (j : Int)) = (k : Int) + (j : Int) := IntWalk.i64_in _ (by omega)
          have hw5 : ((k : Int) + (j : Int)).toNat = k + j := by omega
          have hw6 : (0 : Int) ≤ (k : Int) + (j : Int) := by omega
          have hji : (j : Int) < (ny : Int) := by omega
          go_wp2
          go_roundw
          case rel => exact ⟨j + 1, by omega, by go_num, hSn, hBn⟩
          case measure => simp [intOf]; omega
        · obtain rfl : j = ny := by omega
          have hSn : SumsI wr w.heap.size N (natL xs) (natL ys) (k + 1) 0 := BlkAt.congr hS (fun t _ => by rw [convI_full hY0])
          clear hS hcx' hcy' hle
          go_wp2
          go_roundw
          case rel => exact ⟨k + 1, by omega, by go_num, hSn, hB⟩
          case measure => simp [intOf]; omega
    · obtain rfl : k = nx := by omega
      have hkl := keepLeft_blk w.heap.size 0 N N N _ _ (fun t => convI (natL xs) (natL ys) k 0 t) Q wr (by omega) (by omega) hQ hQ2 (fun t => by
        have h1 := hle k 0 t
        have h2 : (k + 1) * (Q * Q) ≤ 301 * 1000000 := Nat.mul_le_mul (by omega) hQQ
        omega) hS (fun t ht => by rw [Nat.zero_add, intsV_at ht])
      clear hS hcx' hcy' hle
      go_wp2_with fail
      go_at_call 60
      refine hkl.mono ?_
      clear hkl
      rintro e w2 ⟨⟨r, rfl⟩, hb2, hg2⟩
      have hown : w2.ownsRow w.heap.size 3 1 (.slice (some ⟨w.heap.size, 0, none⟩) N N) N ((timesLN Q xs ys).map (Value.int .i64)) := hb2.owns hlenT'.out (fun i hi => by
        rw [if_pos (by omega), Nat.sub_zero, hgetT i hi, convI_end hX0]) (Nat.le_refl _) (by omega)
      have hBn := hB.grown hg2 hB.size (fun k e => by cases e; exact Nat.le_refl _)
      clear hb2 hgetT
      go_wp2
      go_ret
      refine ⟨_, rfl, ?_, hBn⟩
      rw [hlenT'.out]
      exact hown

theorem implTimesLeft (v u : Value) (xs ys : List Int) (q : Int) (w : World) (hv : Ints w v xs) (hu : Ints w u ys) (hl1 : xs.length ≤ 1000000000) (hl2 : ys.length ≤ 1000000000) :
    Calls Try.prog 18 #[v, u, .int .i64 q] w fun e w' => ∃ r, e = .returned r ∧ w'.ownsRow w.heap.size 3 1 r (timesLV xs ys q).length ((timesLV xs ys q).map (Value.int .i64)) ∧ Below w.heap.size w w' := by
  by_cases h : q < 2 ∨ 1000 < q
  · rw [timesLV_not (okT_not (.inl h))]
    obtain ⟨a, c, rfl⟩ := hv.form
    obtain ⟨a', c', rfl⟩ := hu.form
    clear hv hu
    go_enter Try.func18, Try.ntmps18
    go_wp2_with (go_at_call 58; refine (leftByOk_f _ _ h).mono ?_; rintro e w' ⟨rfl, rfl⟩)
    go_ret
    exact ⟨_, rfl, World.ownsRow_nil _ _ _ _, Below.refl _ _⟩
  · obtain ⟨Q, rfl⟩ : ∃ r : Nat, q = r := ⟨q.toNat, by omega⟩
    have hF1 := factorOk_in v xs Q w hv (by omega) (by omega) hl1
    have hF2 := factorOk_in u ys Q w hu (by omega) (by omega) hl2
    cases hxo : rowOk xs Q with
    | false =>
      rw [timesLV_not (by unfold okT; rw [hxo, Bool.false_and, Bool.and_false])]
      rw [hxo] at hF1
      obtain ⟨a, c, rfl⟩ := hv.form
      obtain ⟨a', c', rfl⟩ := hu.form
      clear hv hu hF2 hxo
      go_enter Try.func18, Try.ntmps18
      go_wp2_with (first | (go_at_call 58; refine (leftByOk_t _ _ (by omega) (by omega)).mono ?_; rintro e w' ⟨rfl, rfl⟩) | (go_at_call 59; (with_reducible refine hF1.mono ?_); rintro e w' ⟨rfl, rfl⟩))
      go_ret
      exact ⟨_, rfl, World.ownsRow_nil _ _ _ _, Below.refl _ _⟩
    | true =>
      cases hyo : rowOk ys Q with
      | false =>
        rw [timesLV_not (by unfold okT; rw [hyo, Bool.and_false, Bool.and_false])]
        rw [hxo] at hF1
        rw [hyo] at hF2
        obtain ⟨a, c, rfl⟩ := hv.form
        obtain ⟨a', c', rfl⟩ := hu.form
        clear hv hu hxo hyo
        go_enter Try.func18, Try.ntmps18
        go_wp2_with (first | (go_at_call 58; refine (leftByOk_t _ _ (by omega) (by omega)).mono ?_; rintro e w' ⟨rfl, rfl⟩) | (go_at_call 59; (with_reducible refine hF1.mono ?_); rintro e w' ⟨rfl, rfl⟩) | (go_at_call 59; (with_reducible refine hF2.mono ?_); rintro e w' ⟨rfl, rfl⟩))
        go_ret
        exact ⟨_, rfl, World.ownsRow_nil _ _ _ _, Below.refl _ _⟩
      | true =>
        have hok : okT xs ys Q = true := by
          unfold okT
          rw [hxo, hyo, show decide (2 ≤ (Q : Int) ∧ (Q : Int) ≤ 1000) = true by simp; omega]
          rfl
        rw [timesLV_ok hok]
        exact implTimesLeft_in v u xs ys Q w hv hu (by omega) (by omega) hxo hyo
end Go.Proofs.Ytlkcdcmmcjkedaa
