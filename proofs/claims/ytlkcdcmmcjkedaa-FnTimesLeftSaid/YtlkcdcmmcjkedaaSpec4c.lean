/-
  The model's TimesLeft: for every two rows of numbers and every number it hands back the product's rest, or nothing.
-/
import Derived.Test.YtlkcdcmmcjkedaaBlk
import Derived.Test.YtlkcdcmmcjkedaaLawKit
import Derived.Test.YtlkcdcmmcjkedaaVals4
import Derived.StillTailTactics
namespace Go.Proofs.Ytlkcdcmmcjkedaa
open Go.RowKit

theorem Ints.form {w : World} {v : Value} {xs : List Int} (h : Ints w v xs) : ∃ a c, v = .slice a xs.length c := by
  rcases h with ⟨a, c, rfl, rfl⟩ | ⟨g, cap, rfl, _⟩
  · exact ⟨_, _, rfl⟩
  · exact ⟨_, _, rfl⟩
theorem Ints.open {w : World} {v : Value} {xs : List Int} (h : Ints w v xs) (h0 : 1 ≤ xs.length) : ∃ g cap, v = .slice (some ⟨g, 0, none⟩) xs.length cap ∧ g < w.heap.size ∧ ∀ i, i < xs.length → w.cell? ⟨g, i, none⟩ = some (.int .i64 (xs.getD i 0)) := by
  rcases h with ⟨a, c, rfl, rfl⟩ | ⟨g, cap, rfl, hg, hc⟩
  · simp at h0
  · exact ⟨g, cap, rfl, hg, hc⟩
def numOk (xs : List Int) (q : Int) (i : Nat) : Prop := 0 ≤ xs.getD i 0 ∧ xs.getD i 0 < q
theorem okT_not {xs ys : List Int} {q : Int} (h : (q < 2 ∨ 1000 < q) ∨ (xs.length < 1 ∨ 300 < xs.length) ∨ (ys.length < 1 ∨ 300 < ys.length)) : okT xs ys q = false := by
  unfold okT
  rcases h with h | h | h
  · rw [show decide (2 ≤ q ∧ q ≤ 1000) = false by simp; omega, Bool.false_and]
  · rw [rowOk_short h, Bool.false_and, Bool.and_false]
  · rw [rowOk_short h, Bool.and_false, Bool.and_false]
theorem timesLV_not {xs ys : List Int} {q : Int} (h : okT xs ys q = false) : timesLV xs ys q = [] := by unfold timesLV; rw [if_neg (by rw [h]; simp)]
theorem timesLV_ok {xs ys : List Int} {Q : Nat} (h : okT xs ys Q = true) : timesLV xs ys Q = timesLN Q xs ys := by unfold timesLV; rw [if_pos h]; simp
theorem okT_x {xs ys : List Int} {q : Int} {i : Nat} (hi : i < xs.length) (h : ¬ numOk xs q i) : okT xs ys q = false := by
  unfold okT
  rw [rowOk_not hi (by unfold numOk at h; omega), Bool.false_and, Bool.and_false]
theorem okT_y {xs ys : List Int} {q : Int} {i : Nat} (hi : i < ys.length) (h : ¬ numOk ys q i) : okT xs ys q = false := by
  unfold okT
  rw [rowOk_not hi (by unfold numOk at h; omega), Bool.and_false, Bool.and_false]
theorem okT_all {xs ys : List Int} {Q : Nat} (hq : 2 ≤ Q) (hq2 : Q ≤ 1000) (hx1 : 1 ≤ xs.length) (hx2 : xs.length ≤ 300) (hy1 : 1 ≤ ys.length) (hy2 : ys.length ≤ 300) (hx : ∀ i, i < xs.length → numOk xs Q i) (hy : ∀ i, i < ys.length → numOk ys Q i) : okT xs ys Q = true := by
  unfold okT
  rw [rowOk_of hx1 hx2 (fun i hi => hx i hi), rowOk_of hy1 hy2 (fun i hi => hy i hi), show decide (2 ≤ (Q : Int) ∧ (Q : Int) ≤ 1000) = true by simp; omega]
  rfl
theorem numOk_nat {xs : List Int} {Q i : Nat} (h : numOk xs Q i) : ∃ a : Nat, natL xs i = a ∧ xs.getD i 0 = a ∧ a < Q := by
  unfold numOk at h
  exact ⟨natL xs i, rfl, by unfold natL; omega, by unfold natL; omega⟩
theorem conv_step {X Y : Nat → Nat} {k j Q a b : Nat} (ha : X k = a) (hb : Y j = b) : (convI X Y k j (k + j) % Q + a * b) % Q = convI X Y k (j + 1) (k + j) % Q := by
  rw [convI_at, ha, hb, Nat.mod_add_mod]

set_option maxHeartbeats 1000000 in
theorem specTimesLeft_out (v u : Value) (xs ys : List Int) (q : Int) (w : World) (hv : Ints w v xs) (hu : Ints w u ys) (h : (q < 2 ∨ 1000 < q) ∨ (xs.length < 1 ∨ 300 < xs.length) ∨ (ys.length < 1 ∨ 300 < ys.length)) : Calls Try.prog 20 #[v, u, .int .i64 q] w fun e w' =>
    ∃ r, e = .returned r ∧ w'.ownsRow w.heap.size 3 1 r 0 [] ∧ Below w.heap.size w w' := by
  obtain ⟨a, c, rfl⟩ := hv.form
  obtain ⟨a', c', rfl⟩ := hu.form
  clear hv hu
  generalize xs.length = nx at *
  generalize ys.length = ny at *
  by_cases h1 : nx < 1 ∨ 300 < nx
  case' neg => by_cases h2 : ny < 1 ∨ 300 < ny
  all_goals
    go_enter Try.func20, Try.ntmps20
    go_wp2_with (first | (go_at_call 61; refine (l1In_t _ _ _ _ (by omega) (by omega)).mono ?_; rintro e w' ⟨rfl, rfl⟩) | (go_at_call 61; refine (l1In_f _ _ _ _ (by omega)).mono ?_; rintro e w' ⟨rfl, rfl⟩))
    go_ret
    exact ⟨_, rfl, World.ownsRow_made _ _ _ (Nat.le_refl _) (by decide) rfl, (Below.refl _ _).alloc (Nat.le_refl _) _⟩

/-- What the loops have made: the block of sums, of which what is left is kept. -/
def SumsAt (w : World) (g N Q : Nat) (X Y : Nat → Nat) (k j : Nat) : Prop := BlkAt w g 3 N (intsV N fun t => ((convI X Y k j t % Q : Nat) : Int))

set_option maxHeartbeats 4000000 in
set_option maxRecDepth 100000 in
theorem specTimesLeft_in (v u : Value) (xs ys : List Int) (Q : Nat) (w : World) (hv : Ints w v xs) (hu : Ints w u ys) (hQ : 2 ≤ Q) (hQ2 : Q ≤ 1000) (hx1 : 1 ≤ xs.length) (hx2 : xs.length ≤ 300) (hy1 : 1 ≤ ys.length) (hy2 : ys.length ≤ 300) :
    Calls Try.prog 20 #[v, u, .int .i64 Q] w fun e w' => ∃ r, e = .returned r ∧ w'.ownsRow w.heap.size 3 1 r (timesLV xs ys Q).length ((timesLV xs ys Q).map (Value.int .i64)) ∧ Below w.heap.size w w' := by
  obtain ⟨gx, cx, rfl, hgx, hcx⟩ := hv.open hx1
  obtain ⟨gy, cy, rfl, hgy, hcy⟩ := hu.open hy1
  clear hv hu
  obtain ⟨nx, hnx⟩ : ∃ n, xs.length = n := ⟨_, rfl⟩
  obtain ⟨ny, hny⟩ : ∃ n, ys.length = n := ⟨_, rfl⟩
  rw [hnx] at hx1 hx2 hcx ⊢
  rw [hny] at hy1 hy2 hcy ⊢
  have hX0 : ∀ i, nx ≤ i → natL xs i = 0 := fun i hi => natL_over xs i (by omega)
  have hY0 : ∀ i, ny ≤ i → natL ys i = 0 := fun i hi => natL_over ys i (by omega)
  have hbadx : ∀ i, i < nx → ¬ numOk xs Q i → timesLV xs ys Q = [] := fun i hi h => timesLV_not (okT_x (by omega) h)
  have hbady : ∀ i, i < ny → ¬ numOk ys Q i → timesLV xs ys Q = [] := fun i hi h => timesLV_not (okT_y (by omega) h)
  have hgood : (∀ i, i < nx → numOk xs Q i) → (∀ i, i < ny → numOk ys Q i) → timesLV xs ys Q = timesLN Q xs ys := fun h1 h2 => timesLV_ok (okT_all hQ hQ2 (by omega) (by omega) (by omega) (by omega) (fun i hi => h1 i (by omega)) (fun i hi => h2 i (by omega)))
  have hlenT : (timesLN Q xs ys).length = nx + ny - 1 := by rw [timesLN_len, hnx, hny]
  have hgetT : ∀ t, t < nx + ny - 1 → (timesLN Q xs ys).getD t 0 = ((conv (natL xs) (natL ys) t % Q : Nat) : Int) := fun t ht => timesLN_getD Q xs ys t (by omega)
  clear hnx hny
  obtain ⟨N, hN⟩ : ∃ N, nx + ny - 1 = N := ⟨_, rfl⟩
  have hNi : (nx : Int) + (ny : Int) - 1 = (N : Int) := by omega
  have hq0 : ((Q : Int) == 0) = false := by simp; omega
  have hq00 : (Q = 0) = False := by simp; omega
  have hN' := hide hN
  have hNb : N ≤ 599 ∧ nx ≤ N ∧ ny ≤ N := by omega
  rw [hN] at hlenT hgetT
  have hlenT' := hide hlenT
  clear hN hlenT
  go_enter Try.func20, Try.ntmps20
  go_wp2_with (first
    | (go_at_call 61; refine (l1In_t _ _ _ _ (by omega) (by omega)).mono ?_; rintro e w' ⟨rfl, rfl⟩)
    | (refine make_blk _ rfl _ _ rfl _ _ N rfl rfl (by first | exact hNi | rfl | omega) (by first | exact hNi | rfl | omega) (by omega) ?_; intro w1 hb1 hg1))
  have hst : SumsAt w1 w.heap.size N Q (natL xs) (natL ys) 0 0 := BlkAt.congr hb1 (fun i _ => by rw [convI_start, Nat.zero_mod]; rfl)
  have hBs : Below w.heap.size w w1 := (Below.refl _ w).grown hg1 (Nat.le_refl _) (fun _ e => by cases e)
  clear hb1 hg1 hNi
  go_loopw [8] (fun n wr => ∃ k : Nat, k ≤ nx ∧ n = .int .i64 k ∧ (∀ i, i < k → numOk xs Q i) ∧ (0 < k → ∀ i, i < ny → numOk ys Q i) ∧ SumsAt wr w.heap.size N Q (natL xs) (natL ys) k 0 ∧ Below w.heap.size w wr) (fun n _ => nx - (intOf n).toNat)
  case atStart => exact ⟨0, by omega, rfl, fun i hi => by omega, fun h => by omega, hst, hBs⟩
  case round =>
    clear hst hBs
    obtain ⟨k, hk, rfl, hxk, hyk, hS, hB⟩ := hrel
    by_cases hlt : k < nx
    · go_wp2
      obtain ⟨wo, rfl⟩ : ∃ wo : World, wo = wr := ⟨_, rfl⟩
      go_loopw [9] (fun n wi => ∃ j : Nat, j ≤ ny ∧ n = .int .i64 j ∧ (0 < j → numOk xs Q k) ∧ (∀ i, i < j → numOk ys Q i) ∧ SumsAt wi w.heap.size N Q (natL xs) (natL ys) k j ∧ Below w.heap.size w wi) (fun n _ => ny - (intOf n).toNat)
      case atStart => exact ⟨0, by omega, rfl, fun h => by omega, fun i hi => by omega, hS, hB⟩
      case round =>
        clear hS hB
        obtain ⟨j, hj, rfl, hxj, hyj, hS, hB⟩ := hrel
        by_cases hltj : j < ny
        · have hcxk := (hB.cell (p := ⟨gx, k, none⟩) hgx).trans (hcx k hlt)
          have hcyj := (hB.cell (p := ⟨gy, j, none⟩) hgy).trans (hcy j hltj)
          by_cases hxo : numOk xs Q k
          · by_cases hyo : numOk ys Q j
            · obtain ⟨a, hXa, hxa, haQ⟩ := numOk_nat hxo
              obtain ⟨b, hYb, hyb, hbQ⟩ := numOk_nat hyo
              rw [hxa] at hcxk
              rw [hyb] at hcyj
              have hcs := BlkAt.cell hS (intsV_at (show k + j < N by have := hN'.out; omega))
              have hfr := BlkAt.frozen hS (k + j)
              have hstep := conv_step (Q := Q) hXa hYb
              have hAl : convI (natL xs) (natL ys) k j (k + j) % Q < Q := Nat.mod_lt _ (by omega)
              obtain ⟨A, hA⟩ : ∃ A, convI (natL xs) (natL ys) k j (k + j) % Q = A := ⟨_, rfl⟩
              rw [hA] at hstep hcs hAl
              obtain ⟨D, hD⟩ : ∃ D, a * b = D := ⟨_, rfl⟩
              have hDl : D ≤ 1000 * 1000 := by rw [← hD]; exact Nat.mul_le_mul (by omega) (by omega)
              have hDi : (a : Int) * (b : Int) = (D : Int) := by rw [← hD]; simp
              rw [hD] at hstep
              have hqm := tmod_n (A + D) Q
              have hEl := Nat.mod_lt (A + D) (show 0 < Q by omega)
              obtain ⟨E, hE⟩ : ∃ E, (A + D) % Q = E := ⟨_, rfl⟩
              rw [hE] at hstep hqm hEl
              rw [Int.natCast_add] at hqm
              have hSn : SumsAt (wr.drew.setCell ⟨w.heap.size, k + j, none⟩ (.int .i64 E)) w.heap.size N Q (natL xs) (natL ys) k (j + 1) := ((BlkAt.of_block (w' := wr.drew) hS rfl).setI _ (by have := hN'.out; omega)).congr (fun t _ => by
                by_cases e : t = k + j
                · subst e; rw [if_pos rfl, hstep]
                · rw [if_neg e, convI_other _ _ _ _ _ e])
              have hBd : Below w.heap.size w wr.drew := ⟨hB.os, hB.tape, hB.output, hB.size, hB.block⟩
              have hBn : Below w.heap.size w (wr.drew.setCell ⟨w.heap.size, k + j, none⟩ (.int .i64 E)) := hBd.setCell (p := ⟨w.heap.size, k + j, none⟩) (Nat.le_refl _) _
              have hyj' : ∀ i, i < j + 1 → numOk ys Q i := fun i hi => by
                by_cases e : i = j
                · subst e; exact hyo
                · exact hyj i (by omega)
              have hyj2 := hide hyj'
              have hxo2 := hide hxo
              have hkjN : (k : Int) + (j : Int) < (N : Int) := by have := hN'.out; omega
              clear hS hB hxj hyj hyj' hxo hyo hstep hA hD hE hcx hcy hXa hYb hxa hyb hxk hyk
              have hw1 : IntKind.i64.wrap (D : Int) = D := IntWalk.i64_in _ (by omega)
              have hw2 : IntKind.i64.wrap (E : Int) = E := IntWalk.i64_in _ (by omega)
              have hw3 : IntKind.i64.wrap ((A : Int) + (D : Int)) = (A : Int) + (D : Int) := IntWalk.i64_in _ (by omega)
              have hw4 : IntKind.i64.wrap ((k : Int) + (j : Int)) = (k : Int) + (j : Int) := IntWalk.i64_in _ (by omega)
              have hw5 : ((k : Int) + (j : Int)).toNat = k + j := by omega
              have hw6 : (0 : Int) ≤ (k : Int) + (j : Int) := by omega
              have hki : (k : Int) < (nx : Int) := by omega
              have hji : (j : Int) < (ny : Int) := by omega
              go_wp2_with (go_at_call 61; refine (l1In_t _ _ _ _ (by omega) (by omega)).mono ?_; rintro e w' ⟨rfl, rfl⟩)
              go_still_tail 23, (by kernel_rfl)
              change wpList _ _ _ _ _ wr.drew
              go_wp2
              go_roundw
              case rel => exact ⟨j + 1, by omega, by go_num, fun _ => hxo2.out, hyj2.out, hSn, hBn⟩
              case measure => simp [intOf]; omega
            · have hv := hbady j hltj hyo
              obtain ⟨a, hXa, hxa, haQ⟩ := numOk_nat hxo
              rw [hxa] at hcxk
              have hv' := hide hv
              have hki : (k : Int) < (nx : Int) := by omega
              have hji : (j : Int) < (ny : Int) := by omega
              unfold numOk at hyo
              obtain ⟨z, hz⟩ : ∃ z, ys.getD j 0 = z := ⟨_, rfl⟩
              rw [hz] at hcyj hyo
              have hzb : z < 0 ∨ (Q : Int) - 1 < z := by omega
              clear hz hv hS hxj hyj hxo hyo hXa hxa hxk hyk hcx hcy
              go_wp2_with (first | (go_at_call 61; refine (l1In_t _ _ _ _ (by omega) (by omega)).mono ?_; rintro e w' ⟨rfl, rfl⟩) | (go_at_call 61; refine (l1In_f _ _ _ _ (by omega)).mono ?_; rintro e w' ⟨rfl, rfl⟩))
              go_ret
              refine ⟨_, rfl, ?_, hB.alloc hB.size _⟩
              rw [hv'.out]
              exact World.ownsRow_made _ _ _ hB.size (by decide) rfl
          · have hv := hbadx k hlt hxo
            have hv' := hide hv
            have hki : (k : Int) < (nx : Int) := by omega
            have hji : (j : Int) < (ny : Int) := by omega
            unfold numOk at hxo
            obtain ⟨z, hz⟩ : ∃ z, xs.getD k 0 = z := ⟨_, rfl⟩
            rw [hz] at hcxk hxo
            have hzb : z < 0 ∨ (Q : Int) - 1 < z := by omega
            clear hz hv hS hxj hyj hxo hxk hyk hcx hcy hcyj
            go_wp2_with (go_at_call 61; refine (l1In_f _ _ _ _ (by omega)).mono ?_; rintro e w' ⟨rfl, rfl⟩)
            go_ret
            refine ⟨_, rfl, ?_, hB.alloc hB.size _⟩
            rw [hv'.out]
            exact World.ownsRow_made _ _ _ hB.size (by decide) rfl
        · obtain rfl : j = ny := by omega
          have hxk' : ∀ i, i < k + 1 → numOk xs Q i := fun i hi => by
            by_cases e : i = k
            · subst e; exact hxj (by omega)
            · exact hxk i (by omega)
          have hSn : SumsAt wr w.heap.size N Q (natL xs) (natL ys) (k + 1) 0 := BlkAt.congr hS (fun t _ => by rw [convI_full hY0])
          have hxk2 := hide hxk'
          have hyj2 := hide hyj
          clear hxk hxk' hyk hyj hxj hS hcx hcy
          go_wp2
          go_roundw
          case rel => exact ⟨k + 1, by omega, by go_num, hxk2.out, fun _ => hyj2.out, hSn, hB⟩
          case measure => simp [intOf]; omega
    · obtain rfl : k = nx := by omega
      have hv := hide (hgood hxk (hyk (by omega)))
      have hown : wr.ownsRow w.heap.size 3 1 (.slice (some ⟨w.heap.size, 0, none⟩) N N) N ((timesLN Q xs ys).map (Value.int .i64)) := BlkAt.owns hS hlenT'.out (fun i hi => by rw [intsV_at hi, hgetT i hi, convI_end hX0]) (Nat.le_refl _) (by omega)
      clear hxk hyk hS hcx hcy hgetT
      go_wp2
      go_ret
      refine ⟨_, rfl, ?_, hB⟩
      rw [hv.out, hlenT'.out]
      exact hown

theorem specTimesLeft (v u : Value) (xs ys : List Int) (q : Int) (w : World) (hv : Ints w v xs) (hu : Ints w u ys) :
    Calls Try.prog 20 #[v, u, .int .i64 q] w fun e w' => ∃ r, e = .returned r ∧ w'.ownsRow w.heap.size 3 1 r (timesLV xs ys q).length ((timesLV xs ys q).map (Value.int .i64)) ∧ Below w.heap.size w w' := by
  by_cases h : (q < 2 ∨ 1000 < q) ∨ (xs.length < 1 ∨ 300 < xs.length) ∨ (ys.length < 1 ∨ 300 < ys.length)
  · rw [timesLV_not (okT_not h)]; exact specTimesLeft_out v u xs ys q w hv hu h
  · obtain ⟨Q, rfl⟩ : ∃ r : Nat, q = r := ⟨q.toNat, by omega⟩
    exact specTimesLeft_in v u xs ys Q w hv hu (by omega) (by omega) (by omega) (by omega) (by omega) (by omega)
end Go.Proofs.Ytlkcdcmmcjkedaa
