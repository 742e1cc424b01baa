/-
  The model's BitsAfter: for every ring and number what it hands back.
-/
import Derived.Test.YtmnmbelmcdfcjaaSpec10b
import Derived.Test.YtmnmbelmcdfcjaaSpec4b
import Derived.Test.YtmnmbelmcdfcjaaQuietBelow
import Derived.Test.YtmnmbelmcdfcjaaKit3
namespace Go.Proofs.Ytmnmbelmcdfcjaa
open Go.RowKit Go.BigFrame

theorem bitsV_no {xs : List Int} {r : Int} (h : ringB xs = false ∨ (r < 0 ∨ 300 < r) ∨ ∃ i, i < xs.length ∧ 1 < xs.getD i 0) : bitsV xs r = [] := by
  unfold bitsV
  rw [if_neg]
  rintro ⟨h1, h2, h3⟩
  rcases h with h | h | ⟨i, hi, h⟩
  · rw [h1] at h; cases h
  · omega
  · rw [List.all_eq_true] at h3
    have := h3 (xs.getD i 0) (by rw [List.getD, List.getElem?_eq_getElem hi]; simp)
    have h4 := of_decide_eq_true this
    omega
theorem bitsV_nat {xs : List Int} (h : ringB xs = true) {r : Nat} (hr : r ≤ 300) (h3 : ∀ i, i < xs.length → xs.getD i 0 ≤ 1) : bitsV xs r = rgL (st (ringF xs) r) xs.length := by
  unfold bitsV
  rw [if_pos ⟨h, by omega, by
    rw [List.all_eq_true]
    intro x hx
    obtain ⟨i, hi, rfl⟩ := List.mem_iff_getElem.1 hx
    have := h3 i hi
    rw [List.getD, List.getElem?_eq_getElem hi] at this
    simpa using this⟩]
  rfl
theorem bitsV_len (xs : List Int) (r : Int) : (bitsV xs r).length ≤ 8 := by
  unfold bitsV; split
  · rename_i h; have := ringB_len h.1; rw [rgL_len]; omega
  · simp

def gapF (f : Nat → Nat) (l : Nat → Nat) (R k : Nat) : Nat := sumF (fun j => l j * f (k + j)) (R + 1) % 2
theorem sumF_hundred {f l : Nat → Nat} (hf : ∀ k, f k ≤ 100) (hl : ∀ k, l k ≤ 1) (k : Nat) : ∀ j, sumF (fun j => l j * f (k + j)) j ≤ j * 100
  | 0 => Nat.zero_le _
  | j + 1 => by
    have h1 := sumF_hundred hf hl k j
    have h2 := Nat.mul_le_mul (hl j) (hf (k + j))
    show sumF _ j + l j * f (k + j) ≤ _
    omega

set_option maxRecDepth 100000 in
set_option maxHeartbeats 4000000 in
theorem specBits (v : Value) (xs : List Int) (r : Int) (w : World) (hv : Ints w v xs) (hl : xs.length ≤ 10000000) : Calls Try.prog 31 #[v, .int .i64 r] w fun e w' =>
    ∃ u, e = .returned u ∧ w'.ownsRow w.heap.size 3 1 u (bitsV xs r).length ((bitsV xs r).map (Value.int .i64)) ∧ Below w.heap.size w w' := by
  have hS : ∀ wr, Below w.heap.size w wr → Calls Try.prog 17 #[v] wr fun e w' => e = .returned (.bool (ringB xs)) ∧ wr = w' := fun wr hB => specRing v xs wr (hv.below hB) (by omega)
  have hA : Below w.heap.size w (w.alloc (.cells #[] 3)) := (Below.refl _ w).alloc (Nat.le_refl _) _
  have hmade : (w.alloc (.cells #[] 3)).ownsRow w.heap.size 3 1 (.slice (some ⟨w.heap.size, 0, none⟩) 0 0) 0 [] := World.ownsRow_made _ _ _ (Nat.le_refl _) (by decide) rfl
  have hL : Calls Try.prog 54 #[.int .i64 r, .int .i64 2] (w.alloc (.cells #[] 3)) fun e w' => ∃ v, e = .returned v ∧ w'.ownsRow (w.alloc (.cells #[] 3)).heap.size 3 1 v (rowLV r 2).length ((rowLV r 2).map (Value.int .i64)) ∧ Below (w.alloc (.cells #[] 3)).heap.size (w.alloc (.cells #[] 3)) w' := specRowLeft r 2 _
  cases hside : ringB xs with
  | false =>
    rw [bitsV_no (.inl hside)]
    rw [hside] at hS
    obtain ⟨a, c, rfl⟩ := hv.shape
    clear hv hside
    generalize xs.length = n at *
    go_enter Try.func31, Try.ntmps31
    go_wp2_with (go_at_call 54; (with_reducible refine hL.mono ?_); clear hL; rintro e w2 ⟨u, rfl, hown2, hB2⟩)
    have hB := hA.trans (hB2.mono hA.size)
    have hm2 := own_below hmade hB2
    by_cases h1 : 0 < n
    · have h1i : (0 : Int) < (n : Int) := by omega
      refine wp_loop_rounds 1 ?_
      rw [rounds_succ]
      go_wp2_with (go_at_call 17; refine (hS _ hB).mono ?_; rintro e w' ⟨rfl, rfl⟩)
      go_ret
      exact ⟨_, rfl, hm2, hB⟩
    · obtain rfl : n = 0 := by omega
      refine wp_loop_rounds 1 ?_
      rw [rounds_succ]
      go_wp2
      go_ret
      exact ⟨_, rfl, hm2, hB⟩
  | true =>
    have hlen := ringB_len hside
    rw [hside] at hS
    by_cases hr : r < 0 ∨ 300 < r
    · rw [bitsV_no (.inr (.inl hr))]
      rw [rowLV_bad (by unfold badR; omega)] at hL
      obtain ⟨a, c, rfl⟩ := hv.shape
      clear hv hside
      have h1i : (0 : Int) < (xs.length : Int) := by omega
      generalize xs.length = n at *
      go_enter Try.func31, Try.ntmps31
      go_wp2_with (go_at_call 54; (with_reducible refine hL.mono ?_); clear hL; rintro e w2 ⟨u, rfl, hown2, hB2⟩)
      have hB := hA.trans (hB2.mono hA.size)
      have hm2 := own_below hmade hB2
      obtain ⟨a2, c2, rfl⟩ := own_form hown2
      refine wp_loop_rounds 1 ?_
      rw [rounds_succ]
      go_wp2_with (go_at_call 17; refine (hS _ hB).mono ?_; rintro e w' ⟨rfl, rfl⟩)
      go_ret
      exact ⟨_, rfl, hm2, hB⟩
    · obtain ⟨R, rfl⟩ : ∃ R : Nat, r = R := ⟨r.toNat, by omega⟩
      have hR : R ≤ 300 := by omega
      have hf := ringF_le hside
      have hp := ringF_per (xs := xs)
      obtain ⟨g, cap, rfl, hg, hc⟩ := hv.cells hlen.1
      have hcf : ∀ i, i < xs.length → w.cell? ⟨g, i, none⟩ = some (.int .i64 (ringF xs i : Nat)) := fun i hi => by rw [hc i hi, ringF_get hside hi]
      have hno : ∀ i, i < xs.length → 1 < ringF xs i → bitsV xs R = [] := fun i hi h => bitsV_no (.inr (.inr ⟨i, hi, by rw [ringF_get hside hi]; omega⟩))
      have hyes : (∀ i, i < xs.length → ringF xs i ≤ 1) → bitsV xs R = rgL (st (ringF xs) R) xs.length := fun h => bitsV_nat hside hR fun i hi => by rw [ringF_get hside hi]; have := h i hi; omega
      have hrw : rowLV ((R : Nat) : Int) 2 = rowLN 2 R := rowLV_nat (n := R) (q := 2) hR (by omega) (by omega)
      rw [hrw] at hL
      have hll : (rowLN 2 R).length = R + 1 := rowLN_len 2 R
      have hlg : ∀ i, i < R + 1 → (rowLN 2 R).getD i 0 = ((leftN 2 R i : Nat) : Int) := fun i hi => by unfold rowLN; rw [rowLP_getD 2 R (R + 1) i hi]
      have hlb : ∀ i, leftN 2 R i ≤ 1 := fun i => by have := leftN_lt (q := 2) (by omega) R i; omega
      have hst : (∀ i, ringF xs i ≤ 1) → ∀ k, st (ringF xs) R k = gapF (ringF xs) (leftN 2 R) R k := fun h k => st_row h R k
      rw [hll] at hL
      generalize ringF xs = f at *
      generalize leftN 2 R = l at *
      obtain ⟨X, hX⟩ : ∃ X, bitsV xs R = X := ⟨_, rfl⟩
      rw [hX] at hno hyes ⊢
      generalize xs.length = n at *
      clear hside hv hc hX hrw hl
      go_enter Try.func31, Try.ntmps31
      go_wp2_with (go_at_call 54; (with_reducible refine hL.mono ?_); clear hL; rintro e w2 ⟨u, rfl, hown2, hB2⟩)
      have hB := hA.trans (hB2.mono hA.size)
      have hm2 := own_below hmade hB2
      obtain ⟨gl, cl, rfl, hbl, hgl, _, hcl⟩ := owns_open hown2 (by omega)
      rw [World.size_alloc] at hbl
      have hcl' : ∀ i, i < R + 1 → w2.cell? ⟨gl, i, none⟩ = some (.int .i64 (l i : Nat)) := fun i hi => hcl i _ (by rw [List.getElem?_map, ← hlg i hi, List.getD, List.getElem?_eq_getElem (by omega)]; rfl)
      have hcf2 : ∀ i, i < n → w2.cell? ⟨g, i, none⟩ = some (.int .i64 (f i : Nat)) := fun i hi => (hB.cell (p := ⟨g, i, none⟩) hg).trans (hcf i hi)
      clear hcl hown2 hmade hA hB2 hcf hlg hll
      have hw2 := hB.size
      have hcell : ∀ W, Below w.heap.size w W → (∀ b, w.heap.size < b → b < w2.heap.size → W.heap[b]? = w2.heap[b]?) → ∀ j, j < R + 1 → W.cell? ⟨gl, j, none⟩ = some (.int .i64 (l j : Nat)) := fun W _ h j hj => (show W.cell? ⟨gl, j, none⟩ = w2.cell? ⟨gl, j, none⟩ from World.cell?_of_block (w := w2) (h gl (by omega) hgl)).trans (hcl' j hj)
      have hcell2 : ∀ W, Below w.heap.size w W → ∀ i, i < n → W.cell? ⟨g, i, none⟩ = some (.int .i64 (f i : Nat)) := fun W h i hi => (h.cell (p := ⟨g, i, none⟩) hg).trans ((hB.cell (p := ⟨g, i, none⟩) hg).symm.trans (hcf2 i hi))
      clear hcl' hcf2
      go_loopw [5, 7] (fun o i wr => ∃ k : Nat, k ≤ n ∧ i = .int .i64 k ∧ wr.ownsRow w.heap.size 3 1 o k ((rgL (gapF f l R) k).map (Value.int .i64)) ∧ Below w.heap.size w wr ∧ (∀ b, w.heap.size < b → b < w2.heap.size → wr.heap[b]? = w2.heap[b]?) ∧ w2.heap.size ≤ wr.heap.size ∧ (∀ b, o.ownBlock = some b → b = w.heap.size ∨ w2.heap.size ≤ b) ∧ Hid (∀ i, i < k → f i ≤ 1)) (fun _ i _ => n - (intOf i).toNat)
      case atStart => exact ⟨0, by omega, rfl, hm2, hB, fun _ _ _ => rfl, Nat.le_refl _, fun b hb => .inl (by simpa [Value.ownBlock] using hb.symm), hide (fun i hi => by omega)⟩
      case round =>
        clear hm2 hB
        obtain ⟨k, hk, rfl, hown, hB, hsame, hsz, hloc, hbits⟩ := hrel
        by_cases hlt : k < n
        · have hki : (k : Int) < (n : Int) := by omega
          have hR0 : (0 : Int) < (R : Int) + 1 := by omega
          have hS1 := hS wr hB
          go_wp2_with (go_at_call 17; refine hS1.mono ?_; clear hS1; rintro e w' ⟨rfl, rfl⟩)
          have hgl2 : gl < wr.heap.size := by omega
          have hg2 : g < wr.heap.size := Nat.lt_of_lt_of_le hg hB.size
          have hcl2 := hcell wr hB hsame
          have hcf2 := hcell2 wr hB
          obtain ⟨wo, hwo⟩ : ∃ wo : World, wo = wr := ⟨_, rfl⟩
          rw [← hwo] at hown hB hsame hsz hgl2 hg2 hcl2 hcf2
          go_loopw [8, 9] (fun s i wi => ∃ j : Nat, j ≤ R + 1 ∧ i = .int .i64 j ∧ s = .int .i64 (sumF (fun j => l j * f (k + j)) j : Nat) ∧ Below wo.heap.size wo wi ∧ Hid (0 < j → f k ≤ 1)) (fun _ i _ => R + 1 - (intOf i).toNat)
          case atStart => exact ⟨0, by omega, rfl, rfl, hwo ▸ Below.refl _ _, hide (fun h => by omega)⟩
          case round =>
            clear hwo
            obtain ⟨j, hj, rfl, rfl, hC, hbit⟩ := hrel
            have hsl := sumF_hundred hf hlb k j
            by_cases hjl : j < R + 1
            · obtain ⟨p, hpp⟩ : ∃ p, (k + j) % n = p := ⟨_, rfl⟩
              have hpl : p < n := by rw [← hpp]; exact Nat.mod_lt _ (by omega)
              have hfp : f p = f (k + j) := by rw [← hpp]; exact per_mod hp (k + j)
              have hq : Int.tmod ((k : Int) + (j : Int)) (n : Int) = (p : Int) := by have := tmod_n (k + j) n; rw [hpp] at this; simpa using this
              have q1 : ∀ m : After wo, m.now.cell? ⟨gl, j, none⟩ = some (.int .i64 (l j : Nat)) := fun m => (m.ok.cell (p := ⟨gl, j, none⟩) hgl2).trans (hcl2 j hjl)
              have q2 : ∀ m : After wo, m.now.cell? ⟨g, p, none⟩ = some (.int .i64 (f (k + j) : Nat)) := fun m => (m.ok.cell (p := ⟨g, p, none⟩) hg2).trans (by rw [hcf2 p hpl, hfp])
              have q3 := q2 ⟨wr, hC⟩
              have hss : sumF (fun j => l j * f (k + j)) (j + 1) = sumF (fun j => l j * f (k + j)) j + l j * f (k + j) := rfl
              have hsl1 := sumF_hundred hf hlb k (j + 1)
              rw [hss] at hsl1
              have hss' := hide hss
              have hji : (j : Int) < (R : Int) + 1 := by omega
              have hpi : (p : Int) < (n : Int) := by omega
              have hn0 : ((n : Int) == 0) = false := by rw [beq_eq_false_iff_ne]; omega
              have hw1 : IntKind.i64.wrap (p : Int) = (p : Int) := IntWalk.i64_in _ (by omega)
              have hw2' : IntKind.i64.wrap ((k : Int) + (j : Int)) = (k : Int) + (j : Int) := IntWalk.i64_in _ (by omega)
              by_cases hbig : 1 < f (k + j)
              · have hX := hno p hpl (by rw [hfp]; exact hbig)
                have hbi : (1 : Int) < ((f (k + j) : Nat) : Int) := by omega
                clear q1 q2 hss hss' hS hcell hcell2 hcl2 hcf2 hf hp hno hyes hst hlb hpp hfp hsl hsl1
                generalize f (k + j) = z at *
                subst hX
                go_wp2
                go_ret
                have hBC := hB.trans (hC.mono hB.size)
                exact ⟨_, rfl, World.ownsRow_made _ _ _ hBC.size (by decide) rfl, hBC.alloc hBC.size _⟩
              · have hbi : ¬ (1 : Int) < ((f (k + j) : Nat) : Int) := by omega
                have hbit' : Hid (0 < j + 1 → f k ≤ 1) := hide (fun _ => by
                  by_cases e : j = 0
                  · subst e; rw [Nat.add_zero] at hbig; omega
                  · exact hbit.out (by omega))
                clear hss hS hcell hcell2 hcl2 hcf2 hf hp hno hyes hst hlb hpp hfp hsl
                generalize f (k + j) = z at *
                generalize l j = y at *
                generalize sumF (fun j => l j * f (k + j)) j = s at *
                obtain ⟨t, ht⟩ : ∃ t, y * z = t := ⟨_, rfl⟩
                have hti : (y : Int) * (z : Int) = (t : Int) := by rw [← ht]; simp
                rw [ht] at hsl1 hss'
                have j1 : IntKind.i64.wrap (t : Int) = (t : Int) := IntWalk.i64_in _ (by omega)
                have j2 : IntKind.i64.wrap ((s : Int) + (t : Int)) = (s : Int) + (t : Int) := IntWalk.i64_in _ (by omega)
                clear ht
                go_wp2
                refine wp_region_below wo (by kernel_rfl) (by kernel_rfl) hC ?_
                repeat (go_big_quiet_step (fail))
                refine wpQuiet_nil ?_
                rintro _ ⟨nq, rfl⟩
                clear q1 q2 q3
                go_wp2
                go_roundw
                case rel => exact ⟨j + 1, by omega, by go_num, by rw [hss'.out]; go_num, nq.ok, hbit'⟩
                case measure => simp [intOf]; omega
            · obtain rfl : j = R + 1 := by omega
              have hgk : gapF f l R k = sumF (fun j => l j * f (k + j)) (R + 1) % 2 := rfl
              have hsn := rgL_snoc (gapF f l R) k
              have hq := tmod_nat' (sumF (fun j => l j * f (k + j)) (R + 1)) 2
              rw [← hgk] at hq
              have hsn' := hide hsn
              have hgl1 : gapF f l R k ≤ 1 := by rw [hgk]; omega
              have hjn : ¬ (R : Int) + 1 < (R : Int) + 1 := by omega
              have hown2 := own_below hown hC
              have hB2 := hB.trans (hC.mono hB.size)
              have hC2 := hC.size
              have hbits' : Hid (∀ i, i < k + 1 → f i ≤ 1) := hide (fun i hi => by
                by_cases e : i = k
                · subst e; exact hbit.out (by omega)
                · exact hbits.out i (by omega))
              have hblk : ∀ b, w.heap.size < b → b < w2.heap.size → wr.heap[b]? = w2.heap[b]? := fun b h1 h2 => (hC.block b (by omega)).trans (hsame b h1 h2)
              clear hcl2 hcf2 hS hcell hcell2 hf hp hno hyes hst hlb hgk hsn
              generalize gapF f l R k = q at *
              generalize sumF (fun j => l j * f (k + j)) (R + 1) = s at *
              have hq' : Int.tmod (s : Int) 2 = (q : Int) := hq
              have j1 : IntKind.i64.wrap (q : Int) = (q : Int) := IntWalk.i64_in _ (by omega)
              clear hq
              go_wp2_with (at_builtin; refine append_at rfl _ _ rfl w.heap.size _ _ _ rfl hown2 rfl (by omega) hB2.size ?_; intro v1 w7 ho7 hg7 hb7)
              have hs7 := hg7.size
              rw [World.size_alloc] at hs7
              go_roundw
              case rel =>
                refine ⟨k + 1, by omega, by go_num, by rw [hsn'.out, List.map_append]; exact ho7, (hB2.alloc hB2.size _).grown hg7 (by have := hB2.size; simp; omega) (fun b hb => (hown2.lt b hb).1), fun b h1 h2 => ?_, by omega, fun b hb => ?_, hbits'⟩
                · rw [hg7.block b (by simp; omega) (fun e => by rcases hloc b e.symm with h | h <;> omega), Below.heap_alloc _ _ _ (by omega)]
                  exact hblk b h1 h2
                · rcases hb7 with h | h
                  · exact hloc b (h ▸ hb)
                  · rw [h] at hb; injection hb with hb; omega
              case measure => simp [intOf]; omega
        · obtain rfl : k = n := by omega
          have hall : ∀ i, f i ≤ 1 := fun i => by rw [← per_mod hp i]; exact hbits.out _ (Nat.mod_lt _ (by omega))
          have hX := hyes fun i _ => hall i
          rw [rgL_congr k fun i _ => hst hall i] at hX
          clear hS hcell hcell2 hf hp hno hyes hst hlb
          go_wp2
          go_ret
          refine ⟨_, rfl, ?_, hB⟩
          rw [hX, rgL_len]
          exact hown
end Go.Proofs.Ytmnmbelmcdfcjaa
