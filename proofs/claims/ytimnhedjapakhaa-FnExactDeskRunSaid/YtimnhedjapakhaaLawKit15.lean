/-
  The laws' helpers over deeds that came in: copies of them, their sizes, and marks over such copies.
-/
import Derived.Test.YtimnhedjapakhaaLawKit6
import Derived.Test.YtimnhedjapakhaaSpecZ
namespace Go.Proofs.Ytimnhedjapakhaa
open Go.RowKit

theorem toDeed_in (k n : Int) (w : World) : Calls Try.prog 23 #[dV k n] w fun e w' => e = .returned (dV k n) ∧ Below w.heap.size w w' := by
  unfold dV
  go_enter Try.func23, Try.ntmps23
  go_wp2
  have hb : (((w.alloc (.cells #[.int .i64 k, .int .i64 n] 45)).alloc (.cells #[.int .i64 k, .int .i64 n] 32)).alloc (.cells #[.int .i64 k, .int .i64 n] 32)).heap[w.heap.size + 1]? = some (.cells #[.int .i64 k, .int .i64 n] 32 (0, 0)) := by
    have h1 := World.alloc_heap_new (w.alloc (.cells #[.int .i64 k, .int .i64 n] 45)) (.cells #[.int .i64 k, .int .i64 n] 32)
    rw [World.size_alloc] at h1
    exact (Below.heap_alloc _ _ _ (Array.getElem?_eq_some_iff.1 h1).1).trans h1
  exact bodyPost_ret (results_cell_row rfl _ _ (w.heap.size + 1) _ #[.int .i64 k, .int .i64 n] (0, 0) _ rfl hb Try.underlying32 rfl (by kernel_rfl)) rfl ⟨rfl, (((Below.refl _ w).alloc (Nat.le_refl _) _).alloc (by simp) _).alloc (by simp; omega) _⟩
theorem own_shape {w : World} {base n size : Nat} {e : TypeId} {v : Value} {xs : List Value} (h : w.ownsRow base e size v n xs) : ∃ a c, v = .slice a n c := by
  rcases h.2 with ⟨rfl, hn⟩ | ⟨g, cap, cur, rfl, _⟩
  · exact ⟨_, 0, by rw [hn]⟩
  · exact ⟨_, _, rfl⟩
theorem DeedsI.none (w : World) (a : Option Addr) (c : Nat) : DeedsI w (.slice a 0 c) [] := ⟨a, c, rfl, fun h => absurd h (Nat.lt_irrefl 0)⟩
theorem DeedsI.grown {w w' : World} {v : Value} {L : List (Int × Int)} {g : Nat} (h : DeedsI w v L) (hg : w.grownBy w' (some g)) (hne : v.ownBlock ≠ some g) : DeedsI w' v L := by
  obtain ⟨a, c, rfl, h⟩ := h
  refine ⟨a, c, rfl, fun h0 => ?_⟩
  obtain ⟨b, o, rfl, hb, hc⟩ := h h0
  have hbg : b ≠ g := fun e => hne (by rw [e]; rfl)
  exact ⟨b, o, rfl, Nat.lt_of_lt_of_le hb hg.size, fun k hk => ⟨hg.cell (hc k hk).1 (by simp; exact hbg), hg.cell (hc k hk).2 (by simp; exact hbg)⟩⟩
/-- 'make([]Deed, n)': a block of noughts. -/
theorem make_deeds (w : World) {ops : Array Oper} {rest : List Oper} {o : Oper} {a : Act} {Q : Exit → Act → World → Prop}
    (hg : o.guard = none) (l c : Operand) (hop : o.op = Op.makeSlice 39 l c) (L C : Int) (N : Nat) (hl : a.eval l = .int .i64 L) (hc : a.eval c = .int .i64 C) (hL : L = (N : Int)) (hC : C = (N : Int)) (hN : N ≤ 10000000)
    (hK : ∀ w', BlkAt w' w.heap.size 32 (N * 2) (intsV (N * 2) fun _ => 0) → w.grownBy w' none → wpList Try.prog ops Q rest (a.put o.dst (.slice (some ⟨w.heap.size, 0, none⟩) N N)) w') :
    wpList Try.prog ops Q (o :: rest) a w := by
  obtain ⟨i0, hi, hz0, hz1, hz2⟩ := info_any Try.infoDeed
  refine wpList_plain hg fun K hK' => ?_
  obtain ⟨w', hrun, r1, r2⟩ := run_make_full (P := Try.prog) w w.heap.size 39 32 i0 (.agg #[.int .i64 0, .int .i64 0]) 2 Try.underlying39 hi hz0 hz1 .i64 .i64 N (by rw [hz2]; omega) (by unfold maxLen; omega) (Nat.le_refl _)
  subst hL
  subst hC
  unfold Oper.wp
  simp [execOp, hop, hl, hc, hrun, Result.andThen]
  refine hK' _ _ (hK w' ?_ r2)
  obtain ⟨hlen, hv⟩ := r1
  rcases hv with ⟨h, _⟩ | ⟨g, cap, cur, h, _, hgb, _, _, hs, ht⟩
  · cases h
  · cases h
    refine ⟨cur, hgb, by omega, fun i v hi' => ?_⟩
    have h1 : cur.toList.take (N * 2) = cur.toList := List.take_of_length_le (by simp; omega)
    unfold intsV at hi'
    split at hi'
    · rename_i hlt
      rw [h1] at ht
      rw [← Array.getElem?_toList, ht, Array.getElem?_toList]
      have : i % 2 = 0 ∨ i % 2 = 1 := by omega
      rcases this with e | e <;> simpa [madeCells, Value.cells, hlt, e] using hi'
    · cases hi'
theorem BlkAt.deeds {w : World} {g base : Nat} {L : List (Int × Int)} (h : BlkAt w g 32 (L.length * 2) (intsV (L.length * 2) (numD L))) (hb : base ≤ g) (hN : L.length ≤ 10000000) :
    w.ownsRow base 32 2 (.slice (some ⟨g, 0, none⟩) L.length L.length) L.length (cellsD L) := by
  obtain ⟨cur, h1, h2, h3⟩ := h
  refine ⟨cellsD_len L, .inr ⟨g, L.length, cur, rfl, hb, h1, Nat.le_refl _, by unfold maxLen; omega, h2, ?_⟩⟩
  have ht : cur.toList.take (L.length * 2) = cur.toList := List.take_of_length_le (by simp; omega)
  rw [ht]
  apply List.ext_getElem?
  intro i
  by_cases hi : i < L.length * 2
  · rw [Array.getElem?_toList, h3 i _ (intsV_at hi), numD_at L i hi]
  · rw [List.getElem?_eq_none (by simp; omega), List.getElem?_eq_none (by rw [cellsD_len]; omega)]
set_option maxHeartbeats 1000000 in
theorem toDeedS_in (W0 : World) (v : Value) (L : List (Int × Int)) (w : World) (h : DeedsI W0 v L) (hB : Below W0.heap.size W0 w) (hl : L.length ≤ 2000000) :
    Calls Try.prog 28 #[v] w fun e w' => ∃ r, e = .returned r ∧ w'.ownsRow w.heap.size 32 2 r L.length (cellsD L) ∧ Below w.heap.size w w' := by
  obtain ⟨a, c, rfl, hc⟩ := h
  obtain ⟨n, hn⟩ : ∃ n, L.length = n := ⟨_, rfl⟩
  have hfin := hide (fun (W : World) (hW : BlkAt W w.heap.size 32 (L.length * 2) (intsV (L.length * 2) (numD L))) => hW.deeds (base := w.heap.size) (Nat.le_refl _) (by omega))
  have hat := hide (fun k (hk : k < L.length) => cellsD_at L k hk)
  have hnum := hide (fun i (hi : i < L.length * 2) => numD_at L i hi)
  rw [hn] at hl hc ⊢
  have hn' := hide hn
  clear hn
  go_enter Try.func28, Try.ntmps28
  go_wp2_with (refine make_deeds _ rfl _ _ rfl _ _ n rfl rfl rfl rfl (by omega) ?_; intro w1 hb1 hg1)
  have hst : BlkAt w1 w.heap.size 32 (n * 2) (intsV (n * 2) fun i => if i < 0 * 2 then numD L i else 0) := hb1.congrK (fun i _ => by rw [if_neg (by omega)])
  have hBs : Below w.heap.size w w1 := (Below.refl _ w).grown hg1 (Nat.le_refl _) (fun _ e => by cases e)
  clear hb1 hg1
  go_loopw [4] (fun i wr => ∃ k : Nat, k ≤ n ∧ i = .int .i64 k ∧ BlkAt wr w.heap.size 32 (n * 2) (intsV (n * 2) fun i => if i < k * 2 then numD L i else 0) ∧ Below w.heap.size w wr) (fun i _ => n - (intOf i).toNat)
  case atStart => exact ⟨0, by omega, rfl, hst, hBs⟩
  case round =>
    clear hst hBs
    obtain ⟨k, hk, rfl, hb, hBw⟩ := hrel
    by_cases hlt : k < n
    · obtain ⟨b, off, rfl, hbW, hcells⟩ := hc (by omega)
      have hki : (k : Int) < (n : Int) := by omega
      obtain ⟨x1, x2⟩ := hcells k hlt
      have hw0 : b < w.heap.size := Nat.lt_of_lt_of_le hbW hB.size
      have d1 := (hBw.cell (p := ⟨b, off + k * 2, none⟩) hw0).trans ((hB.cell (p := ⟨b, off + k * 2, none⟩) hbW).trans x1)
      have d2 := (hBw.cell (p := ⟨b, off + k * 2 + 1, none⟩) hw0).trans ((hB.cell (p := ⟨b, off + k * 2 + 1, none⟩) hbW).trans x2)
      have hT := fun V => toDeed_in (L.getD k (0, 0)).1 (L.getD k (0, 0)).2 V
      have hx := hat.out k (by rw [hn'.out]; exact hlt)
      have hn1 := hnum.out (2 * k) (by rw [hn'.out]; omega)
      have hn2 := hnum.out (2 * k + 1) (by rw [hn'.out]; omega)
      rw [hx.1] at hn1
      rw [hx.2] at hn2
      have e1 : (L.getD k (0, 0)).1 = numD L (k * 2) := by injection hn1 with hn1; injection hn1 with _ hn1; rw [hn1, Nat.mul_comm]
      have e2 : (L.getD k (0, 0)).2 = numD L (k * 2 + 1) := by injection hn2 with hn2; injection hn2 with _ hn2; rw [hn2, Nat.mul_comm]
      rw [e1, e2] at hT
      rw [e1] at d1
      rw [e2] at d2
      unfold dV at hT
      have hx1 := hide (show ∀ i, i < n * 2 → (if i < (k + 1) * 2 then numD L i else 0) = (if i = k * 2 + 1 then numD L (k * 2 + 1) else if i = k * 2 then numD L (k * 2) else if i < k * 2 then numD L i else 0) from fun i hi => by
        by_cases q1 : i = k * 2 + 1
        · subst q1; rw [if_pos (by omega), if_pos rfl]
        · rw [if_neg q1]
          by_cases q2 : i = k * 2
          · subst q2; rw [if_pos (by omega), if_pos rfl]
          · rw [if_neg q2]
            by_cases q3 : i < k * 2
            · rw [if_pos q3, if_pos (by omega)]
            · rw [if_neg q3, if_neg (by omega)])
      obtain ⟨y1, hy1⟩ : ∃ y, numD L (k * 2) = y := ⟨_, rfl⟩
      obtain ⟨y2, hy2⟩ : ∃ y, numD L (k * 2 + 1) = y := ⟨_, rfl⟩
      rw [hy1] at d1 hT hx1
      rw [hy2] at d2 hT hx1
      clear hc hcells hx hn1 hn2 e1 e2 x1 x2 hy1 hy2 hB
      go_wp2_with (go_at_call 23; refine (hT _).mono ?_; clear hT; go_loud (rintro e w3 ⟨rfl, hB3⟩; have hb3 := hb.of_block (hB3.block _ hb.lt); have f1 := hb3.frozen (k * 2); have c1 := hb3.cell (i := k * 2) (intsV_at (by omega)); have hb4 := hb3.setK (p := k * 2) y1 (by omega) (Nat.le_refl _); have f2 := hb4.frozen (k * 2 + 1); have c2 := hb4.cell (i := k * 2 + 1) (intsV_at (by omega)); have f3 := hb3.frozen (k * 2 + 1); have c3 := hb3.cell (i := k * 2 + 1) (intsV_at (by omega))))
      go_roundw
      case rel =>
        refine ⟨k + 1, by omega, by go_num, (hb4.setK (p := k * 2 + 1) y2 (by omega) (Nat.le_refl _)).congrK hx1.out, ?_⟩
        have q := hBw.trans (hB3.mono hBw.size)
        exact (q.setCell (p := ⟨w.heap.size, k * 2, none⟩) (Nat.le_refl _) _).setCell (p := ⟨w.heap.size, k * 2 + 1, none⟩) (Nat.le_refl _) _
      case measure => simp [intOf]; omega
    · obtain rfl : k = n := by omega
      have hki : ¬ ((k : Nat) : Int) < (k : Int) := by omega
      have hown := hfin.out wr (by rw [hn'.out]; exact hb.congrK (fun i hi => by rw [if_pos hi]))
      rw [hn'.out] at hown
      clear hc hb
      go_wp2
      go_ret
      exact ⟨_, rfl, hown, hBw⟩
theorem szDeedS_in (a : Option Addr) (n c : Nat) (left : Int) (w : World) (h1 : -1 ≤ left) (h2 : left ≤ 2000000) (hn : n ≤ 2000000) : Calls Try.prog 27 #[.slice a n c, .int .i64 left] w fun e w' => e = .returned (.int .i64 (if left - n < 0 then -1 else left - n)) ∧ w = w' := by
  by_cases h : left - (n : Int) < 0
  · rw [if_pos h]
    go_enter Try.func27, Try.ntmps27
    go_wp2
    go_ret
    exact ⟨rfl, rfl⟩
  · rw [if_neg h]
    go_enter Try.func27, Try.ntmps27
    go_wp2
    go_ret
    exact ⟨rfl, rfl⟩
theorem szDeedS_big (a : Option Addr) (n c : Nat) (w : World) (hn : 1048576 < n) (hn2 : n ≤ 9223372036854775807) : Calls Try.prog 27 #[.slice a n c, .int .i64 1048576] w fun e w' => e = .returned (.int .i64 (-1)) ∧ w = w' := by
  have h : (1048576 : Int) - (n : Int) < 0 := by omega
  go_enter Try.func27, Try.ntmps27
  go_wp2
  go_ret
  exact ⟨rfl, rfl⟩

/-- Marks over a copy of deeds that came in change no block but the copy's. -/
theorem markDeedsA_in {W : World} {base lim : Nat} {r : Value} {L : List (Int × Int)} (h : W.ownsRow base 32 2 r L.length (cellsD L)) (hl : ∀ g, r.ownBlock = some g → g < lim) (hn : L.length ≤ 2000000) (m : Nat) (hm : m ≤ 1000000000) :
    Calls Try.prog 30 #[r, .int .i64 m] W fun e w' => e = .returned (.int .i64 ((m + L.length * 2 : Nat) : Int)) ∧ Between base lim W w' := by
  by_cases h0 : 0 < L.length
  · obtain ⟨g, cap, rfl, hb, hc, hk⟩ := blk_deeds h h0
    have hg := hl g rfl
    exact (markDeeds_in g L.length cap (cap * 2) m _ W (by omega) (by omega) hm hk).mono fun e w' ⟨h1, _, h3⟩ => ⟨h1, h3.os, h3.tape, h3.output, h3.size, fun k hk ho => h3.block k hk (fun e => by injection e with e; omega)⟩
  · obtain ⟨a, c, rfl⟩ := own_shape h
    rw [show L.length = 0 by omega]
    exact (markDeeds_none a c m W).mono fun e w' ⟨h1, h2⟩ => ⟨h1, h2 ▸ Between.refl _ _ _⟩
theorem deeds_form {W : World} {base : Nat} {r : Value} {L : List (Int × Int)} (h : W.ownsRow base 32 2 r L.length (cellsD L)) : ∃ a c, r = .slice a L.length c := own_shape h
end Go.Proofs.Ytimnhedjapakhaa
