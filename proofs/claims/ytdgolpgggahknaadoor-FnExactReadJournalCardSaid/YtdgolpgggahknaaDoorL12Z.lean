/-
  The laws' helpers over deeds: compared, marked and held.
-/
import Derived.Test.YtdgolpgggahknaaDoorSpecZ
import Derived.Test.YtdgolpgggahknaaDoorBaseZ
namespace Go.Proofs.YtdgolpgggahknaaDoor
open Go.RowKit Go.BigFrame

theorem eqDeed_in (k n : Int) (w : World) : Calls Tryd.prog 21 #[dV k n, dV k n] w fun e w' => e = .returned (.bool true) ∧ Below w.heap.size w w' := by
  unfold dV
  go_enter Tryd.func21, Tryd.ntmps21
  go_wp2
  go_ret
  exact ⟨rfl, ((Below.refl _ w).alloc (Nat.le_refl _) _).alloc (by simp) _⟩

set_option maxHeartbeats 1000000 in
theorem eqDeedS_in (v u : Value) (L : List (Int × Int)) (w : World) (hn : L.length ≤ 4000000) (hv : DeedsI w v L) (hu : DeedsI w u L) : Calls Tryd.prog 24 #[v, u] w fun e w' => e = .returned (.bool true) ∧ Below w.heap.size w w' := by
  obtain ⟨a, ca, rfl, hc⟩ := hv
  obtain ⟨b, cb, rfl, hd⟩ := hu
  obtain ⟨N, hN⟩ : ∃ N, L.length = N := ⟨_, rfl⟩
  rw [hN] at hc hd hn ⊢
  clear hN
  have hB0 := Below.refl w.heap.size w
  go_enter Tryd.func24, Tryd.ntmps24
  go_wp2
  go_loopw [5] (fun p wr => ∃ k : Nat, k ≤ N ∧ p = .int .i64 k ∧ Below w.heap.size w wr) (fun p _ => N - (intOf p).toNat)
  case atStart => exact ⟨0, by omega, rfl, hB0⟩
  case round =>
    obtain ⟨k, hk, rfl, hB⟩ := hrel
    by_cases hlt : k < N
    · obtain ⟨g, o, rfl, hg, hcc⟩ := hc (by omega)
      obtain ⟨g', o', rfl, hg', hdd⟩ := hd (by omega)
      have hki : (k : Int) < (N : Int) := by omega
      have q1 : ∀ m : After w, m.now.cell? ⟨g, o + k * 2, none⟩ = some (.int .i64 (L.getD k (0, 0)).1) := fun m => (m.ok.cell (p := ⟨g, o + k * 2, none⟩) hg).trans (hcc k hlt).1
      have q2 : ∀ m : After w, m.now.cell? ⟨g, o + k * 2 + 1, none⟩ = some (.int .i64 (L.getD k (0, 0)).2) := fun m => (m.ok.cell (p := ⟨g, o + k * 2 + 1, none⟩) hg).trans (hcc k hlt).2
      have q3 : ∀ m : After w, m.now.cell? ⟨g', o' + k * 2, none⟩ = some (.int .i64 (L.getD k (0, 0)).1) := fun m => (m.ok.cell (p := ⟨g', o' + k * 2, none⟩) hg').trans (hdd k hlt).1
      have q4 : ∀ m : After w, m.now.cell? ⟨g', o' + k * 2 + 1, none⟩ = some (.int .i64 (L.getD k (0, 0)).2) := fun m => (m.ok.cell (p := ⟨g', o' + k * 2 + 1, none⟩) hg').trans (hdd k hlt).2
      have hE := fun V => eqDeed_in (L.getD k (0, 0)).1 (L.getD k (0, 0)).2 V
      generalize (L.getD k (0, 0)).1 = x at *
      generalize (L.getD k (0, 0)).2 = y at *
      unfold dV at hE
      clear hc hd hcc hdd
      go_wp2
      refine wp_region_below w (by kernel_rfl) (by kernel_rfl) hB ?_
      repeat (go_big_quiet_step ((go_at_call 21; with_reducible exact after_of (hE _))))
      refine wpQuiet_nil ?_
      rintro _ ⟨nq, rfl⟩
      go_wp2
      go_roundw
      case rel => exact ⟨k + 1, by omega, by go_num, nq.ok⟩
      case measure => simp [intOf]; omega
    · obtain rfl : k = N := by omega
      have hki : ¬ ((k : Nat) : Int) < (k : Int) := by omega
      clear hc hd
      go_wp2
      go_ret
      exact ⟨rfl, hB⟩

/-- The numbers of deeds, one behind the other. -/
def numD (L : List (Int × Int)) (i : Nat) : Int := match (cellsD L)[i]? with | some (.int _ z) => z | _ => 0
theorem numD_at (L : List (Int × Int)) (i : Nat) (h : i < L.length * 2) : (cellsD L)[i]? = some (.int .i64 (numD L i)) := by
  have hlt : i / 2 < L.length := by omega
  have hat := cellsD_at L (i / 2) hlt
  have : ∃ z, (cellsD L)[i]? = some (.int .i64 z) := by
    rcases (show i = 2 * (i / 2) ∨ i = 2 * (i / 2) + 1 by omega) with e | e
    · rw [e]; exact ⟨_, hat.1⟩
    · rw [e]; exact ⟨_, hat.2⟩
  obtain ⟨z, hz⟩ := this
  unfold numD
  rw [hz]
/-- Deeds of one's own lie in a block, or there are none. -/
theorem blk_deeds {w : World} {base : Nat} {v : Value} {L : List (Int × Int)} (h : w.ownsRow base 24 2 v L.length (cellsD L)) (hn : 0 < L.length) :
    ∃ g cap, v = .slice (some ⟨g, 0, none⟩) L.length cap ∧ base ≤ g ∧ L.length ≤ cap ∧ BlkAt w g 24 (cap * 2) (intsV (L.length * 2) (numD L)) := by
  rcases h.2 with ⟨_, h0⟩ | ⟨g, cap, cur, rfl, hb, hg, hc, _, hs, ht⟩
  · omega
  · refine ⟨g, cap, rfl, hb, hc, cur, hg, hs, fun i z hi => ?_⟩
    unfold intsV at hi
    split at hi
    · rename_i hlt
      rw [← hi, ← numD_at L i hlt, ← ht, List.getElem?_take, if_pos hlt, Array.getElem?_toList]
    · cases hi

theorem BlkAt.setK {w : World} {g M K p : Nat} {t : TypeId} {f : Nat → Int} (h : BlkAt w g t M (intsV K f)) (z : Int) (hp : p < K) (hK : K ≤ M) : BlkAt (w.setCell ⟨g, p, none⟩ (.int .i64 z)) g t M (intsV K fun i => if i = p then z else f i) :=
  (h.set (.int .i64 z) (by omega)).weaken (fun i u hi => by
    unfold intsV at hi
    unfold updV
    split at hi
    · rename_i hl
      dsimp only at hi
      by_cases e : i = p
      · rw [if_pos e] at hi
        rw [if_pos e]; exact hi
      · rw [if_neg e] at hi
        rw [if_neg e]
        unfold intsV
        rw [if_pos hl]; exact hi
    · cases hi)
theorem BlkAt.congrK {w : World} {g M K : Nat} {t : TypeId} {f f' : Nat → Int} (h : BlkAt w g t M (intsV K f)) (he : ∀ i, i < K → f' i = f i) : BlkAt w g t M (intsV K f') :=
  h.weaken (fun i u hi => by
    unfold intsV at hi ⊢
    split at hi
    · rename_i hl
      rw [if_pos hl, ← he i hl]; exact hi
    · cases hi)

set_option maxHeartbeats 1000000 in
theorem markDeeds_in (g N cap M m : Nat) (F : Nat → Int) (w : World) (hN : N ≤ 4000000) (hM : N * 2 ≤ M) (hm : m ≤ 1000000000) (hb : BlkAt w g 24 M (intsV (N * 2) F)) :
    Calls Tryd.prog 26 #[.slice (some ⟨g, 0, none⟩) N cap, .int .i64 m] w fun e w' => e = .returned (.int .i64 (m + N * 2 : Nat)) ∧ BlkAt w' g 24 M (intsV (N * 2) fun i => ((m + i : Nat) : Int)) ∧ w.grownBy w' (some g) := by
  have hst : BlkAt w g 24 M (intsV (N * 2) fun i => if i < 0 * 2 then ((m + i : Nat) : Int) else F i) := hb
  go_enter Tryd.func26, Tryd.ntmps26
  go_wp2
  go_loopw [1, 5] (fun a p wr => ∃ k : Nat, k ≤ N ∧ p = .int .i64 k ∧ a = .int .i64 (m + k * 2 : Nat) ∧ BlkAt wr g 24 M (intsV (N * 2) fun i => if i < k * 2 then ((m + i : Nat) : Int) else F i) ∧ w.grownBy wr (some g)) (fun _ p _ => N - (intOf p).toNat)
  case atStart => exact ⟨0, by omega, rfl, by rfl, hst, grownBy_refl _ _⟩
  case round =>
    clear hst hb
    obtain ⟨k, hk, rfl, rfl, hb, hg⟩ := hrel
    by_cases hlt : k < N
    · have hki : (k : Int) < (N : Int) := by omega
      obtain ⟨A, hA⟩ : ∃ B, m + k * 2 = B := ⟨_, rfl⟩
      obtain ⟨A1, hA1⟩ : ∃ B, A + 1 = B := ⟨_, rfl⟩
      obtain ⟨A2, hA2⟩ : ∃ B, m + (k + 1) * 2 = B := ⟨_, rfl⟩
      have c1 := hb.cell (i := k * 2) (intsV_at (by omega))
      have f1 := hb.frozen (k * 2)
      have hb1 := hb.setK (p := k * 2) (A : Int) (by omega) hM
      have c2 := hb1.cell (i := k * 2 + 1) (intsV_at (by omega))
      have f2 := hb1.frozen (k * 2 + 1)
      have hb2 := hb1.setK (p := k * 2 + 1) (A1 : Int) (by omega) hM
      have hb3 := hb2.congrK (f' := fun i => if i < (k + 1) * 2 then ((m + i : Nat) : Int) else F i) (fun i hi => by
        by_cases e1 : i = k * 2 + 1
        · subst e1; rw [if_pos (by omega), if_pos rfl]; omega
        · rw [if_neg e1]
          by_cases e2 : i = k * 2
          · subst e2; rw [if_pos (by omega), if_pos rfl]; omega
          · rw [if_neg e2]
            by_cases e3 : i < k * 2
            · rw [if_pos (by omega), if_pos e3]
            · rw [if_neg (by omega), if_neg e3])
      have hg3 := grownBy_set (grownBy_set hg (k * 2) (.int .i64 (A : Int))) (k * 2 + 1) (.int .i64 (A1 : Int))
      have hq : A ≤ 1100000000 := by omega
      have hA1s : A1 ≤ 1100000001 := by omega
      have hm1 : (A : Int) + 1 = (A1 : Int) := by omega
      have hm2 : (A1 : Int) + 1 = (A2 : Int) := by omega
      have hB' := hide hA2
      rw [hA]
      clear hb hb1 hb2 hA hA1 hA2
      go_wp2
      go_roundw
      case rel => exact ⟨k + 1, by omega, by go_num, by rw [hB'.out], hb3, hg3⟩
      case measure => simp [intOf]; omega
    · obtain rfl : k = N := by omega
      have hki : ¬ ((k : Nat) : Int) < (k : Int) := by omega
      go_wp2
      go_ret
      exact ⟨rfl, hb.congrK (fun i hi => by rw [if_pos hi]; omega), hg⟩

set_option maxHeartbeats 1000000 in
theorem heldDeeds_in (g N cap M m : Nat) (w : World) (hN : N ≤ 4000000) (hm : m ≤ 1000000000) (hb : BlkAt w g 24 M (intsV (N * 2) fun i => ((m + i : Nat) : Int))) :
    Calls Tryd.prog 27 #[.slice (some ⟨g, 0, none⟩) N cap, .int .i64 m] w fun e w' => e = .returned (.int .i64 (m + N * 2 : Nat)) ∧ w = w' := by
  have hc := fun i (hi : i < N * 2) => hb.cell (i := i) (intsV_at hi)
  clear hb
  go_enter Tryd.func27, Tryd.ntmps27
  go_wp2
  go_loop [1, 5] (fun a p => ∃ k : Nat, k ≤ N ∧ p = .int .i64 k ∧ a = .int .i64 (m + k * 2 : Nat)) (fun _ p => N - (intOf p).toNat)
  case atStart => exact ⟨0, by omega, rfl, by rfl⟩
  case round =>
    obtain ⟨k, hk, rfl, rfl⟩ := hrel
    by_cases hlt : k < N
    · have hki : (k : Int) < (N : Int) := by omega
      have c1 := hc (k * 2) (by omega)
      have c2 := hc (k * 2 + 1) (by omega)
      obtain ⟨A, hA⟩ : ∃ B, m + k * 2 = B := ⟨_, rfl⟩
      obtain ⟨A1, hA1⟩ : ∃ B, A + 1 = B := ⟨_, rfl⟩
      obtain ⟨A2, hA2⟩ : ∃ B, m + (k + 1) * 2 = B := ⟨_, rfl⟩
      rw [show m + (k * 2 + 1) = A1 by omega] at c2
      rw [hA] at c1 ⊢
      have hq : A ≤ 1100000000 := by omega
      have hA1s : A1 ≤ 1100000001 := by omega
      have hm1 : (A : Int) + 1 = (A1 : Int) := by omega
      have hm2 : (A1 : Int) + 1 = (A2 : Int) := by omega
      have hB' := hide hA2
      clear hA hA1 hA2 hc
      go_wp2
      go_round
      case rel => exact ⟨k + 1, by omega, by go_num, by rw [hB'.out]⟩
      case measure => simp [intOf]; omega
    · obtain rfl : k = N := by omega
      have hki : ¬ ((k : Nat) : Int) < (k : Int) := by omega
      clear hc
      go_wp2
      go_ret
      exact ⟨rfl, rfl⟩
theorem markDeeds_none (a : Option Addr) (c m : Nat) (w : World) : Calls Tryd.prog 26 #[.slice a 0 c, .int .i64 m] w fun e w' => e = .returned (.int .i64 m) ∧ w = w' := by
  go_enter Tryd.func26, Tryd.ntmps26
  go_wp2
  refine wp_loop_rounds 1 ?_
  rw [rounds_succ]
  go_wp2
  go_ret
  exact ⟨rfl, rfl⟩
theorem heldDeeds_none (a : Option Addr) (c m : Nat) (w : World) : Calls Tryd.prog 27 #[.slice a 0 c, .int .i64 m] w fun e w' => e = .returned (.int .i64 m) ∧ w = w' := by
  go_enter Tryd.func27, Tryd.ntmps27
  go_wp2
  refine wp_loop_rounds 1 ?_
  rw [rounds_succ]
  go_wp2
  go_ret
  exact ⟨rfl, rfl⟩
end Go.Proofs.YtdgolpgggahknaaDoor
/-
  The laws' helpers over deeds that came in: copies of them, their sizes, and marks over such copies.
-/
namespace Go.Proofs.YtdgolpgggahknaaDoor
open Go.RowKit

theorem toDeed_in (k n : Int) (w : World) : Calls Tryd.prog 51 #[dV k n] w fun e w' => e = .returned (dV k n) ∧ Below w.heap.size w w' := by
  unfold dV
  go_enter Tryd.func51, Tryd.ntmps51
  go_wp2
  have hb : (((w.alloc (.cells #[.int .i64 k, .int .i64 n] 80)).alloc (.cells #[.int .i64 k, .int .i64 n] 24)).alloc (.cells #[.int .i64 k, .int .i64 n] 24)).heap[w.heap.size + 1]? = some (.cells #[.int .i64 k, .int .i64 n] 24 (0, 0)) := by
    have h1 := World.alloc_heap_new (w.alloc (.cells #[.int .i64 k, .int .i64 n] 80)) (.cells #[.int .i64 k, .int .i64 n] 24)
    rw [World.size_alloc] at h1
    exact (Below.heap_alloc _ _ _ (Array.getElem?_eq_some_iff.1 h1).1).trans h1
  exact bodyPost_ret (results_cell_row rfl _ _ (w.heap.size + 1) _ #[.int .i64 k, .int .i64 n] (0, 0) _ rfl hb Tryd.underlying24 rfl (by kernel_rfl)) rfl ⟨rfl, (((Below.refl _ w).alloc (Nat.le_refl _) _).alloc (by simp) _).alloc (by simp; omega) _⟩
theorem own_shape {w : World} {base n size : Nat} {e : TypeId} {v : Value} {xs : List Value} (h : w.ownsRow base e size v n xs) : ∃ a c, v = .slice a n c := by
  rcases h.2 with ⟨rfl, hn⟩ | ⟨g, cap, cur, rfl, _⟩
  · exact ⟨_, 0, by rw [hn]⟩
  · exact ⟨_, _, rfl⟩
theorem DeedsI.none (w : World) (a : Option Addr) (c : Nat) : DeedsI w (.slice a 0 c) [] := ⟨a, c, rfl, fun h => absurd h (Nat.lt_irrefl 0)⟩
theorem DeedsI.grown {w w' : World} {v : Value} {L : List (Int × Int)} {g : Nat} (h : DeedsI w v L) (hg : w.grownBy w' (some g)) (hne : v.ownBlock ≠ some g) : DeedsI w' v L := by
  obtain ⟨a, c, rfl, h⟩ := h
  refine ⟨a, c, rfl, fun h0 => ?_⟩
  obtain ⟨b, o, rfl, hb, hc⟩ := h h0
  have hbg : b ≠ g := fun e => hne (by rw [e]; rfl)
  exact ⟨b, o, rfl, Nat.lt_of_lt_of_le hb hg.size, fun k hk => ⟨hg.cell (hc k hk).1 (by simp; exact hbg), hg.cell (hc k hk).2 (by simp; exact hbg)⟩⟩
/-- 'make([]Deed, n)': a block of noughts. -/
theorem make_deeds (w : World) {ops : Array Oper} {rest : List Oper} {o : Oper} {a : Act} {Q : Exit → Act → World → Prop}
    (hg : o.guard = none) (l c : Operand) (hop : o.op = Op.makeSlice 32 l c) (L C : Int) (N : Nat) (hl : a.eval l = .int .i64 L) (hc : a.eval c = .int .i64 C) (hL : L = (N : Int)) (hC : C = (N : Int)) (hN : N ≤ 10000000)
    (hK : ∀ w', BlkAt w' w.heap.size 24 (N * 2) (intsV (N * 2) fun _ => 0) → w.grownBy w' none → wpList Tryd.prog ops Q rest (a.put o.dst (.slice (some ⟨w.heap.size, 0, none⟩) N N)) w') :
    wpList Tryd.prog ops Q (o :: rest) a w := by
  obtain ⟨i0, hi, hz0, hz1, hz2⟩ := info_any Tryd.infoDeed
  refine wpList_plain hg fun K hK' => ?_
  obtain ⟨w', hrun, r1, r2⟩ := run_make_full (P := Tryd.prog) w w.heap.size 32 24 i0 (.agg #[.int .i64 0, .int .i64 0]) 2 Tryd.underlying32 hi hz0 hz1 .i64 .i64 N (by rw [hz2]; omega) (by unfold maxLen; omega) (Nat.le_refl _)
  subst hL
  subst hC
  unfold Oper.wp
  simp [execOp, hop, hl, hc, hrun, Result.andThen]
  refine hK' _ _ (hK w' ?_ r2)
  obtain ⟨hlen, hv⟩ := r1
  rcases hv with ⟨h, _⟩ | ⟨g, cap, cur, h, _, hgb, _, _, hs, ht⟩
  · cases h
  · cases h
    refine ⟨cur, hgb, by omega, fun i v hi' => ?_⟩
    have h1 : cur.toList.take (N * 2) = cur.toList := List.take_of_length_le (by simp; omega)
    unfold intsV at hi'
    split at hi'
    · rename_i hlt
      rw [h1] at ht
      rw [← Array.getElem?_toList, ht, Array.getElem?_toList]
      have : i % 2 = 0 ∨ i % 2 = 1 := by omega
      rcases this with e | e <;> simpa [madeCells, Value.cells, hlt, e] using hi'
    · cases hi'
theorem BlkAt.deeds {w : World} {g base : Nat} {L : List (Int × Int)} (h : BlkAt w g 24 (L.length * 2) (intsV (L.length * 2) (numD L))) (hb : base ≤ g) (hN : L.length ≤ 10000000) :
    w.ownsRow base 24 2 (.slice (some ⟨g, 0, none⟩) L.length L.length) L.length (cellsD L) := by
  obtain ⟨cur, h1, h2, h3⟩ := h
  refine ⟨cellsD_len L, .inr ⟨g, L.length, cur, rfl, hb, h1, Nat.le_refl _, by unfold maxLen; omega, h2, ?_⟩⟩
  have ht : cur.toList.take (L.length * 2) = cur.toList := List.take_of_length_le (by simp; omega)
  rw [ht]
  apply List.ext_getElem?
  intro i
  by_cases hi : i < L.length * 2
  · rw [Array.getElem?_toList, h3 i _ (intsV_at hi), numD_at L i hi]
  · rw [List.getElem?_eq_none (by simp; omega), List.getElem?_eq_none (by rw [cellsD_len]; omega)]
set_option maxHeartbeats 1000000 in
theorem toDeedS_in (W0 : World) (v : Value) (L : List (Int × Int)) (w : World) (h : DeedsI W0 v L) (hB : Below W0.heap.size W0 w) (hl : L.length ≤ 2000000) :
    Calls Tryd.prog 23 #[v] w fun e w' => ∃ r, e = .returned r ∧ w'.ownsRow w.heap.size 24 2 r L.length (cellsD L) ∧ Below w.heap.size w w' := by
  obtain ⟨a, c, rfl, hc⟩ := h
  obtain ⟨n, hn⟩ : ∃ n, L.length = n := ⟨_, rfl⟩
  have hfin := hide (fun (W : World) (hW : BlkAt W w.heap.size 24 (L.length * 2) (intsV (L.length * 2) (numD L))) => hW.deeds (base := w.heap.size) (Nat.le_refl _) (by omega))
  have hat := hide (fun k (hk : k < L.length) => cellsD_at L k hk)
  have hnum := hide (fun i (hi : i < L.length * 2) => numD_at L i hi)
  rw [hn] at hl hc ⊢
  have hn' := hide hn
  clear hn
  go_enter Tryd.func23, Tryd.ntmps23
  go_wp2_with (refine make_deeds _ rfl _ _ rfl _ _ n rfl rfl rfl rfl (by omega) ?_; intro w1 hb1 hg1)
  have hst : BlkAt w1 w.heap.size 24 (n * 2) (intsV (n * 2) fun i => if i < 0 * 2 then numD L i else 0) := hb1.congrK (fun i _ => by rw [if_neg (by omega)])
  have hBs : Below w.heap.size w w1 := (Below.refl _ w).grown hg1 (Nat.le_refl _) (fun _ e => by cases e)
  clear hb1 hg1
  go_loopw [4] (fun i wr => ∃ k : Nat, k ≤ n ∧ i = .int .i64 k ∧ BlkAt wr w.heap.size 24 (n * 2) (intsV (n * 2) fun i => if i < k * 2 then numD L i else 0) ∧ Below w.heap.size w wr) (fun i _ => n - (intOf i).toNat)
  case atStart => exact ⟨0, by omega, rfl, hst, hBs⟩
  case round =>
    clear hst hBs
    obtain ⟨k, hk, rfl, hb, hBw⟩ := hrel
    by_cases hlt : k < n
    · obtain ⟨b, off, rfl, hbW, hcells⟩ := hc (by omega)
      have hki : (k : Int) < (n : Int) := by omega
      obtain ⟨x1, x2⟩ := hcells k hlt
      have hw0 : b < w.heap.size := Nat.lt_of_lt_of_le hbW hB.size
      have d1 := (hBw.cell (p := ⟨b, off + k * 2, none⟩) hw0).trans ((hB.cell (p := ⟨b, off + k * 2, none⟩) hbW).trans x1)
      have d2 := (hBw.cell (p := ⟨b, off + k * 2 + 1, none⟩) hw0).trans ((hB.cell (p := ⟨b, off + k * 2 + 1, none⟩) hbW).trans x2)
      have hT := fun V => toDeed_in (L.getD k (0, 0)).1 (L.getD k (0, 0)).2 V
      have hx := hat.out k (by rw [hn'.out]; exact hlt)
      have hn1 := hnum.out (2 * k) (by rw [hn'.out]; omega)
      have hn2 := hnum.out (2 * k + 1) (by rw [hn'.out]; omega)
      rw [hx.1] at hn1
      rw [hx.2] at hn2
      have e1 : (L.getD k (0, 0)).1 = numD L (k * 2) := by injection hn1 with hn1; injection hn1 with _ hn1; rw [hn1, Nat.mul_comm]
      have e2 : (L.getD k (0, 0)).2 = numD L (k * 2 + 1) := by injection hn2 with hn2; injection hn2 with _ hn2; rw [hn2, Nat.mul_comm]
      rw [e1, e2] at hT
      rw [e1] at d1
      rw [e2] at d2
      unfold dV at hT
      have hx1 := hide (show ∀ i, i < n * 2 → (if i < (k + 1) * 2 then numD L i else 0) = (if i = k * 2 + 1 then numD L (k * 2 + 1) else if i = k * 2 then numD L (k * 2) else if i < k * 2 then numD L i else 0) from fun i hi => by
        by_cases q1 : i = k * 2 + 1
        · subst q1; rw [if_pos (by omega), if_pos rfl]
        · rw [if_neg q1]
          by_cases q2 : i = k * 2
          · subst q2; rw [if_pos (by omega), if_pos rfl]
          · rw [if_neg q2]
            by_cases q3 : i < k * 2
            · rw [if_pos q3, if_pos (by omega)]
            · rw [if_neg q3, if_neg (by omega)])
      obtain ⟨y1, hy1⟩ : ∃ y, numD L (k * 2) = y := ⟨_, rfl⟩
      obtain ⟨y2, hy2⟩ : ∃ y, numD L (k * 2 + 1) = y := ⟨_, rfl⟩
      rw [hy1] at d1 hT hx1
      rw [hy2] at d2 hT hx1
      clear hc hcells hx hn1 hn2 e1 e2 x1 x2 hy1 hy2 hB
      go_wp2_with (go_at_call 51; refine (hT _).mono ?_; clear hT; go_loud (rintro e w3 ⟨rfl, hB3⟩; have hb3 := hb.of_block (hB3.block _ hb.lt); have f1 := hb3.frozen (k * 2); have c1 := hb3.cell (i := k * 2) (intsV_at (by omega)); have hb4 := hb3.setK (p := k * 2) y1 (by omega) (Nat.le_refl _); have f2 := hb4.frozen (k * 2 + 1); have c2 := hb4.cell (i := k * 2 + 1) (intsV_at (by omega)); have f3 := hb3.frozen (k * 2 + 1); have c3 := hb3.cell (i := k * 2 + 1) (intsV_at (by omega))))
      go_roundw
      case rel =>
        refine ⟨k + 1, by omega, by go_num, (hb4.setK (p := k * 2 + 1) y2 (by omega) (Nat.le_refl _)).congrK hx1.out, ?_⟩
        have q := hBw.trans (hB3.mono hBw.size)
        exact (q.setCell (p := ⟨w.heap.size, k * 2, none⟩) (Nat.le_refl _) _).setCell (p := ⟨w.heap.size, k * 2 + 1, none⟩) (Nat.le_refl _) _
      case measure => simp [intOf]; omega
    · obtain rfl : k = n := by omega
      have hki : ¬ ((k : Nat) : Int) < (k : Int) := by omega
      have hown := hfin.out wr (by rw [hn'.out]; exact hb.congrK (fun i hi => by rw [if_pos hi]))
      rw [hn'.out] at hown
      clear hc hb
      go_wp2
      go_ret
      exact ⟨_, rfl, hown, hBw⟩
theorem szDeedS_in (a : Option Addr) (n c : Nat) (left : Int) (w : World) (h1 : -1 ≤ left) (h2 : left ≤ 2000000) (hn : n ≤ 2000000) : Calls Tryd.prog 22 #[.slice a n c, .int .i64 left] w fun e w' => e = .returned (.int .i64 (if left - n < 0 then -1 else left - n)) ∧ w = w' := by
  by_cases h : left - (n : Int) < 0
  · rw [if_pos h]
    go_enter Tryd.func22, Tryd.ntmps22
    go_wp2
    go_ret
    exact ⟨rfl, rfl⟩
  · rw [if_neg h]
    go_enter Tryd.func22, Tryd.ntmps22
    go_wp2
    go_ret
    exact ⟨rfl, rfl⟩
theorem szDeedS_big (a : Option Addr) (n c : Nat) (w : World) (hn : 1048576 < n) (hn2 : n ≤ 9223372036854775807) : Calls Tryd.prog 22 #[.slice a n c, .int .i64 1048576] w fun e w' => e = .returned (.int .i64 (-1)) ∧ w = w' := by
  have h : (1048576 : Int) - (n : Int) < 0 := by omega
  go_enter Tryd.func22, Tryd.ntmps22
  go_wp2
  go_ret
  exact ⟨rfl, rfl⟩

/-- Marks over a copy of deeds that came in change no block but the copy's. -/
theorem markDeedsA_in {W : World} {base lim : Nat} {r : Value} {L : List (Int × Int)} (h : W.ownsRow base 24 2 r L.length (cellsD L)) (hl : ∀ g, r.ownBlock = some g → g < lim) (hn : L.length ≤ 2000000) (m : Nat) (hm : m ≤ 1000000000) :
    Calls Tryd.prog 26 #[r, .int .i64 m] W fun e w' => e = .returned (.int .i64 ((m + L.length * 2 : Nat) : Int)) ∧ Between base lim W w' := by
  by_cases h0 : 0 < L.length
  · obtain ⟨g, cap, rfl, hb, hc, hk⟩ := blk_deeds h h0
    have hg := hl g rfl
    exact (markDeeds_in g L.length cap (cap * 2) m _ W (by omega) (by omega) hm hk).mono fun e w' ⟨h1, _, h3⟩ => ⟨h1, h3.os, h3.tape, h3.output, h3.size, fun k hk ho => h3.block k hk (fun e => by injection e with e; omega)⟩
  · obtain ⟨a, c, rfl⟩ := own_shape h
    rw [show L.length = 0 by omega]
    exact (markDeeds_none a c m W).mono fun e w' ⟨h1, h2⟩ => ⟨h1, h2 ▸ Between.refl _ _ _⟩
theorem deeds_form {W : World} {base : Nat} {r : Value} {L : List (Int × Int)} (h : W.ownsRow base 24 2 r L.length (cellsD L)) : ∃ a c, r = .slice a L.length c := own_shape h
end Go.Proofs.YtdgolpgggahknaaDoor
