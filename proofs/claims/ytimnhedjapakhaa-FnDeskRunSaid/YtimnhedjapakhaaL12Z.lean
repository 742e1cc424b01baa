/-
  The laws' helpers over deeds: compared, marked and held.
-/
import Derived.Test.YtimnhedjapakhaaSpecZ
import Derived.Test.YtimnhedjapakhaaBaseZ
import Derived.Test.YtimnhedjapakhaaS12Z
import Derived.Test.YtimnhedjapakhaaLawKit4
import Derived.Test.YtimnhedjapakhaaI12Z
namespace Go.Proofs.Ytimnhedjapakhaa
open Go.RowKit Go.BigFrame

theorem eqDeed_in (k n : Int) (w : World) : Calls Try.prog 60 #[dV k n, dV k n] w fun e w' => e = .returned (.bool true) ∧ Below w.heap.size w w' := by
  unfold dV
  go_enter Try.func60, Try.ntmps60
  go_wp2
  go_ret
  exact ⟨rfl, ((Below.refl _ w).alloc (Nat.le_refl _) _).alloc (by simp) _⟩

set_option maxHeartbeats 1000000 in
theorem eqDeedS_in (v u : Value) (L : List (Int × Int)) (w : World) (hn : L.length ≤ 4000000) (hv : DeedsI w v L) (hu : DeedsI w u L) : Calls Try.prog 29 #[v, u] w fun e w' => e = .returned (.bool true) ∧ Below w.heap.size w w' := by
  obtain ⟨a, ca, rfl, hc⟩ := hv
  obtain ⟨b, cb, rfl, hd⟩ := hu
  obtain ⟨N, hN⟩ : ∃ N, L.length = N := ⟨_, rfl⟩
  rw [hN] at hc hd hn ⊢
  clear hN
  have hB0 := Below.refl w.heap.size w
  go_enter Try.func29, Try.ntmps29
  go_wp2
  go_loopw [5] (fun p wr => ∃ k : Nat, k ≤ N ∧ p = .int .i64 k ∧ Below w.heap.size w wr) (fun p _ => N - (intOf p).toNat)
  case atStart => exact ⟨0, by omega, rfl, hB0⟩
  case round =>
    obtain ⟨k, hk, rfl, hB⟩ := hrel
    by_cases hlt : k < N
    · obtain ⟨g, o, rfl, hg, hcc⟩ := hc (by omega)
      obtain ⟨g', o', rfl, hg', hdd⟩ := hd (by omega)
      have hki : (k : Int) < (N : Int) := by omega
      have q1 : ∀ m : After w, m.now.cell? ⟨g, o + k * 2, none⟩ = some (.int .i64 (L.getD k (0, 0)).1) := fun m => (m.ok.cell (p := ⟨g, o + k * 2, none⟩) hg).trans (hcc k hlt).1
      have q2 : ∀ m : After w, m.now.cell? ⟨g, o + k * 2 + 1, none⟩ = some (.int .i64 (L.getD k (0, 0)).2) := fun m => (m.ok.cell (p := ⟨g, o + k * 2 + 1, none⟩) hg).trans (hcc k hlt).2
      have q3 : ∀ m : After w, m.now.cell? ⟨g', o' + k * 2, none⟩ = some (.int .i64 (L.getD k (0, 0)).1) := fun m => (m.ok.cell (p := ⟨g', o' + k * 2, none⟩) hg').trans (hdd k hlt).1
      have q4 : ∀ m : After w, m.now.cell? ⟨g', o' + k * 2 + 1, none⟩ = some (.int .i64 (L.getD k (0, 0)).2) := fun m => (m.ok.cell (p := ⟨g', o' + k * 2 + 1, none⟩) hg').trans (hdd k hlt).2
      have hE := fun V => eqDeed_in (L.getD k (0, 0)).1 (L.getD k (0, 0)).2 V
      generalize (L.getD k (0, 0)).1 = x at *
      generalize (L.getD k (0, 0)).2 = y at *
      unfold dV at hE
      clear hc hd hcc hdd
      go_wp2
      refine wp_region_below w (by kernel_rfl) (by kernel_rfl) hB ?_
      repeat (go_big_quiet_step ((go_at_call 60; with_reducible exact after_of (hE _))))
      refine wpQuiet_nil ?_
      rintro _ ⟨nq, rfl⟩
      go_wp2
      go_roundw
      case rel => exact ⟨k + 1, by omega, by go_num, nq.ok⟩
      case measure => simp [intOf]; omega
    · obtain rfl : k = N := by omega
      have hki : ¬ ((k : Nat) : Int) < (k : Int) := by omega
      clear hc hd
      go_wp2
      go_ret
      exact ⟨rfl, hB⟩

/-- The numbers of deeds, one behind the other. -/
def numD (L : List (Int × Int)) (i : Nat) : Int := match (cellsD L)[i]? with | some (.int _ z) => z | _ => 0
theorem numD_at (L : List (Int × Int)) (i : Nat) (h : i < L.length * 2) : (cellsD L)[i]? = some (.int .i64 (numD L i)) := by
  have hlt : i / 2 < L.length := by omega
  have hat := cellsD_at L (i / 2) hlt
  have : ∃ z, (cellsD L)[i]? = some (.int .i64 z) := by
    rcases (show i = 2 * (i / 2) ∨ i = 2 * (i / 2) + 1 by omega) with e | e
    · rw [e]; exact ⟨_, hat.1⟩
    · rw [e]; exact ⟨_, hat.2⟩
  obtain ⟨z, hz⟩ := this
  unfold numD
  rw [hz]
/-- Deeds of one's own lie in a block, or there are none. -/
theorem blk_deeds {w : World} {base : Nat} {v : Value} {L : List (Int × Int)} (h : w.ownsRow base 32 2 v L.length (cellsD L)) (hn : 0 < L.length) :
    ∃ g cap, v = .slice (some ⟨g, 0, none⟩) L.length cap ∧ base ≤ g ∧ L.length ≤ cap ∧ BlkAt w g 32 (cap * 2) (intsV (L.length * 2) (numD L)) := by
  rcases h.2 with ⟨_, h0⟩ | ⟨g, cap, cur, rfl, hb, hg, hc, _, hs, ht⟩
  · omega
  · refine ⟨g, cap, rfl, hb, hc, cur, hg, hs, fun i z hi => ?_⟩
    unfold intsV at hi
    split at hi
    · rename_i hlt
      rw [← hi, ← numD_at L i hlt, ← ht, List.getElem?_take, if_pos hlt, Array.getElem?_toList]
    · cases hi

theorem BlkAt.setK {w : World} {g M K p : Nat} {t : TypeId} {f : Nat → Int} (h : BlkAt w g t M (intsV K f)) (z : Int) (hp : p < K) (hK : K ≤ M) : BlkAt (w.setCell ⟨g, p, none⟩ (.int .i64 z)) g t M (intsV K fun i => if i = p then z else f i) :=
  (h.set (.int .i64 z) (by omega)).weaken (fun i u hi => by
    unfold intsV at hi
    unfold updV
    split at hi
    · rename_i hl
      dsimp only at hi
      by_cases e : i = p
      · rw [if_pos e] at hi
        rw [if_pos e]; exact hi
      · rw [if_neg e] at hi
        rw [if_neg e]
        unfold intsV
        rw [if_pos hl]; exact hi
    · cases hi)
theorem BlkAt.congrK {w : World} {g M K : Nat} {t : TypeId} {f f' : Nat → Int} (h : BlkAt w g t M (intsV K f)) (he : ∀ i, i < K → f' i = f i) : BlkAt w g t M (intsV K f') :=
  h.weaken (fun i u hi => by
    unfold intsV at hi ⊢
    split at hi
    · rename_i hl
      rw [if_pos hl, ← he i hl]; exact hi
    · cases hi)

set_option maxHeartbeats 1000000 in
theorem markDeeds_in (g N cap M m : Nat) (F : Nat → Int) (w : World) (hN : N ≤ 4000000) (hM : N * 2 ≤ M) (hm : m ≤ 1000000000) (hb : BlkAt w g 32 M (intsV (N * 2) F)) :
    Calls Try.prog 30 #[.slice (some ⟨g, 0, none⟩) N cap, .int .i64 m] w fun e w' => e = .returned (.int .i64 (m + N * 2 : Nat)) ∧ BlkAt w' g 32 M (intsV (N * 2) fun i => ((m + i : Nat) : Int)) ∧ w.grownBy w' (some g) := by
  have hst : BlkAt w g 32 M (intsV (N * 2) fun i => if i < 0 * 2 then ((m + i : Nat) : Int) else F i) := hb
  go_enter Try.func30, Try.ntmps30
  go_wp2
  go_loopw [1, 5] (fun a p wr => ∃ k : Nat, k ≤ N ∧ p = .int .i64 k ∧ a = .int .i64 (m + k * 2 : Nat) ∧ BlkAt wr g 32 M (intsV (N * 2) fun i => if i < k * 2 then ((m + i : Nat) : Int) else F i) ∧ w.grownBy wr (some g)) (fun _ p _ => N - (intOf p).toNat)
  case atStart => exact ⟨0, by omega, rfl, by rfl, hst, grownBy_refl _ _⟩
  case round =>
    clear hst hb
    obtain ⟨k, hk, rfl, rfl, hb, hg⟩ := hrel
    by_cases hlt : k < N
    · have hki : (k : Int) < (N : Int) := by omega
      obtain ⟨A, hA⟩ : ∃ B, m + k * 2 = B := ⟨_, rfl⟩
      obtain ⟨A1, hA1⟩ : ∃ B, A + 1 = B := ⟨_, rfl⟩
      obtain ⟨A2, hA2⟩ : ∃ B, m + (k + 1) * 2 = B := ⟨_, rfl⟩
      have c1 := hb.cell (i := k * 2) (intsV_at (by omega))
      have f1 := hb.frozen (k * 2)
      have hb1 := hb.setK (p := k * 2) (A : Int) (by omega) hM
      have c2 := hb1.cell (i := k * 2 + 1) (intsV_at (by omega))
      have f2 := hb1.frozen (k * 2 + 1)
      have hb2 := hb1.setK (p := k * 2 + 1) (A1 : Int) (by omega) hM
      have hb3 := hb2.congrK (f' := fun i => if i < (k + 1) * 2 then ((m + i : Nat) : Int) else F i) (fun i hi => by
        by_cases e1 : i = k * 2 + 1
        · subst e1; rw [if_pos (by omega), if_pos rfl]; omega
        · rw [if_neg e1]
          by_cases e2 : i = k * 2
          · subst e2; rw [if_pos (by omega), if_pos rfl]; omega
          · rw [if_neg e2]
            by_cases e3 : i < k * 2
            · rw [if_pos (by omega), if_pos e3]
            · rw [if_neg (by omega), if_neg e3])
      have hg3 := grownBy_set (grownBy_set hg (k * 2) (.int .i64 (A : Int))) (k * 2 + 1) (.int .i64 (A1 : Int))
      have hq : A ≤ 1100000000 := by omega
      have hA1s : A1 ≤ 1100000001 := by omega
      have hm1 : (A : Int) + 1 = (A1 : Int) := by omega
      have hm2 : (A1 : Int) + 1 = (A2 : Int) := by omega
      have hB' := hide hA2
      rw [hA]
      clear hb hb1 hb2 hA hA1 hA2
      go_wp2
      go_roundw
      case rel => exact ⟨k + 1, by omega, by go_num, by rw [hB'.out], hb3, hg3⟩
      case measure => simp [intOf]; omega
    · obtain rfl : k = N := by omega
      have hki : ¬ ((k : Nat) : Int) < (k : Int) := by omega
      go_wp2
      go_ret
      exact ⟨rfl, hb.congrK (fun i hi => by rw [if_pos hi]; omega), hg⟩

theorem markDeeds_none (a : Option Addr) (c m : Nat) (w : World) : Calls Try.prog 30 #[.slice a 0 c, .int .i64 m] w fun e w' => e = .returned (.int .i64 m) ∧ w = w' := by
  go_enter Try.func30, Try.ntmps30
  go_wp2
  refine wp_loop_rounds 1 ?_
  rw [rounds_succ]
  go_wp2
  go_ret
  exact ⟨rfl, rfl⟩
end Go.Proofs.Ytimnhedjapakhaa
/-
  The laws' helpers over desks: sameRows, sameDesk, noDesk.
-/
namespace Go.Proofs.Ytimnhedjapakhaa
open Go.RowKit Go.BigFrame

set_option maxRecDepth 100000 in
set_option maxHeartbeats 1000000 in
theorem sameRowsP_in (v u : Value) (rows : List (List Int)) (w : World) (hn : rows.length ≤ 1000000) (hlen : ∀ j, j < rows.length → (rows.getD j []).length ≤ 1000000) (hv : PastI w v rows) (hu : PastI w u rows) :
    Calls Try.prog 45 #[v, u] w fun e w' => e = .returned (.bool true) ∧ Below w.heap.size w w' := by
  obtain ⟨a, c, rfl, hv⟩ := hv
  obtain ⟨a', c', rfl, hu⟩ := hu
  obtain ⟨n, hn'⟩ : ∃ n, rows.length = n := ⟨_, rfl⟩
  rw [hn'] at hn hlen hv hu ⊢
  clear hn'
  go_enter Try.func45, Try.ntmps45
  go_wp2
  go_loopw [5] (fun i wr => ∃ k : Nat, k ≤ n ∧ i = .int .i64 k ∧ Below w.heap.size w wr) (fun i _ => n - (intOf i).toNat)
  case atStart => exact ⟨0, Nat.zero_le _, rfl, Below.refl _ _⟩
  case round =>
    obtain ⟨k, hk, rfl, hB⟩ := hrel
    by_cases hlt : k < n
    · obtain ⟨G, o, rfl, hG, hr⟩ := hv (by omega)
      obtain ⟨G', o', rfl, hG', hr'⟩ := hu (by omega)
      obtain ⟨x, hx1, hx2⟩ := hr k hlt
      obtain ⟨y, hy1, hy2⟩ := hr' k hlt
      have hlk := hlen k hlt
      have h3 : ∀ m : After w, Calls Try.prog 44 #[x, y] m.now fun e w' => e = .returned (.bool true) ∧ Below m.now.heap.size m.now w' := fun m => sameInts_in x y _ m.now (by omega) (hx2.below m.ok) (hy2.below m.ok)
      obtain ⟨ax, cx, rfl⟩ := hx2.shape
      obtain ⟨ay, cy, rfl⟩ := hy2.shape
      have h1 : ∀ m : After w, m.now.cell? ⟨G, o + k, none⟩ = some (.slice ax (rows.getD k []).length cx) := fun m => (m.ok.cell (p := ⟨G, o + k, none⟩) hG).trans hx1
      have h2 : ∀ m : After w, m.now.cell? ⟨G', o' + k, none⟩ = some (.slice ay (rows.getD k []).length cy) := fun m => (m.ok.cell (p := ⟨G', o' + k, none⟩) hG').trans hy1
      have hki : (k : Int) < (n : Int) := by omega
      generalize (rows.getD k []).length = l at *
      clear hr hr' hx1 hx2 hy1 hy2 hlen hv hu
      go_wp2
      refine wp_region_below w (by kernel_rfl) (by kernel_rfl) hB ?_
      repeat (go_big_quiet_step ((go_at_call 44; with_reducible exact after_of (h3 _))))
      refine wpQuiet_nil ?_
      rintro _ ⟨nq, rfl⟩
      clear h1 h2 h3
      go_wp2
      go_roundw
      case rel => exact ⟨k + 1, by omega, by go_num, nq.ok⟩
      case measure => simp [intOf]; omega
    · obtain rfl : k = n := by omega
      clear hv hu hlen
      go_wp2
      go_ret
      exact ⟨rfl, hB⟩


set_option maxRecDepth 100000 in
set_option maxHeartbeats 1000000 in
theorem sameDesk_in (v u : Value) (d : Dk) (w : World) (hs : d.1.length ≤ 1000000 ∧ d.2.length ≤ 1000000 ∧ ∀ j, j < d.2.length → (d.2.getD j []).length ≤ 1000000) (hv : DeskI w v d) (hu : DeskI w u d) : Calls Try.prog 15 #[v, u] w fun e w' => e = .returned (.bool true) ∧ Below w.heap.size w w' := by
  obtain ⟨x, p, rfl, hx, hp⟩ := hv
  obtain ⟨y, q, rfl, hy, hq⟩ := hu
  have hB : Below w.heap.size w ((w.alloc (.cells #[x, p] 26)).alloc (.cells #[y, q] 26)) := ((Below.refl _ w).alloc (Nat.le_refl _) _).alloc (by rw [World.size_alloc]; omega) _
  have k1 := World.alloc_heap_new (w.alloc (.cells #[x, p] 26)) (.cells #[y, q] 26)
  rw [World.size_alloc] at k1
  have k0 : ((w.alloc (.cells #[x, p] 26)).alloc (.cells #[y, q] 26)).heap[w.heap.size]? = some (.cells #[x, p] 26 (0, 0)) := (Below.heap_alloc _ _ _ (by rw [World.size_alloc]; omega)).trans (World.alloc_heap_new w _)
  obtain ⟨W0, hW0⟩ : ∃ W0, (w.alloc (.cells #[x, p] 26)).alloc (.cells #[y, q] 26) = W0 := ⟨_, rfl⟩
  rw [hW0] at hB k0 k1
  have l0 := (Array.getElem?_eq_some_iff.1 k0).1
  have l1 := (Array.getElem?_eq_some_iff.1 k1).1
  have hI := sameInts_in x y d.1 W0 (by omega) (hx.below hB) (hy.below hB)
  have hR := fun V (hV : Below W0.heap.size W0 V) => sameRowsP_in p q d.2 V hs.2.1 hs.2.2 ((hp.below hB).below hV) ((hq.below hB).below hV)
  obtain ⟨xa, xc, rfl⟩ := hx.shape
  obtain ⟨ya, yc, rfl⟩ := hy.shape
  obtain ⟨pa, pc, rfl, _⟩ := hp
  obtain ⟨qa, qc, rfl, _⟩ := hq
  obtain ⟨c0, c1, _, _⟩ := row_at k0
  obtain ⟨e0, e1, _, _⟩ := row_at k1
  clear hx hy hs
  go_enter Try.func15, Try.ntmps15
  go_wp2_with (first
    | (go_at_call 44; go_loud (refine hI.mono ?_; clear hI; rintro e w2 ⟨rfl, hB2⟩; obtain ⟨c0, c1, _, _⟩ := row_at ((hB2.block _ l0).trans k0); obtain ⟨e0, e1, _, _⟩ := row_at ((hB2.block _ l1).trans k1)))
    | (go_at_call 45; go_loud (refine (hR _ hB2).mono ?_; clear hR; rintro e w3 ⟨rfl, hB3⟩)))
  go_ret
  exact ⟨rfl, hB.trans ((hB2.trans (hB3.mono hB2.size)).mono hB.size)⟩

theorem noDesk_in (v : Value) (w : World) (hv : DeskI w v ([], [])) : Calls Try.prog 20 #[v] w fun e w' => e = .returned (.bool true) ∧ Below w.heap.size w w' := by
  obtain ⟨x, p, rfl, hx, hp⟩ := hv
  have hB : Below w.heap.size w (w.alloc (.cells #[x, p] 26)) := (Below.refl _ w).alloc (Nat.le_refl _) _
  have k0 := World.alloc_heap_new w (.cells #[x, p] 26)
  have hD : ∀ W, DeskI W (.agg #[.slice none 0 0, .slice none 0 0]) ([], []) := fun W => ⟨_, _, rfl, .inl ⟨_, _, rfl, rfl⟩, none, 0, rfl, fun h => absurd h (Nat.lt_irrefl 0)⟩
  have hS := sameDesk_in (.agg #[x, p]) (.agg #[.slice none 0 0, .slice none 0 0]) ([], []) _ ⟨by simp, by simp, fun j hj => by simp at hj⟩ ⟨x, p, rfl, hx.below hB, hp.below hB⟩ (hD _)
  obtain ⟨xa, xc, rfl⟩ := hx.shape
  obtain ⟨pa, pc, rfl, _⟩ := hp
  simp only [List.length_nil] at *
  obtain ⟨W0, hW0⟩ : ∃ W0, w.alloc (.cells #[.slice xa 0 xc, .slice pa 0 pc] 26) = W0 := ⟨_, rfl⟩
  rw [hW0] at hB k0 hS
  obtain ⟨c0, c1, _, _⟩ := row_at k0
  clear hx
  go_enter Try.func20, Try.ntmps20
  go_wp2_with (go_at_call 15; refine hS.mono ?_; rintro e w2 ⟨rfl, hB2⟩)
  go_ret
  exact ⟨rfl, hB.trans (hB2.mono hB.size)⟩
end Go.Proofs.Ytimnhedjapakhaa
/-
  The laws' helpers over desks: eqIntSS, eqDesk.
-/
namespace Go.Proofs.Ytimnhedjapakhaa
open Go.RowKit Go.BigFrame

set_option maxRecDepth 100000 in
set_option maxHeartbeats 1000000 in
theorem eqSSP_in (v u : Value) (rows : List (List Int)) (w : World) (hn : rows.length ≤ 2000000) (hlen : ∀ j, j < rows.length → (rows.getD j []).length ≤ 2000000) (hv : PastI w v rows) (hu : PastI w u rows) :
    Calls Try.prog 55 #[v, u] w fun e w' => e = .returned (.bool true) ∧ Below w.heap.size w w' := by
  obtain ⟨a, c, rfl, hv⟩ := hv
  obtain ⟨a', c', rfl, hu⟩ := hu
  obtain ⟨n, hn'⟩ : ∃ n, rows.length = n := ⟨_, rfl⟩
  rw [hn'] at hn hlen hv hu ⊢
  clear hn'
  go_enter Try.func55, Try.ntmps55
  go_wp2
  go_loopw [5] (fun i wr => ∃ k : Nat, k ≤ n ∧ i = .int .i64 k ∧ Below w.heap.size w wr) (fun i _ => n - (intOf i).toNat)
  case atStart => exact ⟨0, Nat.zero_le _, rfl, Below.refl _ _⟩
  case round =>
    obtain ⟨k, hk, rfl, hB⟩ := hrel
    by_cases hlt : k < n
    · obtain ⟨G, o, rfl, hG, hr⟩ := hv (by omega)
      obtain ⟨G', o', rfl, hG', hr'⟩ := hu (by omega)
      obtain ⟨x, hx1, hx2⟩ := hr k hlt
      obtain ⟨y, hy1, hy2⟩ := hr' k hlt
      have hlk := hlen k hlt
      have h3 : ∀ m : After w, Calls Try.prog 54 #[x, y] m.now fun e w' => e = .returned (.bool true) ∧ Below m.now.heap.size m.now w' := fun m => eqIntS_in x y _ m.now (by omega) (hx2.below m.ok) (hy2.below m.ok)
      obtain ⟨ax, cx, rfl⟩ := hx2.shape
      obtain ⟨ay, cy, rfl⟩ := hy2.shape
      have h1 : ∀ m : After w, m.now.cell? ⟨G, o + k, none⟩ = some (.slice ax (rows.getD k []).length cx) := fun m => (m.ok.cell (p := ⟨G, o + k, none⟩) hG).trans hx1
      have h2 : ∀ m : After w, m.now.cell? ⟨G', o' + k, none⟩ = some (.slice ay (rows.getD k []).length cy) := fun m => (m.ok.cell (p := ⟨G', o' + k, none⟩) hG').trans hy1
      have hki : (k : Int) < (n : Int) := by omega
      generalize (rows.getD k []).length = l at *
      clear hr hr' hx1 hx2 hy1 hy2 hlen hv hu
      go_wp2
      refine wp_region_below w (by kernel_rfl) (by kernel_rfl) hB ?_
      repeat (go_big_quiet_step ((go_at_call 54; with_reducible exact after_of (h3 _))))
      refine wpQuiet_nil ?_
      rintro _ ⟨nq, rfl⟩
      clear h1 h2 h3
      go_wp2
      go_roundw
      case rel => exact ⟨k + 1, by omega, by go_num, nq.ok⟩
      case measure => simp [intOf]; omega
    · obtain rfl : k = n := by omega
      clear hv hu hlen
      go_wp2
      go_ret
      exact ⟨rfl, hB⟩


set_option maxRecDepth 100000 in
set_option maxHeartbeats 1000000 in
theorem eqDesk_in (v u : Value) (d : Dk) (w : World) (hs : d.1.length ≤ 2000000 ∧ d.2.length ≤ 2000000 ∧ ∀ j, j < d.2.length → (d.2.getD j []).length ≤ 2000000) (hv : DeskI w v d) (hu : DeskI w u d) : Calls Try.prog 24 #[v, u] w fun e w' => e = .returned (.bool true) ∧ Below w.heap.size w w' := by
  obtain ⟨x, p, rfl, hx, hp⟩ := hv
  obtain ⟨y, q, rfl, hy, hq⟩ := hu
  have hB : Below w.heap.size w ((w.alloc (.cells #[x, p] 26)).alloc (.cells #[y, q] 26)) := ((Below.refl _ w).alloc (Nat.le_refl _) _).alloc (by rw [World.size_alloc]; omega) _
  have k1 := World.alloc_heap_new (w.alloc (.cells #[x, p] 26)) (.cells #[y, q] 26)
  rw [World.size_alloc] at k1
  have k0 : ((w.alloc (.cells #[x, p] 26)).alloc (.cells #[y, q] 26)).heap[w.heap.size]? = some (.cells #[x, p] 26 (0, 0)) := (Below.heap_alloc _ _ _ (by rw [World.size_alloc]; omega)).trans (World.alloc_heap_new w _)
  obtain ⟨W0, hW0⟩ : ∃ W0, (w.alloc (.cells #[x, p] 26)).alloc (.cells #[y, q] 26) = W0 := ⟨_, rfl⟩
  rw [hW0] at hB k0 k1
  have l0 := (Array.getElem?_eq_some_iff.1 k0).1
  have l1 := (Array.getElem?_eq_some_iff.1 k1).1
  have hI := eqIntS_in x y d.1 W0 (by omega) (hx.below hB) (hy.below hB)
  have hR := fun V (hV : Below W0.heap.size W0 V) => eqSSP_in p q d.2 V hs.2.1 hs.2.2 ((hp.below hB).below hV) ((hq.below hB).below hV)
  obtain ⟨xa, xc, rfl⟩ := hx.shape
  obtain ⟨ya, yc, rfl⟩ := hy.shape
  obtain ⟨pa, pc, rfl, _⟩ := hp
  obtain ⟨qa, qc, rfl, _⟩ := hq
  obtain ⟨c0, c1, _, _⟩ := row_at k0
  obtain ⟨e0, e1, _, _⟩ := row_at k1
  clear hx hy hs
  go_enter Try.func24, Try.ntmps24
  go_wp2_with (first
    | (go_at_call 54; go_loud (refine hI.mono ?_; clear hI; rintro e w2 ⟨rfl, hB2⟩; obtain ⟨c0, c1, _, _⟩ := row_at ((hB2.block _ l0).trans k0); obtain ⟨e0, e1, _, _⟩ := row_at ((hB2.block _ l1).trans k1)))
    | (go_at_call 55; go_loud (refine (hR _ hB2).mono ?_; clear hR; rintro e w3 ⟨rfl, hB3⟩)))
  go_ret
  exact ⟨rfl, hB.trans ((hB2.trans (hB3.mono hB2.size)).mono hB.size)⟩
end Go.Proofs.Ytimnhedjapakhaa
/-
  The laws' helpers over desks: markDesk and heldDesk over a desk of one's own.
-/
namespace Go.Proofs.Ytimnhedjapakhaa
open Go.RowKit

theorem OwnG.of_own {W : World} {base : Nat} {v : Value} {rows : List (List Int)} (h : OwnRows W base v rows) (h1 : ∀ j, j < rows.length → 0 < (rows.getD j []).length) :
    OwnG W base W.heap.size v rows.length (fun j => (rows.getD j []).length) (fun j i => (rows.getD j []).getD i 0) := by
  obtain ⟨us, hl, hv, hr, hne⟩ := h
  by_cases h0 : 0 < rows.length
  · right
    rcases hv.2 with ⟨_, hn⟩ | ⟨G, cap, cur, rfl, hb, hg, hrest⟩
    · omega
    · have hex : ∀ j, ∃ b cb, j < rows.length → us.getD j undef = .slice (some ⟨b, 0, .none⟩) (rows.getD j []).length cb ∧ base ≤ b ∧ RowAt W b (rows.getD j []).length (fun i => (rows.getD j []).getD i 0) := fun j => by
        by_cases hj : j < rows.length
        · obtain ⟨b, cb, e1, e2, e3⟩ := RowAt.of_owns (hr j hj) (h1 j hj)
          exact ⟨b, cb, fun _ => ⟨e1, e2, e3⟩⟩
        · exact ⟨0, 0, fun h => absurd h hj⟩
      have hch : ∃ b cb : Nat → Nat, ∀ j, j < rows.length → us.getD j undef = .slice (some ⟨b j, 0, .none⟩) (rows.getD j []).length (cb j) ∧ base ≤ b j ∧ RowAt W (b j) (rows.getD j []).length (fun i => (rows.getD j []).getD i 0) :=
        ⟨fun j => Classical.choose (hex j), fun j => Classical.choose (Classical.choose_spec (hex j)), fun j hj => Classical.choose_spec (Classical.choose_spec (hex j)) hj⟩
      obtain ⟨b, cb, hbc⟩ := hch
      have hGs : G < W.heap.size := (Array.getElem?_eq_some_iff.1 hg).1
      refine ⟨G, cap, b, cb, by rw [hl], ⟨⟨hb, hGs, hGs⟩, fun j hj => ?_, fun j hj => ⟨(hbc j hj).2.1, (hbc j hj).2.2.lt, fun e => ?_⟩, fun j hj => (hbc j hj).2.2, fun i j hij hj e => ?_⟩⟩
      · rw [hv.cellAt j (by omega), ← (hbc j hj).1, List.getD, List.getElem?_eq_getElem (by omega)]; rfl
      · rcases own_apart (hr j hj) hv with h3 | h3
        · rw [(hbc j hj).1] at h3; simp [Value.ownBlock] at h3
        · rw [(hbc j hj).1] at h3; simp [Value.ownBlock, e] at h3
      · have h3 := hne i j hij hj
        rw [(hbc i (by omega)).1, (hbc j hj).1] at h3
        simp [Value.ownBlock, e] at h3
  · left
    refine ⟨by omega, ?_⟩
    rcases hv.2 with ⟨rfl, hn⟩ | ⟨g, cap, cur, rfl, _⟩
    · exact ⟨_, _, rfl⟩
    · exact ⟨_, _, by rw [show us.length = 0 by omega]⟩

/-- A desk of one's own between two marks, with a mark between its row and those of before. -/
def OwnD (W : World) (base mid lim : Nat) (v : Value) (n : Nat) (f : Nat → Int) (m : Nat) (L : Nat → Nat) (F : Nat → Nat → Int) : Prop :=
  ∃ x p, v = .agg #[x, p] ∧ base ≤ mid ∧ mid ≤ lim ∧ lim ≤ W.heap.size ∧ OwnI W base mid x n f ∧ OwnG W mid lim p m L F
theorem OwnD.of {W : World} {base : Nat} {v : Value} {d : Dk} (h : OwnDk W base v d) (h1 : ∀ j, j < d.2.length → 0 < (d.2.getD j []).length) :
    ∃ mid, OwnD W base mid W.heap.size v d.1.length (fun i => d.1.getD i 0) d.2.length (fun j => (d.2.getD j []).length) (fun j i => (d.2.getD j []).getD i 0) := by
  obtain ⟨mid, x, p, rfl, h2, h3, h4, h5⟩ := h
  exact ⟨mid, x, p, rfl, h2, h3, Nat.le_refl _, h4, OwnG.of_own h5 h1⟩
theorem OwnD.below {W W' : World} {base mid lim n m : Nat} {v : Value} {f : Nat → Int} {L : Nat → Nat} {F : Nat → Nat → Int} (h : OwnD W base mid lim v n f m L F) (hB : Below W.heap.size W W') : OwnD W' base mid lim v n f m L F := by
  obtain ⟨x, p, rfl, h2, h3, h4, h5, h6⟩ := h
  exact ⟨x, p, rfl, h2, h3, Nat.le_trans h4 hB.size, h5.below hB, h6.below hB⟩
theorem OwnD.between {W W' : World} {base mid lim n m base' lim' : Nat} {v : Value} {f : Nat → Int} {L : Nat → Nat} {F : Nat → Nat → Int} (h : OwnD W base mid lim v n f m L F) (hB : Between base' lim' W W') (hr : lim ≤ base' ∨ lim' ≤ base) : OwnD W' base mid lim v n f m L F := by
  obtain ⟨x, p, rfl, h2, h3, h4, h5, h6⟩ := h
  exact ⟨x, p, rfl, h2, h3, Nat.le_trans h4 hB.size, h5.between hB (by omega), h6.between hB (by omega)⟩
theorem OwnD.deskI {W : World} {base mid lim : Nat} {v : Value} {d : Dk} (h : OwnD W base mid lim v d.1.length (fun i => d.1.getD i 0) d.2.length (fun j => (d.2.getD j []).length) (fun j i => (d.2.getD j []).getD i 0)) : DeskI W v d := by
  obtain ⟨x, p, rfl, _, _, _, h5, h6⟩ := h
  exact ⟨x, p, rfl, h5.ints, (OwnG.rowsI h6).past⟩
theorem OwnD.form {W : World} {base mid lim n m : Nat} {v : Value} {f : Nat → Int} {L : Nat → Nat} {F : Nat → Nat → Int} (h : OwnD W base mid lim v n f m L F) : ∃ a b c e, v = .agg #[.slice a n b, .slice c m e] := by
  obtain ⟨x, p, rfl, _, _, _, h5, h6⟩ := h
  rcases h5 with ⟨rfl, a, b, rfl⟩ | ⟨g, cap, rfl, _⟩
  · rcases h6 with ⟨rfl, c, e, rfl⟩ | ⟨G, cap, b', cb, rfl, _⟩
    · exact ⟨a, b, c, e, rfl⟩
    · exact ⟨a, b, _, _, rfl⟩
  · rcases h6 with ⟨rfl, c, e, rfl⟩ | ⟨G, cap', b', cb, rfl, _⟩
    · exact ⟨_, _, c, e, rfl⟩
    · exact ⟨_, _, _, _, rfl⟩

theorem mark_ownN {W : World} {base lim n : Nat} {v : Value} {f : Nat → Int} (h : OwnI W base lim v n f) (hn : n ≤ 10000000) (m : Nat) (hm : m ≤ 10000000) :
    Calls Try.prog 56 #[v, .int .i64 m] W fun e w' => e = .returned (.int .i64 ((m + n : Nat) : Int)) ∧ OwnI w' base lim v n (fun i => ((m + i : Nat) : Int)) ∧ ∃ row, W.grownBy w' row ∧ ∀ k, row = some k → base ≤ k ∧ k < lim := by
  have hxs : ((List.range n).map f).length = n := by simp
  have h' : OwnI W base lim v ((List.range n).map f).length (fun i => ((List.range n).map f).getD i 0) := by
    rw [hxs]
    rcases h with h | ⟨g, c, rfl, h1, h2, h3⟩
    · exact .inl h
    · exact .inr ⟨g, c, rfl, h1, h2, h3.congr (fun i hi => by rw [List.getD, List.getElem?_map, List.getElem?_range hi]; rfl)⟩
  have h2 := mark_own h' (by omega) m hm
  rw [hxs] at h2
  exact h2

set_option maxRecDepth 100000 in
set_option maxHeartbeats 1000000 in
theorem markDesk_in {W : World} {base mid lim n m : Nat} {v : Value} {f : Nat → Int} {L : Nat → Nat} {F : Nat → Nat → Int} (h : OwnD W base mid lim v n f m L F) (hn : n ≤ 100) (hL : ∀ j, j < m → L j ≤ 100) (hm : m ≤ 100) (k : Nat) (hk : k ≤ 500) :
    Calls Try.prog 25 #[v, .int .i64 k] W fun e w' => e = .returned (.int .i64 ((k + n + accN L m : Nat) : Int)) ∧ OwnD w' base mid lim v n (fun i => ((k + i : Nat) : Int)) m L (fun j i => ((k + n + accN L j + i : Nat) : Int)) ∧ Between base lim W w' := by
  obtain ⟨xa, xc, pa, pc, hv⟩ := h.form
  obtain ⟨x, p, rfl, h2, h3, h4, h5, h6⟩ := h
  injection hv with hv
  simp at hv
  obtain ⟨rfl, rfl⟩ := hv
  have hB := (Below.refl _ W).alloc (Nat.le_refl _) (.cells #[.slice xa n xc, .slice pa m pc] 26)
  have k0 := World.alloc_heap_new W (.cells #[.slice xa n xc, .slice pa m pc] 26)
  have hs1 := World.size_alloc W (.cells #[.slice xa n xc, .slice pa m pc] 26)
  obtain ⟨W1, hW1⟩ : ∃ W1, W.alloc (.cells #[.slice xa n xc, .slice pa m pc] 26) = W1 := ⟨_, rfl⟩
  rw [hW1] at hB k0 hs1
  have hM := mark_ownN (h5.below hB) (by omega) k (by omega)
  have hG1 := h6.below hB
  obtain ⟨c0, c1, _, _⟩ := row_at k0
  have hs := Nat.le_of_eq hs1
  have hs' := Nat.le_of_eq hs1.symm
  clear h5 h6 hs1
  have hkn : ((k + n : Nat) : Int) = (k : Int) + (n : Int) := by omega
  go_enter Try.func25, Try.ntmps25
  go_wp2_with (first
    | (go_at_call 56; go_loud (refine hM.mono ?_; clear hM; rintro e W2 ⟨rfl, hI2, row, hg2, hr2⟩; have k2 := (hg2.block _ (Array.getElem?_eq_some_iff.1 k0).1 (fun e => (by have := hr2 _ e.symm; omega))).trans k0; obtain ⟨c0, c1, _, _⟩ := row_at k2; have hG2 := hG1.grown hg2 (fun j e => (by have := hr2 j e; omega)); have hS := markSS_in hG2 hL hm (k + n) (by omega)))
    | (go_at_call 57; go_loud (refine hS.mono ?_; clear hS; rintro e W3 ⟨rfl, hG3, hbt⟩)))
  go_ret
  have h23 : Between base lim W W3 := by
    refine ⟨(hbt.os.trans hg2.os).trans hB.os, (hbt.tape.trans hg2.tape).trans hB.tape, (hbt.output.trans hg2.output).trans hB.output, Nat.le_trans hB.size (Nat.le_trans hg2.size hbt.size), fun q hq ho => ?_⟩
    have q1 := hB.block q hq
    have hq1 : q < W1.heap.size := Nat.lt_of_lt_of_le hq hB.size
    have q2 := hg2.block q hq1 (fun e => by have := hr2 q e.symm; omega)
    have q3 := hbt.block q (Nat.lt_of_lt_of_le hq1 hg2.size) (by omega)
    exact q3.trans (q2.trans q1)
  exact ⟨rfl, ⟨_, _, rfl, h2, h3, Nat.le_trans h4 h23.size, hI2.between hbt (.inl (Nat.le_refl _)), hG3⟩, h23⟩

set_option maxRecDepth 100000 in
set_option maxHeartbeats 1000000 in
theorem heldDesk_in {W : World} {base mid lim n m : Nat} {v : Value} {L : Nat → Nat} (k : Nat) (h : OwnD W base mid lim v n (fun i => ((k + i : Nat) : Int)) m L (fun j i => ((k + n + accN L j + i : Nat) : Int))) (hn : n ≤ 100) (hL : ∀ j, j < m → L j ≤ 100) (hm : m ≤ 100) (hk : k ≤ 500) :
    Calls Try.prog 26 #[v, .int .i64 k] W fun e w' => e = .returned (.int .i64 ((k + n + accN L m : Nat) : Int)) ∧ Below W.heap.size W w' := by
  obtain ⟨xa, xc, pa, pc, hv⟩ := h.form
  obtain ⟨x, p, rfl, h2, h3, h4, h5, h6⟩ := h
  injection hv with hv
  simp at hv
  obtain ⟨rfl, rfl⟩ := hv
  have hB := (Below.refl _ W).alloc (Nat.le_refl _) (.cells #[.slice xa n xc, .slice pa m pc] 26)
  have k0 := World.alloc_heap_new W (.cells #[.slice xa n xc, .slice pa m pc] 26)
  obtain ⟨W1, hW1⟩ : ∃ W1, W.alloc (.cells #[.slice xa n xc, .slice pa m pc] 26) = W1 := ⟨_, rfl⟩
  rw [hW1] at hB k0
  have hM := held_own k (h5.below hB) (by omega) (by omega)
  have hS := heldSS_in (k + n) (h6.below hB) hL hm (by omega)
  obtain ⟨c0, c1, _, _⟩ := row_at k0
  have hneg1 : ¬ ((k + n : Nat) : Int) < 0 := by omega
  have hneg2 : ¬ ((k + n + accN L m : Nat) : Int) < 0 := by omega
  clear h5 h6
  generalize accN L m = A at *
  have hkn : ((k + n : Nat) : Int) = (k : Int) + (n : Int) := by omega
  go_enter Try.func26, Try.ntmps26
  go_wp2_with (first
    | (go_at_call 58; go_loud (refine hM.mono ?_; clear hM; rintro e W2 ⟨rfl, rfl⟩))
    | (go_at_call 59; go_loud (refine hS.mono ?_; clear hS; rintro e W3 ⟨rfl, rfl⟩)))
  go_ret
  exact ⟨rfl, hB⟩
end Go.Proofs.Ytimnhedjapakhaa
/-
  The laws' helpers over desks that came in: szDesk, toDesk.
-/
namespace Go.Proofs.Ytimnhedjapakhaa
open Go.RowKit

/-- A slice of rows that came in, in the world in which the law began. -/
def ArgP (W0 : World) (v : Value) (rows : List (List Int)) : Prop :=
  ∃ a c, v = .slice a rows.length c ∧ (0 < rows.length → ∃ G o, a = some ⟨G, o, none⟩ ∧ G < W0.heap.size ∧ ∀ j, j < rows.length → ∃ u, W0.cell? ⟨G, o + j, none⟩ = some u ∧ ArgI W0 u (rows.getD j []))
/-- A desk that came in. -/
def ArgD (W0 : World) (v : Value) (d : Dk) : Prop := ∃ x p, v = .agg #[x, p] ∧ ArgI W0 x d.1 ∧ ArgP W0 p d.2
theorem ArgI.form {W : World} {v : Value} {xs : List Int} (h : ArgI W v xs) : ∃ a c, v = .slice a xs.length c := by
  rcases h with ⟨a, c, rfl, rfl⟩ | ⟨b, o, c, rfl, _⟩
  · exact ⟨a, c, rfl⟩
  · exact ⟨_, c, rfl⟩

theorem szI_in (a : Option Addr) (n c m : Nat) (w : World) (hn : n ≤ 9223372036854775807) (hm : m ≤ 1048576) : Calls Try.prog 50 #[.slice a n c, .int .i64 m] w fun e w' => e = .returned (.int .i64 (if n ≤ m then ((m - n : Nat) : Int) else -1)) ∧ w = w' := by
  by_cases h : n ≤ m
  · rw [if_pos h]
    have h1 : (m : Int) - (n : Int) = ((m - n : Nat) : Int) := by omega
    have h2 : ¬ ((m - n : Nat) : Int) < 0 := by omega
    have h3 : m - n ≤ 1048576 := by omega
    generalize m - n = q at *
    go_enter Try.func50, Try.ntmps50
    go_wp2
    go_ret
    exact ⟨rfl, rfl⟩
  · rw [if_neg h]
    have h2 : (m : Int) - (n : Int) < 0 := by omega
    go_enter Try.func50, Try.ntmps50
    go_wp2
    go_ret
    exact ⟨rfl, rfl⟩

set_option maxHeartbeats 1000000 in
theorem szSS_in (v : Value) (rows : List (List Int)) (m : Nat) (w : World) (hv : ArgP w v rows) (hn : rows.length ≤ 9223372036854775807) (hln : ∀ j, (rows.getD j []).length ≤ 9223372036854775807) (hm : m ≤ 1048576) : Calls Try.prog 51 #[v, .int .i64 m] w fun e w' =>
    (e = .returned (.int .i64 (-1)) ∨ ∃ q : Nat, e = .returned (.int .i64 q) ∧ rows.length + accN (fun j => (rows.getD j []).length) rows.length + q = m) ∧ w = w' := by
  obtain ⟨a, c, rfl, hr⟩ := hv
  have hacc : ∀ k, accN (fun j => (rows.getD j []).length) (k + 1) = accN (fun j => (rows.getD j []).length) k + (rows.getD k []).length := fun k => rfl
  have hacc0 : accN (fun j => (rows.getD j []).length) 0 = 0 := rfl
  generalize accN (fun j => (rows.getD j []).length) = A at *
  obtain ⟨n, hN⟩ : ∃ n, rows.length = n := ⟨_, rfl⟩
  rw [hN] at hr hn ⊢
  clear hN
  by_cases h : n ≤ m
  · have h1 : (m : Int) - (n : Int) = ((m - n : Nat) : Int) := by omega
    have h2 : ¬ ((m - n : Nat) : Int) < 0 := by omega
    have h3 : m - n ≤ 1048576 := by omega
    have h0 : n + A 0 + (m - n) = m := by omega
    generalize m - n = q0 at *
    clear h
    go_enter Try.func51, Try.ntmps51
    go_wp2
    go_loop [1, 5] (fun l i => ∃ k q : Nat, k ≤ n ∧ i = .int .i64 k ∧ l = .int .i64 q ∧ n + A k + q = m) (fun _ i => n - (intOf i).toNat)
    case atStart => exact ⟨0, q0, by omega, rfl, rfl, h0⟩
    case round =>
      clear h0 h1 h2 h3
      obtain ⟨k, q, hk, rfl, rfl, hs⟩ := hrel
      by_cases hlt : k < n
      · obtain ⟨G, o, rfl, hG, hc⟩ := hr (by omega)
        obtain ⟨u, huc, hu⟩ := hc k hlt
        obtain ⟨ua, uc, rfl⟩ := hu.form
        have hki : (k : Int) < (n : Int) := by omega
        have hS := szI_in ua (rows.getD k []).length uc q w (hln k) (by omega)
        have hak := hide (hacc k)
        clear hc hu hr hacc
        generalize (rows.getD k []).length = l at *
        by_cases hq : l ≤ q
        · rw [if_pos hq] at hS
          have h4 : ¬ ((q - l : Nat) : Int) < 0 := by omega
          have h5 := hide (show n + (A k + l) + (q - l) = m by omega)
          generalize q - l = r at *
          clear hq hs
          go_wp2_with (go_at_call 50; refine hS.mono ?_; clear hS; rintro e w' ⟨rfl, rfl⟩)
          go_round
          case rel => exact ⟨k + 1, r, by omega, by go_num, rfl, by rw [hak.out]; exact h5.out⟩
          case measure => simp [intOf]; omega
        · rw [if_neg hq] at hS
          clear hq hs
          go_wp2_with (go_at_call 50; refine hS.mono ?_; clear hS; rintro e w' ⟨rfl, rfl⟩)
          go_ret
          exact ⟨.inl rfl, rfl⟩
      · obtain rfl : k = n := by omega
        have hki : ¬ ((k : Nat) : Int) < (k : Int) := by omega
        clear hr hacc hlt
        go_wp2
        go_ret
        exact ⟨.inr ⟨q, rfl, hs⟩, rfl⟩
  · have h2 : (m : Int) - (n : Int) < 0 := by omega
    go_enter Try.func51, Try.ntmps51
    go_wp2
    go_ret
    exact ⟨.inl rfl, rfl⟩

set_option maxHeartbeats 1000000 in
theorem szDesk_in (v : Value) (d : Dk) (m : Nat) (w : World) (hv : ArgD w v d) (hn1 : d.1.length ≤ 9223372036854775807) (hn : d.2.length ≤ 9223372036854775807) (hln : ∀ j, (d.2.getD j []).length ≤ 9223372036854775807) (hm : m ≤ 1048576) : Calls Try.prog 21 #[v, .int .i64 m] w fun e w' =>
    (e = .returned (.int .i64 (-1)) ∨ ∃ q : Nat, e = .returned (.int .i64 q) ∧ d.1.length + (d.2.length + accN (fun j => (d.2.getD j []).length) d.2.length) + q = m) ∧ Below w.heap.size w w' := by
  obtain ⟨x, p, rfl, hx, hp⟩ := hv
  have hB := (Below.refl _ w).alloc (Nat.le_refl _) (.cells #[x, p] 44)
  have k0 := World.alloc_heap_new w (.cells #[x, p] 44)
  obtain ⟨xa, xc, rfl⟩ := hx.form
  obtain ⟨W1, hW1⟩ : ∃ W1, w.alloc (.cells #[.slice xa d.1.length xc, p] 44) = W1 := ⟨_, rfl⟩
  rw [hW1] at hB k0
  have hI := szI_in xa d.1.length xc m W1 hn1 hm
  have hp1 : ArgP W1 p d.2 := by
    obtain ⟨a, c, e, h⟩ := hp
    refine ⟨a, c, e, fun h0 => ?_⟩
    obtain ⟨G, o, e1, hG, hc⟩ := h h0
    refine ⟨G, o, e1, Nat.lt_of_lt_of_le hG hB.size, fun j hj => ?_⟩
    obtain ⟨u, h1, h2⟩ := hc j hj
    refine ⟨u, (hB.cell (p := ⟨G, o + j, none⟩) hG).trans h1, ?_⟩
    rcases h2 with h2 | ⟨b, of, cap, e2, hb, hcc⟩
    · exact .inl h2
    · exact .inr ⟨b, of, cap, e2, Nat.lt_of_lt_of_le hb hB.size, fun i hi => (hB.cell (p := ⟨b, of + i, none⟩) hb).trans (hcc i hi)⟩
  have hS := fun q (hq : q ≤ 1048576) => szSS_in p d.2 q W1 hp1 hn hln hq
  obtain ⟨pa, pc, rfl, _⟩ := hp
  obtain ⟨c0, c1, _, _⟩ := row_at k0
  generalize d.2.length + accN (fun j => (d.2.getD j []).length) d.2.length = A at *
  generalize d.1.length = n at *
  by_cases h : n ≤ m
  · rw [if_pos h] at hI
    have h2 : ¬ ((m - n : Nat) : Int) < 0 := by omega
    have hS1 := hS (m - n) (by omega)
    have h5 : n + (m - n) = m := by omega
    generalize m - n = r at *
    clear hS h hp1
    go_enter Try.func21, Try.ntmps21
    go_wp2_with (first
      | (go_at_call 50; go_loud (refine hI.mono ?_; clear hI; rintro e w2 ⟨rfl, rfl⟩))
      | (go_at_call 51; fail))
    go_at_call 51
    refine hS1.mono ?_
    rintro e w2 ⟨rfl | ⟨q, rfl, hq⟩, rfl⟩
    · go_wp2
      go_ret
      exact ⟨.inl rfl, hB⟩
    · have h6 : ¬ (q : Int) < 0 := by omega
      have hq' := hide (show n + A + q = m by omega)
      clear hq h5
      go_wp2
      go_ret
      exact ⟨.inr ⟨q, rfl, hq'.out⟩, hB⟩
  · rw [if_neg h] at hI
    clear hS h hp1
    go_enter Try.func21, Try.ntmps21
    go_wp2_with (go_at_call 50; go_loud (refine hI.mono ?_; clear hI; rintro e w2 ⟨rfl, rfl⟩))
    go_ret
    exact ⟨.inl rfl, hB⟩
end Go.Proofs.Ytimnhedjapakhaa
/-
  The laws' helpers over desks that came in: toDesk; and marks over such a copy.
-/
namespace Go.Proofs.Ytimnhedjapakhaa
open Go.RowKit

theorem ArgI.below {W W' : World} {v : Value} {xs : List Int} (h : ArgI W v xs) (hB : Below W.heap.size W W') : ArgI W' v xs := by
  rcases h with h2 | ⟨b, of, cap, e2, hb, hcc⟩
  · exact .inl h2
  · exact .inr ⟨b, of, cap, e2, Nat.lt_of_lt_of_le hb hB.size, fun i hi => (hB.cell (p := ⟨b, of + i, .none⟩) hb).trans (hcc i hi)⟩
theorem ArgP.below {W W' : World} {v : Value} {rows : List (List Int)} (h : ArgP W v rows) (hB : Below W.heap.size W W') : ArgP W' v rows := by
  obtain ⟨a, c, e, h⟩ := h
  refine ⟨a, c, e, fun h0 => ?_⟩
  obtain ⟨G, o, e1, hG, hc⟩ := h h0
  refine ⟨G, o, e1, Nat.lt_of_lt_of_le hG hB.size, fun j hj => ?_⟩
  obtain ⟨u, h1, h2⟩ := hc j hj
  exact ⟨u, (hB.cell (p := ⟨G, o + j, .none⟩) hG).trans h1, h2.below hB⟩
theorem ArgD.below {W W' : World} {v : Value} {d : Dk} (h : ArgD W v d) (hB : Below W.heap.size W W') : ArgD W' v d := by
  obtain ⟨x, p, rfl, h1, h2⟩ := h
  exact ⟨x, p, rfl, h1.below hB, h2.below hB⟩
theorem ArgD.form {W : World} {v : Value} {d : Dk} (h : ArgD W v d) : ∃ a b c e, v = .agg #[.slice a d.1.length b, .slice c d.2.length e] := by
  obtain ⟨x, p, rfl, h1, a, c, rfl, _⟩ := h
  obtain ⟨x1, x2, rfl⟩ := h1.form
  exact ⟨_, _, _, _, rfl⟩
theorem own_set {W : World} {base n g c : Nat} {e : TypeId} {xs : List Value} (h : W.ownsRow base e 1 (.slice (some ⟨g, 0, none⟩) n c) n xs) {k : Nat} (hk : k < n) (z : Value) : (W.setCell ⟨g, k, none⟩ z).ownsRow base e 1 (.slice (some ⟨g, 0, none⟩) n c) n (xs.set k z) := by
  obtain ⟨hl, h2⟩ := h
  refine ⟨by rw [List.length_set]; exact hl, ?_⟩
  rcases h2 with ⟨e, h0⟩ | ⟨g', cap, cur, e, hb, hg, hc, hm, hs, ht⟩
  · omega
  · injection e with e1 e2 e3
    injection e1 with e1
    injection e1 with e1
    subst e1 e3
    obtain ⟨hlt, hk2⟩ := Array.getElem?_eq_some_iff.1 hg
    refine .inr ⟨g, c, cur.setIfInBounds k z, rfl, hb, ?_, hc, hm, by simpa using hs, ?_⟩
    · show (W.heap.modify g _)[g]? = _
      rw [Array.getElem?_eq_getElem (by rw [Array.size_modify]; exact hlt), Array.getElem_modify_self, hk2]; rfl
    · rw [Array.toList_setIfInBounds, List.take_set, ht]
theorem own_at {W : World} {base n g c : Nat} {e : TypeId} {xs : List Value} (h : W.ownsRow base e 1 (.slice (some ⟨g, 0, none⟩) n c) n xs) (k : Nat) (hk : k < n) : (∃ u, W.cell? ⟨g, k, none⟩ = some u) ∧ W.frozen? ⟨g, k, none⟩ = false := by
  rcases h.2 with ⟨e, h0⟩ | ⟨g', cap, cur, e, hb, hg, hc, hm, hs, ht⟩
  · omega
  · injection e with e1 e2 e3
    injection e1 with e1
    injection e1 with e1
    subst e1 e3
    have hkc : k < cur.size := by omega
    refine ⟨⟨cur[k]'hkc, ?_⟩, by unfold World.frozen?; rw [hg]; rfl⟩
    unfold World.cell?
    rw [hg]
    exact Array.getElem?_eq_getElem hkc

theorem own_blk12 {W : World} {base n : Nat} {e : TypeId} {v : Value} {xs : List Value} (h : W.ownsRow base e 1 v n xs) : v.ownBlock = .none ∨ ∃ b, v.ownBlock = some b ∧ base ≤ b ∧ b < W.heap.size := by
  rcases h.2 with ⟨rfl, _⟩ | ⟨b, cap, cur, rfl, hb, hg, _⟩
  · exact .inl rfl
  · exact .inr ⟨b, rfl, hb, (Array.getElem?_eq_some_iff.1 hg).1⟩
/-- Rows of one's own, no two in one block. -/
def OwnQ (W : World) (base : Nat) (v : Value) (rows : List (List Int)) : Prop :=
  ∃ us : List Value, us.length = rows.length ∧ W.ownsRow base 23 1 v us.length us ∧ (∀ j, j < rows.length → W.ownsRow base 3 1 (us.getD j undef) (rows.getD j []).length ((rows.getD j []).map (Value.int .i64))) ∧
    ∀ i j, i < j → j < rows.length → (us.getD i undef).ownBlock = .none ∨ (us.getD i undef).ownBlock ≠ (us.getD j undef).ownBlock
theorem OwnQ.ownSS {W : World} {base : Nat} {v : Value} {rows : List (List Int)} (h : OwnQ W base v rows) : OwnSS W base v rows := by
  obtain ⟨us, h1, h2, h3, _⟩ := h
  exact ⟨us, h1, h2, h3⟩
theorem OwnQ.old {W W' : World} {base b : Nat} {v : Value} {rows : List (List Int)} (h : OwnQ W base v rows) (hb : b < base) (hg : W.grownBy W' (some b)) : OwnQ W' base v rows := by
  obtain ⟨us, l, o, r, ne⟩ := h
  exact ⟨us, l, own_kept o hg (own_old o hb), fun j hj => own_kept (r j hj) hg (own_old (r j hj) hb), ne⟩
theorem OwnQ.down {W : World} {base base' : Nat} {v : Value} {rows : List (List Int)} (h : OwnQ W base v rows) (hb : base' ≤ base) : OwnQ W base' v rows := by
  obtain ⟨us, l, o, r, ne⟩ := h
  exact ⟨us, l, own_from o hb, fun j hj => own_from (r j hj) hb, ne⟩
theorem OwnQ.below {W W' : World} {base : Nat} {v : Value} {rows : List (List Int)} (h : OwnQ W base v rows) (hB : Below W.heap.size W W') : OwnQ W' base v rows := by
  obtain ⟨us, l, o, r, ne⟩ := h
  exact ⟨us, l, own_below o hB, fun j hj => own_below (r j hj) hB, ne⟩
/-- The rows that have been copied. -/
structure Tss (w : World) (n : Nat) (rows : List (List Int)) (k : Nat) (W : World) : Prop where
  below : Below w.heap.size w W
  own : ∃ us : List Value, us.length = n ∧ W.ownsRow w.heap.size 23 1 (.slice (some ⟨w.heap.size, 0, none⟩) n n) n us ∧ (∀ j, j < k → W.ownsRow w.heap.size 3 1 (us.getD j undef) (rows.getD j []).length ((rows.getD j []).map (Value.int .i64))) ∧ ∀ i j, i < j → j < k → (us.getD i undef).ownBlock = .none ∨ (us.getD i undef).ownBlock ≠ (us.getD j undef).ownBlock
theorem Tss.next {w : World} {n : Nat} {rows : List (List Int)} {k : Nat} {W V : World} {u : Value} (h : Tss w n rows k W) (hk : k < n) (hV : Below W.heap.size W V) (hu : V.ownsRow W.heap.size 3 1 u (rows.getD k []).length ((rows.getD k []).map (Value.int .i64))) :
    ((∃ z, V.cell? ⟨w.heap.size, k, none⟩ = some z) ∧ V.frozen? ⟨w.heap.size, k, none⟩ = false) ∧ Tss w n rows (k + 1) (V.setCell ⟨w.heap.size, k, .none⟩ u) := by
  obtain ⟨hB, us, hl, ho, hr, hne⟩ := h
  have hoV := own_below ho hV
  have hs := grownBy_setAt V w.heap.size k u
  have huV := own_from hu hB.size
  refine ⟨own_at hoV k hk, ⟨(hB.trans (hV.mono hB.size)).setCell (p := ⟨w.heap.size, k, .none⟩) (Nat.le_refl _) _, us.set k u, by rw [List.length_set]; exact hl, own_set hoV hk u, fun j hj => ?_, fun i j hij hj => ?_⟩⟩
  rotate_left
  · have hi' : (us.set k u).getD i undef = us.getD i undef := by rw [List.getD, List.getElem?_set, if_neg (by omega)]; rfl
    rw [hi']
    by_cases e : j = k
    · subst e
      have hk' : (us.set j u).getD j undef = u := by rw [List.getD, List.getElem?_set, if_pos rfl, if_pos (by omega)]; rfl
      rw [hk']
      rcases own_blk12 (hr i (by omega)) with e1 | ⟨b1, e1, _, hb1⟩
      · exact .inl e1
      · refine .inr (fun e4 => ?_)
        rw [e1] at e4
        rcases own_blk12 hu with e5 | ⟨b5, e5, hb5, _⟩
        · rw [e5] at e4; cases e4
        · rw [e5] at e4; injection e4 with e4; omega
    · have hj' : (us.set k u).getD j undef = us.getD j undef := by rw [List.getD, List.getElem?_set, if_neg (fun h => e h.symm)]; rfl
      rw [hj']
      exact hne i j hij (by omega)
  by_cases e : j = k
  · subst e
    rw [List.getD, List.getElem?_set, if_pos rfl, if_pos (by omega)]
    exact huV.kept hs (by rcases own_apart huV hoV with h | h
                          · exact .inl h
                          · exact .inr (fun e => h (by rw [e]; rfl)))
  · rw [List.getD, List.getElem?_set, if_neg (fun h => e h.symm)]
    have hj2 := own_below (hr j (by omega)) hV
    exact hj2.kept hs (by rcases own_apart hj2 hoV with h | h
                          · exact .inl h
                          · exact .inr (fun e => h (by rw [e]; rfl)))

set_option maxRecDepth 100000 in
set_option maxHeartbeats 1000000 in
theorem toSS_in (W0 : World) (v : Value) (rows : List (List Int)) (w : World) (hv : ArgP W0 v rows) (hB : Below W0.heap.size W0 w) (hn : rows.length ≤ 1048576) (hln : ∀ j, j < rows.length → (rows.getD j []).length ≤ 1048576) : Calls Try.prog 53 #[v] w fun e w' =>
    ∃ r, e = .returned r ∧ OwnQ w' w.heap.size r rows ∧ Below w.heap.size w w' := by
  obtain ⟨a, c, rfl, hr⟩ := hv
  obtain ⟨i0, hi, hz0, hz1, hz2⟩ := info_rows Try.infoRow
  obtain ⟨n, hN⟩ : ∃ n, rows.length = n := ⟨_, rfl⟩
  rw [hN] at hr hn hln ⊢
  go_enter Try.func53, Try.ntmps53
  go_wp2_with (at_make; go_loud (refine wpList_make_full _ rfl _ _ 24 rfl w.heap.size 23 i0 (.slice none 0 0) 1 Try.underlying24 hi hz0 hz1 .i64 .i64 n n n rfl rfl rfl rfl (by rw [hz2]; omega) (by unfold maxLen; omega) (Nat.le_refl _) ?_); intro w1 hown hg1)
  have hT : Tss w n rows 0 w1 := ⟨(Below.refl _ w).grown hg1 (Nat.le_refl _) (fun _ e => by cases e), _, by have := hown.1; simpa using this, hown, fun j hj => absurd hj (Nat.not_lt_zero j), fun _ j _ hj => absurd hj (Nat.not_lt_zero j)⟩
  clear hown hg1
  go_loopw [4] (fun i wr => ∃ k : Nat, k ≤ n ∧ i = .int .i64 k ∧ Tss w n rows k wr) (fun i _ => n - (intOf i).toNat)
  case atStart => exact ⟨0, by omega, rfl, hT⟩
  case round =>
    clear hT
    obtain ⟨k, hk, rfl, hT⟩ := hrel
    by_cases hlt : k < n
    · obtain ⟨G, o, rfl, hG, hc⟩ := hr (by omega)
      obtain ⟨u, huc, hu⟩ := hc k hlt
      have hBw := hB.trans (hT.below.mono hB.size)
      have hcc := (hBw.cell (p := ⟨G, o + k, none⟩) hG).trans huc
      have hI := toIntS_in W0 u (rows.getD k []) wr hu hBw (by have := hln k hlt; omega)
      obtain ⟨ua, uc, rfl⟩ := hu.form
      have hki : (k : Int) < (n : Int) := by omega
      have hT' := hide hT
      have hN' := hide hN
      clear hc hu hr huc hln hT hN
      go_wp2_with (go_at_call 52; go_loud (refine hI.mono ?_; clear hI; rintro e w3 ⟨r, rfl, hr3, hB3⟩; obtain ⟨⟨⟨z, hz⟩, hf⟩, hT3⟩ := hT'.out.next hlt hB3 hr3; obtain ⟨ra, rc, rfl⟩ := own_form hr3; clear hr3 hB3))
      go_roundw
      case rel => exact ⟨k + 1, by omega, by go_num, hT3⟩
      case measure => simp [intOf]; omega
    · obtain rfl : k = n := by omega
      have hki : ¬ ((k : Nat) : Int) < (k : Int) := by omega
      obtain ⟨hBf, us, hl, ho, hr2, hne2⟩ := hT
      have hN' := hide hN
      clear hr hln hN
      go_wp2
      go_ret
      exact ⟨_, rfl, ⟨us, by rw [hl, hN'.out], by rw [hl]; exact ho, fun j hj => hr2 j (by rw [hN'.out] at hj; exact hj), fun i j hij hj => hne2 i j hij (by rw [hN'.out] at hj; exact hj)⟩, hBf⟩

theorem toDesk_step {w W1 W2 : World} {x p z1 z2 r : Value} {n : Nat} {xs : List Value} (hB : Below w.heap.size w W1) (hs : w.heap.size + 3 ≤ W1.heap.size) (k0 : W1.heap[w.heap.size]? = some (.cells #[x, p] 44 (0, 0))) (k1 : W1.heap[w.heap.size + 1]? = some (.cells #[.slice none 0 0, .slice none 0 0] 26 (0, 0)))
    (k2 : W1.heap[w.heap.size + 2]? = some (.cells #[z1, z2] 26 (0, 0))) (hr : W2.ownsRow W1.heap.size 3 1 r n xs) (hB2 : Below W1.heap.size W1 W2) :
    Below w.heap.size w (W2.setCell ⟨w.heap.size + 2, 0, none⟩ r) ∧ (W2.setCell ⟨w.heap.size + 2, 0, none⟩ r).heap[w.heap.size]? = some (.cells #[x, p] 44 (0, 0)) ∧ (W2.setCell ⟨w.heap.size + 2, 0, none⟩ r).heap[w.heap.size + 1]? = some (.cells #[.slice none 0 0, .slice none 0 0] 26 (0, 0)) ∧
    (W2.setCell ⟨w.heap.size + 2, 0, none⟩ r).heap[w.heap.size + 2]? = some (.cells #[r, z2] 26 (0, 0)) ∧ (W2.setCell ⟨w.heap.size + 2, 0, none⟩ r).ownsRow (w.heap.size + 3) 3 1 r n xs ∧ w.heap.size + 3 ≤ (W2.setCell ⟨w.heap.size + 2, 0, none⟩ r).heap.size := by
  have hg := grownBy_setAt W2 (w.heap.size + 2) 0 r
  have hz := hB2.size
  have hz3 := hg.size
  refine ⟨(hB.trans (hB2.mono hB.size)).setCell (p := ⟨w.heap.size + 2, 0, none⟩) (by show w.heap.size ≤ w.heap.size + 2; omega) r, ?_, ?_, set_cells ((hB2.block _ (by omega)).trans k2) 0 r, ?_, by omega⟩
  · exact (hg.block _ (by omega) (fun e => by injection e with e; omega)).trans ((hB2.block _ (by omega)).trans k0)
  · exact (hg.block _ (by omega) (fun e => by injection e with e; omega)).trans ((hB2.block _ (by omega)).trans k1)
  · exact own_from (own_kept hr hg (own_old hr (by omega))) hs
theorem toDesk_fin {w W3 W4 : World} {r q : Value} {n : Nat} {xs : List Value} {rows : List (List Int)} (hB : Below w.heap.size w W3) (hs : w.heap.size + 3 ≤ W3.heap.size) (k1 : W3.heap[w.heap.size + 1]? = some (.cells #[.slice none 0 0, .slice none 0 0] 26 (0, 0)))
    (hr : W3.ownsRow (w.heap.size + 3) 3 1 r n xs) (hq : OwnQ W4 W3.heap.size q rows) (hB4 : Below W3.heap.size W3 W4) :
    (((W4.setCell ⟨w.heap.size + 2, 1, none⟩ q).setCell ⟨w.heap.size + 1, 0, none⟩ r).setCell ⟨w.heap.size + 1, 1, none⟩ q).heap[w.heap.size + 1]? = some (.cells #[r, q] 26 (0, 0)) ∧
    (((W4.setCell ⟨w.heap.size + 2, 1, none⟩ q).setCell ⟨w.heap.size + 1, 0, none⟩ r).setCell ⟨w.heap.size + 1, 1, none⟩ q).ownsRow w.heap.size 3 1 r n xs ∧
    OwnQ (((W4.setCell ⟨w.heap.size + 2, 1, none⟩ q).setCell ⟨w.heap.size + 1, 0, none⟩ r).setCell ⟨w.heap.size + 1, 1, none⟩ q) w.heap.size q rows ∧ Below w.heap.size w (((W4.setCell ⟨w.heap.size + 2, 1, none⟩ q).setCell ⟨w.heap.size + 1, 0, none⟩ r).setCell ⟨w.heap.size + 1, 1, none⟩ q) ∧
    W3.heap.size ≤ (((W4.setCell ⟨w.heap.size + 2, 1, none⟩ q).setCell ⟨w.heap.size + 1, 0, none⟩ r).setCell ⟨w.heap.size + 1, 1, none⟩ q).heap.size ∧ (∀ g, r.ownBlock = some g → g < W3.heap.size) ∧ OwnQ (((W4.setCell ⟨w.heap.size + 2, 1, none⟩ q).setCell ⟨w.heap.size + 1, 0, none⟩ r).setCell ⟨w.heap.size + 1, 1, none⟩ q) W3.heap.size q rows := by
  have g1 := grownBy_setAt W4 (w.heap.size + 2) 1 q
  have g2 := grownBy_setAt (W4.setCell ⟨w.heap.size + 2, 1, none⟩ q) (w.heap.size + 1) 0 r
  have g3 := grownBy_setAt ((W4.setCell ⟨w.heap.size + 2, 1, none⟩ q).setCell ⟨w.heap.size + 1, 0, none⟩ r) (w.heap.size + 1) 1 q
  have hz := hB4.size
  have k14 := (g1.block (w.heap.size + 1) (by omega) (fun e => by injection e with e; omega)).trans ((hB4.block _ (by omega)).trans k1)
  have hr4 := own_below hr hB4
  have hr5 := own_kept hr4 g1 (own_old hr4 (by omega))
  have hr6 := own_kept hr5 g2 (own_old hr5 (by omega))
  have hr7 := own_kept hr6 g3 (own_old hr6 (by omega))
  refine ⟨desk_set k14 r q, own_from hr7 (by omega), (((hq.old (by omega) g1).old (by omega) g2).old (by omega) g3).down (by omega), ?_, Nat.le_trans hz (Nat.le_trans g1.size (Nat.le_trans g2.size g3.size)), fun g e => (hr.lt g e).2, ((hq.old (by omega) g1).old (by omega) g2).old (by omega) g3⟩
  have h0 := (hB.trans (hB4.mono hB.size)).setCell (p := ⟨w.heap.size + 2, 1, none⟩) (by show w.heap.size ≤ w.heap.size + 2; omega) q
  exact (h0.setCell (p := ⟨w.heap.size + 1, 0, none⟩) (by show w.heap.size ≤ w.heap.size + 1; omega) r).setCell (p := ⟨w.heap.size + 1, 1, none⟩) (by show w.heap.size ≤ w.heap.size + 1; omega) q
set_option maxRecDepth 100000 in
set_option maxHeartbeats 1000000 in
theorem toDesk_mid (W0 : World) (v : Value) (d : Dk) (w : World) (hv : ArgD W0 v d) (hB0 : Below W0.heap.size W0 w) (hn1 : d.1.length ≤ 1048576) (hn : d.2.length ≤ 1048576) (hln : ∀ j, j < d.2.length → (d.2.getD j []).length ≤ 1048576) : Calls Try.prog 22 #[v] w fun e w' =>
    ∃ x p, e = .returned (.agg #[x, p]) ∧ w'.ownsRow w.heap.size 3 1 x d.1.length (d.1.map (Value.int .i64)) ∧ OwnQ w' w.heap.size p d.2 ∧ (∃ mid, w.heap.size ≤ mid ∧ mid ≤ w'.heap.size ∧ (∀ g, x.ownBlock = some g → g < mid) ∧ OwnQ w' mid p d.2) ∧ Below w.heap.size w w' := by
  obtain ⟨x, p, rfl, hx, hp⟩ := hv
  have hB : Below w.heap.size w (((w.alloc (.cells #[x, p] 44)).alloc (.cells #[.slice none 0 0, .slice none 0 0] 26)).alloc (.cells #[.slice none 0 0, .slice none 0 0] 26)) := (((Below.refl _ w).alloc (Nat.le_refl _) _).alloc (by rw [World.size_alloc]; omega) _).alloc (by rw [World.size_alloc, World.size_alloc]; omega) _
  have k0 : (((w.alloc (.cells #[x, p] 44)).alloc (.cells #[.slice none 0 0, .slice none 0 0] 26)).alloc (.cells #[.slice none 0 0, .slice none 0 0] 26)).heap[w.heap.size]? = some (.cells #[x, p] 44 (0, 0)) := (Below.heap_alloc _ _ _ (by rw [World.size_alloc, World.size_alloc]; omega)).trans ((Below.heap_alloc _ _ _ (by rw [World.size_alloc]; omega)).trans (World.alloc_heap_new w _))
  have k1 : (((w.alloc (.cells #[x, p] 44)).alloc (.cells #[.slice none 0 0, .slice none 0 0] 26)).alloc (.cells #[.slice none 0 0, .slice none 0 0] 26)).heap[w.heap.size + 1]? = some (.cells #[.slice none 0 0, .slice none 0 0] 26 (0, 0)) := by
    have h := World.alloc_heap_new (w.alloc (.cells #[x, p] 44)) (.cells #[.slice none 0 0, .slice none 0 0] 26)
    rw [World.size_alloc] at h
    exact (Below.heap_alloc _ _ _ (by rw [World.size_alloc, World.size_alloc]; omega)).trans h
  have k2 : (((w.alloc (.cells #[x, p] 44)).alloc (.cells #[.slice none 0 0, .slice none 0 0] 26)).alloc (.cells #[.slice none 0 0, .slice none 0 0] 26)).heap[w.heap.size + 2]? = some (.cells #[.slice none 0 0, .slice none 0 0] 26 (0, 0)) := by
    have h := World.alloc_heap_new ((w.alloc (.cells #[x, p] 44)).alloc (.cells #[.slice none 0 0, .slice none 0 0] 26)) (.cells #[.slice none 0 0, .slice none 0 0] 26)
    rw [World.size_alloc, World.size_alloc] at h
    exact h
  obtain ⟨W1, hW1⟩ : ∃ W1, ((w.alloc (.cells #[x, p] 44)).alloc (.cells #[.slice none 0 0, .slice none 0 0] 26)).alloc (.cells #[.slice none 0 0, .slice none 0 0] 26) = W1 := ⟨_, rfl⟩
  rw [hW1] at hB k0 k1 k2
  have l2 := (Array.getElem?_eq_some_iff.1 k2).1
  have hBW := hB0.trans (hB.mono hB0.size)
  have hI := toIntS_in W0 x d.1 W1 hx hBW (by omega)
  have hS := fun V (hV : Below w.heap.size w V) => toSS_in W0 p d.2 V hp (hB0.trans (hV.mono hB0.size)) hn hln
  have hsW : w.heap.size + 3 ≤ W1.heap.size := by rw [← hW1]; simp
  obtain ⟨xa, xc, rfl⟩ := hx.form
  obtain ⟨pa, pc, rfl, _⟩ := hp
  obtain ⟨c0, c1, _, _⟩ := row_at k0
  clear hx
  obtain ⟨b0, b1, f0, f1⟩ := row_at k2
  go_enter Try.func22, Try.ntmps22
  have l0 : w.heap.size < W1.heap.size := by omega
  have l1 : w.heap.size + 1 < W1.heap.size := by omega
  go_wp2_with (first
    | (go_at_call 52; go_loud (refine hI.mono ?_; clear hI; rintro e W2 ⟨r, rfl, hr, hB2⟩; obtain ⟨ra, rc, rfl⟩ := own_form hr; have hst := toDesk_step hB hsW k0 k1 k2 hr hB2; obtain ⟨b0, b1, f0, f1⟩ := row_at ((hB2.block _ l2).trans k2); obtain ⟨W3, hW3⟩ : ∃ W3, W2.setCell ⟨w.heap.size + 2, 0, none⟩ (.slice ra d.1.length rc) = W3 := ⟨_, rfl⟩; rw [hW3] at hst; obtain ⟨hB3, h0, h1, h2, hr3, hz3⟩ := hst; obtain ⟨c0, c1, _, _⟩ := row_at h0))
    | (go_at_call 53; go_loud (refine (hS _ hB3).mono ?_; clear hS; rintro e W4 ⟨q, rfl, hq, hB4⟩; obtain ⟨qa, qc, rfl⟩ := hq.ownSS.form; have hfin := toDesk_fin hB3 hz3 h1 hr3 hq hB4; obtain ⟨b0, b1, f0, f1⟩ := row_at ((hB4.block _ (Array.getElem?_eq_some_iff.1 h2).1).trans h2); obtain ⟨s0, s1, t0, t1⟩ := row_at ((hB4.block _ (Array.getElem?_eq_some_iff.1 h1).1).trans h1); have hfin' := hide hfin; clear hfin hq hB4)))
  exact bodyPost_ret (results_desk rfl _ _ (w.heap.size + 1) _ _ rfl hfin'.out.1) rfl ⟨_, _, rfl, hfin'.out.2.1, hfin'.out.2.2.1, ⟨W3.heap.size, by have := hB3.size; omega, hfin'.out.2.2.2.2.1, hfin'.out.2.2.2.2.2.1, hfin'.out.2.2.2.2.2.2⟩, hfin'.out.2.2.2.1⟩
theorem toDesk_in (W0 : World) (v : Value) (d : Dk) (w : World) (hv : ArgD W0 v d) (hB0 : Below W0.heap.size W0 w) (hn1 : d.1.length ≤ 1048576) (hn : d.2.length ≤ 1048576) (hln : ∀ j, j < d.2.length → (d.2.getD j []).length ≤ 1048576) : Calls Try.prog 22 #[v] w fun e w' =>
    ∃ x p, e = .returned (.agg #[x, p]) ∧ w'.ownsRow w.heap.size 3 1 x d.1.length (d.1.map (Value.int .i64)) ∧ OwnQ w' w.heap.size p d.2 ∧ Below w.heap.size w w' :=
  (toDesk_mid W0 v d w hv hB0 hn1 hn hln).mono fun _ _ ⟨x, p, h1, h2, h3, _, h5⟩ => ⟨x, p, h1, h2, h3, h5⟩
end Go.Proofs.Ytimnhedjapakhaa
/-
  The walk of the exact law on DeskOk.
-/
namespace Go.Proofs.Ytimnhedjapakhaa
open Go.RowKit
attribute [local go_sem] Oper.semAt_some

/-- A region that draws its order, of which all that lay before stands until the last operations, whatever is known of each operation's value. -/
theorem wpIn_region_phi {F : Fence} {n : Nat} {id : Nat} {ops : Array Oper} {Q : Exit → Act → World → Prop} {a : Act} {W : World} (m : Nat) (hm : Try.prog.follows .mixedOrders = true) (hb : backB ops = true) (ht : tailB ops m = true) (hsz : m < ops.size)
    (fr : (Nat → Value) → Act) (Φ : Nat → Value → World → Prop) (hmono : ∀ k v V V', Φ k v V → Below V.heap.size V V' → Φ k v V')
    (h0 : ∃ s, a = fr s) (hput : ∀ i o s v, i < m → ops[i]? = some o → (fr s).put o.dst v = fr (fun j => if j = i then v else s j))
    (hstep : ∀ i o s V, i < m → ops[i]? = some o → Below W.heap.size W V → (∀ k, depB ops i k = true → Φ k (s k) V) → ∀ Q' : Exit → Act → World → Prop,
      (∀ v V', Below V.heap.size V V' → Φ i v V' → Q' .normal ((fr s).put o.dst v) V') → wpListIn F n Try.prog ops Q' [o] (fr s) V)
    (htail : ∀ s V, Below W.heap.size W V → (∀ k, k < m → Φ k (s k) V) → wpListIn F n Try.prog ops Q (ops.toList.drop m) (fr s) V) : (Code.region id ops true).wpIn F n Try.prog Q a W := by
  refine wpIn_region_tail m hm hb ht hsz fr (fun V => Below W.heap.size W V) (fun V V' => Below V.heap.size V V') Φ h0 hput (Below.refl _ _).drew (fun k v V V' h hg => hmono k v V V' h hg) ?_ htail
  rintro i o s V him ho hV hd Q' hQ'
  exact hstep i o s V him ho hV hd Q' (fun v V' h2 h3 => hQ' v V' (hV.trans (h2.mono hV.size)) h2 h3)
theorem acc_each (L : Nat → Nat) : ∀ n j, j < n → L j ≤ accN L n
  | n + 1, j, h => by
    show L j ≤ accN L n + L n
    by_cases e : j = n
    · subst e; omega
    · have := acc_each L n j (by omega); omega
theorem desk_agg {W : World} {x p : Value} {d : Dk} {base : Nat} (hx : W.ownsRow base 3 1 x d.1.length (d.1.map (Value.int .i64))) (hp : OwnQ W base p d.2) : DeskI W (.agg #[x, p]) d := ⟨x, p, rfl, Ints.of_owns hx, hp.ownSS.past⟩

end Go.Proofs.Ytimnhedjapakhaa
/-
  The laws' helpers over desks that came in: marks over a copy.
-/
namespace Go.Proofs.Ytimnhedjapakhaa
open Go.RowKit

/-- The rows from k on lie as they were, the others have been marked. -/
structure Mkq (W0 : World) (base lim : Nat) (v : Value) (rows : List (List Int)) (us : List Value) (k : Nat) (W : World) : Prop where
  bet : Between base lim W0 W
  own : W.ownsRow base 23 1 v us.length us
  row : ∀ j, k ≤ j → j < rows.length → W.ownsRow base 3 1 (us.getD j undef) (rows.getD j []).length ((rows.getD j []).map (Value.int .i64))

/-- Rows of one's own between two marks. -/
def OwnQL (W : World) (base lim : Nat) (v : Value) (rows : List (List Int)) : Prop :=
  ∃ us : List Value, us.length = rows.length ∧ W.ownsRow base 23 1 v us.length us ∧ (∀ j, j < rows.length → W.ownsRow base 3 1 (us.getD j undef) (rows.getD j []).length ((rows.getD j []).map (Value.int .i64))) ∧
    (∀ i j, i < j → j < rows.length → (us.getD i undef).ownBlock = .none ∨ (us.getD i undef).ownBlock ≠ (us.getD j undef).ownBlock) ∧ ∀ j, j < rows.length → ∀ g, (us.getD j undef).ownBlock = some g → g < lim
theorem OwnQL.of {W : World} {base : Nat} {v : Value} {rows : List (List Int)} (h : OwnQ W base v rows) : OwnQL W base W.heap.size v rows := by
  obtain ⟨us, l, o, r, ne⟩ := h
  exact ⟨us, l, o, r, ne, fun j hj g e => ((r j hj).lt g e).2⟩
theorem OwnQL.ownQ {W : World} {base lim : Nat} {v : Value} {rows : List (List Int)} (h : OwnQL W base lim v rows) : OwnQ W base v rows := by
  obtain ⟨us, l, o, r, ne, _⟩ := h
  exact ⟨us, l, o, r, ne⟩
theorem OwnQL.old {W W' : World} {base lim b : Nat} {v : Value} {rows : List (List Int)} (h : OwnQL W base lim v rows) (hb : b < base) (hg : W.grownBy W' (some b)) : OwnQL W' base lim v rows := by
  obtain ⟨us, l, o, r, ne, hl⟩ := h
  exact ⟨us, l, own_kept o hg (own_old o hb), fun j hj => own_kept (r j hj) hg (own_old (r j hj) hb), ne, hl⟩
theorem OwnQL.rowed {W W' : World} {base lim : Nat} {row : Option Nat} {v : Value} {rows : List (List Int)} (h : OwnQL W base lim v rows) (hg : W.grownBy W' row) (hb : ∀ b, row = some b → b < base) : OwnQL W' base lim v rows := by
  cases row with
  | some b => exact h.old (hb b rfl) hg
  | none =>
    obtain ⟨us, l, o, r, ne, hl⟩ := h
    have hg' : W.grownBy W' (some W.heap.size) := ⟨hg.os, hg.tape, hg.output, hg.size, fun k hk _ => hg.block k hk (by simp)⟩
    exact ⟨us, l, own_kept o hg' (fun e => absurd (o.lt _ e).2 (Nat.lt_irrefl _)), fun j hj => own_kept (r j hj) hg' (fun e => absurd ((r j hj).lt _ e).2 (Nat.lt_irrefl _)), ne, hl⟩
theorem OwnQL.below {W W' : World} {base lim : Nat} {v : Value} {rows : List (List Int)} (h : OwnQL W base lim v rows) (hB : Below W.heap.size W W') : OwnQL W' base lim v rows := by
  obtain ⟨us, l, o, r, ne, hl⟩ := h
  exact ⟨us, l, own_below o hB, fun j hj => own_below (r j hj) hB, ne, hl⟩

set_option maxRecDepth 100000 in
set_option maxHeartbeats 1000000 in
theorem markQ_in {W : World} {base lim : Nat} {v : Value} {rows : List (List Int)} (h : OwnQL W base lim v rows) (hn : rows.length ≤ 1048576) (m : Nat) (hs : m + accN (fun j => (rows.getD j []).length) rows.length ≤ 5000000) :
    Calls Try.prog 57 #[v, .int .i64 m] W fun e w' => e = .returned (.int .i64 ((m + accN (fun j => (rows.getD j []).length) rows.length : Nat) : Int)) ∧ Between base lim W w' := by
  obtain ⟨us, hl, ho, hr, hne, hbs⟩ := h
  obtain ⟨a, c, rfl⟩ := own_form ho
  have hacc : ∀ k, accN (fun j => (rows.getD j []).length) (k + 1) = accN (fun j => (rows.getD j []).length) k + (rows.getD k []).length := fun k => rfl
  have hle : ∀ k, k ≤ rows.length → accN (fun j => (rows.getD j []).length) k ≤ accN (fun j => (rows.getD j []).length) rows.length := fun k hk => by
    obtain ⟨d, hd⟩ : ∃ d, rows.length = k + d := ⟨rows.length - k, by omega⟩
    rw [hd]
    clear hd hk
    induction d with
    | zero => exact Nat.le_refl _
    | succ d ih => exact Nat.le_trans ih (Nat.le_add_right _ _)
  have hM0 : Mkq W base lim (.slice a us.length c) rows us 0 W := ⟨Between.refl _ _ _, ho, fun j _ hj => hr j hj⟩
  clear ho hr
  generalize hA : accN (fun j => (rows.getD j []).length) = A at *
  have hA0 : A 0 = 0 := by rw [← hA]; rfl
  have hAh := hide hA
  clear hA
  obtain ⟨n, hN⟩ : ∃ n, rows.length = n := ⟨_, rfl⟩
  rw [hl] at hM0 ⊢
  rw [hN] at hn hs hle hM0 ⊢
  have hNh := hide hN
  go_enter Try.func57, Try.ntmps57
  go_wp2
  go_loopw [1, 5] (fun q i wr => ∃ k : Nat, k ≤ n ∧ i = .int .i64 k ∧ q = .int .i64 ((m + A k : Nat) : Int) ∧ Mkq W base lim (.slice a n c) rows us k wr) (fun _ i _ => n - (intOf i).toNat)
  case atStart => exact ⟨0, Nat.zero_le _, rfl, by rw [hA0]; rfl, hM0⟩
  case round =>
    clear hM0
    obtain ⟨k, hk, rfl, rfl, hM⟩ := hrel
    by_cases hlt : k < n
    · have hrow := hM.row k (Nat.le_refl _) (by omega)
      have hz := hM.bet.size
      have hMh := hide hM
      have hki : (k : Int) < (n : Int) := by omega
      have hk1 := hle (k + 1) (by omega)
      have hsk := hacc k
      have hskh := hide hsk
      obtain ⟨G, hG⟩ : ∃ G, a = some ⟨G, 0, none⟩ := by
        rcases hM.own.2 with ⟨e, h0⟩ | ⟨g, cap, cur, e, _⟩
        · omega
        · injection e with e1; exact ⟨g, e1⟩
      subst hG
      have hat : wr.cell? ⟨G, k, none⟩ = some (us.getD k undef) := by
        have hown' : wr.ownsRow base 23 1 (.slice (some ⟨G, 0, none⟩) n c) n us := by
          have h := hM.own
          rwa [show us.length = n by omega] at h
        have h1 := hown'.cellAt k (by omega)
        rw [List.getD, List.getElem?_eq_getElem (by omega)]
        rw [List.getElem?_eq_getElem (by omega)] at h1
        exact h1
      by_cases h0 : (rows.getD k []).length = 0
      · have hsh : ∃ ua uc, us.getD k undef = .slice ua 0 uc := by
          obtain ⟨ua, uc, e⟩ := own_form hrow
          exact ⟨ua, uc, by rw [e, h0]⟩
        obtain ⟨ua, uc, hu⟩ := hsh
        rw [hu] at hat
        have hMk := mark_none ua uc (m + A k) wr
        have hnew : Mkq W base lim (.slice (some ⟨G, 0, none⟩) n c) rows us (k + 1) wr := ⟨hM.bet, hM.own, fun j hj hj2 => hM.row j (by omega) hj2⟩
        have hAe : A (k + 1) = A k := by rw [hsk, h0]; rfl
        have hnewh := hide hnew
        have hAk : A k ≤ 5000000 := by omega
        have hAeh := hide hAe
        clear hnew hAe hu hrow hMh hM hacc hle hk1 hsk hne hN
        generalize A k = Ak at *
        obtain ⟨T, hT⟩ : ∃ T, m + Ak = T := ⟨_, rfl⟩
        rw [hT] at hMk ⊢
        go_wp2_with (go_at_call 56; go_loud ((with_reducible refine hMk.mono ?_); clear hMk; rintro e w2 ⟨rfl, rfl⟩))
        go_roundw
        case rel => exact ⟨k + 1, by omega, by go_num, by rw [hAeh.out, hT], hnewh.out⟩
        case measure => simp [intOf]; omega
      · obtain ⟨g, cap, hu, hgb, hra⟩ := RowAt.of_owns hrow (by omega)
        rw [hu] at hat
        have hMk := mark_in g cap (rows.getD k []) _ _ wr (by omega) (Nat.le_refl _) hra (m + A k) (by omega)
        have hgl := hra.lt
        have hnew : ∀ w2, wr.grownBy w2 (some g) → g < lim → Mkq W base lim (.slice (some ⟨G, 0, none⟩) n c) rows us (k + 1) w2 := fun w2 hg2 hgW => by
          have hM := hMh.out
          refine ⟨⟨hg2.os.trans hM.bet.os, hg2.tape.trans hM.bet.tape, hg2.output.trans hM.bet.output, Nat.le_trans hM.bet.size hg2.size, fun q hq hout => (hg2.block q (Nat.lt_of_lt_of_le hq hM.bet.size) (fun e => by injection e with e; omega)).trans (hM.bet.block q hq hout)⟩, hM.own.kept hg2 ?_, fun j hj hj2 => (hM.row j (by omega) hj2).kept hg2 ?_⟩
          · rcases own_apart (hM.row k (Nat.le_refl _) (by omega)) hM.own with h3 | h3
            · rw [hu] at h3; simp [Value.ownBlock] at h3
            · rw [hu] at h3
              exact .inr (fun e => h3 (by rw [e]; rfl))
          · rcases hne k j (by omega) hj2 with h3 | h3
            · rw [hu] at h3; simp [Value.ownBlock] at h3
            · rw [hu] at h3
              exact .inr (fun e => h3 (by rw [e]; rfl))
        have hgW := hbs k (by omega) g (by rw [hu]; rfl)
        have hAk : A k ≤ 5000000 := by omega
        have hLk : (rows.getD k []).length ≤ 5000000 := by omega
        have hnewh := hide hnew
        clear hnew hu hrow hMh hM hacc hle hk1 hsk hne hN hra h0 hbs
        generalize (rows.getD k []).length = L at *
        generalize A k = Ak at *
        obtain ⟨T, hT⟩ : ∃ T, m + Ak = T := ⟨_, rfl⟩
        rw [hT] at hMk ⊢
        go_wp2_with (go_at_call 56; go_loud ((with_reducible refine hMk.mono ?_); clear hMk; rintro e w2 ⟨rfl, _, hg2⟩; have hM2 := hnewh.out w2 hg2 hgW))
        go_roundw
        case rel => exact ⟨k + 1, by omega, by go_num, by rw [hskh.out, ← Nat.add_assoc, hT, Int.natCast_add], hM2⟩
        case measure => simp [intOf]; omega
    · obtain rfl : k = n := by omega
      have hki : ¬ ((k : Nat) : Int) < (k : Int) := by omega
      have hMh := hide hM
      clear hM hacc hle hne
      go_wp2
      go_ret
      exact ⟨rfl, hMh.out.bet⟩

/-- A copy of a desk that came in: its row below the rows of before, all between two marks. -/
def OwnA (W : World) (base lim : Nat) (v : Value) (d : Dk) : Prop :=
  ∃ mid x p, v = .agg #[x, p] ∧ base ≤ mid ∧ mid ≤ lim ∧ lim ≤ W.heap.size ∧ W.ownsRow base 3 1 x d.1.length (d.1.map (Value.int .i64)) ∧ (∀ g, x.ownBlock = some g → g < mid) ∧ OwnQL W mid lim p d.2
theorem OwnA.deskI {W : World} {base lim : Nat} {v : Value} {d : Dk} (h : OwnA W base lim v d) : DeskI W v d := by
  obtain ⟨mid, x, p, rfl, hm, _, _, h1, _, h2⟩ := h
  exact desk_agg h1 (h2.ownQ.down hm)
theorem OwnA.below {W W' : World} {base lim : Nat} {v : Value} {d : Dk} (h : OwnA W base lim v d) (hB : Below W.heap.size W W') : OwnA W' base lim v d := by
  obtain ⟨mid, x, p, rfl, h0, h1, h2, h3, h4, h5⟩ := h
  exact ⟨mid, x, p, rfl, h0, h1, Nat.le_trans h2 hB.size, own_below h3 hB, h4, h5.below hB⟩
theorem OwnA.cap {W : World} {base lim : Nat} {v : Value} {d : Dk} (h : OwnA W base lim v d) : CapP v := by
  obtain ⟨mid, x, p, rfl, _, _, _, _, _, us, _, ho, _⟩ := h
  obtain ⟨a, c, rfl⟩ := own_form ho
  refine CapP.of ?_
  rcases ho.2 with ⟨e, h0⟩ | ⟨b, cap, cur, e, _, _, hc, _⟩
  · injection e with _ e2 e3; omega
  · injection e with _ e2 e3; omega
theorem OwnA.form {W : World} {base lim : Nat} {v : Value} {d : Dk} (h : OwnA W base lim v d) : ∃ a b c e, v = .agg #[.slice a d.1.length b, .slice c d.2.length e] := by
  obtain ⟨mid, x, p, rfl, _, _, _, h1, _, h2⟩ := h
  obtain ⟨a, b, rfl⟩ := own_form h1
  obtain ⟨c, e, rfl⟩ := h2.ownQ.ownSS.form
  exact ⟨_, _, _, _, rfl⟩

set_option maxRecDepth 100000 in
set_option maxHeartbeats 1000000 in
theorem markA_in {W : World} {base lim : Nat} {v : Value} {d : Dk} (h : OwnA W base lim v d) (hn : d.1.length ≤ 1048576) (hm : d.2.length ≤ 1048576) (hs : accN (fun j => (d.2.getD j []).length) d.2.length ≤ 1048576) (k : Nat) (hk : k ≤ 1000000) :
    Calls Try.prog 25 #[v, .int .i64 k] W fun e w' => e = .returned (.int .i64 ((k + d.1.length + accN (fun j => (d.2.getD j []).length) d.2.length : Nat) : Int)) ∧ Between base lim W w' := by
  obtain ⟨xa, xc, pa, pc, hv⟩ := h.form
  obtain ⟨mid, x, p, rfl, h0, h1, h2, h3, h4, h5⟩ := h
  injection hv with hv
  simp at hv
  obtain ⟨rfl, rfl⟩ := hv
  have hB := (Below.refl _ W).alloc (Nat.le_refl _) (.cells #[.slice xa d.1.length xc, .slice pa d.2.length pc] 26)
  have k0 := World.alloc_heap_new W (.cells #[.slice xa d.1.length xc, .slice pa d.2.length pc] 26)
  have hs1 := World.size_alloc W (.cells #[.slice xa d.1.length xc, .slice pa d.2.length pc] 26)
  obtain ⟨W1, hW1⟩ : ∃ W1, W.alloc (.cells #[.slice xa d.1.length xc, .slice pa d.2.length pc] 26) = W1 := ⟨_, rfl⟩
  rw [hW1] at hB k0 hs1
  have hI : OwnI W1 base mid (.slice xa d.1.length xc) d.1.length (fun i => d.1.getD i 0) := by
    have hr := own_below h3 hB
    by_cases hp : 0 < d.1.length
    · obtain ⟨g, cap, e, hb, hra⟩ := RowAt.of_owns hr hp
      exact .inr ⟨g, cap, e, hb, h4 g (by rw [e]; rfl), hra⟩
    · exact .inl ⟨by omega, xa, xc, by rw [show d.1.length = 0 by omega]⟩
  have hM := mark_own hI (by omega) k (by omega)
  have hG1 := h5.below hB
  obtain ⟨c0, c1, _, _⟩ := row_at k0
  have hs2 := Nat.le_of_eq hs1
  have hs' := Nat.le_of_eq hs1.symm
  clear h3 h5 hs1 hI
  have hkn : ((k + d.1.length : Nat) : Int) = (k : Int) + (d.1.length : Int) := by omega
  go_enter Try.func25, Try.ntmps25
  go_wp2_with (first
    | (go_at_call 56; go_loud (refine hM.mono ?_; clear hM; rintro e W2 ⟨rfl, _, row, hg2, hr2⟩; have k2 := (hg2.block _ (Array.getElem?_eq_some_iff.1 k0).1 (fun e => (by have := hr2 _ e.symm; omega))).trans k0; obtain ⟨c0, c1, _, _⟩ := row_at k2; have hG2 := hG1.rowed hg2 (fun j e => (hr2 j e).2); have hS := markQ_in hG2 (by omega) (k + d.1.length) (by omega)))
    | (go_at_call 57; go_loud (refine hS.mono ?_; clear hS; rintro e W3 ⟨rfl, hbt⟩)))
  go_ret
  refine ⟨rfl, (hbt.os.trans hg2.os).trans hB.os, (hbt.tape.trans hg2.tape).trans hB.tape, (hbt.output.trans hg2.output).trans hB.output, Nat.le_trans hB.size (Nat.le_trans hg2.size hbt.size), fun q hq ho => ?_⟩
  have q1 := hB.block q hq
  have hq1 : q < W1.heap.size := Nat.lt_of_lt_of_le hq hB.size
  have q2 := hg2.block q hq1 (fun e => by have := hr2 q e.symm; omega)
  have q3 := hbt.block q (Nat.lt_of_lt_of_le hq1 hg2.size) (by omega)
  exact q3.trans (q2.trans q1)
end Go.Proofs.Ytimnhedjapakhaa
/-
  The laws' helpers over desks: marks over a desk of one's own change no block but those of its rows.
-/
namespace Go.Proofs.Ytimnhedjapakhaa
open Go.RowKit

/-- A block of ints. -/
def IntB (W : World) (k : Nat) : Prop := ∃ cur, W.heap[k]? = some (.cells cur 3 (0, 0))
theorem RowAt.isInt {W : World} {g n : Nat} {f : Nat → Int} (h : RowAt W g n f) : IntB W g := by
  obtain ⟨cur, h1, _⟩ := h
  exact ⟨cur, h1⟩
/-- What changes between two marks alone, and only blocks of ints. -/
structure BetI (base lim : Nat) (W W' : World) : Prop where
  os : W'.os = W.os
  tape : W'.tape = W.tape
  output : W'.output = W.output
  size : W.heap.size ≤ W'.heap.size
  block : ∀ k, k < W.heap.size → (k < base ∨ lim ≤ k ∨ ¬ IntB W k) → W'.heap[k]? = W.heap[k]?
theorem BetI.bet {base lim : Nat} {W W' : World} (h : BetI base lim W W') : Between base lim W W' := ⟨h.os, h.tape, h.output, h.size, fun k hk ho => h.block k hk (by omega)⟩
theorem BetI.refl (base lim : Nat) (W : World) : BetI base lim W W := ⟨rfl, rfl, rfl, Nat.le_refl _, fun _ _ _ => rfl⟩
/-- A block of ints was one before. -/
theorem int_back {base lim : Nat} {W W' : World} {k : Nat} (h : BetI base lim W W') (hk : IntB W' k) (hl : k < W.heap.size) : IntB W k := by
  by_cases e : IntB W k
  · exact e
  · obtain ⟨cur, hc⟩ := hk
    exact ⟨cur, (h.block k hl (.inr (.inr e))).symm.trans hc⟩
theorem BetI.row {base lim : Nat} {W W' W2 : World} {g : Nat} (h : BetI base lim W W') (hg : W'.grownBy W2 (some g)) (hb : base ≤ g ∧ g < lim) (hi : IntB W g) : BetI base lim W W2 :=
  ⟨hg.os.trans h.os, hg.tape.trans h.tape, hg.output.trans h.output, Nat.le_trans h.size hg.size, fun k hk ho => (hg.block k (Nat.lt_of_lt_of_le hk h.size) (fun e => by
    injection e with e
    subst e
    rcases ho with ho | ho | ho
    · omega
    · omega
    · exact ho hi)).trans (h.block k hk ho)⟩
theorem mark_ownI {W : World} {base lim n : Nat} {v : Value} {f : Nat → Int} (h : OwnI W base lim v n f) (hn : n ≤ 10000000) (m : Nat) (hm : m ≤ 10000000) :
    Calls Try.prog 56 #[v, .int .i64 m] W fun e w' => e = .returned (.int .i64 ((m + n : Nat) : Int)) ∧ OwnI w' base lim v n (fun i => ((m + i : Nat) : Int)) ∧ ∃ row, W.grownBy w' row ∧ (∀ k, row = some k → base ≤ k ∧ k < lim) ∧ ∀ k, row = some k → IntB W k := by
  rcases h with ⟨h0, a, c, rfl⟩ | ⟨g, cap, rfl, h1, h2, h3⟩
  · exact (mark_none a c m W).mono fun e w' ⟨he, hw⟩ => ⟨by rw [he, h0]; rfl, .inl ⟨h0, a, c, rfl⟩, none, hw ▸ grownBy_refl _ _, (fun _ e => by cases e), (fun _ e => by cases e)⟩
  · have hxs : ((List.range n).map f).length = n := by simp
    have h := mark_in g cap ((List.range n).map f) n f W (by omega) (by omega) h3 m hm
    rw [hxs] at h
    exact h.mono fun e w' ⟨he, hr, hg⟩ => ⟨he, .inr ⟨g, cap, rfl, h1, h2, hr.congr (fun i hi => by rw [if_pos hi])⟩, some g, hg, (fun k e => by cases e; exact ⟨h1, h2⟩), (fun k e => by cases e; exact h3.isInt)⟩

set_option maxHeartbeats 1000000 in
theorem markSSI_in {W : World} {base lim n : Nat} {v : Value} {L : Nat → Nat} {F : Nat → Nat → Int} (h : OwnG W base lim v n L F) (hL : ∀ j, j < n → L j ≤ 100) (hn : n ≤ 100) (m : Nat) (hm : m ≤ 1000) :
    Calls Try.prog 57 #[v, .int .i64 m] W fun e w' => e = .returned (.int .i64 ((m + accN L n : Nat) : Int)) ∧ OwnG w' base lim v n L (fun j i => ((m + accN L j + i : Nat) : Int)) ∧ BetI base lim W w' := by
  rcases h with ⟨rfl, a, c, rfl⟩ | ⟨G, cap, b, cb, rfl, hg⟩
  · go_enter Try.func57, Try.ntmps57
    go_wp2
    refine wp_loop_rounds 1 ?_
    rw [rounds_succ]
    go_wp2
    go_ret
    exact ⟨rfl, .inl ⟨rfl, _, _, rfl⟩, BetI.refl _ _ _⟩
  · have hacc := accN_le hL
    have hgl := fun k (hk : k < n) => (hg.row k hk).lt
    have hstep : ∀ k, accN L (k + 1) = accN L k + L k := fun k => rfl
    go_enter Try.func57, Try.ntmps57
    go_wp2
    go_loopw [1, 5] (fun q i wr => ∃ k : Nat, k ≤ n ∧ i = .int .i64 k ∧ q = .int .i64 ((m + accN L k : Nat) : Int) ∧ Grid wr base lim G n b cb L (fun j i => if j < k then ((m + accN L j + i : Nat) : Int) else F j i) ∧ BetI base lim W wr) (fun _ i _ => n - (intOf i).toNat)
    case atStart => exact ⟨0, Nat.zero_le _, rfl, rfl, by simpa using hg, BetI.refl _ _ _⟩
    case round =>
      clear hg
      obtain ⟨k, hk, rfl, rfl, hgr, hbt⟩ := hrel
      by_cases hlt : k < n
      · have hat := hgr.at_ k hlt
        have hrow := hgr.row k hlt
        have hLk := hL k hlt
        have hak := hacc k hk
        have hM := mark_in (b k) (cb k) (List.replicate (L k) 0) (L k) _ wr (by simp; omega) (by simp) hrow (m + accN L k) (by omega)
        simp only [List.length_replicate] at hM
        have hrb := hgr.rb k hlt
        have hint := int_back hbt hrow.isInt (hgl k hlt)
        have hki : (k : Int) < (n : Int) := by omega
        have hsk := hide (hstep k)
        have hGs := hgr.gb
        clear hacc hstep hL hrow
        obtain ⟨A, hA⟩ : ∃ A, m + accN L k = A := ⟨_, rfl⟩
        rw [hA] at hM ⊢
        go_wp2_with (go_at_call 56; (with_reducible refine hM.mono ?_); clear hM; rintro e w2 ⟨rfl, hr2, hg2⟩)
        go_roundw
        case rel =>
          refine ⟨k + 1, by omega, by go_num, by rw [hsk.out, ← Nat.add_assoc, hA, Int.natCast_add], ?_, hbt.row hg2 (by omega) hint⟩
          refine hgr.set hlt hg2 (hr2.congr fun i hi => ?_) (fun j hj => ?_)
          · rw [if_pos hi, if_pos (by omega), hA]
          · funext i
            by_cases e : j < k
            · rw [if_pos e, if_pos (by omega)]
            · rw [if_neg e, if_neg (by omega)]
        case measure => simp [intOf]; omega
      · obtain rfl : k = n := by omega
        clear hacc hstep hL
        go_wp2
        go_ret
        refine ⟨rfl, .inr ⟨G, cap, b, cb, rfl, ⟨hgr.gb, hgr.at_, hgr.rb, fun j hj => (hgr.row j hj).congr fun i _ => by rw [if_pos hj], hgr.ne⟩⟩, hbt⟩

set_option maxRecDepth 100000 in
set_option maxHeartbeats 1000000 in
theorem markDeskI_in {W : World} {base mid lim n m : Nat} {v : Value} {f : Nat → Int} {L : Nat → Nat} {F : Nat → Nat → Int} (h : OwnD W base mid lim v n f m L F) (hn : n ≤ 100) (hL : ∀ j, j < m → L j ≤ 100) (hm : m ≤ 100) (k : Nat) (hk : k ≤ 500) :
    Calls Try.prog 25 #[v, .int .i64 k] W fun e w' => e = .returned (.int .i64 ((k + n + accN L m : Nat) : Int)) ∧ OwnD w' base mid lim v n (fun i => ((k + i : Nat) : Int)) m L (fun j i => ((k + n + accN L j + i : Nat) : Int)) ∧ BetI base lim W w' := by
  obtain ⟨xa, xc, pa, pc, hv⟩ := h.form
  obtain ⟨x, p, rfl, h2, h3, h4, h5, h6⟩ := h
  injection hv with hv
  simp at hv
  obtain ⟨rfl, rfl⟩ := hv
  have hB := (Below.refl _ W).alloc (Nat.le_refl _) (.cells #[.slice xa n xc, .slice pa m pc] 26)
  have k0 := World.alloc_heap_new W (.cells #[.slice xa n xc, .slice pa m pc] 26)
  have hs1 := World.size_alloc W (.cells #[.slice xa n xc, .slice pa m pc] 26)
  obtain ⟨W1, hW1⟩ : ∃ W1, W.alloc (.cells #[.slice xa n xc, .slice pa m pc] 26) = W1 := ⟨_, rfl⟩
  rw [hW1] at hB k0 hs1
  have hM := mark_ownI (h5.below hB) (by omega) k (by omega)
  have hG1 := h6.below hB
  obtain ⟨c0, c1, _, _⟩ := row_at k0
  have hs := Nat.le_of_eq hs1
  have hs' := Nat.le_of_eq hs1.symm
  clear h5 h6 hs1
  have hkn : ((k + n : Nat) : Int) = (k : Int) + (n : Int) := by omega
  go_enter Try.func25, Try.ntmps25
  go_wp2_with (first
    | (go_at_call 56; go_loud (refine hM.mono ?_; clear hM; rintro e W2 ⟨rfl, hI2, row, hg2, hr2, ht2⟩; have k2 := (hg2.block _ (Array.getElem?_eq_some_iff.1 k0).1 (fun e => (by have := hr2 _ e.symm; omega))).trans k0; obtain ⟨c0, c1, _, _⟩ := row_at k2; have hG2 := hG1.grown hg2 (fun j e => (by have := hr2 j e; omega)); have hS := markSSI_in hG2 hL hm (k + n) (by omega)))
    | (go_at_call 57; go_loud (refine hS.mono ?_; clear hS; rintro e W3 ⟨rfl, hG3, hbt⟩)))
  go_ret
  have h23 : BetI base lim W W3 := by
    refine ⟨(hbt.os.trans hg2.os).trans hB.os, (hbt.tape.trans hg2.tape).trans hB.tape, (hbt.output.trans hg2.output).trans hB.output, Nat.le_trans hB.size (Nat.le_trans hg2.size hbt.size), fun q hq ho => ?_⟩
    have q1 := hB.block q hq
    have hq1 : q < W1.heap.size := Nat.lt_of_lt_of_le hq hB.size
    have hne : row ≠ some q := fun e => by
      rcases ho with ho | ho | ho
      · have := hr2 q e; omega
      · have := hr2 q e; omega
      · obtain ⟨cur, hc⟩ := ht2 q e
        exact ho ⟨cur, q1.symm.trans hc⟩
    have q2 := hg2.block q hq1 (fun e => hne e.symm)
    have q3 := hbt.block q (Nat.lt_of_lt_of_le hq1 hg2.size) (by
      rcases ho with ho | ho | ho
      · exact .inl (by omega)
      · exact .inr (.inl ho)
      · exact .inr (.inr fun ⟨cur, hc⟩ => ho ⟨cur, (q2.trans q1).symm.trans hc⟩))
    exact q3.trans (q2.trans q1)
  exact ⟨rfl, ⟨_, _, rfl, h2, h3, Nat.le_trans h4 h23.size, hI2.between hbt.bet (.inl (Nat.le_refl _)), hG3⟩, h23⟩

end Go.Proofs.Ytimnhedjapakhaa
/-
  The laws' helpers over deeds that came in: copies of them, their sizes, and marks over such copies.
-/
namespace Go.Proofs.Ytimnhedjapakhaa
open Go.RowKit

theorem toDeed_in (k n : Int) (w : World) : Calls Try.prog 23 #[dV k n] w fun e w' => e = .returned (dV k n) ∧ Below w.heap.size w w' := by
  unfold dV
  go_enter Try.func23, Try.ntmps23
  go_wp2
  have hb : (((w.alloc (.cells #[.int .i64 k, .int .i64 n] 45)).alloc (.cells #[.int .i64 k, .int .i64 n] 32)).alloc (.cells #[.int .i64 k, .int .i64 n] 32)).heap[w.heap.size + 1]? = some (.cells #[.int .i64 k, .int .i64 n] 32 (0, 0)) := by
    have h1 := World.alloc_heap_new (w.alloc (.cells #[.int .i64 k, .int .i64 n] 45)) (.cells #[.int .i64 k, .int .i64 n] 32)
    rw [World.size_alloc] at h1
    exact (Below.heap_alloc _ _ _ (Array.getElem?_eq_some_iff.1 h1).1).trans h1
  exact bodyPost_ret (results_cell_row rfl _ _ (w.heap.size + 1) _ #[.int .i64 k, .int .i64 n] (0, 0) _ rfl hb Try.underlying32 rfl (by kernel_rfl)) rfl ⟨rfl, (((Below.refl _ w).alloc (Nat.le_refl _) _).alloc (by simp) _).alloc (by simp; omega) _⟩
theorem own_shape {w : World} {base n size : Nat} {e : TypeId} {v : Value} {xs : List Value} (h : w.ownsRow base e size v n xs) : ∃ a c, v = .slice a n c := by
  rcases h.2 with ⟨rfl, hn⟩ | ⟨g, cap, cur, rfl, _⟩
  · exact ⟨_, 0, by rw [hn]⟩
  · exact ⟨_, _, rfl⟩
theorem DeedsI.none (w : World) (a : Option Addr) (c : Nat) : DeedsI w (.slice a 0 c) [] := ⟨a, c, rfl, fun h => absurd h (Nat.lt_irrefl 0)⟩
theorem DeedsI.grown {w w' : World} {v : Value} {L : List (Int × Int)} {g : Nat} (h : DeedsI w v L) (hg : w.grownBy w' (some g)) (hne : v.ownBlock ≠ some g) : DeedsI w' v L := by
  obtain ⟨a, c, rfl, h⟩ := h
  refine ⟨a, c, rfl, fun h0 => ?_⟩
  obtain ⟨b, o, rfl, hb, hc⟩ := h h0
  have hbg : b ≠ g := fun e => hne (by rw [e]; rfl)
  exact ⟨b, o, rfl, Nat.lt_of_lt_of_le hb hg.size, fun k hk => ⟨hg.cell (hc k hk).1 (by simp; exact hbg), hg.cell (hc k hk).2 (by simp; exact hbg)⟩⟩
/-- 'make([]Deed, n)': a block of noughts. -/
theorem make_deeds (w : World) {ops : Array Oper} {rest : List Oper} {o : Oper} {a : Act} {Q : Exit → Act → World → Prop}
    (hg : o.guard = none) (l c : Operand) (hop : o.op = Op.makeSlice 39 l c) (L C : Int) (N : Nat) (hl : a.eval l = .int .i64 L) (hc : a.eval c = .int .i64 C) (hL : L = (N : Int)) (hC : C = (N : Int)) (hN : N ≤ 10000000)
    (hK : ∀ w', BlkAt w' w.heap.size 32 (N * 2) (intsV (N * 2) fun _ => 0) → w.grownBy w' none → wpList Try.prog ops Q rest (a.put o.dst (.slice (some ⟨w.heap.size, 0, none⟩) N N)) w') :
    wpList Try.prog ops Q (o :: rest) a w := by
  obtain ⟨i0, hi, hz0, hz1, hz2⟩ := info_any Try.infoDeed
  refine wpList_plain hg fun K hK' => ?_
  obtain ⟨w', hrun, r1, r2⟩ := run_make_full (P := Try.prog) w w.heap.size 39 32 i0 (.agg #[.int .i64 0, .int .i64 0]) 2 Try.underlying39 hi hz0 hz1 .i64 .i64 N (by rw [hz2]; omega) (by unfold maxLen; omega) (Nat.le_refl _)
  subst hL
  subst hC
  unfold Oper.wp
  simp [execOp, hop, hl, hc, hrun, Result.andThen]
  refine hK' _ _ (hK w' ?_ r2)
  obtain ⟨hlen, hv⟩ := r1
  rcases hv with ⟨h, _⟩ | ⟨g, cap, cur, h, _, hgb, _, _, hs, ht⟩
  · cases h
  · cases h
    refine ⟨cur, hgb, by omega, fun i v hi' => ?_⟩
    have h1 : cur.toList.take (N * 2) = cur.toList := List.take_of_length_le (by simp; omega)
    unfold intsV at hi'
    split at hi'
    · rename_i hlt
      rw [h1] at ht
      rw [← Array.getElem?_toList, ht, Array.getElem?_toList]
      have : i % 2 = 0 ∨ i % 2 = 1 := by omega
      rcases this with e | e <;> simpa [madeCells, Value.cells, hlt, e] using hi'
    · cases hi'
theorem BlkAt.deeds {w : World} {g base : Nat} {L : List (Int × Int)} (h : BlkAt w g 32 (L.length * 2) (intsV (L.length * 2) (numD L))) (hb : base ≤ g) (hN : L.length ≤ 10000000) :
    w.ownsRow base 32 2 (.slice (some ⟨g, 0, none⟩) L.length L.length) L.length (cellsD L) := by
  obtain ⟨cur, h1, h2, h3⟩ := h
  refine ⟨cellsD_len L, .inr ⟨g, L.length, cur, rfl, hb, h1, Nat.le_refl _, by unfold maxLen; omega, h2, ?_⟩⟩
  have ht : cur.toList.take (L.length * 2) = cur.toList := List.take_of_length_le (by simp; omega)
  rw [ht]
  apply List.ext_getElem?
  intro i
  by_cases hi : i < L.length * 2
  · rw [Array.getElem?_toList, h3 i _ (intsV_at hi), numD_at L i hi]
  · rw [List.getElem?_eq_none (by simp; omega), List.getElem?_eq_none (by rw [cellsD_len]; omega)]
set_option maxHeartbeats 1000000 in
theorem toDeedS_in (W0 : World) (v : Value) (L : List (Int × Int)) (w : World) (h : DeedsI W0 v L) (hB : Below W0.heap.size W0 w) (hl : L.length ≤ 2000000) :
    Calls Try.prog 28 #[v] w fun e w' => ∃ r, e = .returned r ∧ w'.ownsRow w.heap.size 32 2 r L.length (cellsD L) ∧ Below w.heap.size w w' := by
  obtain ⟨a, c, rfl, hc⟩ := h
  obtain ⟨n, hn⟩ : ∃ n, L.length = n := ⟨_, rfl⟩
  have hfin := hide (fun (W : World) (hW : BlkAt W w.heap.size 32 (L.length * 2) (intsV (L.length * 2) (numD L))) => hW.deeds (base := w.heap.size) (Nat.le_refl _) (by omega))
  have hat := hide (fun k (hk : k < L.length) => cellsD_at L k hk)
  have hnum := hide (fun i (hi : i < L.length * 2) => numD_at L i hi)
  rw [hn] at hl hc ⊢
  have hn' := hide hn
  clear hn
  go_enter Try.func28, Try.ntmps28
  go_wp2_with (refine make_deeds _ rfl _ _ rfl _ _ n rfl rfl rfl rfl (by omega) ?_; intro w1 hb1 hg1)
  have hst : BlkAt w1 w.heap.size 32 (n * 2) (intsV (n * 2) fun i => if i < 0 * 2 then numD L i else 0) := hb1.congrK (fun i _ => by rw [if_neg (by omega)])
  have hBs : Below w.heap.size w w1 := (Below.refl _ w).grown hg1 (Nat.le_refl _) (fun _ e => by cases e)
  clear hb1 hg1
  go_loopw [4] (fun i wr => ∃ k : Nat, k ≤ n ∧ i = .int .i64 k ∧ BlkAt wr w.heap.size 32 (n * 2) (intsV (n * 2) fun i => if i < k * 2 then numD L i else 0) ∧ Below w.heap.size w wr) (fun i _ => n - (intOf i).toNat)
  case atStart => exact ⟨0, by omega, rfl, hst, hBs⟩
  case round =>
    clear hst hBs
    obtain ⟨k, hk, rfl, hb, hBw⟩ := hrel
    by_cases hlt : k < n
    · obtain ⟨b, off, rfl, hbW, hcells⟩ := hc (by omega)
      have hki : (k : Int) < (n : Int) := by omega
      obtain ⟨x1, x2⟩ := hcells k hlt
      have hw0 : b < w.heap.size := Nat.lt_of_lt_of_le hbW hB.size
      have d1 := (hBw.cell (p := ⟨b, off + k * 2, none⟩) hw0).trans ((hB.cell (p := ⟨b, off + k * 2, none⟩) hbW).trans x1)
      have d2 := (hBw.cell (p := ⟨b, off + k * 2 + 1, none⟩) hw0).trans ((hB.cell (p := ⟨b, off + k * 2 + 1, none⟩) hbW).trans x2)
      have hT := fun V => toDeed_in (L.getD k (0, 0)).1 (L.getD k (0, 0)).2 V
      have hx := hat.out k (by rw [hn'.out]; exact hlt)
      have hn1 := hnum.out (2 * k) (by rw [hn'.out]; omega)
      have hn2 := hnum.out (2 * k + 1) (by rw [hn'.out]; omega)
      rw [hx.1] at hn1
      rw [hx.2] at hn2
      have e1 : (L.getD k (0, 0)).1 = numD L (k * 2) := by injection hn1 with hn1; injection hn1 with _ hn1; rw [hn1, Nat.mul_comm]
      have e2 : (L.getD k (0, 0)).2 = numD L (k * 2 + 1) := by injection hn2 with hn2; injection hn2 with _ hn2; rw [hn2, Nat.mul_comm]
      rw [e1, e2] at hT
      rw [e1] at d1
      rw [e2] at d2
      unfold dV at hT
      have hx1 := hide (show ∀ i, i < n * 2 → (if i < (k + 1) * 2 then numD L i else 0) = (if i = k * 2 + 1 then numD L (k * 2 + 1) else if i = k * 2 then numD L (k * 2) else if i < k * 2 then numD L i else 0) from fun i hi => by
        by_cases q1 : i = k * 2 + 1
        · subst q1; rw [if_pos (by omega), if_pos rfl]
        · rw [if_neg q1]
          by_cases q2 : i = k * 2
          · subst q2; rw [if_pos (by omega), if_pos rfl]
          · rw [if_neg q2]
            by_cases q3 : i < k * 2
            · rw [if_pos q3, if_pos (by omega)]
            · rw [if_neg q3, if_neg (by omega)])
      obtain ⟨y1, hy1⟩ : ∃ y, numD L (k * 2) = y := ⟨_, rfl⟩
      obtain ⟨y2, hy2⟩ : ∃ y, numD L (k * 2 + 1) = y := ⟨_, rfl⟩
      rw [hy1] at d1 hT hx1
      rw [hy2] at d2 hT hx1
      clear hc hcells hx hn1 hn2 e1 e2 x1 x2 hy1 hy2 hB
      go_wp2_with (go_at_call 23; refine (hT _).mono ?_; clear hT; go_loud (rintro e w3 ⟨rfl, hB3⟩; have hb3 := hb.of_block (hB3.block _ hb.lt); have f1 := hb3.frozen (k * 2); have c1 := hb3.cell (i := k * 2) (intsV_at (by omega)); have hb4 := hb3.setK (p := k * 2) y1 (by omega) (Nat.le_refl _); have f2 := hb4.frozen (k * 2 + 1); have c2 := hb4.cell (i := k * 2 + 1) (intsV_at (by omega)); have f3 := hb3.frozen (k * 2 + 1); have c3 := hb3.cell (i := k * 2 + 1) (intsV_at (by omega))))
      go_roundw
      case rel =>
        refine ⟨k + 1, by omega, by go_num, (hb4.setK (p := k * 2 + 1) y2 (by omega) (Nat.le_refl _)).congrK hx1.out, ?_⟩
        have q := hBw.trans (hB3.mono hBw.size)
        exact (q.setCell (p := ⟨w.heap.size, k * 2, none⟩) (Nat.le_refl _) _).setCell (p := ⟨w.heap.size, k * 2 + 1, none⟩) (Nat.le_refl _) _
      case measure => simp [intOf]; omega
    · obtain rfl : k = n := by omega
      have hki : ¬ ((k : Nat) : Int) < (k : Int) := by omega
      have hown := hfin.out wr (by rw [hn'.out]; exact hb.congrK (fun i hi => by rw [if_pos hi]))
      rw [hn'.out] at hown
      clear hc hb
      go_wp2
      go_ret
      exact ⟨_, rfl, hown, hBw⟩
theorem szDeedS_in (a : Option Addr) (n c : Nat) (left : Int) (w : World) (h1 : -1 ≤ left) (h2 : left ≤ 2000000) (hn : n ≤ 2000000) : Calls Try.prog 27 #[.slice a n c, .int .i64 left] w fun e w' => e = .returned (.int .i64 (if left - n < 0 then -1 else left - n)) ∧ w = w' := by
  by_cases h : left - (n : Int) < 0
  · rw [if_pos h]
    go_enter Try.func27, Try.ntmps27
    go_wp2
    go_ret
    exact ⟨rfl, rfl⟩
  · rw [if_neg h]
    go_enter Try.func27, Try.ntmps27
    go_wp2
    go_ret
    exact ⟨rfl, rfl⟩
theorem szDeedS_big (a : Option Addr) (n c : Nat) (w : World) (hn : 1048576 < n) (hn2 : n ≤ 9223372036854775807) : Calls Try.prog 27 #[.slice a n c, .int .i64 1048576] w fun e w' => e = .returned (.int .i64 (-1)) ∧ w = w' := by
  have h : (1048576 : Int) - (n : Int) < 0 := by omega
  go_enter Try.func27, Try.ntmps27
  go_wp2
  go_ret
  exact ⟨rfl, rfl⟩

/-- Marks over a copy of deeds that came in change no block but the copy's. -/
theorem markDeedsA_in {W : World} {base lim : Nat} {r : Value} {L : List (Int × Int)} (h : W.ownsRow base 32 2 r L.length (cellsD L)) (hl : ∀ g, r.ownBlock = some g → g < lim) (hn : L.length ≤ 2000000) (m : Nat) (hm : m ≤ 1000000000) :
    Calls Try.prog 30 #[r, .int .i64 m] W fun e w' => e = .returned (.int .i64 ((m + L.length * 2 : Nat) : Int)) ∧ Between base lim W w' := by
  by_cases h0 : 0 < L.length
  · obtain ⟨g, cap, rfl, hb, hc, hk⟩ := blk_deeds h h0
    have hg := hl g rfl
    exact (markDeeds_in g L.length cap (cap * 2) m _ W (by omega) (by omega) hm hk).mono fun e w' ⟨h1, _, h3⟩ => ⟨h1, h3.os, h3.tape, h3.output, h3.size, fun k hk ho => h3.block k hk (fun e => by injection e with e; omega)⟩
  · obtain ⟨a, c, rfl⟩ := own_shape h
    rw [show L.length = 0 by omega]
    exact (markDeeds_none a c m W).mono fun e w' ⟨h1, h2⟩ => ⟨h1, h2 ▸ Between.refl _ _ _⟩
theorem deeds_form {W : World} {base : Nat} {r : Value} {L : List (Int × Int)} (h : W.ownsRow base 32 2 r L.length (cellsD L)) : ∃ a c, r = .slice a L.length c := own_shape h
end Go.Proofs.Ytimnhedjapakhaa
