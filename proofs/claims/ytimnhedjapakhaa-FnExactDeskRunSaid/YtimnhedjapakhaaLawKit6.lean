/-
  The laws' helpers over deeds: compared, marked and held.
-/
import Derived.Test.YtimnhedjapakhaaSpecZ
import Derived.Test.YtimnhedjapakhaaBaseZ
namespace Go.Proofs.Ytimnhedjapakhaa
open Go.RowKit Go.BigFrame

theorem eqDeed_in (k n : Int) (w : World) : Calls Try.prog 60 #[dV k n, dV k n] w fun e w' => e = .returned (.bool true) ∧ Below w.heap.size w w' := by
  unfold dV
  go_enter Try.func60, Try.ntmps60
  go_wp2
  go_ret
  exact ⟨rfl, ((Below.refl _ w).alloc (Nat.le_refl _) _).alloc (by simp) _⟩

set_option maxHeartbeats 1000000 in
theorem eqDeedS_in (v u : Value) (L : List (Int × Int)) (w : World) (hn : L.length ≤ 4000000) (hv : DeedsI w v L) (hu : DeedsI w u L) : Calls Try.prog 29 #[v, u] w fun e w' => e = .returned (.bool true) ∧ Below w.heap.size w w' := by
  obtain ⟨a, ca, rfl, hc⟩ := hv
  obtain ⟨b, cb, rfl, hd⟩ := hu
  obtain ⟨N, hN⟩ : ∃ N, L.length = N := ⟨_, rfl⟩
  rw [hN] at hc hd hn ⊢
  clear hN
  have hB0 := Below.refl w.heap.size w
  go_enter Try.func29, Try.ntmps29
  go_wp2
  go_loopw [5] (fun p wr => ∃ k : Nat, k ≤ N ∧ p = .int .i64 k ∧ Below w.heap.size w wr) (fun p _ => N - (intOf p).toNat)
  case atStart => exact ⟨0, by omega, rfl, hB0⟩
  case round =>
    obtain ⟨k, hk, rfl, hB⟩ := hrel
    by_cases hlt : k < N
    · obtain ⟨g, o, rfl, hg, hcc⟩ := hc (by omega)
      obtain ⟨g', o', rfl, hg', hdd⟩ := hd (by omega)
      have hki : (k : Int) < (N : Int) := by omega
      have q1 : ∀ m : After w, m.now.cell? ⟨g, o + k * 2, none⟩ = some (.int .i64 (L.getD k (0, 0)).1) := fun m => (m.ok.cell (p := ⟨g, o + k * 2, none⟩) hg).trans (hcc k hlt).1
      have q2 : ∀ m : After w, m.now.cell? ⟨g, o + k * 2 + 1, none⟩ = some (.int .i64 (L.getD k (0, 0)).2) := fun m => (m.ok.cell (p := ⟨g, o + k * 2 + 1, none⟩) hg).trans (hcc k hlt).2
      have q3 : ∀ m : After w, m.now.cell? ⟨g', o' + k * 2, none⟩ = some (.int .i64 (L.getD k (0, 0)).1) := fun m => (m.ok.cell (p := ⟨g', o' + k * 2, none⟩) hg').trans (hdd k hlt).1
      have q4 : ∀ m : After w, m.now.cell? ⟨g', o' + k * 2 + 1, none⟩ = some (.int .i64 (L.getD k (0, 0)).2) := fun m => (m.ok.cell (p := ⟨g', o' + k * 2 + 1, none⟩) hg').trans (hdd k hlt).2
      have hE := fun V => eqDeed_in (L.getD k (0, 0)).1 (L.getD k (0, 0)).2 V
      generalize (L.getD k (0, 0)).1 = x at *
      generalize (L.getD k (0, 0)).2 = y at *
      unfold dV at hE
      clear hc hd hcc hdd
      go_wp2
      refine wp_region_below w (by kernel_rfl) (by kernel_rfl) hB ?_
      repeat (go_big_quiet_step ((go_at_call 60; with_reducible exact after_of (hE _))))
      refine wpQuiet_nil ?_
      rintro _ ⟨nq, rfl⟩
      go_wp2
      go_roundw
      case rel => exact ⟨k + 1, by omega, by go_num, nq.ok⟩
      case measure => simp [intOf]; omega
    · obtain rfl : k = N := by omega
      have hki : ¬ ((k : Nat) : Int) < (k : Int) := by omega
      clear hc hd
      go_wp2
      go_ret
      exact ⟨rfl, hB⟩

/-- The numbers of deeds, one behind the other. -/
def numD (L : List (Int × Int)) (i : Nat) : Int := match (cellsD L)[i]? with | some (.int _ z) => z | _ => 0
theorem numD_at (L : List (Int × Int)) (i : Nat) (h : i < L.length * 2) : (cellsD L)[i]? = some (.int .i64 (numD L i)) := by
  have hlt : i / 2 < L.length := by omega
  have hat := cellsD_at L (i / 2) hlt
  have : ∃ z, (cellsD L)[i]? = some (.int .i64 z) := by
    rcases (show i = 2 * (i / 2) ∨ i = 2 * (i / 2) + 1 by omega) with e | e
    · rw [e]; exact ⟨_, hat.1⟩
    · rw [e]; exact ⟨_, hat.2⟩
  obtain ⟨z, hz⟩ := this
  unfold numD
  rw [hz]
/-- Deeds of one's own lie in a block, or there are none. -/
theorem blk_deeds {w : World} {base : Nat} {v : Value} {L : List (Int × Int)} (h : w.ownsRow base 32 2 v L.length (cellsD L)) (hn : 0 < L.length) :
    ∃ g cap, v = .slice (some ⟨g, 0, none⟩) L.length cap ∧ base ≤ g ∧ L.length ≤ cap ∧ BlkAt w g 32 (cap * 2) (intsV (L.length * 2) (numD L)) := by
  rcases h.2 with ⟨_, h0⟩ | ⟨g, cap, cur, rfl, hb, hg, hc, _, hs, ht⟩
  · omega
  · refine ⟨g, cap, rfl, hb, hc, cur, hg, hs, fun i z hi => ?_⟩
    unfold intsV at hi
    split at hi
    · rename_i hlt
      rw [← hi, ← numD_at L i hlt, ← ht, List.getElem?_take, if_pos hlt, Array.getElem?_toList]
    · cases hi

theorem BlkAt.setK {w : World} {g M K p : Nat} {t : TypeId} {f : Nat → Int} (h : BlkAt w g t M (intsV K f)) (z : Int) (hp : p < K) (hK : K ≤ M) : BlkAt (w.setCell ⟨g, p, none⟩ (.int .i64 z)) g t M (intsV K fun i => if i = p then z else f i) :=
  (h.set (.int .i64 z) (by omega)).weaken (fun i u hi => by
    unfold intsV at hi
    unfold updV
    split at hi
    · rename_i hl
      dsimp only at hi
      by_cases e : i = p
      · rw [if_pos e] at hi
        rw [if_pos e]; exact hi
      · rw [if_neg e] at hi
        rw [if_neg e]
        unfold intsV
        rw [if_pos hl]; exact hi
    · cases hi)
theorem BlkAt.congrK {w : World} {g M K : Nat} {t : TypeId} {f f' : Nat → Int} (h : BlkAt w g t M (intsV K f)) (he : ∀ i, i < K → f' i = f i) : BlkAt w g t M (intsV K f') :=
  h.weaken (fun i u hi => by
    unfold intsV at hi ⊢
    split at hi
    · rename_i hl
      rw [if_pos hl, ← he i hl]; exact hi
    · cases hi)

set_option maxHeartbeats 1000000 in
theorem markDeeds_in (g N cap M m : Nat) (F : Nat → Int) (w : World) (hN : N ≤ 4000000) (hM : N * 2 ≤ M) (hm : m ≤ 1000000000) (hb : BlkAt w g 32 M (intsV (N * 2) F)) :
    Calls Try.prog 30 #[.slice (some ⟨g, 0, none⟩) N cap, .int .i64 m] w fun e w' => e = .returned (.int .i64 (m + N * 2 : Nat)) ∧ BlkAt w' g 32 M (intsV (N * 2) fun i => ((m + i : Nat) : Int)) ∧ w.grownBy w' (some g) := by
  have hst : BlkAt w g 32 M (intsV (N * 2) fun i => if i < 0 * 2 then ((m + i : Nat) : Int) else F i) := hb
  go_enter Try.func30, Try.ntmps30
  go_wp2
  go_loopw [1, 5] (fun a p wr => ∃ k : Nat, k ≤ N ∧ p = .int .i64 k ∧ a = .int .i64 (m + k * 2 : Nat) ∧ BlkAt wr g 32 M (intsV (N * 2) fun i => if i < k * 2 then ((m + i : Nat) : Int) else F i) ∧ w.grownBy wr (some g)) (fun _ p _ => N - (intOf p).toNat)
  case atStart => exact ⟨0, by omega, rfl, by rfl, hst, grownBy_refl _ _⟩
  case round =>
    clear hst hb
    obtain ⟨k, hk, rfl, rfl, hb, hg⟩ := hrel
    by_cases hlt : k < N
    · have hki : (k : Int) < (N : Int) := by omega
      obtain ⟨A, hA⟩ : ∃ B, m + k * 2 = B := ⟨_, rfl⟩
      obtain ⟨A1, hA1⟩ : ∃ B, A + 1 = B := ⟨_, rfl⟩
      obtain ⟨A2, hA2⟩ : ∃ B, m + (k + 1) * 2 = B := ⟨_, rfl⟩
      have c1 := hb.cell (i := k * 2) (intsV_at (by omega))
      have f1 := hb.frozen (k * 2)
      have hb1 := hb.setK (p := k * 2) (A : Int) (by omega) hM
      have c2 := hb1.cell (i := k * 2 + 1) (intsV_at (by omega))
      have f2 := hb1.frozen (k * 2 + 1)
      have hb2 := hb1.setK (p := k * 2 + 1) (A1 : Int) (by omega) hM
      have hb3 := hb2.congrK (f' := fun i => if i < (k + 1) * 2 then ((m + i : Nat) : Int) else F i) (fun i hi => by
        by_cases e1 : i = k * 2 + 1
        · subst e1; rw [if_pos (by omega), if_pos rfl]; omega
        · rw [if_neg e1]
          by_cases e2 : i = k * 2
          · subst e2; rw [if_pos (by omega), if_pos rfl]; omega
          · rw [if_neg e2]
            by_cases e3 : i < k * 2
            · rw [if_pos (by omega), if_pos e3]
            · rw [if_neg (by omega), if_neg e3])
      have hg3 := grownBy_set (grownBy_set hg (k * 2) (.int .i64 (A : Int))) (k * 2 + 1) (.int .i64 (A1 : Int))
      have hq : A ≤ 1100000000 := by omega
      have hA1s : A1 ≤ 1100000001 := by omega
      have hm1 : (A : Int) + 1 = (A1 : Int) := by omega
      have hm2 : (A1 : Int) + 1 = (A2 : Int) := by omega
      have hB' := hide hA2
      rw [hA]
      clear hb hb1 hb2 hA hA1 hA2
      go_wp2
      go_roundw
      case rel => exact ⟨k + 1, by omega, by go_num, by rw [hB'.out], hb3, hg3⟩
      case measure => simp [intOf]; omega
    · obtain rfl : k = N := by omega
      have hki : ¬ ((k : Nat) : Int) < (k : Int) := by omega
      go_wp2
      go_ret
      exact ⟨rfl, hb.congrK (fun i hi => by rw [if_pos hi]; omega), hg⟩

theorem markDeeds_none (a : Option Addr) (c m : Nat) (w : World) : Calls Try.prog 30 #[.slice a 0 c, .int .i64 m] w fun e w' => e = .returned (.int .i64 m) ∧ w = w' := by
  go_enter Try.func30, Try.ntmps30
  go_wp2
  refine wp_loop_rounds 1 ?_
  rw [rounds_succ]
  go_wp2
  go_ret
  exact ⟨rfl, rfl⟩
end Go.Proofs.Ytimnhedjapakhaa
