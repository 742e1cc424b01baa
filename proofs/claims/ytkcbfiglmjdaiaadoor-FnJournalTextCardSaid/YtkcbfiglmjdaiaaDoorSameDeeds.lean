/-
  The laws' own comparison of deeds.
-/
import Derived.Test.YtkcbfiglmjdaiaaDoorSpecZ
import Derived.Test.YtkcbfiglmjdaiaaDoorBaseZ
namespace Go.Proofs.YtkcbfiglmjdaiaaDoor
open Go.RowKit Go.BigFrame

set_option maxHeartbeats 1000000 in
theorem sameDeeds_in (v u : Value) (L : List (Int × Int)) (w : World) (hn : L.length ≤ 4000000) (hf : ∀ x ∈ L, Fits x.1 ∧ Fits x.2) (hv : DeedsI w v L) (hu : DeedsI w u L) : Calls Tryd.prog 9 #[v, u] w fun e w' => e = .returned (.bool true) ∧ Below w.heap.size w w' := by
  obtain ⟨a, ca, rfl, hc⟩ := hv
  obtain ⟨b, cb, rfl, hd⟩ := hu
  obtain ⟨N, hN⟩ : ∃ N, L.length = N := ⟨_, rfl⟩
  rw [hN] at hc hd hn ⊢
  have hB0 := Below.refl w.heap.size w
  go_enter Tryd.func9, Tryd.ntmps9
  go_wp2
  go_loopw [5] (fun p wr => ∃ k : Nat, k ≤ N ∧ p = .int .i64 k ∧ Below w.heap.size w wr) (fun p _ => N - (intOf p).toNat)
  case atStart => exact ⟨0, by omega, rfl, hB0⟩
  case round =>
    obtain ⟨k, hk, rfl, hB⟩ := hrel
    by_cases hlt : k < N
    · obtain ⟨g, o, rfl, hg, hcc⟩ := hc (by omega)
      obtain ⟨g', o', rfl, hg', hdd⟩ := hd (by omega)
      have hki : (k : Int) < (N : Int) := by omega
      have hx : L.getD k (0, 0) ∈ L := by rw [List.getD, List.getElem?_eq_getElem (by omega)]; exact List.getElem_mem _
      have hfx := hf _ hx
      have q1 : ∀ m : After w, m.now.cell? ⟨g, o + k * 2, none⟩ = some (.int .i64 (L.getD k (0, 0)).1) := fun m => (m.ok.cell (p := ⟨g, o + k * 2, none⟩) hg).trans (hcc k hlt).1
      have q2 : ∀ m : After w, m.now.cell? ⟨g, o + k * 2 + 1, none⟩ = some (.int .i64 (L.getD k (0, 0)).2) := fun m => (m.ok.cell (p := ⟨g, o + k * 2 + 1, none⟩) hg).trans (hcc k hlt).2
      have q3 : ∀ m : After w, m.now.cell? ⟨g', o' + k * 2, none⟩ = some (.int .i64 (L.getD k (0, 0)).1) := fun m => (m.ok.cell (p := ⟨g', o' + k * 2, none⟩) hg').trans (hdd k hlt).1
      have q4 : ∀ m : After w, m.now.cell? ⟨g', o' + k * 2 + 1, none⟩ = some (.int .i64 (L.getD k (0, 0)).2) := fun m => (m.ok.cell (p := ⟨g', o' + k * 2 + 1, none⟩) hg').trans (hdd k hlt).2
      have q5 := fun m : After w => equal_deed hfx.1 hfx.2 hfx.1 hfx.2 m.now
      generalize (L.getD k (0, 0)).1 = x at *
      generalize (L.getD k (0, 0)).2 = y at *
      simp only [and_self, decide_true] at q5
      clear hc hd hcc hdd hf hx hfx
      go_wp2
      refine wp_region_below w (by kernel_rfl) (by kernel_rfl) hB ?_
      repeat (go_big_quiet_step (fail))
      refine wpQuiet_nil ?_
      rintro _ ⟨nq, rfl⟩
      go_wp2
      go_roundw
      case rel => exact ⟨k + 1, by omega, by go_num, nq.ok⟩
      case measure => simp [intOf]; omega
    · obtain rfl : k = N := by omega
      have hki : ¬ ((k : Nat) : Int) < (k : Int) := by omega
      clear hc hd hf
      go_wp2
      go_ret
      exact ⟨rfl, hB⟩
end Go.Proofs.YtkcbfiglmjdaiaaDoor
