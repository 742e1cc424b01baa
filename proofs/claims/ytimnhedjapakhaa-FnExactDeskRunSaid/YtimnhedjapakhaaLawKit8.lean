/-
  The laws' helpers over desks: eqIntSS, eqDesk.
-/
import Derived.Test.YtimnhedjapakhaaSpec12i
import Derived.Test.YtimnhedjapakhaaLawKit4
namespace Go.Proofs.Ytimnhedjapakhaa
open Go.RowKit Go.BigFrame

set_option maxRecDepth 100000 in
set_option maxHeartbeats 1000000 in
theorem eqSSP_in (v u : Value) (rows : List (List Int)) (w : World) (hn : rows.length ≤ 2000000) (hlen : ∀ j, j < rows.length → (rows.getD j []).length ≤ 2000000) (hv : PastI w v rows) (hu : PastI w u rows) :
    Calls Try.prog 55 #[v, u] w fun e w' => e = .returned (.bool true) ∧ Below w.heap.size w w' := by
  obtain ⟨a, c, rfl, hv⟩ := hv
  obtain ⟨a', c', rfl, hu⟩ := hu
  obtain ⟨n, hn'⟩ : ∃ n, rows.length = n := ⟨_, rfl⟩
  rw [hn'] at hn hlen hv hu ⊢
  clear hn'
  go_enter Try.func55, Try.ntmps55
  go_wp2
  go_loopw [5] (fun i wr => ∃ k : Nat, k ≤ n ∧ i = .int .i64 k ∧ Below w.heap.size w wr) (fun i _ => n - (intOf i).toNat)
  case atStart => exact ⟨0, Nat.zero_le _, rfl, Below.refl _ _⟩
  case round =>
    obtain ⟨k, hk, rfl, hB⟩ := hrel
    by_cases hlt : k < n
    · obtain ⟨G, o, rfl, hG, hr⟩ := hv (by omega)
      obtain ⟨G', o', rfl, hG', hr'⟩ := hu (by omega)
      obtain ⟨x, hx1, hx2⟩ := hr k hlt
      obtain ⟨y, hy1, hy2⟩ := hr' k hlt
      have hlk := hlen k hlt
      have h3 : ∀ m : After w, Calls Try.prog 54 #[x, y] m.now fun e w' => e = .returned (.bool true) ∧ Below m.now.heap.size m.now w' := fun m => eqIntS_in x y _ m.now (by omega) (hx2.below m.ok) (hy2.below m.ok)
      obtain ⟨ax, cx, rfl⟩ := hx2.shape
      obtain ⟨ay, cy, rfl⟩ := hy2.shape
      have h1 : ∀ m : After w, m.now.cell? ⟨G, o + k, none⟩ = some (.slice ax (rows.getD k []).length cx) := fun m => (m.ok.cell (p := ⟨G, o + k, none⟩) hG).trans hx1
      have h2 : ∀ m : After w, m.now.cell? ⟨G', o' + k, none⟩ = some (.slice ay (rows.getD k []).length cy) := fun m => (m.ok.cell (p := ⟨G', o' + k, none⟩) hG').trans hy1
      have hki : (k : Int) < (n : Int) := by omega
      generalize (rows.getD k []).length = l at *
      clear hr hr' hx1 hx2 hy1 hy2 hlen hv hu
      go_wp2
      refine wp_region_below w (by kernel_rfl) (by kernel_rfl) hB ?_
      repeat (go_big_quiet_step ((go_at_call 54; with_reducible exact after_of (h3 _))))
      refine wpQuiet_nil ?_
      rintro _ ⟨nq, rfl⟩
      clear h1 h2 h3
      go_wp2
      go_roundw
      case rel => exact ⟨k + 1, by omega, by go_num, nq.ok⟩
      case measure => simp [intOf]; omega
    · obtain rfl : k = n := by omega
      clear hv hu hlen
      go_wp2
      go_ret
      exact ⟨rfl, hB⟩


set_option maxRecDepth 100000 in
set_option maxHeartbeats 1000000 in
theorem eqDesk_in (v u : Value) (d : Dk) (w : World) (hs : d.1.length ≤ 2000000 ∧ d.2.length ≤ 2000000 ∧ ∀ j, j < d.2.length → (d.2.getD j []).length ≤ 2000000) (hv : DeskI w v d) (hu : DeskI w u d) : Calls Try.prog 24 #[v, u] w fun e w' => e = .returned (.bool true) ∧ Below w.heap.size w w' := by
  obtain ⟨x, p, rfl, hx, hp⟩ := hv
  obtain ⟨y, q, rfl, hy, hq⟩ := hu
  have hB : Below w.heap.size w ((w.alloc (.cells #[x, p] 26)).alloc (.cells #[y, q] 26)) := ((Below.refl _ w).alloc (Nat.le_refl _) _).alloc (by rw [World.size_alloc]; omega) _
  have k1 := World.alloc_heap_new (w.alloc (.cells #[x, p] 26)) (.cells #[y, q] 26)
  rw [World.size_alloc] at k1
  have k0 : ((w.alloc (.cells #[x, p] 26)).alloc (.cells #[y, q] 26)).heap[w.heap.size]? = some (.cells #[x, p] 26 (0, 0)) := (Below.heap_alloc _ _ _ (by rw [World.size_alloc]; omega)).trans (World.alloc_heap_new w _)
  obtain ⟨W0, hW0⟩ : ∃ W0, (w.alloc (.cells #[x, p] 26)).alloc (.cells #[y, q] 26) = W0 := ⟨_, rfl⟩
  rw [hW0] at hB k0 k1
  have l0 := (Array.getElem?_eq_some_iff.1 k0).1
  have l1 := (Array.getElem?_eq_some_iff.1 k1).1
  have hI := eqIntS_in x y d.1 W0 (by omega) (hx.below hB) (hy.below hB)
  have hR := fun V (hV : Below W0.heap.size W0 V) => eqSSP_in p q d.2 V hs.2.1 hs.2.2 ((hp.below hB).below hV) ((hq.below hB).below hV)
  obtain ⟨xa, xc, rfl⟩ := hx.shape
  obtain ⟨ya, yc, rfl⟩ := hy.shape
  obtain ⟨pa, pc, rfl, _⟩ := hp
  obtain ⟨qa, qc, rfl, _⟩ := hq
  obtain ⟨c0, c1, _, _⟩ := row_at k0
  obtain ⟨e0, e1, _, _⟩ := row_at k1
  clear hx hy hs
  go_enter Try.func24, Try.ntmps24
  go_wp2_with (first
    | (go_at_call 54; go_loud (refine hI.mono ?_; clear hI; rintro e w2 ⟨rfl, hB2⟩; obtain ⟨c0, c1, _, _⟩ := row_at ((hB2.block _ l0).trans k0); obtain ⟨e0, e1, _, _⟩ := row_at ((hB2.block _ l1).trans k1)))
    | (go_at_call 55; go_loud (refine (hR _ hB2).mono ?_; clear hR; rintro e w3 ⟨rfl, hB3⟩)))
  go_ret
  exact ⟨rfl, hB.trans ((hB2.trans (hB3.mono hB2.size)).mono hB.size)⟩
end Go.Proofs.Ytimnhedjapakhaa
