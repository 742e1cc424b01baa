/-
  The model's l12Same and DeskNew.
-/
import Derived.Test.YtimnhedjapakhaaSpec12i
namespace Go.Proofs.Ytimnhedjapakhaa
open Go.RowKit

theorem same_not {xs ys : List Int} {k : Nat} (h : xs.getD k 0 ≠ ys.getD k 0) : decide (xs = ys) = false := decide_eq_false fun e => h (by rw [e])
theorem same_all {xs ys : List Int} (hl : xs.length = ys.length) (h : ∀ k, k < xs.length → xs.getD k 0 = ys.getD k 0) : decide (xs = ys) = true := decide_eq_true (by
  refine List.ext_getElem hl fun i h1 h2 => ?_
  have := h i h1
  rwa [List.getD, List.getD, List.getElem?_eq_getElem h1, List.getElem?_eq_getElem h2] at this)

set_option maxHeartbeats 1000000 in
theorem specSame (v u : Value) (xs ys : List Int) (w : World) (hv : Ints w v xs) (hu : Ints w u ys) (hl : xs.length ≤ 1000000000) : Calls Try.prog 43 #[v, u] w fun e w' => e = .returned (.bool (decide (xs = ys))) ∧ Below w.heap.size w w' := by
  by_cases hll : xs.length = ys.length
  · by_cases h0 : xs.length = 0
    · have hr := hide (same_all hll (fun k hk => by omega))
      obtain ⟨a, c, rfl⟩ := hv.shape
      obtain ⟨a2, c2, rfl⟩ := hu.shape
      rw [← hll, h0]
      clear hv hu
      go_enter Try.func43, Try.ntmps43
      go_wp2
      refine wp_loop_rounds 1 ?_
      rw [rounds_succ]
      go_wp2
      go_ret
      exact ⟨ret_bool hr.out.symm, Below.refl _ _⟩
    · obtain ⟨g, c, rfl, hg, hc⟩ := hv.cells (by omega)
      obtain ⟨g2, c2, rfl, hg2, hc2⟩ := hu.cells (by omega)
      have hno := fun k => same_not (xs := xs) (ys := ys) (k := k)
      have hall := same_all hll
      rw [← hll] at hc2 ⊢
      generalize decide (xs = ys) = res at *
      generalize xs.length = n at *
      clear hv hu hll
      go_enter Try.func43, Try.ntmps43
      go_wp2
      go_loopw [5] (fun i wr => ∃ k : Nat, k ≤ n ∧ i = .int .i64 k ∧ Below w.heap.size w wr ∧ Hid (∀ i, i < k → xs.getD i 0 = ys.getD i 0)) (fun i _ => n - (intOf i).toNat)
      case atStart => exact ⟨0, by omega, rfl, Below.refl _ _, hide (fun i hi => by omega)⟩
      case round =>
        obtain ⟨k, hk, rfl, hB, hkk⟩ := hrel
        by_cases hlt : k < n
        · have hki : (k : Int) < (n : Int) := by omega
          have c1 := (hB.cell (p := ⟨g, k, none⟩) hg).trans (hc k hlt)
          have c3 := (hB.cell (p := ⟨g2, k, none⟩) hg2).trans (hc2 k hlt)
          by_cases he : xs.getD k 0 = ys.getD k 0
          · have hkk' : Hid (∀ i, i < k + 1 → xs.getD i 0 = ys.getD i 0) := hide (fun i hi => by
              by_cases e : i = k
              · subst e; exact he
              · exact hkk.out i (by omega))
            rw [← he] at c3
            clear hc hc2 hno hall hkk he
            generalize xs.getD k 0 = z at *
            go_wp2
            go_region
            all_goals
              go_wp2
              go_roundw
              case rel => exact ⟨k + 1, by omega, by go_num, hB.drew, hkk'⟩
              case measure => simp [intOf]; omega
          · have hr := hide (hno k he)
            generalize xs.getD k 0 = z at *
            generalize ys.getD k 0 = y at *
            clear hc hc2 hno hall hkk
            go_wp2
            go_region
            all_goals
              go_wp2
              go_ret
              exact ⟨ret_bool hr.out.symm, hB.drew⟩
        · obtain rfl : k = n := by omega
          have hr := hide (hall hkk.out)
          clear hc hc2 hno hall hkk
          go_wp2
          go_ret
          exact ⟨ret_bool hr.out.symm, hB⟩
  · have hr : Hid (decide (xs = ys) = false) := hide (decide_eq_false fun e => hll (by rw [e]))
    obtain ⟨a, c, rfl⟩ := hv.shape
    obtain ⟨a2, c2, rfl⟩ := hu.shape
    generalize decide (xs = ys) = res at *
    have hb : ((xs.length : Int) == (ys.length : Int)) = false := by rw [beq_eq_false_iff_ne]; omega
    generalize xs.length = n at *
    generalize ys.length = m at *
    clear hv hu
    by_cases h0 : 0 < n
    · have h0' : (0 : Int) < (n : Int) := by omega
      go_enter Try.func43, Try.ntmps43
      go_wp2
      refine wp_loop_rounds 1 ?_
      rw [rounds_succ]
      go_wp2
      go_ret
      exact ⟨ret_bool hr.out.symm, Below.refl _ _⟩
    · obtain rfl : n = 0 := by omega
      go_enter Try.func43, Try.ntmps43
      go_wp2
      refine wp_loop_rounds 1 ?_
      rw [rounds_succ]
      go_wp2
      go_ret
      exact ⟨ret_bool (by rw [hr.out, beq_eq_false_iff_ne]; omega), Below.refl _ _⟩

theorem results_desk2 {fn : Func} {p u : Tmp} (h : fn.results = #[.cell p 26, .tmp u]) (tmps : Array Value) (w : World) (B : Nat) (x y : Value) (hp : tmps.getD p undef = .pointer (some ⟨B, 0, none⟩))
    (hb : w.heap[B]? = some (.cells #[x, y] 26 (0, 0))) : (results fn tmps).run Try.prog w = .ok (.tuple #[.agg #[x, y], tmps.getD u undef]) w := by
  have hl : (loadVar 26 ⟨B, 0, none⟩).run Try.prog w = .ok (.agg #[x, y]) w := run_loadVar_row w B _ 26 #[x, y] (0, 0) _ hb Try.underlying26 rfl (by kernel_rfl)
  have hp' : tmps[p]?.getD undef = .pointer (some ⟨B, 0, none⟩) := by simpa using hp
  simp [results, h, hp', asAddr, hl, Result.andThen]
theorem PastI.none (W : World) (a : Option Addr) (c : Nat) : PastI W (.slice a 0 c) [] := ⟨a, c, rfl, fun h => absurd h (Nat.lt_irrefl 0)⟩
theorem Ints.none (W : World) (a : Option Addr) (c : Nat) : Ints W (.slice a 0 c) [] := .inl ⟨a, c, rfl, rfl⟩

set_option maxRecDepth 100000 in
set_option maxHeartbeats 1000000 in
theorem specNew (v : Value) (xs : List Int) (w : World) (hv : Ints w v xs) (hl : xs.length ≤ 1000000000) : Calls Try.prog 61 #[v] w fun e w' =>
    ∃ x, e = .returned (.tuple #[.agg #[x, .slice none 0 0], .bool (sideB xs)]) ∧ w'.ownsRow w.heap.size 3 1 x (newV xs).1.length ((newV xs).1.map (Value.int .i64)) ∧ Below w.heap.size w w' := by
  have hB0 : Below w.heap.size w (w.alloc (.cells #[.slice none 0 0, .slice none 0 0] 26)) := (Below.refl _ w).alloc (Nat.le_refl _) _
  have hS := specSide v xs _ (hv.below hB0) hl
  have hb := World.alloc_heap_new w (.cells #[.slice none 0 0, .slice none 0 0] 26)
  have hset := desk_set hb
  obtain ⟨d0, d1, f0, f1⟩ := row_at hb
  cases hsd : sideB xs with
  | false =>
    have hnv : newV xs = ([], []) := by unfold newV; rw [hsd]; rfl
    rw [hnv]
    rw [hsd] at hS
    clear hb
    obtain ⟨W0, hW0⟩ : ∃ W0, w.alloc (.cells #[.slice none 0 0, .slice none 0 0] 26) = W0 := ⟨_, rfl⟩
    rw [hW0] at hS hset d0 d1 f0 f1 hB0
    go_enter Try.func61, Try.ntmps61
    go_wp2_with (go_at_call 34; refine hS.mono ?_; clear hS; rintro e w' ⟨rfl, rfl⟩)
    refine bodyPost_ret (results_desk2 rfl _ _ w.heap.size _ _ rfl (hset _ _)) rfl ⟨_, rfl, World.ownsRow_nil _ _ _ _, ?_⟩
    exact (hB0.setCell (p := ⟨w.heap.size, 0, none⟩) (Nat.le_refl _) _).setCell (p := ⟨w.heap.size, 1, none⟩) (Nat.le_refl _) _
  | true =>
    have hlen := sideB_len hsd
    have hnv : newV xs = (xs, []) := by unfold newV; rw [hsd]; rfl
    rw [hnv]
    rw [hsd] at hS
    obtain ⟨g, c, rfl, hg, hc⟩ := hv.cells hlen.1
    have hs0 := World.size_alloc w (.cells #[.slice none 0 0, .slice none 0 0] 26)
    obtain ⟨W0, hW0⟩ : ∃ W0, w.alloc (.cells #[.slice none 0 0, .slice none 0 0] 26) = W0 := ⟨_, rfl⟩
    rw [hW0] at hS hB0 hb hs0
    have hs1 := Nat.le_of_eq hs0
    have hs2 := Nat.le_of_eq hs0.symm
    clear hs0
    have hcz : ∀ i, i < xs.length → (W0.alloc (.cells #[] 3)).cell? ⟨g, i, none⟩ = some (.int .i64 (xs.getD i 0)) := fun i hi => ((hB0.alloc hB0.size (.cells #[] 3)).cell (p := ⟨g, i, none⟩) hg).trans (hc i hi)
    have hmade : (W0.alloc (.cells #[] 3)).ownsRow (w.heap.size + 1) 3 1 (.slice (some ⟨W0.heap.size, 0, none⟩) 0 0) 0 [] := World.ownsRow_made _ _ _ (by omega) (by decide) rfl
    have hba : (W0.alloc (.cells #[] 3)).heap[w.heap.size]? = some (.cells #[.slice none 0 0, .slice none 0 0] 26 (0, 0)) := (Below.heap_alloc _ _ _ (by omega)).trans hb
    have hBa : Below w.heap.size w (W0.alloc (.cells #[] 3)) := hB0.alloc hB0.size _
    have hsz := Nat.le_of_eq (World.size_alloc W0 (.cells #[] 3)).symm
    clear hset d0 d1 f0 f1 hv hc
    go_enter Try.func61, Try.ntmps61
    go_wp2_with (first
      | (go_at_call 34; refine hS.mono ?_; clear hS; rintro e w' ⟨rfl, rfl⟩)
      | (at_builtin; go_loud (refine append_row rfl _ _ rfl (w.heap.size + 1) _ 0 [] rfl hmade g xs.length c xs rfl rfl hcz (by omega) (by omega) ?_; intro y w2 hy hg2; replace hg2 : (W0.alloc (.cells #[] 3)).grownBy w2 (some W0.heap.size) := hg2; rw [Nat.zero_add, List.nil_append] at hy; obtain ⟨ay, cy, rfl⟩ := own_form hy; have hb2 := (hg2.block w.heap.size (by omega) (fun e => by injection e with e; omega)).trans hba; obtain ⟨d0, d1, f0, f1⟩ := row_at hb2)))
    have hset := desk_set hb2 (.slice ay xs.length cy) (.slice none 0 0)
    refine bodyPost_ret (results_desk2 rfl _ _ w.heap.size _ _ rfl hset) rfl ⟨_, rfl, ?_, ?_⟩
    · have h1 := own_kept hy (grownBy_setAt w2 w.heap.size 0 (.slice ay xs.length cy)) (own_old hy (by omega))
      exact own_from (own_kept h1 (grownBy_setAt _ w.heap.size 1 (.slice none 0 0)) (own_old h1 (by omega))) (by omega)
    · exact ((hBa.grown hg2 hBa.size (fun k e => by injection e with e; omega)).setCell (p := ⟨w.heap.size, 0, none⟩) (Nat.le_refl _) _).setCell (p := ⟨w.heap.size, 1, none⟩) (Nat.le_refl _) _
end Go.Proofs.Ytimnhedjapakhaa
