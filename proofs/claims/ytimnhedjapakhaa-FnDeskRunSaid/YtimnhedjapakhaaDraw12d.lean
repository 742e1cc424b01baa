/-
  The draws of chapter 12: what the law on DeskDo draws.
-/
import Derived.Test.YtimnhedjapakhaaDraw12c
namespace Go.Proofs.Ytimnhedjapakhaa
open Go Go.RowKit
attribute [local go_sem] Oper.semAt_some

theorem results_do {fn : Func} {p q : Tmp} (h : fn.results = #[.cell p 26, .cell q 32]) (tmps : Array Value) (w : World) (B B' : Nat) (x y : Value) (k n : Int) (hp : tmps.getD p undef = .pointer (some ⟨B, 0, none⟩)) (hq : tmps.getD q undef = .pointer (some ⟨B', 0, none⟩))
    (hb : w.heap[B]? = some (.cells #[x, y] 26 (0, 0))) (hb' : w.heap[B']? = some (.cells #[.int .i64 k, .int .i64 n] 32 (0, 0))) : (results fn tmps).run Try.prog w = .ok (.tuple #[.agg #[x, y], dV k n]) w := by
  have hl : (loadVar 26 ⟨B, 0, none⟩).run Try.prog w = .ok (.agg #[x, y]) w := run_loadVar_row w B _ 26 #[x, y] (0, 0) _ hb Try.underlying26 rfl (by kernel_rfl)
  have hl2 : (loadVar 32 ⟨B', 0, none⟩).run Try.prog w = .ok (.agg #[.int .i64 k, .int .i64 n]) w := run_loadVar_row w B' _ 32 #[.int .i64 k, .int .i64 n] (0, 0) _ hb' Try.underlying32 rfl (by kernel_rfl)
  have hp' : tmps[p]?.getD undef = .pointer (some ⟨B, 0, none⟩) := by simpa using hp
  have hq' : tmps[q]?.getD undef = .pointer (some ⟨B', 0, none⟩) := by simpa using hq
  simp [results, h, hp', hq', asAddr, hl, hl2, Result.andThen, dV]

set_option maxRecDepth 100000 in
set_option maxHeartbeats 2000000 in
theorem drawDeskDo (w : World) (a0 : Option Addr) (len0 cap0 : Nat) (zs : List Int) (h : IsRow .u8 w a0 len0 cap0 zs) : Calls Try.prog 12 #[.slice a0 len0 cap0] w fun e w' =>
    ∃ y d k n, e = .returned (.tuple #[y, dV k n]) ∧ DeskI w' y d ∧ CapP y ∧ DkZ d ∧ Fits k ∧ Fits n ∧ Below w.heap.size w w' := by
  have hB : Below w.heap.size w ((w.alloc (.cells #[.slice none 0 0, .slice none 0 0] 26)).alloc (.cells #[.int .i64 0, .int .i64 0] 32)) := ((Below.refl _ w).alloc (Nat.le_refl _) _).alloc (by rw [World.size_alloc]; omega) _
  have k0 : ((w.alloc (.cells #[.slice none 0 0, .slice none 0 0] 26)).alloc (.cells #[.int .i64 0, .int .i64 0] 32)).heap[w.heap.size]? = some (.cells #[.slice none 0 0, .slice none 0 0] 26 (0, 0)) := (Below.heap_alloc _ _ _ (by rw [World.size_alloc]; omega)).trans (World.alloc_heap_new w _)
  have k1 := World.alloc_heap_new (w.alloc (.cells #[.slice none 0 0, .slice none 0 0] 26)) (.cells #[.int .i64 0, .int .i64 0] 32)
  rw [World.size_alloc] at k1
  have hsz : w.heap.size + 2 ≤ ((w.alloc (.cells #[.slice none 0 0, .slice none 0 0] 26)).alloc (.cells #[.int .i64 0, .int .i64 0] 32)).heap.size := by simp
  obtain ⟨w1, hw1⟩ : ∃ w1, (w.alloc (.cells #[.slice none 0 0, .slice none 0 0] 26)).alloc (.cells #[.int .i64 0, .int .i64 0] 32) = w1 := ⟨_, rfl⟩
  rw [hw1] at hB k0 k1 hsz
  have ho := open_in w1 a0 len0 cap0 zs (isRow_below h hB)
  refine (callsIn_wide (n := 9)).1 ?_
  refine callsIn_of_wp Try.func12 rfl trivial ?_ rfl
  simp only [Try.ntmps12, List.size_toArray, List.length_cons, List.length_nil, Nat.reduceAdd, Nat.reduceSub, Array.replicate_succ, Array.replicate_zero, List.push_toArray, List.append_toArray, List.nil_append, List.cons_append]
  gi_wp2_with fail
  refine ⟨trivial, ?_⟩
  gi_at_call 32
  refine (callsIn_wide.2 ho).mono ?_
  rintro e w2 ⟨R, len, cap, rfl, hb, hR⟩
  gi_wp2_with fail
  refine ⟨trivial, ?_⟩
  gi_at_call 31
  refine (callsIn_wide.2 (l20Desk_in w1 R len cap 0 a0 12 (by omega) (by omega) w2 hb hR (by omega))).mono ?_
  rintro e w3 ⟨y, d, rfl, hY, hlo, hdz, p, hp, hR3, hg3⟩
  obtain ⟨x1, x2, x3, x4, rfl⟩ := hY.form
  have z23 := hg3.size
  have z12 := hR.1.size
  have hR4 := hR3.alloc (.cells #[.slice x1 d.1.length x2, .slice x3 d.2.length x4] 26)
  have hY4 := hY.below ((Below.refl _ w3).alloc (Nat.le_refl _) (.cells #[.slice x1 d.1.length x2, .slice x3 d.2.length x4] 26))
  have kb := World.alloc_heap_new w3 (.cells #[.slice x1 d.1.length x2, .slice x3 d.2.length x4] 26)
  obtain ⟨b, hbe⟩ : ∃ b, w3.heap.size = b := ⟨_, rfl⟩
  have hRb := hR3.lt
  obtain ⟨w4, hw4⟩ : ∃ w4, w3.alloc (.cells #[.slice x1 d.1.length x2, .slice x3 d.2.length x4] 26) = w4 := ⟨_, rfl⟩
  rw [hw4] at hR4 hY4 kb
  rw [hbe] at kb hRb
  gi_wp2_with fail
  (try rw [hw4])
  (try rw [hbe])
  have hd12 := hdz.1
  have hRw2 := hR.lt
  clear hR3 hY hw4 hg3 hbe ho hR hw1
  refine wpIn_region_rd w1 R len cap p a0 30 5 [(some 10, 0), (some 11, 1), (some 12, 2), (some 13, 3), (some 14, 4)] (by omega) (by kernel_rfl) (by kernel_rfl) (by kernel_rfl) (by decide) (by decide) (by rfl) (by decide) hR4
    (fun i v V => match i with | 0 => v = .agg #[.slice x1 d.1.length x2, .slice x3 d.2.length x4] | 1 => v = .pointer (some ⟨R, 0, none⟩) | 2 => v = .pointer (some ⟨b, 0, none⟩) | 3 => v = .slice x1 d.1.length x2 | 4 => ∃ k n, Fits k ∧ Fits n ∧ v = dV k n | _ => True)
    (fun i v V V' h hg => match i, h with | 0, h => h | 1, h => h | 2, h => h | 3, h => h | 4, h => h | (_ + 5), _ => trivial)
    ?step ?tail
  case step =>
    rintro i oo s V q hi ho hqb hRV hgV hd Q' hQ
    have hgx := (hgV.block b (Array.getElem?_eq_some_iff.1 kb).1 (fun e => by injection e with e; omega)).trans kb
    obtain ⟨m0, m1, _, _⟩ := row_at hgx
    rcases (show i = 0 ∨ i = 1 ∨ i = 2 ∨ i = 3 ∨ i = 4 by omega) with rfl | rfl | rfl | rfl | rfl
    all_goals
      simp at ho
      subst ho
      simp only [putsOf, Act.put, List.setIfInBounds_toArray, List.set_cons_succ, List.set_cons_zero] at hQ ⊢
      have hQ' := hide hQ
      clear hQ
    · clear hd
      gi_wp2
      have hr := hQ'.out
      exact hr _ _ q (by omega) hRV (grownBy_refl _ _) rfl
    · clear hd
      gi_wp2
      have hr := hQ'.out
      exact hr _ _ q (by omega) hRV (grownBy_refl _ _) rfl
    · clear hd
      gi_wp2
      have hr := hQ'.out
      exact hr _ _ q (by omega) hRV (grownBy_refl _ _) rfl
    · have e1 : s 2 = .pointer (some ⟨b, 0, none⟩) := hd 2 (by kernel_rfl)
      clear hd
      gi_wp2
      have hr := hQ'.out
      simp only [e1] at hr ⊢
      exact hr _ _ q (by omega) hRV (grownBy_refl _ _) rfl
    · have e1 : s 1 = .pointer (some ⟨R, 0, none⟩) := hd 1 (by kernel_rfl)
      have e2 : s 3 = .slice x1 d.1.length x2 := hd 3 (by kernel_rfl)
      have hC := l20Deed_in w1 R len cap q a0 V hb hRV (by omega) x1 d.1.length x2 (by omega)
      clear hd
      gi_wp2_with (refine ⟨trivial, ?_⟩; gi_at_call 36; go_loud (refine (callsIn_wide.2 hC).mono ?_; rintro e W9 ⟨⟨dk, dn, hk, hn9, rfl⟩, q9, hq9, hR9, hg9⟩))
      have hr := hQ'.out
      simp only [e1, e2] at hr ⊢
      exact hr _ _ q9 hq9 hR9 hg9 ⟨dk, dn, hk, hn9, rfl⟩
  case tail =>
    rintro s V q hqb hRV hgV hd
    have e1 : s 0 = .agg #[.slice x1 d.1.length x2, .slice x3 d.2.length x4] := hd 0 (by omega)
    obtain ⟨k, n, hk, hn, e2⟩ : ∃ k n, Fits k ∧ Fits n ∧ s 4 = dV k n := hd 4 (by omega)
    clear hd
    have hBV := hRV.1
    have kr0 := (hBV.block _ (Array.getElem?_eq_some_iff.1 k0).1).trans k0
    have kr1 := (hBV.block _ (Array.getElem?_eq_some_iff.1 k1).1).trans k1
    have hYV := hY4.rd hR4 (by omega) hgV
    obtain ⟨r0, r1, t0, t1⟩ := row_at kr0
    obtain ⟨q0, q1, u0, u1⟩ := row_at kr1
    have g0 := grownBy_setAt V w.heap.size 0 (.slice x1 d.1.length x2)
    have g1 := grownBy_setAt (V.setCell ⟨w.heap.size, 0, none⟩ (.slice x1 d.1.length x2)) w.heap.size 1 (.slice x3 d.2.length x4)
    have hY2 := (hYV.set (i := 0) (s := x1) (m := d.1.length) (e := x2) kr0).set (i := 1) (s := x3) (m := d.2.length) (e := x4) (set_cells kr0 0 _)
    have kd := desk_set kr0 (.slice x1 d.1.length x2) (.slice x3 d.2.length x4)
    have kr2 := (g1.block _ (Nat.lt_of_lt_of_le (Array.getElem?_eq_some_iff.1 kr1).1 g0.size) (fun e => by injection e with e; omega)).trans ((g0.block _ (Array.getElem?_eq_some_iff.1 kr1).1 (fun e => by injection e with e; omega)).trans kr1)
    have hBd := ((hB.trans (hBV.mono hB.size)).setCell (p := ⟨w.heap.size, 0, none⟩) (Nat.le_refl _) (.slice x1 d.1.length x2)).setCell (p := ⟨w.heap.size, 1, none⟩) (Nat.le_refl _) (.slice x3 d.2.length x4)
    obtain ⟨V2, hV2⟩ : ∃ V2, (V.setCell ⟨w.heap.size, 0, none⟩ (.slice x1 d.1.length x2)).setCell ⟨w.heap.size, 1, none⟩ (.slice x3 d.2.length x4) = V2 := ⟨_, rfl⟩
    rw [hV2] at hY2 kd kr2 hBd
    have g3 := grownBy_setAt V2 (w.heap.size + 1) 0 (.int .i64 k)
    have g4 := grownBy_setAt (V2.setCell ⟨w.heap.size + 1, 0, none⟩ (.int .i64 k)) (w.heap.size + 1) 1 (.int .i64 n)
    have hY4' := hide ((hY2.old hlo (by omega) g3).old hlo (by omega) g4).deskI
    have kd4 := hide ((g4.block _ (Nat.lt_of_lt_of_le (Array.getElem?_eq_some_iff.1 kd).1 g3.size) (fun e => by injection e with e; omega)).trans ((g3.block _ (Array.getElem?_eq_some_iff.1 kd).1 (fun e => by injection e with e; omega)).trans kd))
    have kr4 := hide (set_cells (set_cells kr2 0 (.int .i64 k)) 1 (.int .i64 n))
    have hB4 := hide ((hBd.setCell (p := ⟨w.heap.size + 1, 0, none⟩) (Nat.le_succ _) (.int .i64 k)).setCell (p := ⟨w.heap.size + 1, 1, none⟩) (Nat.le_succ _) (.int .i64 n))
    have hcp := hide hY4.capN.1
    obtain ⟨q0, q1, u0, u1⟩ := row_at kr2
    clear g0 g1 g3 g4 hY2 kd kr2 hBd hYV hY4 hBV hgV kr1 kr0 kb k0 k1
    simp only [putsOf, Act.put, List.setIfInBounds_toArray, List.set_cons_succ, List.set_cons_zero]
    simp only [List.drop_succ_cons, List.drop_zero]
    unfold dV at e2
    simp only [e1, e2]
    gi_wp2
    (try simp only [Exit.inBlock, Exit.then])
    exact bodyPost_ret (results_do (p := 2) (q := 3) rfl _ _ w.heap.size (w.heap.size + 1) _ _ k n rfl rfl kd4.out kr4.out) rfl ⟨_, d, k, n, rfl, hY4'.out, hcp.out, hdz, hk, hn, hB4.out⟩
end Go.Proofs.Ytimnhedjapakhaa
