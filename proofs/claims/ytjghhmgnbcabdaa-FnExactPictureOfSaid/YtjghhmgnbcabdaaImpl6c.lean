/-
  The program's TriangleOk at every argument.
-/
import Derived.Test.YtjghhmgnbcabdaaImpl6b
import Derived.Laws.EntriesVeiled
namespace Go.Proofs.Ytjghhmgnbcabdaa
open Go.RowKit Go.Shelf Go.BigFrame

theorem two_first {w w1 : World} {t u : TypeId} {v v' : Value} (h : Below ((w.alloc (.cells #[v] t)).alloc (.cells #[v'] u)).heap.size ((w.alloc (.cells #[v] t)).alloc (.cells #[v'] u)) w1) : Boxed w1 w.heap.size t v :=
  (h.block _ (by simp; omega)).trans ((Boxed.new w _ _).alloc _)
theorem two_second {w w1 : World} {t u : TypeId} {v v' : Value} (h : Below ((w.alloc (.cells #[v] t)).alloc (.cells #[v'] u)).heap.size ((w.alloc (.cells #[v] t)).alloc (.cells #[v'] u)) w1) : Boxed w1 (w.heap.size + 1) u v' :=
  (h.block _ (by simp)).trans (boxed_at _ _ (by simp))

set_option maxRecDepth 100000 in
set_option maxHeartbeats 2000000 in
theorem implTriangle_ok (N K R T P : Nat) (hN : N ≤ 100000) (hK : K ≤ N) (hR1 : 1 ≤ R) (hR : R ≤ 64) (hT : T < P) (hp : prm P) (w : World) : Calls Try.prog 21 #[.int .i64 N, .int .i64 K, .int .i64 R, .int .i64 T, .int .i64 P] w fun e w' => e = .returned (.bool (triOk P N K T R)) ∧ Below w.heap.size w w' := by
  have hp2 := prm_two hp
  have hP := fun w => implPrime_is (p := (P : Int)) (by unfold Fits; omega) (prmI_ok hp) w
  have hS : each (fun i j => leftN P (N + i) (K + j) == T * leftN P i j % P) R = triOk P N K T R := by
    unfold each triOk; simp only [beq_iff_eq]
  rw [← hS]
  clear hS
  have hwp : IntKind.i64.wrap ((P : Int) - 1) = (P : Int) - 1 := IntWalk.i64_in _ (by omega)
  go_enter Try.func21, Try.ntmps21
  go_wp2_with (first
    | (go_at_call 45; refine (corner_t _ _ _ (by omega) (by omega) (by omega) (by omega)).mono ?_; rintro e w' ⟨rfl, rfl⟩)
    | (go_at_call 39; refine (drawn_t _ _ (by omega) (by omega)).mono ?_; rintro e w' ⟨rfl, rfl⟩)
    | (go_at_call 31; refine (within_t _ _ _ (by omega) (by omega)).mono ?_; rintro e w' ⟨rfl, rfl⟩)
    | (go_at_call 32; (with_reducible refine (hP _).mono ?_); rintro e w1 ⟨rfl, hB1⟩; have hb8 := two_first hB1; have hb9 := two_second hB1; have hc8 := hb8.cell; have hc9 := hb9.cell)
    | (refine build_sm rfl _ rfl P rfl ?_)
    | (refine alloc_sm rfl rfl ?_)
    | (refine store_sm rfl _ _ rfl w1.heap.size P rfl rfl (heap_alloc_new _ _) ?_; intro w2 hS2 hg2)
    | (go_at_call 46; (with_reducible refine (from_in _ (N : Int) (K : Int) _).mono ?_); rintro e w3 ⟨rfl, hw3⟩)
    | (go_at_call 46; (with_reducible refine (from_in _ 0 0 _).mono ?_); rintro e w4 ⟨rfl, hw4⟩))
  clear hP hwp
  go_at_call 47
  have hsz1 : w.heap.size + 2 ≤ w1.heap.size := by have := hB1.size; simp at this; omega
  have hsz2 : w1.heap.size + 1 ≤ w2.heap.size := by have := hg2.size; simp at this; omega
  have hsz3 : w3.heap.size = w2.heap.size + 3 := by rw [← hw3, fromW_size]
  have hsz4 : w4.heap.size = w3.heap.size + 3 := by rw [← hw4, fromW_size]
  have hB : Below w.heap.size w w1 := (((Below.refl w.heap.size w).alloc (Nat.le_refl _) _).alloc (by simp) _).trans (hB1.mono (by simp; omega))
  have hB2 : Below w.heap.size w w2 := (hB.alloc (by omega) _).grown hg2 (by simp; omega) (fun k e => by cases e; omega)
  have g3 : w2.grownBy w3 none := hw3 ▸ fromW_grown _ _ _ _
  have g4 : w3.grownBy w4 none := hw4 ▸ fromW_grown _ _ _ _
  have hB4 : Below w.heap.size w w4 := (hB2.grown g3 (by omega) (fun k e => by cases e)).grown g4 (by omega) (fun k e => by cases e)
  have hS4 : Sm w4 w1.heap.size P := (Sm.kept (.inl hS2) g3 (by simp)).kept g4 (by simp)
  have h8 : Boxed w4 w.heap.size 3 (.int .i64 T) := (((hb8.alloc _).kept hg2 (by simp; omega)).kept g3 (by simp)).kept g4 (by simp)
  have h9 : Boxed w4 (w.heap.size + 1) 3 (.int .i64 P) := (((hb9.alloc _).kept hg2 (by simp; omega)).kept g3 (by simp)).kept g4 (by simp)
  have q3 : Cor w4 w1.heap.size w2.heap.size (w2.heap.size + 1) (w2.heap.size + 2) N K := (hw3 ▸ Cor.new w2 w1.heap.size N K : Cor w3 w1.heap.size w2.heap.size (w2.heap.size + 1) (w2.heap.size + 2) N K).kept g4 (by simp) (by simp) (by simp)
  have q4 : Cor w4 w1.heap.size w3.heap.size (w3.heap.size + 1) (w3.heap.size + 2) (0 : Nat) (0 : Nat) := hw4 ▸ Cor.new w3 w1.heap.size 0 0
  clear hw3 hw4 g3 g4 hg2 hb8 hb9 hc8 hc9 hS2 hB1
  refine (each_tri (TriJ w w1.heap.size P N K T w4.heap.size w.heap.size (w4.heap.size + 1) (w.heap.size + 1) w2.heap.size (w2.heap.size + 1) (w2.heap.size + 2) w3.heap.size (w3.heap.size + 1) (w3.heap.size + 2)) R hR _ _ _ _ _ (fun W i j hJ hi hj => tri_call w w1.heap.size P N K T _ _ _ _ _ _ _ _ _ _ i j hp hN hK hT (by omega) hj W hJ) _ ?_).mono ?_
  · have k1 := fun (W : World) o => World.grownBy_alloc W o none
    exact ⟨(hS4.kept (k1 _ _) (by simp)).kept (k1 _ _) (by simp), (q3.kept (k1 _ _) (by simp) (by simp) (by simp)).kept (k1 _ _) (by simp) (by simp) (by simp), (q4.kept (k1 _ _) (by simp) (by simp) (by simp)).kept (k1 _ _) (by simp) (by simp) (by simp), (Boxed.new _ _ _).alloc _, (h8.alloc _).alloc _, boxed_at _ _ (by simp), (h9.alloc _).alloc _, (hB4.alloc (by omega) _).alloc (by simp; omega) _, by omega, by omega, by omega, by omega, by omega, by omega, by omega, by omega, by omega, by omega, by omega⟩
  · rintro e w5 ⟨rfl, hJ⟩
    go_wp2
    go_ret
    exact ⟨rfl, hJ.bel⟩

theorem implTriangle (row place rows times p : Int) (hf : Fits p) (w : World) : Calls Try.prog 21 #[.int .i64 row, .int .i64 place, .int .i64 rows, .int .i64 times, .int .i64 p] w fun e w' => e = .returned (.bool (triV row place rows times p)) ∧ Below w.heap.size w w' := by
  by_cases hbad : badT row place rows times p
  · rw [triV_bad hbad]
    unfold badT at hbad
    have hA : Below w.heap.size w ((w.alloc (.cells #[.int .i64 times] 3)).alloc (.cells #[.int .i64 p] 3)) := ((Below.refl w.heap.size w).alloc (Nat.le_refl _) _).alloc (by simp) _
    by_cases h1 : row < 0 ∨ 100000 < row ∨ place < 0 ∨ row < place
    · clear hbad
      go_enter Try.func21, Try.ntmps21
      go_wp2_with (go_at_call 45; refine (corner_f _ _ _ h1).mono ?_; rintro e w' ⟨rfl, rfl⟩)
      go_ret
      exact ⟨rfl, hA⟩
    · by_cases h2 : rows < 1 ∨ 64 < rows
      · clear hbad
        go_enter Try.func21, Try.ntmps21
        go_wp2_with (first | (go_at_call 45; refine (corner_t _ _ _ (by omega) (by omega) (by omega) (by omega)).mono ?_; rintro e w' ⟨rfl, rfl⟩) | (go_at_call 39; refine (drawn_f _ _ h2).mono ?_; rintro e w' ⟨rfl, rfl⟩))
        go_ret
        exact ⟨rfl, hA⟩
      · cases hpr : prmI p with
        | false =>
          have hP := fun w => implPrime_is hf hpr w
          clear hbad hpr
          go_enter Try.func21, Try.ntmps21
          go_wp2_with (first | (go_at_call 45; refine (corner_t _ _ _ (by omega) (by omega) (by omega) (by omega)).mono ?_; rintro e w' ⟨rfl, rfl⟩) | (go_at_call 39; refine (drawn_t _ _ (by omega) (by omega)).mono ?_; rintro e w' ⟨rfl, rfl⟩) | (go_at_call 32; (with_reducible refine (hP _).mono ?_); rintro e w1 ⟨rfl, hB1⟩))
          go_ret
          exact ⟨rfl, hA.trans (hB1.mono (by simp; omega))⟩
        | true =>
          have hP := fun w => implPrime_is hf hpr w
          have h3 : times < 0 ∨ p - 1 < times := by
            rcases hbad with h | h | h | h | h | h | h | h | h
            · rw [hpr] at h; cases h
            · exact absurd (.inl h) h2
            · exact absurd (.inr h) h2
            · exact .inl h
            · exact .inr h
            · exact absurd (.inl h) h1
            · exact absurd (.inr (.inl h)) h1
            · exact absurd (.inr (.inr (.inl h))) h1
            · exact absurd (.inr (.inr (.inr h))) h1
          obtain ⟨P, rfl, hp⟩ := prmI_t hpr
          have hp2 := prm_two hp
          have hwp : IntKind.i64.wrap ((P : Int) - 1) = (P : Int) - 1 := IntWalk.i64_in _ (by omega)
          clear hbad hpr
          go_enter Try.func21, Try.ntmps21
          go_wp2_with (first | (go_at_call 45; refine (corner_t _ _ _ (by omega) (by omega) (by omega) (by omega)).mono ?_; rintro e w' ⟨rfl, rfl⟩) | (go_at_call 39; refine (drawn_t _ _ (by omega) (by omega)).mono ?_; rintro e w' ⟨rfl, rfl⟩) | (go_at_call 32; (with_reducible refine (hP _).mono ?_); rintro e w1 ⟨rfl, hB1⟩; have hb8 := two_first hB1; have hb9 := two_second hB1; have hc8 := hb8.cell; have hc9 := hb9.cell) | (go_at_call 31; refine (within_f _ _ _ (by omega)).mono ?_; rintro e w' ⟨rfl, rfl⟩))
          go_ret
          exact ⟨rfl, hA.trans (hB1.mono (by simp; omega))⟩
  · obtain ⟨N, K, R, T, P, rfl, rfl, rfl, rfl, rfl, hN, hK, hR1, hR, hT, hp⟩ := badT_nat hbad
    rw [triV_nat hN hK hR1 hR hT hp]
    exact implTriangle_ok N K R T P hN hK hR1 hR hT hp w
end Go.Proofs.Ytjghhmgnbcabdaa
