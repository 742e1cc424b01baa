/-
  The program's MarkAt, TriangleOk and GapOk: for every argument what they hand back, and nothing that was there is written.
-/
import Derived.Test.YtjghhmgnbcabdaaLeft4
import Derived.Test.YtjghhmgnbcabdaaSpec6
import Derived.Test.YtjghhmgnbcabdaaQuietBelow
import Derived.RangeFuncBox
namespace Go.Proofs.Ytjghhmgnbcabdaa
open Go.RowKit Go.Shelf Go.BigFrame

theorem cast_beq (a b : Nat) : ((a : Int) == (b : Int)) = (a == b) := by rw [Bool.eq_iff_iff, beq_iff_eq, beq_iff_eq]; exact Int.ofNat_inj
set_option maxHeartbeats 400000 in
theorem implMark (row place p : Int) (hf : Fits p) (w : World) : Calls Try.prog 12 #[.int .i64 row, .int .i64 place, .int .i64 p] w fun e w' => e = .returned (.string (str (markL row place p))) ∧ Below w.heap.size w w' := by
  by_cases hbad : badM row place p
  · rw [markL_bad hbad, str_nil]
    unfold badM at hbad
    by_cases h1 : row < 0 ∨ 999999999 < row
    · clear hbad
      go_enter Try.func12, Try.ntmps12
      go_wp2_with (go_at_call 31; refine (within_f _ _ _ (by omega)).mono ?_; rintro e w' ⟨rfl, rfl⟩)
      go_ret
      exact ⟨rfl, Below.refl _ _⟩
    · by_cases h2 : place < 0 ∨ row < place
      · clear hbad
        go_enter Try.func12, Try.ntmps12
        go_wp2_with (first | (go_at_call 31; refine (within_t _ _ _ (by omega) (by omega)).mono ?_; rintro e w' ⟨rfl, rfl⟩) | (go_at_call 31; refine (within_f _ _ _ (by omega)).mono ?_; rintro e w' ⟨rfl, rfl⟩))
        go_ret
        exact ⟨rfl, Below.refl _ _⟩
      · have hpr : prmI p = false := by
          rcases hbad with h | h | h | h | h
          · exact absurd (.inl h) h1
          · exact absurd (.inr h) h1
          · exact absurd (.inl h) h2
          · exact absurd (.inr h) h2
          · exact h
        have hP := fun w => implPrime_is hf hpr w
        clear hbad hpr
        go_enter Try.func12, Try.ntmps12
        go_wp2_with (first | (go_at_call 31; refine (within_t _ _ _ (by omega) (by omega)).mono ?_; rintro e w' ⟨rfl, rfl⟩) | (go_at_call 32; (with_reducible refine (hP _).mono ?_); rintro e w1 ⟨rfl, hB1⟩))
        go_ret
        exact ⟨rfl, hB1⟩
  · obtain ⟨N, K, P, rfl, rfl, rfl, hN, hK, hp⟩ := badM_nat hbad
    rw [markL_nat hN hK hp]
    have hP := fun w => implPrime_is (p := (P : Int)) hf (prmI_ok hp) w
    have hL := fun w => implLeft N K P hf w
    rw [leftV_nat hN (by omega) hp] at hL
    have hlt := leftN_prime hp N K
    have hp13 := (prm_two hp).2
    have hcut := mark_cut (l := leftN P N K) (by omega)
    unfold leftN at *
    obtain ⟨l, hl⟩ : ∃ l, bin N K % P = l := ⟨_, rfl⟩
    rw [hl] at hL hlt hcut ⊢
    have hcut' := hide hcut
    clear hbad hl hcut
    go_enter Try.func12, Try.ntmps12
    have hB0 := Below.refl w.heap.size w
    go_wp2_with (first | (go_at_call 32; (with_reducible refine (hP _).mono ?_); rintro e w' ⟨rfl, hB'⟩; replace hB0 := hB0.trans (hB'.mono hB0.size); clear hB') | (go_at_call 31; refine (within_t _ _ _ (by omega) (by omega)).mono ?_; rintro e w' ⟨rfl, rfl⟩) | (go_at_call 24; (with_reducible refine (hL _).mono ?_); rintro e w' ⟨rfl, hB'⟩; replace hB0 := hB0.trans (hB'.mono hB0.size); clear hB'))
    go_ret
    exact ⟨by rw [← hcut'.out]; rfl, hB0⟩

theorem drawn_t (n : Int) (w : World) (h1 : 1 ≤ n) (h2 : n ≤ 64) : Calls Try.prog 39 #[.int .i64 n] w fun e w' => e = .returned (.bool true) ∧ w = w' := by
  go_enter Try.func39, Try.ntmps39
  go_wp2
  go_ret
  exact ⟨rfl, rfl⟩
theorem drawn_f (n : Int) (w : World) (h : n < 1 ∨ 64 < n) : Calls Try.prog 39 #[.int .i64 n] w fun e w' => e = .returned (.bool false) ∧ w = w' := by
  by_cases h1 : 1 ≤ n
  · have h2 : ¬ n ≤ 64 := by omega
    clear h
    go_enter Try.func39, Try.ntmps39
    go_wp2
    go_ret
    exact ⟨rfl, rfl⟩
  · clear h
    go_enter Try.func39, Try.ntmps39
    go_wp2
    go_ret
    exact ⟨rfl, rfl⟩
theorem corner_t (n k : Int) (w : World) (h1 : 0 ≤ n) (h2 : n ≤ 100000) (h3 : 0 ≤ k) (h4 : k ≤ n) : Calls Try.prog 45 #[.int .i64 n, .int .i64 k] w fun e w' => e = .returned (.bool true) ∧ w = w' := by
  go_enter Try.func45, Try.ntmps45
  go_wp2_with (go_at_call 31; refine (within_t _ _ _ (by omega) (by omega)).mono ?_; rintro e w' ⟨rfl, rfl⟩)
  go_ret
  exact ⟨rfl, rfl⟩
theorem corner_f (n k : Int) (w : World) (h : n < 0 ∨ 100000 < n ∨ k < 0 ∨ n < k) : Calls Try.prog 45 #[.int .i64 n, .int .i64 k] w fun e w' => e = .returned (.bool false) ∧ w = w' := by
  by_cases h1 : n < 0 ∨ 100000 < n
  · clear h
    go_enter Try.func45, Try.ntmps45
    go_wp2_with (go_at_call 31; refine (within_f _ _ _ (by omega)).mono ?_; rintro e w' ⟨rfl, rfl⟩)
    go_ret
    exact ⟨rfl, rfl⟩
  · go_enter Try.func45, Try.ntmps45
    go_wp2_with (first | (go_at_call 31; refine (within_t _ _ _ (by omega) (by omega)).mono ?_; rintro e w' ⟨rfl, rfl⟩) | (go_at_call 31; refine (within_f _ _ _ (by omega)).mono ?_; rintro e w' ⟨rfl, rfl⟩))
    go_ret
    exact ⟨rfl, rfl⟩

/-- A closure over a corner: three boxes of one value each. -/
def fromF (x y z : Nat) : Value := .func (.func 68) #[] #[.pointer (some ⟨x, 0, none⟩), .pointer (some ⟨y, 0, none⟩), .pointer (some ⟨z, 0, none⟩)]
def fromW (w : World) (R : Nat) (n k : Int) : World := ((w.alloc (.cells #[.pointer (some ⟨R, 0, none⟩)] 89)).alloc (.cells #[.int .i64 n] 3)).alloc (.cells #[.int .i64 k] 3)
theorem from_in (R : Nat) (n k : Int) (w : World) : Calls Try.prog 46 #[.pointer (some ⟨R, 0, none⟩), .int .i64 n, .int .i64 k] w fun e w' => e = .returned (.func (.func 68) #[] #[.pointer (some ⟨w.heap.size, 0, none⟩), .pointer (some ⟨w.heap.size + 1, 0, none⟩), .pointer (some ⟨w.heap.size + 2, 0, none⟩)]) ∧ fromW w R n k = w' := by
  go_enter Try.func46, Try.ntmps46
  go_wp2
  go_ret
  exact ⟨rfl, rfl⟩

/-- The three boxes. -/
structure Cor (w : World) (R x y z : Nat) (n k : Int) : Prop where
  s : Boxed w x 89 (.pointer (some ⟨R, 0, none⟩))
  r : Boxed w y 3 (.int .i64 n)
  c : Boxed w z 3 (.int .i64 k)
theorem Cor.kept {w w' : World} {R x y z : Nat} {n k : Int} {row : Option Nat} (h : Cor w R x y z n k) (hg : w.grownBy w' row) (hx : some x ≠ row) (hy : some y ≠ row) (hz : some z ≠ row) : Cor w' R x y z n k :=
  ⟨h.s.kept hg hx, h.r.kept hg hy, h.c.kept hg hz⟩
theorem Cor.new (w : World) (R : Nat) (n k : Int) : Cor (fromW w R n k) R w.heap.size (w.heap.size + 1) (w.heap.size + 2) n k := by
  unfold fromW
  refine ⟨((Boxed.new w _ _).alloc _).alloc _, ?_, ?_⟩
  · have := (Boxed.new (w.alloc (.cells #[.pointer (some ⟨R, 0, none⟩)] 89)) 3 (.int .i64 n)).alloc (.cells #[.int .i64 k] 3)
    simpa using this
  · have := Boxed.new ((w.alloc (.cells #[.pointer (some ⟨R, 0, none⟩)] 89)).alloc (.cells #[.int .i64 n] 3)) 3 (.int .i64 k)
    simpa using this
theorem fromW_grown (w : World) (R : Nat) (n k : Int) : w.grownBy (fromW w R n k) none := by
  unfold fromW
  exact ((World.grownBy_alloc w _ none).trans (World.grownBy_alloc _ _ none)).trans (World.grownBy_alloc _ _ none)
theorem fromW_size (w : World) (R : Nat) (n k : Int) : (fromW w R n k).heap.size = w.heap.size + 3 := by
  unfold fromW; simp

set_option maxHeartbeats 400000 in
theorem here_in (R p x y z : Nat) (N K i j : Nat) (hp : prm p) (hN : N + i ≤ 999999999) (hK : K + j ≤ 999999999) (w : World) (h : Sm w R p) (hc : Cor w R x y z N K) :
    Calls Try.prog 68 #[.int .i64 i, .int .i64 j, .pointer (some ⟨x, 0, none⟩), .pointer (some ⟨y, 0, none⟩), .pointer (some ⟨z, 0, none⟩)] w fun e w' => e = .returned (.int .i64 (leftN p (N + i) (K + j) : Nat)) ∧ Sm w' R p ∧ w.grownBy w' (some R) := by
  have hL := leftIn_in R (N + i) (K + j) p hp hN hK w h
  have e : bin (N + i) (K + j) % p = leftN p (N + i) (K + j) := rfl
  rw [e] at hL
  have c1 : ((N + i : Nat) : Int) = (N : Int) + i := by simp
  have c2 : ((K + j : Nat) : Int) = (K : Int) + j := by simp
  rw [c1, c2] at hL
  clear e c1 c2
  have h1 := hc.s.cell
  have h2 := hc.r.cell
  have h3 := hc.c.cell
  obtain ⟨l, hl⟩ : ∃ l, leftN p (N + i) (K + j) = l := ⟨_, rfl⟩
  rw [hl] at hL ⊢
  clear hl
  have hw1 : IntKind.i64.wrap ((N : Int) + i) = (N : Int) + i := IntWalk.i64_in _ (by omega)
  have hw2 : IntKind.i64.wrap ((K : Int) + j) = (K : Int) + j := IntWalk.i64_in _ (by omega)
  go_enter Try.func68, Try.ntmps68
  go_wp2_with (go_at_call 41; (with_reducible refine hL.mono ?_); rintro e w' ⟨rfl, hS, hg⟩)
  go_ret
  exact ⟨rfl, hS, hg⟩

/-- Worlds of a kind, held as one thing: the class of a region whose callees keep the kind. -/
structure Keep (J : World → Prop) where
  now : World
  ok : J now
theorem wp_region_keep {P : Program} {id : Nat} {Q : Exit → Act → World → Prop} {a : Act} {W : World} {l : List Oper} (J : World → Prop) (hm : P.follows .mixedOrders = true) (hB : Region.lexB .any l.toArray = true) (hW : J W.drew)
    (h : wpQuiet P l.toArray (fun w' => ∃ n : Keep J, w' = n.now) (fun a' => ∀ w', (∃ n : Keep J, w' = n.now) → Q .normal a' w') l a) : (Code.region id l.toArray true).wp P Q a W :=
  wp_region_quiet (C := fun w' => ∃ n : Keep J, w' = n.now) hm hB ⟨⟨_, hW⟩, rfl⟩ (by simpa using h)
theorem keep_of {P : Program} {f : FuncId} {args : Array Value} {J : World → Prop} {n : Keep J} {v : Value}
    (h : Calls P f args n.now fun e w' => e = .returned v ∧ J w') : Calls P f args n.now fun e w'' => e = .returned v ∧ ∃ m : Keep J, w'' = m.now :=
  h.mono fun _ w' ⟨he, hb⟩ => ⟨he, ⟨w', hb⟩, rfl⟩
end Go.Proofs.Ytjghhmgnbcabdaa
