/-
  The walk of the law on ReadDeed.
-/
import Derived.Test.YtdgolpgggahknaaDoorRead12c
import Derived.Test.YtdgolpgggahknaaDoorDraw12h
import Derived.Test.YtdgolpgggahknaaDoorL12Z
namespace Go.Proofs.YtdgolpgggahknaaDoor
open Go Go.RowKit

theorem rdV_not {l : List Nat} (h : (rdV l).2 = false) : (rdV l).1 = (0, 0) := by
  unfold rdV at h ⊢
  cases hr : readD l with
  | none => rfl
  | some a => rw [hr] at h; cases h
theorem rdV_yes {l : List Nat} (h : (rdV l).2 = true) : deedT (rdV l).1.1 (rdV l).1.2 = l ∧ isD (rdV l).1.1 (rdV l).1.2 := by
  unfold rdV at h ⊢
  cases hr : readD l with
  | none => rw [hr] at h; cases h
  | some a =>
    obtain ⟨h1, h2⟩ := readD_text hr
    refine ⟨h2, deedT_is (by rw [h2]; exact h1)⟩
theorem rdV_space (l : List Nat) : rdV (l ++ [32]) = ((0, 0), false) := by
  unfold rdV
  cases hr : readD (l ++ [32]) with
  | none => rfl
  | some a =>
    obtain ⟨h1, h2⟩ := readD_text hr
    have h3 := (deed_ok (deedT_is (by rw [h2]; exact h1))).2.2.2.1
    rw [h2] at h3
    simp at h3
set_option maxRecDepth 100000 in
set_option maxHeartbeats 1000000 in
theorem lawReadDeed (a0 : Option Addr) (len0 cap0 : Nat) (z0 : List Int) (w : World) (w0 : IsRow .u8 w a0 len0 cap0 z0) (hEnv : Env w) :
    Calls Tryd.prog 4 #[.slice a0 len0 cap0] w fun e w' => e = .returned (.bool true) ∧ Below w.heap.size w w' := by
  by_cases hbig : 1048576 < len0
  · go_enter Tryd.func4, Tryd.ntmps4
    go_wp2
    go_ret
    exact ⟨rfl, Below.refl _ _⟩
  · have hbi : ¬ (1048576 : Int) < (len0 : Int) := by omega
    go_enter Tryd.func4, Tryd.ntmps4
    go_wp2_with fail
    go_at_call 14
    refine (drawReadDeed w a0 len0 cap0 z0 w0).mono ?_
    rintro e w1 ⟨v, rfl, ⟨l, rfl, hl, hn⟩, hB1⟩
    have hI := fun V hV => implReadDeed l hl (by omega) V hV
    have hS := fun V => specReadDeed l hl (by omega) V
    have hI2 := fun V hV => implReadDeed (l ++ [32]) (fun x hx => by rcases List.mem_append.1 hx with h | h; exact hl x h; simp at h; omega) (by simp; omega) V hV
    rw [rdV_space, ← str_app, show str [32] = ⟨#[32]⟩ by kernel_rfl] at hI2
    have hno := rdV_not (l := l)
    have hyes := rdV_yes (l := l)
    have hsz := str_size l
    have hT := fun (h : deedT (rdV l).1.1 (rdV l).1.2 = l ∧ isD (rdV l).1.1 (rdV l).1.2) V => implDeedText (rdV l).1.1 (rdV l).1.2 (by unfold isD at h; exact ⟨by omega, by omega⟩) (by unfold isD at h; exact ⟨by omega, by omega⟩) V
    have hTe : ∀ h : deedT (rdV l).1.1 (rdV l).1.2 = l ∧ isD (rdV l).1.1 (rdV l).1.2, str (deedT (rdV l).1.1 (rdV l).1.2) = str l := fun h => by rw [h.1]
    obtain ⟨S, hSS⟩ : ∃ S, str l = S := ⟨_, rfl⟩
    rw [hSS] at hI hS hI2 hsz hTe ⊢
    obtain ⟨⟨⟨k, n⟩, b⟩, hr⟩ : ∃ r, rdV l = r := ⟨_, rfl⟩
    rw [hr] at hI hS hno hyes hT hTe
    simp only at hI hS hno hyes hT hTe
    have hSb : S.size ≤ 40 := by omega
    have hE1 := hEnv.below hB1
    unfold dV at *
    clear hSS hr hEnv hl hsz
    have hI1 := hI w1 hE1
    go_wp2_with (go_at_call 13; refine hI1.mono ?_)
    rintro e w2 ⟨rfl, b2⟩
    have hE2 := hE1.below b2
    have hB2 := hB1.trans (b2.mono hB1.size)
    have ka := World.alloc_heap_new w2 (.cells #[.int .i64 k, .int .i64 n] 24)
    have ba := (Below.refl _ w2).alloc (Nat.le_refl _) (.cells #[.int .i64 k, .int .i64 n] 24)
    obtain ⟨w3, hw3⟩ : ∃ w3, w2.alloc (.cells #[.int .i64 k, .int .i64 n] 24) = w3 := ⟨_, rfl⟩
    rw [hw3] at ba ka
    obtain ⟨c0, c1, _, _⟩ := row_atD ka
    have hE3 := hE2.below ba
    have hB3 := hB2.trans (ba.mono hB2.size)
    have la := (Array.getElem?_eq_some_iff.1 ka).1
    clear hI hI1 hE1 hE2 hB1 hB2 b2 ba
    go_wp2_with (go_at_call 15; refine (hS _).mono ?_)
    rintro e w4 ⟨rfl, b4⟩
    have k4 := (b4.block _ la).trans ka
    have l4 := (Array.getElem?_eq_some_iff.1 k4).1
    have hE4 := hE3.below b4
    have hB4 := hB3.trans (b4.mono hB3.size)
    have kx := World.alloc_heap_new w4 (.cells #[.int .i64 k, .int .i64 n] 24)
    have bx := (Below.refl _ w4).alloc (Nat.le_refl _) (.cells #[.int .i64 k, .int .i64 n] 24)
    obtain ⟨w5, hw5⟩ : ∃ w5, w4.alloc (.cells #[.int .i64 k, .int .i64 n] 24) = w5 := ⟨_, rfl⟩
    rw [hw5] at bx kx
    obtain ⟨x0, x1, _, _⟩ := row_atD kx
    have k5 := (bx.block _ l4).trans k4
    have l5 := (Array.getElem?_eq_some_iff.1 k5).1
    obtain ⟨c0, c1, _, _⟩ := row_atD k5
    have hE5 := hE4.below bx
    have hB5 := hB4.trans (bx.mono hB4.size)
    clear ka la hE3 hE4 hB3 hB4 b4 bx k4 l4 hS kx
    cases b with
    | false =>
      obtain ⟨rfl, rfl⟩ := Prod.mk.inj (hno rfl)
      clear hI2 hyes hT hTe hno
      subst hw5
      go_wp2_with (go_at_call 12; refine (alive_in _).mono ?_; rintro e w6 ⟨rfl, b6⟩)
      go_ret
      exact ⟨rfl, hB5.trans (b6.mono hB5.size)⟩
    | true =>
      have hy := hyes rfl
      have hT1 := hT hy
      rw [hTe hy] at hT1
      have hI3 := hI2 w5 hE5
      clear hI2 hyes hT hTe hno hy
      go_wp2_with (go_at_call 13; refine hI3.mono ?_)
      rintro e w6 ⟨rfl, b6⟩
      have k6 := (b6.block _ l5).trans k5
      have l6 := (Array.getElem?_eq_some_iff.1 k6).1
      have hB6 := hB5.trans (b6.mono hB5.size)
      have by_ := (Below.refl _ w6).alloc (Nat.le_refl _) (.cells #[.int .i64 0, .int .i64 0] 24)
      obtain ⟨w7, hw7⟩ : ∃ w7, w6.alloc (.cells #[.int .i64 0, .int .i64 0] 24) = w7 := ⟨_, rfl⟩
      rw [hw7] at by_
      have k7 := (by_.block _ l6).trans k6
      obtain ⟨c0, c1, _, _⟩ := row_atD k7
      have hB7 := hB6.trans (by_.mono hB6.size)
      clear k5 l5 hE5 hB5 b6 k6 l6 hI3 hB6 by_
      subst hw7
      go_wp2_with (go_at_call 10; refine (hT1 _).mono ?_; rintro e w8 ⟨rfl, b8⟩)
      go_ret
      exact ⟨rfl, hB7.trans (b8.mono hB7.size)⟩
end Go.Proofs.YtdgolpgggahknaaDoor
