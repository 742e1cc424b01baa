/-
  The draws of chapter 6: each hands back numbers, and nothing that was there is written.
-/
import Derived.Test.YtjghhmgnbcabdaaDraw3
import Derived.Test.YtjghhmgnbcabdaaSpec4
import Derived.Test.YtjghhmgnbcabdaaSel2
namespace Go.Proofs.Ytjghhmgnbcabdaa
open Go.RowKit

def Int4 (e : Ending) : Prop := ∃ x y z t : Int, Fits x ∧ Fits y ∧ Fits z ∧ Fits t ∧ e = .returned (.tuple #[.int .i64 x, .int .i64 y, .int .i64 z, .int .i64 t])
def Int5 (e : Ending) : Prop := ∃ x y z t u : Int, Fits x ∧ Fits y ∧ Fits z ∧ Fits t ∧ Fits u ∧ e = .returned (.tuple #[.int .i64 x, .int .i64 y, .int .i64 z, .int .i64 t, .int .i64 u])

theorem four_results {fn : Func} {t u v x : Tmp} (h : fn.results = #[.tmp t, .tmp u, .tmp v, .tmp x]) (tmps : Array Value) (P : Program) (w : World) :
    (results fn tmps).run P w = .ok (.tuple #[tmps.getD t undef, tmps.getD u undef, tmps.getD v undef, tmps.getD x undef]) w := by
  simp [results, h]
theorem five_results {fn : Func} {t u v x y : Tmp} (h : fn.results = #[.tmp t, .tmp u, .tmp v, .tmp x, .tmp y]) (tmps : Array Value) (P : Program) (w : World) :
    (results fn tmps).run P w = .ok (.tuple #[tmps.getD t undef, tmps.getD u undef, tmps.getD v undef, tmps.getD x undef, tmps.getD y undef]) w := by
  simp [results, h]

set_option maxHeartbeats 1000000 in
theorem drawMark (w : World) (a : Option Addr) (len cap : Nat) (zs : List Int) (h : IsRow .u8 w a len cap zs) : Calls Try.prog 11 #[.slice a len cap] w fun e w' => Int3 e ∧ Below w.heap.size w w' := by
  go_enter Try.func11, Try.ntmps11
  go_wp2_with fail
  go_at_call 28
  refine (open_in w a len cap zs h).mono ?_
  rintro e w1 ⟨R, n, c, rfl, hb, hR⟩
  go_wp2_with fail
  go_at_call 29
  refine (l20Cell_in w R n c _ a _ hb hR (by omega)).mono ?_
  rintro e w2 ⟨⟨x, y, hx, hy, rfl⟩, q, hq, hR2⟩
  go_wp2_with fail
  go_at_call 30
  refine (l20Prime_in w R n c _ a _ hb hR2 (by omega)).mono ?_
  rintro e w3 ⟨⟨z, hz, rfl⟩, hR3, _⟩
  go_wp2
  go_ret3
  exact ⟨⟨_, _, _, hx, hy, hz, rfl⟩, hR3.1⟩

set_option maxHeartbeats 1000000 in
theorem drawPicture (w : World) (a : Option Addr) (len cap : Nat) (zs : List Int) (h : IsRow .u8 w a len cap zs) : Calls Try.prog 16 #[.slice a len cap] w fun e w' => Int2 e ∧ Below w.heap.size w w' := by
  go_enter Try.func16, Try.ntmps16
  go_wp2_with fail
  go_at_call 28
  refine (open_in w a len cap zs h).mono ?_
  rintro e w1 ⟨R, n, c, rfl, hb, hR⟩
  go_wp2_with fail
  go_at_call 38
  refine (pick_in w R n c _ a _ _ hb hR (by omega)).mono ?_
  rintro e w2 ⟨k, rfl, hk0, _, hk1, hR2, _⟩
  replace hk1 := hk1 (by omega)
  go_wp2_with fail
  go_at_call 38
  refine (pick_in w R n c _ a _ _ hb hR2 (by omega)).mono ?_
  rintro e w3 ⟨j, rfl, hj0, _, hj1, hR3, _⟩
  replace hj1 := hj1 (by omega)
  go_wp2_with fail
  go_at_call 30
  refine (l20Prime_in w R n c _ a _ hb hR3 (by omega)).mono ?_
  rintro e w4 ⟨⟨z, hz, rfl⟩, hR4, _⟩
  go_wp2
  go_ret2
  exact ⟨⟨_, _, by first | exact wrap_fits _ | exact wrap64_fits _ | (unfold Fits; omega), hz, rfl⟩, hR4.1⟩

theorem leftV_fits (row place p : Int) (h : Fits p) : Fits (leftV row place p) := by
  unfold leftV
  split
  · unfold Fits; omega
  · rename_i hb
    unfold badL at hb
    obtain ⟨P, rfl, hP⟩ := prmI_t (p := p) (by cases e : prmI p; exact absurd (.inr (.inr (.inr (.inr e)))) hb; rfl)
    have h2 := prm_two hP
    have := Nat.mod_lt (bin row.toNat place.toNat) (show 0 < P by omega)
    unfold Fits
    simp only [Int.toNat_natCast]
    omega

set_option maxHeartbeats 2000000 in
theorem drawTriangle (w : World) (a : Option Addr) (len cap : Nat) (zs : List Int) (h : IsRow .u8 w a len cap zs) : Calls Try.prog 20 #[.slice a len cap] w fun e w' => Int5 e ∧ Below w.heap.size w w' := by
  go_enter Try.func20, Try.ntmps20
  go_wp2_with fail
  go_at_call 28
  refine (open_in w a len cap zs h).mono ?_
  rintro e w1 ⟨R, n, c, rfl, hb, hR⟩
  go_wp2_with fail
  go_at_call 30
  refine (l20Prime_in w R n c _ a _ hb hR (by omega)).mono ?_
  rintro e w2 ⟨⟨p, hp, rfl⟩, hR2, _⟩
  go_wp2_with fail
  go_at_call 38
  refine (pick_in w R n c _ a _ _ hb hR2 (by omega)).mono ?_
  rintro e w3 ⟨k, rfl, hk0, _, hk1, hR3, _⟩
  replace hk1 := hk1 (by omega)
  have hPr := fun w => specPrime p w
  by_cases hway : 0 < k ∧ prmI p = true
  · obtain ⟨hk, hpr⟩ := hway
    rw [hpr] at hPr
    obtain ⟨P, rfl, hP⟩ := prmI_t hpr
    have hPP := prm_two hP
    clear hpr hR hR2
    go_wp2_with fail
    go_at_call 23
    refine (hPr _).mono ?_
    rintro e w' ⟨rfl, rfl⟩
    clear hPr
    obtain ⟨D, hD⟩ : ∃ D, P * P = D := ⟨_, rfl⟩
    have hDi : (P : Int) * (P : Int) = (D : Int) := by rw [← hD]; simp
    have hDl : D ≤ 13 * 13 := by rw [← hD]; exact Nat.mul_le_mul hPP.2 hPP.2
    have hw1 : IntKind.i64.wrap (D : Int) = D := IntWalk.i64_in _ (by omega)
    clear hD
    go_wp2_with fail
    go_at_call 38
    refine (pick_in w R n c _ a _ _ hb (hR3.alloc _) (by omega)).mono ?_
    rintro e w4 ⟨z, rfl, hz0, _, hz1, hR4, hgr, hon⟩
    replace hz1 := hz1 (by omega)
    obtain ⟨i, hi3, rfl⟩ : ∃ i : Nat, i < 3 ∧ z = i := ⟨z.toNat, by omega, by omega⟩
    have hkc := only_cells hon
    have hne := hR3.ne
    have hs2 := fun W => sel_cell hi3 W 1 (P : Int) (D : Int)
    have hi4 : (i : Int) < 3 := by omega
    have hQ0 : 0 ≤ sel i 1 (P : Int) (D : Int) ∧ sel i 1 (P : Int) (D : Int) ≤ 169 := by unfold sel; split <;> (try split) <;> omega
    generalize sel i 1 (P : Int) (D : Int) = Q at *
    clear hR3 hgr hon
    go_wp2_with fail
    go_at_call 38
    refine (pick_in w R n c _ a _ _ hb hR4 (by omega)).mono ?_
    rintro e w5 ⟨x, rfl, hx0, _, hx1, hR5, _⟩
    replace hx1 := hx1 (by omega)
    clear hR4 hkc hs2
    have hw2 : IntKind.i64.wrap (x + 1) = x + 1 := IntWalk.i64_in _ (by omega)
    go_wp2_with fail
    go_at_call 38
    refine (pick_in w R n c _ a _ _ hb hR5 (by omega)).mono ?_
    rintro e w6 ⟨y, rfl, hy0, _, hy1, hR6, _⟩
    replace hy1 := hy1 (by omega)
    clear hR5
    have hL := fun w => specLeft x y P w
    have hLf := leftV_fits x y P hp
    generalize leftV x y P = l at *
    by_cases h20 : 20 < Q
    all_goals
      go_wp2_with (go_at_call 34; (with_reducible refine (hL _).mono ?_); rintro e w' ⟨rfl, hB'⟩)
      (try simp only [Exit.inBlock, Exit.then]); refine bodyPost_ret (five_results rfl _ _ _) rfl ?_
      exact ⟨⟨_, _, _, _, _, by first | exact wrap_fits _ | exact wrap64_fits _, by first | exact wrap_fits _ | exact wrap64_fits _, by unfold Fits; omega, hLf, hp, rfl⟩, hR6.1.trans (hB'.mono hR6.1.size)⟩
  · have hk2 : ¬ 0 < k ∨ (0 < k ∧ prmI p = false) := by
      by_cases e : 0 < k
      · exact .inr ⟨e, by cases e2 : prmI p; rfl; exact absurd ⟨e, e2⟩ hway⟩
      · exact .inl e
    rcases hk2 with hk2 | ⟨hk2, hpr⟩
    case' inl =>
      have hd : decide (0 < k) = false := by simpa using hk2
      clear hway hPr hR hR2
    case' inr =>
      rw [hpr] at hPr
      clear hway hR hR2
      go_wp2_with fail
      go_at_call 23
      refine (hPr _).mono ?_
      rintro e w' ⟨rfl, rfl⟩
    all_goals
      go_wp2_with fail
      go_at_call 38
      refine (pick_in w R n c _ a _ _ hb hR3 (by omega)).mono ?_
      rintro e w4 ⟨x, rfl, hx0, _, hx1, hR4, _⟩
      replace hx1 := hx1 (by omega)
      go_wp2_with fail
      go_at_call 38
      refine (pick_in w R n c _ a _ _ hb hR4 (by omega)).mono ?_
      rintro e w5 ⟨y, rfl, hy0, _, hy1, hR5, _⟩
      replace hy1 := hy1 (by omega)
      go_wp2_with fail
      go_at_call 38
      refine (pick_in w R n c _ a _ _ hb hR5 (by omega)).mono ?_
      rintro e w6 ⟨z, rfl, hz0, _, hz1, hR6, _⟩
      replace hz1 := hz1 (by omega)
      go_wp2_with fail
      go_at_call 38
      refine (pick_in w R n c _ a _ _ hb hR6 (by omega)).mono ?_
      rintro e w7 ⟨t, rfl, ht0, _, ht1, hR7, _⟩
      replace ht1 := ht1 (by omega)
      go_wp2
      (try simp only [Exit.inBlock, Exit.then]); refine bodyPost_ret (five_results rfl _ _ _) rfl ?_
      exact ⟨⟨_, _, _, _, _, by unfold Fits; omega, by unfold Fits; omega, by first | exact wrap_fits _ | exact wrap64_fits _ | (unfold Fits; omega), by unfold Fits; omega, hp, rfl⟩, hR7.1⟩

set_option maxHeartbeats 2000000 in
theorem drawGap (w : World) (a : Option Addr) (len cap : Nat) (zs : List Int) (h : IsRow .u8 w a len cap zs) : Calls Try.prog 25 #[.slice a len cap] w fun e w' => Int4 e ∧ Below w.heap.size w w' := by
  go_enter Try.func25, Try.ntmps25
  go_wp2_with fail
  go_at_call 28
  refine (open_in w a len cap zs h).mono ?_
  rintro e w1 ⟨R, n, c, rfl, hb, hR⟩
  go_wp2_with fail
  go_at_call 30
  refine (l20Prime_in w R n c _ a _ hb hR (by omega)).mono ?_
  rintro e w2 ⟨⟨p, hp, rfl⟩, hR2, _⟩
  go_wp2_with fail
  go_at_call 38
  refine (pick_in w R n c _ a _ _ hb hR2 (by omega)).mono ?_
  rintro e w3 ⟨k, rfl, hk0, _, hk1, hR3, _⟩
  replace hk1 := hk1 (by omega)
  have hPr := fun w => specPrime p w
  by_cases hway : 0 < k ∧ prmI p = true
  · obtain ⟨hk, hpr⟩ := hway
    rw [hpr] at hPr
    obtain ⟨P, rfl, hP⟩ := prmI_t hpr
    have hPP := prm_two hP
    clear hpr hR hR2
    go_wp2_with fail
    go_at_call 23
    refine (hPr _).mono ?_
    rintro e w' ⟨rfl, rfl⟩
    clear hPr
    obtain ⟨D, hD⟩ : ∃ D, P * P = D := ⟨_, rfl⟩
    have hDi : (P : Int) * (P : Int) = (D : Int) := by rw [← hD]; simp
    have hDl : D ≤ 13 * 13 := by rw [← hD]; exact Nat.mul_le_mul hPP.2 hPP.2
    have hw1 : IntKind.i64.wrap (D : Int) = D := IntWalk.i64_in _ (by omega)
    clear hD
    go_wp2_with fail
    go_at_call 38
    refine (pick_in w R n c _ a _ _ hb (hR3.alloc _) (by omega)).mono ?_
    rintro e w4 ⟨z, rfl, hz0, _, hz1, hR4, hgr, hon⟩
    replace hz1 := hz1 (by omega)
    obtain ⟨i, hi3, rfl⟩ : ∃ i : Nat, i < 2 ∧ z = i := ⟨z.toNat, by omega, by omega⟩
    have hkc := only_cells hon
    have hne := hR3.ne
    have hs2 := fun W => two_cell hi3 W (P : Int) (D : Int)
    have hi4 : (i : Int) < 2 := by omega
    have hQ0 : 0 ≤ two i (P : Int) (D : Int) ∧ two i (P : Int) (D : Int) ≤ 169 := by unfold two; split <;> omega
    generalize two i (P : Int) (D : Int) = Q at *
    clear hR3 hgr hon
    go_wp2_with fail
    go_at_call 38
    refine (pick_in w R n c _ a _ _ hb hR4 (by omega)).mono ?_
    rintro e w5 ⟨x, rfl, hx0, _, hx1, hR5, _⟩
    replace hx1 := hx1 (by omega)
    clear hR4 hkc hs2
    have hw2 : IntKind.i64.wrap (1 + x) = 1 + x := IntWalk.i64_in _ (by omega)
    go_wp2_with fail
    go_at_call 38
    refine (pick_in w R n c _ a _ _ hb hR5 (by omega)).mono ?_
    rintro e w6 ⟨y, rfl, hy0, _, hy1, hR6, _⟩
    replace hy1 := hy1 (by omega)
    clear hR5
    have hw3 : IntKind.i64.wrap (Q - 1) = Q - 1 := IntWalk.i64_in _ (by omega)
    by_cases h20 : 20 < Q - 1
    all_goals
      go_wp2
      (try simp only [Exit.inBlock, Exit.then]); refine bodyPost_ret (four_results rfl _ _ _) rfl ?_
      exact ⟨⟨_, _, _, _, by first | exact wrap_fits _ | exact wrap64_fits _, by first | exact wrap_fits _ | exact wrap64_fits _, by unfold Fits; omega, hp, rfl⟩, hR6.1⟩
  · have hk2 : ¬ 0 < k ∨ (0 < k ∧ prmI p = false) := by
      by_cases e : 0 < k
      · exact .inr ⟨e, by cases e2 : prmI p; rfl; exact absurd ⟨e, e2⟩ hway⟩
      · exact .inl e
    rcases hk2 with hk2 | ⟨hk2, hpr⟩
    case' inl =>
      have hd : decide (0 < k) = false := by simpa using hk2
      clear hway hPr hR hR2
    case' inr =>
      rw [hpr] at hPr
      clear hway hR hR2
      go_wp2_with fail
      go_at_call 23
      refine (hPr _).mono ?_
      rintro e w' ⟨rfl, rfl⟩
    all_goals
      go_wp2_with fail
      go_at_call 38
      refine (pick_in w R n c _ a _ _ hb hR3 (by omega)).mono ?_
      rintro e w4 ⟨x, rfl, hx0, _, hx1, hR4, _⟩
      replace hx1 := hx1 (by omega)
      go_wp2_with fail
      go_at_call 38
      refine (pick_in w R n c _ a _ _ hb hR4 (by omega)).mono ?_
      rintro e w5 ⟨y, rfl, hy0, _, hy1, hR5, _⟩
      replace hy1 := hy1 (by omega)
      go_wp2_with fail
      go_at_call 38
      refine (pick_in w R n c _ a _ _ hb hR5 (by omega)).mono ?_
      rintro e w6 ⟨z, rfl, hz0, _, hz1, hR6, _⟩
      replace hz1 := hz1 (by omega)
      go_wp2
      (try simp only [Exit.inBlock, Exit.then]); refine bodyPost_ret (four_results rfl _ _ _) rfl ?_
      exact ⟨⟨_, _, _, _, by unfold Fits; omega, by unfold Fits; omega, by first | exact wrap_fits _ | exact wrap64_fits _ | (unfold Fits; omega), hp, rfl⟩, hR6.1⟩
end Go.Proofs.Ytjghhmgnbcabdaa
