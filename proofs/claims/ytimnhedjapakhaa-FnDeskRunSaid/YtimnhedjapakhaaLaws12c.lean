/-
  The walk of the law on DeskDo.
-/
import Derived.Test.YtimnhedjapakhaaDraw12d
import Derived.Test.YtimnhedjapakhaaLaws12b
import Derived.Test.YtimnhedjapakhaaI12Z
import Derived.Test.YtimnhedjapakhaaS12Y
import Derived.Test.YtimnhedjapakhaaL12Z
import Derived.Test.YtimnhedjapakhaaBaseZ
import Derived.Test.YtimnhedjapakhaaSideZ
namespace Go.Proofs.Ytimnhedjapakhaa
open Go.RowKit Go.BigFrame

theorem sameInts_len (a a' : Option Addr) (n n' c c' : Nat) (w : World) (h : n ≠ n') : Calls Try.prog 44 #[.slice a n c, .slice a' n' c'] w fun e w' => e = .returned (.bool false) ∧ w = w' := by
  have h1 : ¬ (n : Int) = (n' : Int) := by omega
  have h2 : ¬ n = n' := h
  go_enter Try.func44, Try.ntmps44
  go_wp2
  go_ret
  exact ⟨rfl, rfl⟩
theorem sameRows_len (a a' : Option Addr) (n n' c c' : Nat) (w : World) (h : n ≠ n') : Calls Try.prog 45 #[.slice a n c, .slice a' n' c'] w fun e w' => e = .returned (.bool false) ∧ w = w' := by
  have h1 : ¬ (n : Int) = (n' : Int) := by omega
  have h2 : ¬ n = n' := h
  go_enter Try.func45, Try.ntmps45
  go_wp2
  go_ret
  exact ⟨rfl, rfl⟩
theorem sameDesk_zero (v u : Value) (d : Dk) (w : World) (hv : DeskI w v ([], [])) (hu : DeskI w u d) : Calls Try.prog 15 #[v, u] w fun e w' => ∃ b, e = .returned (.bool b) ∧ Below w.heap.size w w' := by
  by_cases h : d.1.length = 0 ∧ d.2.length = 0
  · obtain ⟨d1, d2⟩ := d
    obtain rfl : d1 = [] := List.length_eq_zero_iff.1 h.1
    obtain rfl : d2 = [] := List.length_eq_zero_iff.1 h.2
    exact (sameDesk_in v u ([], []) w ⟨by simp, by simp, fun j hj => by simp at hj⟩ hv hu).mono fun e w' ⟨h1, h2⟩ => ⟨true, h1, h2⟩
  · obtain ⟨x, p, rfl, hx, hp⟩ := hv
    obtain ⟨y, q, rfl, hy, hq⟩ := hu
    have hB : Below w.heap.size w ((w.alloc (.cells #[x, p] 26)).alloc (.cells #[y, q] 26)) := ((Below.refl _ w).alloc (Nat.le_refl _) _).alloc (by rw [World.size_alloc]; omega) _
    have k1 := World.alloc_heap_new (w.alloc (.cells #[x, p] 26)) (.cells #[y, q] 26)
    rw [World.size_alloc] at k1
    have k0 : ((w.alloc (.cells #[x, p] 26)).alloc (.cells #[y, q] 26)).heap[w.heap.size]? = some (.cells #[x, p] 26 (0, 0)) := (Below.heap_alloc _ _ _ (by rw [World.size_alloc]; omega)).trans (World.alloc_heap_new w _)
    obtain ⟨W0, hW0⟩ : ∃ W0, (w.alloc (.cells #[x, p] 26)).alloc (.cells #[y, q] 26) = W0 := ⟨_, rfl⟩
    rw [hW0] at hB k0 k1
    have l0 := (Array.getElem?_eq_some_iff.1 k0).1
    have l1 := (Array.getElem?_eq_some_iff.1 k1).1
    by_cases h1 : d.1.length = 0
    · have hne : (0 : Nat) ≠ d.2.length := fun e => h ⟨h1, e.symm⟩
      have hd1 : d.1 = [] := List.length_eq_zero_iff.1 h1
      have hI := sameInts_in x y [] W0 (by simp) (hx.below hB) (by rw [hd1] at hy; exact hy.below hB)
      obtain ⟨xa, xc, rfl⟩ := hx.shape
      obtain ⟨ya, yc, rfl⟩ := hy.shape
      obtain ⟨pa, pc, rfl, _⟩ := hp
      obtain ⟨qa, qc, rfl, _⟩ := hq
      have hR := fun V => sameRows_len pa qa 0 d.2.length pc qc V hne
      simp only [h1, List.length_nil] at hI k0 k1 hW0 ⊢
      obtain ⟨c0, c1, _, _⟩ := row_at k0
      obtain ⟨e0, e1, _, _⟩ := row_at k1
      clear hx hy h h1 hd1
      go_enter Try.func15, Try.ntmps15
      go_wp2_with (first
        | (go_at_call 44; go_loud (refine hI.mono ?_; clear hI; rintro e w2 ⟨rfl, hB2⟩; obtain ⟨c0, c1, _, _⟩ := row_at ((hB2.block _ l0).trans k0); obtain ⟨e0, e1, _, _⟩ := row_at ((hB2.block _ l1).trans k1)))
        | (go_at_call 45; go_loud (refine (hR _).mono ?_; clear hR; rintro e w3 ⟨rfl, rfl⟩)))
      go_ret
      exact ⟨_, rfl, hB.trans (hB2.mono hB.size)⟩
    · have hne : (0 : Nat) ≠ d.1.length := fun e => h1 e.symm
      obtain ⟨xa, xc, rfl⟩ := hx.shape
      obtain ⟨ya, yc, rfl⟩ := hy.shape
      obtain ⟨pa, pc, rfl, _⟩ := hp
      obtain ⟨qa, qc, rfl, _⟩ := hq
      have hI := fun V => sameInts_len xa ya 0 d.1.length xc yc V hne
      simp only [List.length_nil] at hI k0 k1 hW0 ⊢
      obtain ⟨c0, c1, _, _⟩ := row_at k0
      obtain ⟨e0, e1, _, _⟩ := row_at k1
      clear hx hy h h1
      go_enter Try.func15, Try.ntmps15
      go_wp2_with (go_at_call 44; go_loud (refine (hI _).mono ?_; clear hI; rintro e w2 ⟨rfl, rfl⟩))
      go_ret
      exact ⟨_, rfl, hB⟩
theorem lies_ints {W : World} {v : Value} {xs : List Int} (h : Ints W v xs) (h0 : 0 < xs.length) : Lies v := by
  rcases h with ⟨_, _, _, e⟩ | ⟨g, c, rfl, _⟩
  · rw [e] at h0; simp at h0
  · exact .inr ⟨_, _, _, rfl⟩
theorem rowsOk_same {D : Dk} (h : RowsOk D) : D.1.length ≤ 1000000 ∧ D.2.length ≤ 1000000 ∧ ∀ j, j < D.2.length → (D.2.getD j []).length ≤ 1000000 :=
  ⟨by have := h.2.2.1; omega, by have := h.2.2.2; omega, fun j hj => by have := h.2.1 j hj; omega⟩

set_option maxRecDepth 100000 in
set_option maxHeartbeats 4000000 in
theorem lawDeskDo (a0 : Option Addr) (len0 cap0 : Nat) (z0 : List Int) (w : World) (w0 : IsRow .u8 w a0 len0 cap0 z0) :
    Calls Try.prog 4 #[.slice a0 len0 cap0] w fun e w' => e = .returned (.bool true) ∧ Below w.heap.size w w' := by
  by_cases hbig : 1048576 < len0
  · go_enter Try.func4, Try.ntmps4
    go_wp2
    go_ret
    exact ⟨rfl, Below.refl _ _⟩
  · have hbi : ¬ (1048576 : Int) < (len0 : Int) := by omega
    go_enter Try.func4, Try.ntmps4
    go_wp2_with fail
    go_at_call 12
    refine (drawDeskDo w a0 len0 cap0 z0 w0).mono ?_
    rintro e w1 ⟨y, d, k, n, rfl, hd, hcp, hz, hk, hn, hB1⟩
    obtain ⟨x, p, rfl, hx, hp⟩ := id hd
    obtain ⟨xa, xc, rfl⟩ := hx.shape
    obtain ⟨pa, pc, rfl, _⟩ := id hp
    unfold dV
    have ba : Below w1.heap.size w1 ((w1.alloc (.cells #[.slice xa d.1.length xc, .slice pa d.2.length pc] 26)).alloc (.cells #[.int .i64 k, .int .i64 n] 32)) := ((Below.refl _ w1).alloc (Nat.le_refl _) _).alloc (by rw [World.size_alloc]; omega) _
    have kd : ((w1.alloc (.cells #[.slice xa d.1.length xc, .slice pa d.2.length pc] 26)).alloc (.cells #[.int .i64 k, .int .i64 n] 32)).heap[w1.heap.size]? = some (.cells #[.slice xa d.1.length xc, .slice pa d.2.length pc] 26 (0, 0)) := (Below.heap_alloc _ _ _ (by rw [World.size_alloc]; omega)).trans (World.alloc_heap_new w1 _)
    have ke := World.alloc_heap_new (w1.alloc (.cells #[.slice xa d.1.length xc, .slice pa d.2.length pc] 26)) (.cells #[.int .i64 k, .int .i64 n] 32)
    rw [World.size_alloc] at ke
    go_wp2_with fail
    obtain ⟨w2, hw2⟩ : ∃ w2, (w1.alloc (.cells #[.slice xa d.1.length xc, .slice pa d.2.length pc] 26)).alloc (.cells #[.int .i64 k, .int .i64 n] 32) = w2 := ⟨_, rfl⟩
    rw [hw2] at ba kd ke ⊢
    clear hw2
    have hd2 := hd.below ba
    have hB2 := hB1.trans (ba.mono hB1.size)
    obtain ⟨bd, hbd⟩ : ∃ bd, w1.heap.size = bd := ⟨_, rfl⟩
    rw [hbd] at kd ke ⊢
    obtain ⟨be, hbe⟩ : ∃ be, bd + 1 = be := ⟨_, rfl⟩
    rw [hbe] at ke ⊢
    clear hd hx hp ba hB1 hbd hbe
    have hI := implDo _ d k n w2 hd2 hcp hz.dkS hk hn
    have hS := fun V (hV : DeskI V (.agg #[.slice xa d.1.length xc, .slice pa d.2.length pc]) d) => specDo _ d k n V hV hz.dkS hk hn
    unfold dV at hI hS
    have hro := doV_rows d k n
    have hsz := rowsOk_same hro
    go_at_call 13
    refine hI.mono ?_
    clear hI
    rintro e w3 ⟨g, rfl, hg, b3⟩
    have hgd := hg.deskI
    have hgc := hg.cap
    obtain ⟨g1, g2, g3, g4, rfl⟩ := hg.form
    have b3a := (Below.refl _ w3).alloc (Nat.le_refl _) (.cells #[.slice g1 (doV d k n).1.1.length g2, .slice g3 (doV d k n).1.2.length g4] 26)
    have kx := World.alloc_heap_new w3 (.cells #[.slice g1 (doV d k n).1.1.length g2, .slice g3 (doV d k n).1.2.length g4] 26)
    obtain ⟨c0, c1, _, _⟩ := row_at ((b3.block _ (Array.getElem?_eq_some_iff.1 kd).1).trans kd)
    obtain ⟨d0, d1, _, _⟩ := row_at ((b3.block _ (Array.getElem?_eq_some_iff.1 ke).1).trans ke)
    have b24 := b3.trans (b3a.mono b3.size)
    have kd4 := (b24.block _ (Array.getElem?_eq_some_iff.1 kd).1).trans kd
    have ke4 := (b24.block _ (Array.getElem?_eq_some_iff.1 ke).1).trans ke
    have hd4 := hd2.below b24
    have hgd4 := hgd.below b3a
    have hB4 := hB2.trans (b24.mono hB2.size)
    obtain ⟨w4, hw4⟩ : ∃ w4, w3.alloc (.cells #[.slice g1 (doV d k n).1.1.length g2, .slice g3 (doV d k n).1.2.length g4] 26) = w4 := ⟨_, rfl⟩
    rw [hw4] at kx kd4 ke4 hd4 hgd4 hB4
    obtain ⟨bx, hbx⟩ : ∃ bx, w3.heap.size = bx := ⟨_, rfl⟩
    rw [hbx] at kx
    obtain ⟨c0, c1, _, _⟩ := row_at kd4
    obtain ⟨d0, d1, _, _⟩ := row_at ke4
    clear hg hgd b3a b3 b24 kd ke hd2 hB2
    go_wp2_with fail
    clear hbx hw4
    go_at_call 14
    refine (hS _ hd4).mono ?_
    clear hS
    rintro e w5 ⟨m, rfl, hm, _, b5⟩
    obtain ⟨mx, mp, rfl, hmx, hmp⟩ := id hm
    obtain ⟨m1, m2, rfl⟩ := hmx.shape
    obtain ⟨m3, m4, rfl, _⟩ := id hmp
    have b5a := (Below.refl _ w5).alloc (Nat.le_refl _) (.cells #[.slice m1 (doV d k n).1.1.length m2, .slice m3 (doV d k n).1.2.length m4] 26)
    have km := World.alloc_heap_new w5 (.cells #[.slice m1 (doV d k n).1.1.length m2, .slice m3 (doV d k n).1.2.length m4] 26)
    have b46 := b5.trans (b5a.mono b5.size)
    obtain ⟨w6, hw6⟩ : ∃ w6, w5.alloc (.cells #[.slice m1 (doV d k n).1.1.length m2, .slice m3 (doV d k n).1.2.length m4] 26) = w6 := ⟨_, rfl⟩
    rw [hw6] at b5a km b46
    have kd6 := (b46.block _ (Array.getElem?_eq_some_iff.1 kd4).1).trans kd4
    have ke6 := (b46.block _ (Array.getElem?_eq_some_iff.1 ke4).1).trans ke4
    have kx6 := (b46.block _ (Array.getElem?_eq_some_iff.1 kx).1).trans kx
    have hd6 := hd4.below b46
    have hgd6 := hgd4.below b46
    have hm6 := hm.below b5a
    have hB6 := hB4.trans (b46.mono hB4.size)
    obtain ⟨x0, x1, _, _⟩ := row_at kx6
    obtain ⟨y0, y1, _, _⟩ := row_at km
    clear hd4 hgd4 hm hmx hmp b5 b5a kd4 ke4 kx km b46 hB4
    go_wp2_with fail
    go_at_call 15
    refine (sameDesk_in _ _ _ w6 hsz hgd6 hm6).mono ?_
    rintro e w7 ⟨rfl, b7⟩
    have kd7 := (b7.block _ (Array.getElem?_eq_some_iff.1 kd6).1).trans kd6
    have ke7 := (b7.block _ (Array.getElem?_eq_some_iff.1 ke6).1).trans ke6
    have kx7 := (b7.block _ (Array.getElem?_eq_some_iff.1 kx6).1).trans kx6
    have hd7 := hd6.below b7
    have hgd7 := hgd6.below b7
    have hB7 := hB6.trans (b7.mono hB6.size)
    obtain ⟨x0, x1, _, _⟩ := row_at kx7
    obtain ⟨c0, c1, _, _⟩ := row_at kd7
    clear hd6 hgd6 hm6 kd6 ke6 kx6 hB6 b7 y0 y1
    cases hbb : (doV d k n).2 with
    | false =>
      cases hdb : deskB d with
      | false =>
        have hD : (doV d k n).1 = ([], []) := by rw [doV_no hdb]
        rw [hD] at hgd7 x0 x1
        have hO := fun V (hV : Below w7.heap.size w7 V) => implDeskOk _ d V (hd7.below hV) hz.dkS
        rw [hdb] at hO
        have hS := sameDesk_zero _ _ d w7 hgd7 hd7
        simp only [hD] at *
        go_wp2_with fail
        go_at_call 15
        refine hS.mono ?_
        rintro e w8 ⟨bo, rfl, b8⟩
        obtain ⟨c0, c1, _, _⟩ := row_at ((b8.block _ (Array.getElem?_eq_some_iff.1 kd7).1).trans kd7)
        cases bo
        · go_wp2_with (first
            | (go_at_call 9; go_loud (refine (hO _ b8).mono ?_; clear hO; rintro e w9 ⟨rfl, b9⟩))
            | (go_at_call 11; go_loud (refine (alive_in _).mono ?_; rintro e w10 ⟨rfl, b10⟩)))
          go_ret
          exact ⟨rfl, hB7.trans ((b8.trans ((b9.trans (b10.mono b9.size)).mono b8.size)).mono hB7.size)⟩
        · go_wp2_with (go_at_call 11; go_loud (refine (alive_in _).mono ?_; rintro e w10 ⟨rfl, b10⟩))
          go_ret
          exact ⟨rfl, hB7.trans ((b8.trans (b10.mono b8.size)).mono hB7.size)⟩
      | true =>
        have hD := do_not hdb hbb
        rw [hD] at hgd7 hsz
        have hS := sameDesk_in _ _ d w7 hsz hgd7 hd7
        simp only [hD] at *
        go_wp2_with (first
          | (go_at_call 15; go_loud (refine hS.mono ?_; clear hS; rintro e w8 ⟨rfl, b8⟩))
          | (go_at_call 11; go_loud (refine (alive_in _).mono ?_; rintro e w10 ⟨rfl, b10⟩)))
        go_ret
        exact ⟨rfl, hB7.trans ((b8.trans (b10.mono b8.size)).mono hB7.size)⟩
    | true =>
      have hdb : deskB d = true := by
        cases h : deskB d with
        | true => rfl
        | false => rw [doV_no h] at hbb; cases hbb
      have hDb := do_desk hdb k n
      have hbk := fun (h5 : k ≠ 5) (h8 : d.2.length < 8) => do_back hdb hbb h5 h8
      have htn : k = 3 → onesV (doV d k n).1.1 = onesV d.1 := fun e => by subst e; exact do_turn hdb hbb
      have hds := (deskB_is.1 hdb)
      have hdl := sideB_len hds.2.1
      have hDl := sideB_len (deskB_is.1 hDb).2.1
      obtain ⟨D, hD⟩ : ∃ D, (doV d k n).1 = D := ⟨_, rfl⟩
      rw [hD] at hgd7 hgc x0 x1 kx7 hDb hbk htn hDl hro hsz
      have hDS := (RowsOk.dkZ hro).dkS
      have hI2 := implDo (.agg #[.slice g1 D.1.length g2, .slice g3 D.2.length g4]) D 5 0 w7 hgd7 hgc hDS (by unfold Fits; omega) (by unfold Fits; omega)
      unfold dV at hI2
      clear hro
      simp only [hD] at *
      go_wp2_with fail
      go_at_call 13
      refine hI2.mono ?_
      clear hI2
      rintro e w8 ⟨bv, rfl, hbv, b8⟩
      have hbd8 := hbv.deskI
      obtain ⟨v1, v2, v3, v4, rfl⟩ := hbv.form
      obtain ⟨E, hE⟩ : ∃ E, doV D 5 0 = E := ⟨_, rfl⟩
      rw [hE] at hbd8 hbk ⊢
      have b8a := (Below.refl _ w8).alloc (Nat.le_refl _) (.cells #[.slice v1 E.1.1.length v2, .slice v3 E.1.2.length v4] 26)
      have kv := World.alloc_heap_new w8 (.cells #[.slice v1 E.1.1.length v2, .slice v3 E.1.2.length v4] 26)
      have b79 := b8.trans (b8a.mono b8.size)
      obtain ⟨w9, hw9⟩ : ∃ w9, w8.alloc (.cells #[.slice v1 E.1.1.length v2, .slice v3 E.1.2.length v4] 26) = w9 := ⟨_, rfl⟩
      rw [hw9] at b8a kv b79
      have kd9 := (b79.block _ (Array.getElem?_eq_some_iff.1 kd7).1).trans kd7
      have ke9 := (b79.block _ (Array.getElem?_eq_some_iff.1 ke7).1).trans ke7
      have kx9 := (b79.block _ (Array.getElem?_eq_some_iff.1 kx7).1).trans kx7
      have hd9 := hd7.below b79
      have hg9 := hgd7.below b79
      have hb9 := hbd8.below b8a
      have hB9 := hB7.trans (b79.mono hB7.size)
      have hxi : Ints w9 (.slice g1 D.1.length g2) D.1 := by
        obtain ⟨x', p', e, h1, _⟩ := hg9
        injection e with e
        simp at e
        rw [← e.1] at h1
        exact h1
      have hdi : Ints w9 (.slice xa d.1.length xc) d.1 := by
        obtain ⟨x', p', e, h1, _⟩ := hd9
        injection e with e
        simp at e
        rw [← e.1] at h1
        exact h1
      obtain ⟨bk, hbk'⟩ : ∃ bk, w8.heap.size = bk := ⟨_, rfl⟩
      rw [hbk'] at kv
      clear hbv b8 hbd8 b8a b79 kd7 ke7 kx7 hd7 hgd7 hB7 hgc x0 x1 c0 c1
      go_upto_region 11 with fail
      clear hw9 hbk'
      -- what is known in every world that comes behind
      have fd : ∀ m : After w9, m.now.cell? ⟨bd, 0, none⟩ = some (.slice xa d.1.length xc) ∧ m.now.cell? ⟨bd, 1, none⟩ = some (.slice pa d.2.length pc) := fun m => by obtain ⟨h1, h2, _, _⟩ := row_at ((m.ok.block _ (Array.getElem?_eq_some_iff.1 kd9).1).trans kd9); exact ⟨h1, h2⟩
      have fe : ∀ m : After w9, m.now.cell? ⟨be, 0, none⟩ = some (.int .i64 k) := fun m => by obtain ⟨h1, _, _, _⟩ := row_at ((m.ok.block _ (Array.getElem?_eq_some_iff.1 ke9).1).trans ke9); exact h1
      have fx : ∀ m : After w9, m.now.cell? ⟨bx, 0, none⟩ = some (.slice g1 D.1.length g2) ∧ m.now.cell? ⟨bx, 1, none⟩ = some (.slice g3 D.2.length g4) := fun m => by obtain ⟨h1, h2, _, _⟩ := row_at ((m.ok.block _ (Array.getElem?_eq_some_iff.1 kx9).1).trans kx9); exact ⟨h1, h2⟩
      have fv : ∀ m : After w9, m.now.cell? ⟨bk, 0, none⟩ = some (.slice v1 E.1.1.length v2) ∧ m.now.cell? ⟨bk, 1, none⟩ = some (.slice v3 E.1.2.length v4) := fun m => by obtain ⟨h1, h2, _, _⟩ := row_at ((m.ok.block _ (Array.getElem?_eq_some_iff.1 kv).1).trans kv); exact ⟨h1, h2⟩
      have fd0 := fun m => (fd m).1
      have fd1 := fun m => (fd m).2
      have fx0 := fun m => (fx m).1
      have fx1 := fun m => (fx m).2
      have fv0 := fun m => (fv m).1
      have fv1 := fun m => (fv m).2
      have cO : ∀ m : After w9, Calls Try.prog 9 #[.agg #[.slice g1 D.1.length g2, .slice g3 D.2.length g4]] m.now fun e w' => e = .returned (.bool true) ∧ ∃ m' : After w9, w' = m'.now := fun m => after_of (by have h := implDeskOk _ D m.now (hg9.below m.ok) hDS; rw [hDb] at h; exact h)
      have cA : ∀ m : After w9, Calls Try.prog 11 #[] m.now fun e w' => e = .returned (.bool true) ∧ ∃ m' : After w9, w' = m'.now := fun m => after_of (alive_in _)
      have cX : ∀ m : After w9, Calls Try.prog 16 #[.slice g1 D.1.length g2] m.now fun e w' => e = .returned (.int .i64 (onesV D.1)) ∧ ∃ m' : After w9, w' = m'.now := fun m => after_of (implOnes _ D.1 m.now (hxi.below m.ok) (lies_ints hxi (by omega)) (by omega))
      have cD : ∀ m : After w9, Calls Try.prog 16 #[.slice xa d.1.length xc] m.now fun e w' => e = .returned (.int .i64 (onesV d.1)) ∧ ∃ m' : After w9, w' = m'.now := fun m => after_of (implOnes _ d.1 m.now (hdi.below m.ok) (lies_ints hdi (by omega)) (by omega))
      have cS : E = (d, true) → ∀ m : After w9, Calls Try.prog 15 #[.agg #[.slice v1 E.1.1.length v2, .slice v3 E.1.2.length v4], .agg #[.slice xa d.1.length xc, .slice pa d.2.length pc]] m.now fun e w' => e = .returned (.bool true) ∧ ∃ m' : After w9, w' = m'.now := fun hEd m => after_of (by
        subst hEd
        exact sameDesk_in _ _ d m.now ⟨by omega, by have := hds.2.2; omega, fun j hj => by have := hz.2.2 j; omega⟩ (hb9.below m.ok) (hd9.below m.ok))
      clear fd fx fv kd9 ke9 kx9 kv hd9 hg9 hb9 hxi hdi hds hDS hz hk hn hsz
      by_cases h5 : k = 5
      · subst h5
        clear hbk htn cS
        refine wp_region_below w9 (by kernel_rfl) (by kernel_rfl) (Below.refl _ _) ?_
        repeat (go_big_quiet_step (first | (go_at_call 9; exact cO _) | (go_at_call 16; exact cX _) | (go_at_call 16; exact cD _) | (go_at_call 11; exact cA _)))
        refine wpQuiet_nil ?_
        rintro _ ⟨nq, rfl⟩
        go_wp2
        go_ret
        exact ⟨rfl, hB9.trans (nq.ok.mono hB9.size)⟩
      · have h5' : (k == 5) = false := by simpa using h5
        by_cases h8 : d.2.length < 8
        · have h8' : ¬ (8 : Int) ≤ (d.2.length : Int) := by omega
          have h8d : decide ((8 : Int) ≤ (d.2.length : Int)) = false := by simpa using h8'
          have hEd := hbk h5 h8
          have cS' := cS hEd
          subst hEd
          clear hbk cS
          simp only at cS' fv0 fv1 ⊢
          by_cases h3 : k = 3
          · rw [htn h3] at cX
            subst h3
            clear htn
            refine wp_region_below w9 (by kernel_rfl) (by kernel_rfl) (Below.refl _ _) ?_
            repeat (go_big_quiet_step (first | (go_at_call 9; exact cO _) | (go_at_call 15; exact cS' _) | (go_at_call 16; exact cX _) | (go_at_call 16; exact cD _) | (go_at_call 11; exact cA _)))
            refine wpQuiet_nil ?_
            rintro _ ⟨nq, rfl⟩
            go_wp2
            go_ret
            exact ⟨rfl, hB9.trans (nq.ok.mono hB9.size)⟩
          · have h3' : (k != 3) = true := by simpa using h3
            have h3'' : (k == 3) = false := by simpa using h3
            clear htn
            refine wp_region_below w9 (by kernel_rfl) (by kernel_rfl) (Below.refl _ _) ?_
            repeat (go_big_quiet_step (first | (go_at_call 9; exact cO _) | (go_at_call 15; exact cS' _) | (go_at_call 16; exact cX _) | (go_at_call 16; exact cD _) | (go_at_call 11; exact cA _)))
            refine wpQuiet_nil ?_
            rintro _ ⟨nq, rfl⟩
            go_wp2
            go_ret
            exact ⟨rfl, hB9.trans (nq.ok.mono hB9.size)⟩
        · have h8' : (8 : Int) ≤ (d.2.length : Int) := by omega
          have h8d : decide ((8 : Int) ≤ (d.2.length : Int)) = true := by simpa using h8'
          clear hbk cS
          by_cases h3 : k = 3
          · rw [htn h3] at cX
            subst h3
            clear htn
            refine wp_region_below w9 (by kernel_rfl) (by kernel_rfl) (Below.refl _ _) ?_
            repeat (go_big_quiet_step (first | (go_at_call 9; exact cO _) | (go_at_call 16; exact cX _) | (go_at_call 16; exact cD _) | (go_at_call 11; exact cA _)))
            refine wpQuiet_nil ?_
            rintro _ ⟨nq, rfl⟩
            go_wp2
            go_ret
            exact ⟨rfl, hB9.trans (nq.ok.mono hB9.size)⟩
          · have h3' : (k != 3) = true := by simpa using h3
            have h3'' : (k == 3) = false := by simpa using h3
            clear htn
            refine wp_region_below w9 (by kernel_rfl) (by kernel_rfl) (Below.refl _ _) ?_
            repeat (go_big_quiet_step (first | (go_at_call 9; exact cO _) | (go_at_call 16; exact cX _) | (go_at_call 16; exact cD _) | (go_at_call 11; exact cA _)))
            refine wpQuiet_nil ?_
            rintro _ ⟨nq, rfl⟩
            go_wp2
            go_ret
            exact ⟨rfl, hB9.trans (nq.ok.mono hB9.size)⟩
end Go.Proofs.Ytimnhedjapakhaa
