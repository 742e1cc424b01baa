/-
  The program's ReadDeed walked.
-/
import Derived.Test.YtkcbfiglmjdaiaaDoorRead12b
namespace Go.Proofs.YtkcbfiglmjdaiaaDoor
open Go.RowKit

theorem ints_first {w : World} {base : Nat} {v : Value} {xs : List Int} (h : w.ownsRow base 3 1 v xs.length (xs.map (Value.int .i64))) :
    (xs = [] ∧ ∃ a c, v = .slice a 0 c) ∨ (∃ g c n, xs ≠ [] ∧ v = .slice (some ⟨g, 0, none⟩) (n + 1) c ∧ xs.length = n + 1 ∧ base ≤ g ∧ w.cell? ⟨g, 0, none⟩ = some (.int .i64 (xs.headD 0))) := by
  cases xs with
  | nil =>
    rcases h.2 with ⟨rfl, _⟩ | ⟨g, cap, cur, rfl, _⟩
    · exact .inl ⟨rfl, _, _, rfl⟩
    · exact .inl ⟨rfl, _, _, rfl⟩
  | cons x xs =>
    rcases h.2 with ⟨_, h0⟩ | ⟨g, cap, cur, rfl, hb, hk, hn, hm, hs, hx⟩
    · simp at h0
    · refine .inr ⟨g, cap, xs.length, by simp, rfl, by simp, hb, ?_⟩
      have h0 := congrArg (fun q : List Value => q[0]?) hx
      simp at h0
      simp [World.cell?, hk, h0]
theorem cr_blockD {W : World} {b : Nat} {cur : Array Value} {t : TypeId} (h : W.heap[b]? = some (.cells cur t (0, 0))) (p : Nat) (v : Value) : (W.setCell ⟨b, p, none⟩ v).heap[b]? = some (.cells (cur.setIfInBounds p v) t (0, 0)) := by
  obtain ⟨hlt, hk⟩ := Array.getElem?_eq_some_iff.1 h
  show (W.heap.modify b _)[b]? = _
  rw [Array.getElem?_eq_getElem (by rw [Array.size_modify]; exact hlt), Array.getElem_modify_self, hk]; rfl
set_option maxRecDepth 100000 in
set_option maxHeartbeats 2000000 in
theorem implReadDeed (l : List Nat) (hl : ∀ x ∈ l, x < 256) (hn : l.length ≤ 1100000) (w : World) (hE : Env w) : Calls Tryd.prog 21 #[.string (str l)] w fun e w' => e = .returned (.tuple #[dV (rdV l).1.1 (rdV l).1.2, .bool (rdV l).2]) ∧ Below w.heap.size w w' := by
  have hR := fun V hV => readLine_in l hl hn V hV
  have hI := fun g W hc => index_in (rlV l).1 (rl_byte l hl) g W hc
  have h1 := rdv_none (l := l)
  have h2 := rdv_other (l := l)
  have h3 := rdv_this (l := l)
  have hle := ixL_le (rlV l).1
  have hns := rl_le l
  obtain ⟨⟨p, xs⟩, hr⟩ : ∃ r, rlV l = r := ⟨_, rfl⟩
  rw [hr] at hR hI h1 h2 h3 hle hns
  simp only at hR hI h1 h2 h3 hle hns
  obtain ⟨K, hK⟩ : ∃ K, ixL p = K := ⟨_, rfl⟩
  rw [hK] at hI h1 h2 h3 hle
  have hNb : 0 ≤ xs.headD 0 ∧ xs.headD 0 ≤ 999999999 := by
    cases xs with
    | nil => exact ⟨by decide, by decide⟩
    | cons x xs => exact hns x (by simp)
  have hT := fun V => implDeedText K (xs.headD 0) ⟨by omega, by omega⟩ ⟨by omega, by omega⟩ V
  have hcmp : ((str (deedT K (xs.headD 0))).toList == (str l).toList) = decide (deedT K (xs.headD 0) = l) := by
    rw [Bool.eq_iff_iff, beq_iff_eq, decide_eq_true_eq, str_toList, str_toList]
    exact ⟨fun e => str_inj (fun x hx => (deed_byte _ _ x hx).1) hl e, fun e => by rw [e]⟩
  obtain ⟨P, hP⟩ : ∃ P, str p = P := ⟨_, rfl⟩
  obtain ⟨S, hS⟩ : ∃ S, str l = S := ⟨_, rfl⟩
  rw [hS] at hR hcmp ⊢
  rw [hP] at hR hI
  clear hr hK hP hS hns hl hn
  have hB0 : Below w.heap.size w (w.alloc (.cells #[.int .i64 0, .int .i64 0] 36)) := (Below.refl _ w).alloc (Nat.le_refl _) _
  have hres0 := World.alloc_heap_new w (.cells #[.int .i64 0, .int .i64 0] 36)
  have hsz0 := World.size_alloc w (.cells #[.int .i64 0, .int .i64 0] 36)
  have hE0 := hE.below hB0
  obtain ⟨W0, hW0⟩ : ∃ W0, w.alloc (.cells #[.int .i64 0, .int .i64 0] 36) = W0 := ⟨_, rfl⟩
  rw [hW0] at hB0 hres0 hsz0 hE0
  have hres : ∀ W, Below W0.heap.size W0 W → W.heap[w.heap.size]? = some (.cells #[.int .i64 0, .int .i64 0] 36 (0, 0)) := fun W hW => (hW.block _ (by omega)).trans hres0
  replace hres := hide hres
  have hk : K < 0 ∨ 0 ≤ K := by omega
  rcases hk with hk | hk
  · have hrd := hide (h1 hk)
    clear h1 h2 h3 hT hcmp hNb
    go_enter Tryd.func21, Tryd.ntmps21
    go_wp2_with (first
      | (go_at_call 37; refine (hR _ hE0).mono ?_; clear hR; rintro e w1 ⟨v, rfl, hown, hB1⟩)
      | (go_at_call 27; refine (words_at _).mono ?_; go_loud (rintro e w2 ⟨rfl, hwk, hB2⟩; have hB12 := hB1.trans (hB2.mono hB1.size); have hI2 := hI _ _ hwk; have hr8 := hres.out _ hB12; have d0 : w2.cell? ⟨w.heap.size, 0, none⟩ = some (.int .i64 0) := (by simp [World.cell?, hr8]); have d1 : w2.cell? ⟨w.heap.size, 1, none⟩ = some (.int .i64 0) := (by simp [World.cell?, hr8]); have f0 : w2.frozen? ⟨w.heap.size, 0, none⟩ = false := (by simp [World.frozen?, hr8]); have f1 : w2.frozen? ⟨w.heap.size, 1, none⟩ = false := (by simp [World.frozen?, hr8]); clear hI hwk))
      | (go_at_call 38; refine hI2.mono ?_; clear hI2; rintro e w3 ⟨rfl, rfl⟩))
    have hset := deed_set hr8 0 0
    refine bodyPost_ret (results_deed rfl _ _ w.heap.size 0 0 rfl hset) rfl ⟨by rw [hrd.out]; rfl, ?_⟩
    exact (((hB0.trans (hB12.mono hB0.size)).setCell (p := ⟨w.heap.size, 0, none⟩) (Nat.le_refl _) _).setCell (p := ⟨w.heap.size, 1, none⟩) (Nat.le_refl _) _)
  · obtain ⟨DT, hDT⟩ : ∃ DT, str (deedT K (xs.headD 0)) = DT := ⟨_, rfl⟩
    obtain ⟨N, hN⟩ : ∃ N, xs.headD 0 = N := ⟨_, rfl⟩
    rw [hN] at h2 h3 hT hcmp hDT
    rw [hDT] at hT hcmp
    unfold dV at hT
    have hk1 : ¬ K < 0 := by omega
    have hfin : Hid (rdV l = if deedT K N = l then ((K, N), true) else ((0, 0), false)) := by
      by_cases e : deedT K N = l
      · rw [if_pos e]; exact hide (h3 hk e)
      · rw [if_neg e]; exact hide (h2 e)
    have hfirst := fun (W : World) (v : Value) (h : W.ownsRow W0.heap.size 3 1 v xs.length (xs.map (Value.int .i64))) => ints_first h
    rw [hN] at hfirst
    have hNx : xs = [] → N = 0 := fun e => by rw [← hN, e]; rfl
    clear h1 h2 h3 hDT hNb hN
    go_enter Tryd.func21, Tryd.ntmps21
    go_wp2_with (go_at_call 37; refine (hR _ hE0).mono ?_; clear hR)
    intro e w1 v he hown hB1
    subst he
    rw [← hsz0] at hown hB1
    have hf := hfirst _ _ hown
    clear hfirst hown
    rcases hf with ⟨hx0, a0, c0, rfl⟩ | ⟨g, c0, n0, hx0, rfl, hx1, hg, hcell⟩
    · have hN0 := hNx hx0
      subst hx0
      subst hN0
      go_wp2_with (first
        | (go_at_call 27; refine (words_at _).mono ?_; go_loud (rintro e w2 ⟨rfl, hwk, hB2⟩; have hB12 := hB1.trans (hB2.mono hB1.size); have hI2 := hI _ _ hwk; clear hI hwk))
        | (go_at_call 38; refine hI2.mono ?_; clear hI2; rintro e w3 ⟨rfl, rfl⟩)
        | (go_at_call 13; refine (hT _).mono ?_; clear hT))
      rintro e w4 ⟨rfl, hB4⟩
      have hbx := World.alloc_heap_new w2 (.cells #[.int .i64 K, .int .i64 0] 36)
      have hbs := World.size_alloc w2 (.cells #[.int .i64 K, .int .i64 0] 36)
      have hBb : Below W0.heap.size W0 (w2.alloc (.cells #[.int .i64 K, .int .i64 0] 36)) := hB12.alloc hB12.size _
      have hBb4 := hBb.trans (hB4.mono hBb.size)
      have hbx4 := (hB4.block _ (by omega)).trans hbx
      obtain ⟨b, hb⟩ : ∃ b, w2.heap.size = b := ⟨_, rfl⟩
      rw [hb] at hbx4 ⊢
      clear hbx hbs hBb hB4 hb
      have hr8 := hres.out _ hBb4
      have d0 : w4.cell? ⟨w.heap.size, 0, none⟩ = some (.int .i64 0) := (by simp [World.cell?, hr8])
      have d1 : w4.cell? ⟨w.heap.size, 1, none⟩ = some (.int .i64 0) := (by simp [World.cell?, hr8])
      have f0 : w4.frozen? ⟨w.heap.size, 0, none⟩ = false := (by simp [World.frozen?, hr8])
      have f1 : w4.frozen? ⟨w.heap.size, 1, none⟩ = false := (by simp [World.frozen?, hr8])
      have b0 : w4.cell? ⟨b, 0, none⟩ = some (.int .i64 K) := (by simp [World.cell?, hbx4])
      have b1 : w4.cell? ⟨b, 1, none⟩ = some (.int .i64 0) := (by simp [World.cell?, hbx4])
      by_cases he : deedT K 0 = l
      · have hfin' := hfin.out
        rw [if_pos he] at hfin'
        rw [decide_eq_true he] at hcmp
        replace hfin' := hide hfin'
        clear hfin
        go_wp2
        have hset := deed_set hr8 K 0
        refine bodyPost_ret (results_deed rfl _ _ w.heap.size K 0 rfl hset) rfl ⟨by rw [hfin'.out]; rfl, ?_⟩
        exact (((hB0.trans (hBb4.mono hB0.size)).setCell (p := ⟨w.heap.size, 0, none⟩) (Nat.le_refl _) _).setCell (p := ⟨w.heap.size, 1, none⟩) (Nat.le_refl _) _)
      · have hfin' := hfin.out
        rw [if_neg he] at hfin'
        rw [decide_eq_false he] at hcmp
        replace hfin' := hide hfin'
        clear hfin
        go_wp2
        have hset := deed_set hr8 0 0
        refine bodyPost_ret (results_deed rfl _ _ w.heap.size 0 0 rfl hset) rfl ⟨by rw [hfin'.out]; rfl, ?_⟩
        exact (((hB0.trans (hBb4.mono hB0.size)).setCell (p := ⟨w.heap.size, 0, none⟩) (Nat.le_refl _) _).setCell (p := ⟨w.heap.size, 1, none⟩) (Nat.le_refl _) _)
    · go_wp2_with (first
        | (go_at_call 27; refine (words_at _).mono ?_)
        | (go_at_call 38; refine hI2.mono ?_; clear hI2; rintro e w3 ⟨rfl, rfl⟩)
        | (go_at_call 13; refine (hT _).mono ?_; clear hT))
      rintro e w2 ⟨rfl, hwk, hB2⟩
      have hB12 := hB1.trans (hB2.mono hB1.size)
      have hI2 := hI _ _ hwk
      have hg2 := World.block_lt_of_cell? w1 _ hcell
      have hcell2 := (hB2.cell (p := ⟨g, 0, none⟩) hg2).trans hcell
      have hsz2 := hB2.size
      have hbx := World.alloc_heap_new w2 (.cells #[.int .i64 K, .int .i64 0] 36)
      have hbs := World.size_alloc w2 (.cells #[.int .i64 K, .int .i64 0] 36)
      have hBb : Below W0.heap.size W0 (w2.alloc (.cells #[.int .i64 K, .int .i64 0] 36)) := hB12.alloc hB12.size _
      have hcell3 : (w2.alloc (.cells #[.int .i64 K, .int .i64 0] 36)).cell? ⟨g, 0, none⟩ = some (.int .i64 N) := (((Below.refl w2.heap.size w2).alloc (Nat.le_refl _) _).cell (p := ⟨g, 0, none⟩) (Nat.lt_of_lt_of_le hg2 hsz2)).trans hcell2
      have hbsz := hB12.size
      obtain ⟨b, hb⟩ : ∃ b, w2.heap.size = b := ⟨_, rfl⟩
      obtain ⟨W3, hW3⟩ : ∃ W3, w2.alloc (.cells #[.int .i64 K, .int .i64 0] 36) = W3 := ⟨_, rfl⟩
      rw [hW3] at hbx hbs hBb hcell3
      rw [hb] at hbx hbs hbsz hsz2
      have e0 : W3.cell? ⟨b, 0, none⟩ = some (.int .i64 K) := (by simp [World.cell?, hbx])
      have e1 : W3.cell? ⟨b, 1, none⟩ = some (.int .i64 0) := (by simp [World.cell?, hbx])
      have g0 : W3.frozen? ⟨b, 0, none⟩ = false := (by simp [World.frozen?, hbx])
      have g1 : W3.frozen? ⟨b, 1, none⟩ = false := (by simp [World.frozen?, hbx])
      have hbx6 : (W3.setCell ⟨b, 1, none⟩ (.int .i64 0)).heap[b]? = some (.cells #[.int .i64 K, .int .i64 0] 36 (0, 0)) := cr_blockD hbx 1 _
      have hBb6 : Below W0.heap.size W0 (W3.setCell ⟨b, 1, none⟩ (.int .i64 0)) := hBb.setCell (p := ⟨b, 1, none⟩) hbsz _
      obtain ⟨W6, hW6⟩ : ∃ W6, W3.setCell ⟨b, 1, none⟩ (.int .i64 0) = W6 := ⟨_, rfl⟩
      rw [hW6] at hbx6 hBb6
      have j0 : W6.cell? ⟨b, 0, none⟩ = some (.int .i64 K) := (by simp [World.cell?, hbx6])
      have j1 : W6.cell? ⟨b, 1, none⟩ = some (.int .i64 0) := (by simp [World.cell?, hbx6])
      have k0 : W6.frozen? ⟨b, 0, none⟩ = false := (by simp [World.frozen?, hbx6])
      have k1 : W6.frozen? ⟨b, 1, none⟩ = false := (by simp [World.frozen?, hbx6])
      have hgb : g ≠ b := by have : g < w1.heap.size := hg2; omega
      have hcell6 : W6.cell? ⟨g, 0, none⟩ = some (.int .i64 N) := by
        rw [← hW6]
        exact (World.cell?_of_block (Below.heap_setCell W3 ⟨b, 1, none⟩ _ g hgb)).trans hcell3
      have hbx5 : (W6.setCell ⟨b, 1, none⟩ (.int .i64 N)).heap[b]? = some (.cells #[.int .i64 K, .int .i64 N] 36 (0, 0)) := cr_blockD hbx6 1 _
      have hB5 : Below W0.heap.size W0 (W6.setCell ⟨b, 1, none⟩ (.int .i64 N)) := hBb6.setCell (p := ⟨b, 1, none⟩) hbsz _
      obtain ⟨W5, hW5⟩ : ∃ W5, W6.setCell ⟨b, 1, none⟩ (.int .i64 N) = W5 := ⟨_, rfl⟩
      rw [hW5] at hbx5 hB5
      have i0 : W5.cell? ⟨b, 0, none⟩ = some (.int .i64 K) := (by simp [World.cell?, hbx5])
      have i1 : W5.cell? ⟨b, 1, none⟩ = some (.int .i64 N) := (by simp [World.cell?, hbx5])
      clear hwk hI hcell hcell2 hg2 hsz2 hbs hBb hBb6
      go_wp2_with (first
        | (go_at_call 38; refine hI2.mono ?_; clear hI2; rintro e w3 ⟨rfl, rfl⟩)
        | (go_at_call 13; refine (hT _).mono ?_; clear hT))
      rintro e w4 ⟨rfl, hB4⟩
      have hb5 := (Array.getElem?_eq_some_iff.1 hbx5).1
      have hBb4 := hB5.trans (hB4.mono hB5.size)
      have hbx4 := (hB4.block _ hb5).trans hbx5
      clear hbx hB5 hB4 e0 e1 g0 g1 i0 i1 hcell3 hbx5 j0 j1 k0 k1 hcell6 hbx6
      have hr8 := hres.out _ hBb4
      have d0 : w4.cell? ⟨w.heap.size, 0, none⟩ = some (.int .i64 0) := (by simp [World.cell?, hr8])
      have d1 : w4.cell? ⟨w.heap.size, 1, none⟩ = some (.int .i64 0) := (by simp [World.cell?, hr8])
      have f0 : w4.frozen? ⟨w.heap.size, 0, none⟩ = false := (by simp [World.frozen?, hr8])
      have f1 : w4.frozen? ⟨w.heap.size, 1, none⟩ = false := (by simp [World.frozen?, hr8])
      have b0 : w4.cell? ⟨b, 0, none⟩ = some (.int .i64 K) := (by simp [World.cell?, hbx4])
      have b1 : w4.cell? ⟨b, 1, none⟩ = some (.int .i64 N) := (by simp [World.cell?, hbx4])
      by_cases he : deedT K N = l
      · have hfin' := hfin.out
        rw [if_pos he] at hfin'
        rw [decide_eq_true he] at hcmp
        replace hfin' := hide hfin'
        clear hfin
        go_wp2
        have hset := deed_set hr8 K N
        refine bodyPost_ret (results_deed rfl _ _ w.heap.size K N rfl hset) rfl ⟨by rw [hfin'.out]; rfl, ?_⟩
        exact (((hB0.trans (hBb4.mono hB0.size)).setCell (p := ⟨w.heap.size, 0, none⟩) (Nat.le_refl _) _).setCell (p := ⟨w.heap.size, 1, none⟩) (Nat.le_refl _) _)
      · have hfin' := hfin.out
        rw [if_neg he] at hfin'
        rw [decide_eq_false he] at hcmp
        replace hfin' := hide hfin'
        clear hfin
        go_wp2
        have hset := deed_set hr8 0 0
        refine bodyPost_ret (results_deed rfl _ _ w.heap.size 0 0 rfl hset) rfl ⟨by rw [hfin'.out]; rfl, ?_⟩
        exact (((hB0.trans (hBb4.mono hB0.size)).setCell (p := ⟨w.heap.size, 0, none⟩) (Nat.le_refl _) _).setCell (p := ⟨w.heap.size, 1, none⟩) (Nat.le_refl _) _)
end Go.Proofs.YtkcbfiglmjdaiaaDoor
