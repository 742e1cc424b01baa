/-
  The program's PlaceOf, with the ways that are left from each height in a slice that is made anew step by step.
-/
import Derived.Test.YtghfmoanpgaijaaDoorBlk
import Derived.Test.YtghfmoanpgaijaaDoorMath11b
import Derived.Test.YtghfmoanpgaijaaDoorStrKit
import Derived.Test.YtghfmoanpgaijaaDoorImplCell
import Derived.Test.YtghfmoanpgaijaaDoorHts11
namespace Go.Proofs.YtghfmoanpgaijaaDoor
open Go.RowKit

theorem cellAt_ends (g t cap h : Nat) (w : World) (hc : ∀ k, k ≤ t → w.cell? ⟨g, k, none⟩ = some (.int .i64 (endE t k : Nat))) : Calls Tryd.prog 36 #[.slice (some ⟨g, 0, none⟩) (t + 1) cap, .int .i64 h] w fun e w' => e = .returned (.int .i64 (endE t h : Nat)) ∧ w = w' := by
  by_cases hp : h < t + 1
  · exact cellAt_in g (t + 1) cap h _ w hp (hc h (by omega))
  · rw [endE_high t h (by omega)]; exact cellAt_out _ _ _ _ _ (.inr (by omega))

set_option maxHeartbeats 1000000 in
theorem endsBefore_in (g t cap : Nat) (ht : t ≤ 20) (w : World) (hg : g < w.heap.size) (hc : ∀ k, k ≤ t → w.cell? ⟨g, k, none⟩ = some (.int .i64 (endE t k : Nat))) : Calls Tryd.prog 37 #[.slice (some ⟨g, 0, none⟩) (t + 1) cap] w fun e w' =>
    ∃ g' cap', e = .returned (.slice (some ⟨g', 0, none⟩) (t + 1 + 1) cap') ∧ g' < w'.heap.size ∧ (∀ k, k ≤ t + 1 → w'.cell? ⟨g', k, none⟩ = some (.int .i64 (endE (t + 1) k : Nat))) ∧ Below w.heap.size w w' := by
  have hle : ∀ h, endE t h ≤ 1048576 := fun h => Nat.le_trans (endE_le t h) (Nat.le_trans (Nat.pow_le_pow_right (by omega) ht) (by decide))
  have hE : ∀ h : Nat, ((endE (t + 1) h : Nat) : Int) = ((if 0 < h then endE t (h - 1) else 0 : Nat) : Int) + (endE t (h + 1) : Nat) := fun h => by
    show (((if 0 < h then endE t (h - 1) else 0) + endE t (h + 1) : Nat) : Int) = _
    rw [Int.natCast_add]
  have hE' := hide hE
  clear hE
  go_enter Tryd.func37, Tryd.ntmps37
  go_wp2_with (refine make_blk _ rfl _ _ rfl _ _ (t + 1 + 1) rfl rfl (by omega) (by omega) (by omega) ?_; intro w2 hb2 hg2)
  have hcw : ∀ k, k ≤ t → w2.cell? ⟨g, k, none⟩ = some (.int .i64 (endE t k : Nat)) := fun k hk => hg2.cell (hc k hk) (by simp)
  have hgl := hg2.size
  go_loopw [11] (fun p wr => ∃ k : Nat, k ≤ t + 1 + 1 ∧ p = .int .i64 k ∧ BlkAt wr w.heap.size 3 (t + 1 + 1) (intsV (t + 1 + 1) fun i => if i < k then (endE (t + 1) i : Nat) else 0) ∧ w2.grownBy wr (some w.heap.size)) (fun p _ => t + 1 + 1 - (intOf p).toNat)
  case atStart => exact ⟨0, by omega, rfl, hb2.congr (fun i _ => by rw [if_neg (by omega)]), grownBy_refl _ _⟩
  case round =>
    clear hb2
    obtain ⟨k, hk, rfl, hb, hgr⟩ := hrel
    by_cases hlt : k < t + 1 + 1
    · have hki : (k : Int) < (t : Int) + 1 + 1 := by omega
      have hcr : ∀ j, j ≤ t → wr.cell? ⟨g, j, none⟩ = some (.int .i64 (endE t j : Nat)) := fun j hj => hgr.cell (hcw j hj) (by simp; omega)
      have hC2 := cellAt_ends g t cap (k + 1) wr hcr
      have hC1 : Calls Tryd.prog 36 #[.slice (some ⟨g, 0, none⟩) (t + 1) cap, .int .i64 ((k : Int) - 1)] wr fun e w' => e = .returned (.int .i64 ((if 0 < k then endE t (k - 1) else 0 : Nat) : Int)) ∧ wr = w' := by
        by_cases h0 : 0 < k
        · rw [if_pos h0, show ((k : Int) - 1) = ((k - 1 : Nat) : Int) by omega]
          exact cellAt_ends g t cap (k - 1) wr hcr
        · rw [if_neg h0]
          exact cellAt_out _ _ _ _ _ (.inl (by omega))
      have h1 := hle (k + 1)
      have h2 : (if 0 < k then endE t (k - 1) else 0) ≤ 1048576 := by
        have := hle (k - 1)
        split <;> omega
      have hE2 := hide (hE'.out k)
      obtain ⟨y, hy⟩ : ∃ y, endE t (k + 1) = y := ⟨_, rfl⟩
      obtain ⟨x, hx⟩ : ∃ x, (if 0 < k then endE t (k - 1) else 0) = x := ⟨_, rfl⟩
      rw [hx] at hC1 h2 hE2
      rw [hy] at hC2 h1 hE2
      have hf := hb.frozen k
      have hcc : ∃ u, wr.cell? ⟨w.heap.size, k, none⟩ = some u := ⟨_, hb.cell (intsV_at hlt)⟩
      obtain ⟨u, hu⟩ := hcc
      clear hx hy hcr hcw hc hle
      go_wp2_with (first
        | (go_at_call 36; refine hC1.mono ?_; clear hC1; rintro e w' ⟨rfl, rfl⟩)
        | (go_at_call 36; refine hC2.mono ?_; clear hC2; rintro e w' ⟨rfl, rfl⟩))
      go_roundw
      case rel =>
        refine ⟨k + 1, by omega, by go_num, (hb.setI _ hlt).congr (fun i _ => ?_), grownBy_set hgr _ _⟩
        by_cases e : i = k
        · subst e; rw [if_pos rfl, if_pos (by omega)]; exact hE2.out.symm
        · rw [if_neg e]
          by_cases e2 : i < k
          · rw [if_pos e2, if_pos (by omega)]
          · rw [if_neg e2, if_neg (by omega)]
      case measure => simp [intOf]; omega
    · obtain rfl : k = t + 1 + 1 := by omega
      go_wp2
      go_ret
      refine ⟨_, _, rfl, by have := hgr.size; have := hb.lt; omega, fun j hj => ?_, ((Below.refl _ w).grown hg2 (Nat.le_refl _) (fun _ e => by cases e)).grown hgr hg2.size (fun _ e => by cases e; exact Nat.le_refl _)⟩
      have := hb.cell (i := j) (intsV_at (by omega))
      rw [if_pos (by omega)] at this
      exact this

set_option maxHeartbeats 1000000 in
theorem implPlaceOf (l : List Nat) (hl : ∀ x ∈ l, x < 256) (hn : l.length ≤ 1048576) (w : World) : Calls Tryd.prog 20 #[.string (str l)] w fun e w' => e = .returned (.tuple #[.int .i64 (placeV l), .bool (wayL l)]) ∧ Below w.heap.size w w' := by
  have hW := implWayOk l hl hn
  cases hk : wayL l with
  | false =>
    have hp := hide (placeV_bad hk)
    rw [hk] at hW
    go_enter Tryd.func20, Tryd.ntmps20
    go_wp2_with (go_at_call 11; refine (hW _).mono ?_; clear hW; rintro e w1 ⟨rfl, hB⟩)
    go_ret2
    exact ⟨by rw [hp.out]; rfl, hB⟩
  | true =>
    obtain ⟨hok, hl14, hex⟩ := wayL_is hk
    clear hex
    have hcnt := okW_count l 0 hok
    have hc7 : closes l ≤ 7 := by omega
    have hp : Hid (placeV l = (plE l : Nat)) := hide (by rw [placeV_is hk, plE_whole hok])
    rw [hk] at hW
    have hsz := str_size l
    have hget := fun i h => str_get l i h hl
    obtain ⟨s, hs⟩ : ∃ s, str l = s := ⟨_, rfl⟩
    rw [hs] at hsz hget hW ⊢
    clear hs hk hcnt
    go_enter Tryd.func20, Tryd.ntmps20
    go_wp2_with (go_at_call 11; refine (hW _).mono ?_; clear hW; rintro e w1 ⟨rfl, hB⟩)
    go_loopw [4, 5, 6, 7] (fun a b c d wr => ∃ k h g cap : Nat, k ≤ l.length ∧ Hid (okW h (l.drop k) = true) ∧ a = .int .i64 (plE (l.drop k) : Nat) ∧ b = .int .i64 h ∧ c = .slice (some ⟨g, 0, none⟩) (l.length - k + 1) cap ∧ d = .int .i64 ((k : Int) - 1) ∧
      g < wr.heap.size ∧ (∀ i, i ≤ l.length - k → wr.cell? ⟨g, i, none⟩ = some (.int .i64 (endE (l.length - k) i : Nat))) ∧ Below w.heap.size w wr) (fun _ _ _ d _ => (intOf d + 1).toNat)
    case atStart =>
      refine ⟨l.length, 0, w1.heap.size, 1, Nat.le_refl _, hide (by rw [List.drop_eq_nil_of_le (Nat.le_refl _)]; rfl), by rw [List.drop_eq_nil_of_le (Nat.le_refl _)]; rfl, rfl, by rw [Nat.sub_self], rfl, by simp, fun i hi => ?_, hB.alloc hB.size _⟩
      obtain rfl : i = 0 := by omega
      rw [Nat.sub_self, World.cell?_alloc_at _ _ _ _ rfl]; rfl
    case round =>
      clear hB
      obtain ⟨k, h, g, cap, hk, hok1, rfl, rfl, rfl, rfl, hg, hcg, hB⟩ := hrel
      have hsm := plE_small hok1.out (Nat.le_trans (closes_drop l k) hc7)
      by_cases h0 : k = 0
      · subst h0
        have hpe : Hid (plE (l.drop 0) = plE l) := hide (by rw [List.drop_zero])
        have hlow : ¬ (0 : Int) ≤ ((0 : Nat) : Int) - 1 := by omega
        generalize hP : plE (l.drop 0) = P at *
        have hP' := hide hP
        clear hget hP
        go_wp2
        go_ret2
        exact ⟨by rw [hp.out, ← hpe.out]; rfl, hB⟩
      · obtain ⟨j, rfl⟩ : ∃ j, k = j + 1 := ⟨k - 1, by omega⟩
        have hjl : j < l.length := by omega
        obtain ⟨t, ht⟩ : ∃ t, l.length - (j + 1) = t := ⟨_, rfl⟩
        have htj : l.length - j = t + 1 := by omega
        have ht20 : t ≤ 20 := by omega
        obtain ⟨m, hm⟩ := okW_drop l 0 j hok
        have hj : (((j + 1 : Nat) : Int) - 1) = (j : Int) := by omega
        have hnext := okW_back hm hjl hc7
        have hsm2 := plE_small hm (Nat.le_trans (closes_drop l j) hc7)
        have hks := hget j
        obtain ⟨c, hc⟩ : ∃ c, l.getD j 0 = c := ⟨_, rfl⟩
        rw [hc] at hks hnext
        rw [hj]
        have hjs : (j : Int) < (s.size : Int) := by omega
        have hjs0 : (0 : Int) ≤ (j : Int) := by omega
        rw [ht] at hcg hnext ⊢
        have hE := endsBefore_in g t cap ht20
        have hC := cellAt_ends g t cap (h + 2) wr hcg
        have hht : h ≤ 14 := by have := okW_ge _ _ hok1.out; rw [List.length_drop] at this; omega
        have hm' := hide hm
        obtain ⟨P, hP⟩ : ∃ P, plE (l.drop (j + 1)) = P := ⟨_, rfl⟩
        obtain ⟨P2, hP2⟩ : ∃ P, plE (l.drop j) = P := ⟨_, rfl⟩
        rw [hP] at hsm hnext ⊢
        rw [hP2] at hsm2 hnext
        have hP2' := hide hP2
        have htj' := hide htj
        clear hget hc hP hP2 hm htj
        rcases hnext with ⟨e, h1, h2⟩ | ⟨e, q, hq, h1, h2⟩
        · obtain rfl : h = m + 1 := okW_same hok1.out h1
          subst e
          subst h2
          have hE1 := hE wr hg hcg
          clear hok1 h1 hcg hC hE
          go_wp2_with (go_at_call 37; refine hE1.mono ?_; clear hE1; rintro e w2 ⟨g2, cap2, rfl, hg2, hc2, hB2⟩)
          go_roundw
          case rel => exact ⟨j, m, g2, cap2, by omega, hm', by rw [hP2'.out], by go_num, by rw [htj'.out], by go_num, hg2, by rw [htj'.out]; exact hc2, hB.trans (hB2.mono hB.size)⟩
          case measure => simp [intOf]
        · obtain rfl : h = q := okW_same hok1.out h1
          subst e
          subst hq
          obtain ⟨y, hy⟩ : ∃ y, endE t (h + 2) = y := ⟨_, rfl⟩
          rw [hy] at hC h2
          have hE1 := hE wr hg hcg
          have hP2s : P2 = P + y := by omega
          subst hP2s
          have hhi : ((h : Int) + 1 + 1) = ((h + 2 : Nat) : Int) := by omega
          rw [← hhi] at hC
          clear hok1 h1 hcg hE hy h2 hhi
          go_wp2_with (first
            | (go_at_call 36; refine hC.mono ?_; clear hC; rintro e w' ⟨rfl, rfl⟩)
            | (go_at_call 37; refine hE1.mono ?_; clear hE1; rintro e w2 ⟨g2, cap2, rfl, hg2, hc2, hB2⟩))
          go_roundw
          case rel => exact ⟨j, h + 1, g2, cap2, by omega, hm', by rw [hP2'.out]; go_num, by go_num, by rw [htj'.out], by go_num, hg2, by rw [htj'.out]; exact hc2, hB.trans (hB2.mono hB.size)⟩
          case measure => simp [intOf]
end Go.Proofs.YtghfmoanpgaijaaDoor
