/-
  The walk of the exact law of ReadJournal.
-/
import Derived.Test.YtdgolpgggahknaaDoorImpl12l
import Derived.Test.YtdgolpgggahknaaDoorL12Z
namespace Go.Proofs.YtdgolpgggahknaaDoor
open Go.RowKit

set_option maxRecDepth 100000 in
set_option maxHeartbeats 1000000 in
theorem exactReadJournal (s : ByteArray) (w : World) (hEnv : Env w) : Calls Tryd.prog 8 #[.string s] w fun e w' => e = .returned (.bool true) ∧ Below w.heap.size w w' := by
  by_cases hbig : 1048576 < s.size
  · have hbi : (1048576 : Int) < (s.size : Int) := by omega
    go_enter Tryd.func8, Tryd.ntmps8
    go_wp2
    go_ret
    exact ⟨rfl, Below.refl _ _⟩
  · obtain ⟨l, rfl, hl, hn⟩ := str_of s
    have hS := fun w => specReadJournal l hl (by omega) w
    have hI := fun w hw => implReadJournal l hl (by omega) w hw
    have hbi : ¬ (1048576 : Int) < ((str l).size : Int) := by omega
    have hjl := jr_countJ l []
    have hj : (jrT l).1.length ≤ 1048576 := by have : jrT l = jrL [] l := rfl; rw [this]; omega
    generalize str l = s at *
    generalize (jrT l).1 = L at *
    generalize (jrT l).2 = n at *
    clear hl hn hbig hjl
    by_cases h0 : L.length = 0
    · obtain rfl : L = [] := List.eq_nil_of_length_eq_zero h0
      have hE := fun (a b : Option Addr) (c d : Nat) V => eqDeedS_in (.slice a 0 c) (.slice b 0 d) [] V (Nat.zero_le _) (DeedsI.none V a c) (DeedsI.none V b d)
      have hM : ∀ a c V, Calls Tryd.prog 26 #[.slice a 0 c, .int .i64 1] V fun e w' => e = .returned (.int .i64 1) ∧ V = w' := fun a c V => markDeeds_none a c 1 V
      have hH : ∀ a c V, Calls Tryd.prog 27 #[.slice a 0 c, .int .i64 1] V fun e w' => e = .returned (.int .i64 1) ∧ V = w' := fun a c V => heldDeeds_none a c 1 V
      have hB := Below.refl w.heap.size w
      clear h0
      go_enter Tryd.func8, Tryd.ntmps8
      go_wp2_with (first
        | (go_at_call 25; (with_reducible refine (hS _).mono ?_); go_loud (rintro e w3 ⟨u, rfl, hu, hB3⟩; replace hB := hB.trans (hB3.mono hB.size); obtain ⟨a3, c3, rfl⟩ := own_shape hu; clear hu hB3))
        | (go_at_call 19; (with_reducible refine (hI _ (hEnv.below hB)).mono ?_); go_loud (rintro e w3 ⟨u, rfl, hu, hB3⟩; replace hB := hB.trans (hB3.mono hB.size); obtain ⟨a3, c3, rfl⟩ := own_shape hu; clear hu hB3))
        | (go_at_call 24; (with_reducible refine (hE _ _ _ _ _).mono ?_); go_loud (rintro e w3 ⟨rfl, hB3⟩; replace hB := hB.trans (hB3.mono hB.size); clear hB3))
        | (go_at_call 26; (with_reducible refine (hM _ _ _).mono ?_); rintro e w3 ⟨rfl, rfl⟩)
        | (go_at_call 27; (with_reducible refine (hH _ _ _).mono ?_); rintro e w3 ⟨rfl, rfl⟩))
      go_ret
      exact ⟨rfl, hB⟩
    · have hpos : 0 < L.length := by omega
      have hB := Below.refl w.heap.size w
      obtain ⟨m, hm⟩ : ∃ m, 1 + L.length * 2 = m := ⟨_, rfl⟩
      go_enter Tryd.func8, Tryd.ntmps8
      go_wp2_with fail
      go_at_call 25
      refine (hS _).mono ?_
      rintro e w1 ⟨u0, rfl, hu0, hB1⟩
      have hd0 := DeedsI.of_owns hu0
      obtain ⟨g0, c0, rfl, hg0, _, _⟩ := blk_deeds hu0 hpos
      go_wp2_with fail
      go_at_call 19
      refine (hI _ (hEnv.below hB1)).mono ?_
      rintro e w2 ⟨u1, rfl, hu1, hB2⟩
      have hd1 := DeedsI.of_owns hu1
      obtain ⟨g1, c1, rfl, hg1, hcap, hb1⟩ := blk_deeds hu1 hpos
      have hd0' := hd0.below hB2
      have hlt0 : g0 < w1.heap.size := (hu0.lt g0 rfl).2
      go_wp2_with fail
      go_at_call 24
      refine (eqDeedS_in _ _ L _ (by omega) hd1 hd0').mono ?_
      rintro e w3 ⟨rfl, hB3⟩
      have hb3 := hb1.of_block (hB3.block g1 hb1.lt)
      have hMk : Calls Tryd.prog 26 #[.slice (some ⟨g1, 0, none⟩) L.length c1, .int .i64 1] w3 fun e w' => e = .returned (.int .i64 m) ∧ BlkAt w' g1 24 (c1 * 2) (intsV (L.length * 2) fun i => ((1 + i : Nat) : Int)) ∧ w3.grownBy w' (some g1) := by
        have := markDeeds_in g1 L.length c1 (c1 * 2) 1 (numD L) w3 (by omega) (by omega) (by omega) hb3
        rw [hm] at this; exact this
      go_wp2_with fail
      go_at_call 26
      refine hMk.mono ?_
      rintro e w4 ⟨rfl, hb4, hg4⟩
      have hHd : ∀ W, BlkAt W g1 24 (c1 * 2) (intsV (L.length * 2) fun i => ((1 + i : Nat) : Int)) → Calls Tryd.prog 27 #[.slice (some ⟨g1, 0, none⟩) L.length c1, .int .i64 1] W fun e w' => e = .returned (.int .i64 m) ∧ W = w' := fun W hW => by
        have := heldDeeds_in g1 L.length c1 (c1 * 2) 1 W (by omega) (by omega) hW
        rw [hm] at this; exact this
      have hm0 : ¬ (m : Int) < 0 := by omega
      go_wp2_with fail
      go_at_call 27
      refine (hHd _ hb4).mono ?_
      rintro e w5 ⟨rfl, rfl⟩
      go_wp2_with fail
      go_at_call 19
      have e1 := hB1.size
      have e2 := hB2.size
      have e3 := hB3.size
      refine (hI _ (hEnv.below (((hB1.trans (hB2.mono e1)).trans (hB3.mono (Nat.le_trans e1 e2))).grown hg4 (by omega) (fun k e => by injection e with e; omega)))).mono ?_
      rintro e w6 ⟨u2, rfl, hu2, hB6⟩
      have hd2 := DeedsI.of_owns hu2
      have hd04 := ((hd0'.below hB3).grown hg4 (by simp [Value.ownBlock]; omega)).below hB6
      obtain ⟨g2, c2, rfl, hg2, _, _⟩ := blk_deeds hu2 hpos
      go_wp2_with fail
      go_at_call 24
      refine (eqDeedS_in _ _ L _ (by omega) hd2 hd04).mono ?_
      rintro e w7 ⟨rfl, hB7⟩
      have hb7 := (hb4.of_block (hB6.block g1 hb4.lt)).of_block (hB7.block g1 (Nat.lt_of_lt_of_le hb4.lt hB6.size))
      go_wp2_with fail
      go_at_call 27
      refine (hHd _ hb7).mono ?_
      rintro e w8 ⟨rfl, rfl⟩
      go_wp2
      go_ret
      have q2 := hB1.trans (hB2.mono hB1.size)
      have q3 := q2.trans (hB3.mono q2.size)
      have q4 := q3.grown hg4 q3.size (fun _ e => by cases e; exact Nat.le_trans hB1.size hg1)
      have q6 := q4.trans (hB6.mono q4.size)
      exact ⟨rfl, q6.trans (hB7.mono q6.size)⟩

end Go.Proofs.YtdgolpgggahknaaDoor
