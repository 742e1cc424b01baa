/-
  The laws' helpers over desks: markDesk and heldDesk over a desk of one's own.
-/
import Derived.Test.YtimnhedjapakhaaLawKit8
import Derived.Test.YtimnhedjapakhaaImpl12a
namespace Go.Proofs.Ytimnhedjapakhaa
open Go.RowKit

theorem OwnG.of_own {W : World} {base : Nat} {v : Value} {rows : List (List Int)} (h : OwnRows W base v rows) (h1 : ∀ j, j < rows.length → 0 < (rows.getD j []).length) :
    OwnG W base W.heap.size v rows.length (fun j => (rows.getD j []).length) (fun j i => (rows.getD j []).getD i 0) := by
  obtain ⟨us, hl, hv, hr, hne⟩ := h
  by_cases h0 : 0 < rows.length
  · right
    rcases hv.2 with ⟨_, hn⟩ | ⟨G, cap, cur, rfl, hb, hg, hrest⟩
    · omega
    · have hex : ∀ j, ∃ b cb, j < rows.length → us.getD j undef = .slice (some ⟨b, 0, .none⟩) (rows.getD j []).length cb ∧ base ≤ b ∧ RowAt W b (rows.getD j []).length (fun i => (rows.getD j []).getD i 0) := fun j => by
        by_cases hj : j < rows.length
        · obtain ⟨b, cb, e1, e2, e3⟩ := RowAt.of_owns (hr j hj) (h1 j hj)
          exact ⟨b, cb, fun _ => ⟨e1, e2, e3⟩⟩
        · exact ⟨0, 0, fun h => absurd h hj⟩
      have hch : ∃ b cb : Nat → Nat, ∀ j, j < rows.length → us.getD j undef = .slice (some ⟨b j, 0, .none⟩) (rows.getD j []).length (cb j) ∧ base ≤ b j ∧ RowAt W (b j) (rows.getD j []).length (fun i => (rows.getD j []).getD i 0) :=
        ⟨fun j => Classical.choose (hex j), fun j => Classical.choose (Classical.choose_spec (hex j)), fun j hj => Classical.choose_spec (Classical.choose_spec (hex j)) hj⟩
      obtain ⟨b, cb, hbc⟩ := hch
      have hGs : G < W.heap.size := (Array.getElem?_eq_some_iff.1 hg).1
      refine ⟨G, cap, b, cb, by rw [hl], ⟨⟨hb, hGs, hGs⟩, fun j hj => ?_, fun j hj => ⟨(hbc j hj).2.1, (hbc j hj).2.2.lt, fun e => ?_⟩, fun j hj => (hbc j hj).2.2, fun i j hij hj e => ?_⟩⟩
      · rw [hv.cellAt j (by omega), ← (hbc j hj).1, List.getD, List.getElem?_eq_getElem (by omega)]; rfl
      · rcases own_apart (hr j hj) hv with h3 | h3
        · rw [(hbc j hj).1] at h3; simp [Value.ownBlock] at h3
        · rw [(hbc j hj).1] at h3; simp [Value.ownBlock, e] at h3
      · have h3 := hne i j hij hj
        rw [(hbc i (by omega)).1, (hbc j hj).1] at h3
        simp [Value.ownBlock, e] at h3
  · left
    refine ⟨by omega, ?_⟩
    rcases hv.2 with ⟨rfl, hn⟩ | ⟨g, cap, cur, rfl, _⟩
    · exact ⟨_, _, rfl⟩
    · exact ⟨_, _, by rw [show us.length = 0 by omega]⟩

/-- A desk of one's own between two marks, with a mark between its row and those of before. -/
def OwnD (W : World) (base mid lim : Nat) (v : Value) (n : Nat) (f : Nat → Int) (m : Nat) (L : Nat → Nat) (F : Nat → Nat → Int) : Prop :=
  ∃ x p, v = .agg #[x, p] ∧ base ≤ mid ∧ mid ≤ lim ∧ lim ≤ W.heap.size ∧ OwnI W base mid x n f ∧ OwnG W mid lim p m L F
theorem OwnD.of {W : World} {base : Nat} {v : Value} {d : Dk} (h : OwnDk W base v d) (h1 : ∀ j, j < d.2.length → 0 < (d.2.getD j []).length) :
    ∃ mid, OwnD W base mid W.heap.size v d.1.length (fun i => d.1.getD i 0) d.2.length (fun j => (d.2.getD j []).length) (fun j i => (d.2.getD j []).getD i 0) := by
  obtain ⟨mid, x, p, rfl, h2, h3, h4, h5⟩ := h
  exact ⟨mid, x, p, rfl, h2, h3, Nat.le_refl _, h4, OwnG.of_own h5 h1⟩
theorem OwnD.below {W W' : World} {base mid lim n m : Nat} {v : Value} {f : Nat → Int} {L : Nat → Nat} {F : Nat → Nat → Int} (h : OwnD W base mid lim v n f m L F) (hB : Below W.heap.size W W') : OwnD W' base mid lim v n f m L F := by
  obtain ⟨x, p, rfl, h2, h3, h4, h5, h6⟩ := h
  exact ⟨x, p, rfl, h2, h3, Nat.le_trans h4 hB.size, h5.below hB, h6.below hB⟩
theorem OwnD.between {W W' : World} {base mid lim n m base' lim' : Nat} {v : Value} {f : Nat → Int} {L : Nat → Nat} {F : Nat → Nat → Int} (h : OwnD W base mid lim v n f m L F) (hB : Between base' lim' W W') (hr : lim ≤ base' ∨ lim' ≤ base) : OwnD W' base mid lim v n f m L F := by
  obtain ⟨x, p, rfl, h2, h3, h4, h5, h6⟩ := h
  exact ⟨x, p, rfl, h2, h3, Nat.le_trans h4 hB.size, h5.between hB (by omega), h6.between hB (by omega)⟩
theorem OwnD.deskI {W : World} {base mid lim : Nat} {v : Value} {d : Dk} (h : OwnD W base mid lim v d.1.length (fun i => d.1.getD i 0) d.2.length (fun j => (d.2.getD j []).length) (fun j i => (d.2.getD j []).getD i 0)) : DeskI W v d := by
  obtain ⟨x, p, rfl, _, _, _, h5, h6⟩ := h
  exact ⟨x, p, rfl, h5.ints, (OwnG.rowsI h6).past⟩
theorem OwnD.form {W : World} {base mid lim n m : Nat} {v : Value} {f : Nat → Int} {L : Nat → Nat} {F : Nat → Nat → Int} (h : OwnD W base mid lim v n f m L F) : ∃ a b c e, v = .agg #[.slice a n b, .slice c m e] := by
  obtain ⟨x, p, rfl, _, _, _, h5, h6⟩ := h
  rcases h5 with ⟨rfl, a, b, rfl⟩ | ⟨g, cap, rfl, _⟩
  · rcases h6 with ⟨rfl, c, e, rfl⟩ | ⟨G, cap, b', cb, rfl, _⟩
    · exact ⟨a, b, c, e, rfl⟩
    · exact ⟨a, b, _, _, rfl⟩
  · rcases h6 with ⟨rfl, c, e, rfl⟩ | ⟨G, cap', b', cb, rfl, _⟩
    · exact ⟨_, _, c, e, rfl⟩
    · exact ⟨_, _, _, _, rfl⟩

theorem mark_ownN {W : World} {base lim n : Nat} {v : Value} {f : Nat → Int} (h : OwnI W base lim v n f) (hn : n ≤ 10000000) (m : Nat) (hm : m ≤ 10000000) :
    Calls Try.prog 56 #[v, .int .i64 m] W fun e w' => e = .returned (.int .i64 ((m + n : Nat) : Int)) ∧ OwnI w' base lim v n (fun i => ((m + i : Nat) : Int)) ∧ ∃ row, W.grownBy w' row ∧ ∀ k, row = some k → base ≤ k ∧ k < lim := by
  have hxs : ((List.range n).map f).length = n := by simp
  have h' : OwnI W base lim v ((List.range n).map f).length (fun i => ((List.range n).map f).getD i 0) := by
    rw [hxs]
    rcases h with h | ⟨g, c, rfl, h1, h2, h3⟩
    · exact .inl h
    · exact .inr ⟨g, c, rfl, h1, h2, h3.congr (fun i hi => by rw [List.getD, List.getElem?_map, List.getElem?_range hi]; rfl)⟩
  have h2 := mark_own h' (by omega) m hm
  rw [hxs] at h2
  exact h2

set_option maxRecDepth 100000 in
set_option maxHeartbeats 1000000 in
theorem markDesk_in {W : World} {base mid lim n m : Nat} {v : Value} {f : Nat → Int} {L : Nat → Nat} {F : Nat → Nat → Int} (h : OwnD W base mid lim v n f m L F) (hn : n ≤ 100) (hL : ∀ j, j < m → L j ≤ 100) (hm : m ≤ 100) (k : Nat) (hk : k ≤ 500) :
    Calls Try.prog 25 #[v, .int .i64 k] W fun e w' => e = .returned (.int .i64 ((k + n + accN L m : Nat) : Int)) ∧ OwnD w' base mid lim v n (fun i => ((k + i : Nat) : Int)) m L (fun j i => ((k + n + accN L j + i : Nat) : Int)) ∧ Between base lim W w' := by
  obtain ⟨xa, xc, pa, pc, hv⟩ := h.form
  obtain ⟨x, p, rfl, h2, h3, h4, h5, h6⟩ := h
  injection hv with hv
  simp at hv
  obtain ⟨rfl, rfl⟩ := hv
  have hB := (Below.refl _ W).alloc (Nat.le_refl _) (.cells #[.slice xa n xc, .slice pa m pc] 26)
  have k0 := World.alloc_heap_new W (.cells #[.slice xa n xc, .slice pa m pc] 26)
  have hs1 := World.size_alloc W (.cells #[.slice xa n xc, .slice pa m pc] 26)
  obtain ⟨W1, hW1⟩ : ∃ W1, W.alloc (.cells #[.slice xa n xc, .slice pa m pc] 26) = W1 := ⟨_, rfl⟩
  rw [hW1] at hB k0 hs1
  have hM := mark_ownN (h5.below hB) (by omega) k (by omega)
  have hG1 := h6.below hB
  obtain ⟨c0, c1, _, _⟩ := row_at k0
  have hs := Nat.le_of_eq hs1
  have hs' := Nat.le_of_eq hs1.symm
  clear h5 h6 hs1
  have hkn : ((k + n : Nat) : Int) = (k : Int) + (n : Int) := by omega
  go_enter Try.func25, Try.ntmps25
  go_wp2_with (first
    | (go_at_call 56; go_loud (refine hM.mono ?_; clear hM; rintro e W2 ⟨rfl, hI2, row, hg2, hr2⟩; have k2 := (hg2.block _ (Array.getElem?_eq_some_iff.1 k0).1 (fun e => (by have := hr2 _ e.symm; omega))).trans k0; obtain ⟨c0, c1, _, _⟩ := row_at k2; have hG2 := hG1.grown hg2 (fun j e => (by have := hr2 j e; omega)); have hS := markSS_in hG2 hL hm (k + n) (by omega)))
    | (go_at_call 57; go_loud (refine hS.mono ?_; clear hS; rintro e W3 ⟨rfl, hG3, hbt⟩)))
  go_ret
  have h23 : Between base lim W W3 := by
    refine ⟨(hbt.os.trans hg2.os).trans hB.os, (hbt.tape.trans hg2.tape).trans hB.tape, (hbt.output.trans hg2.output).trans hB.output, Nat.le_trans hB.size (Nat.le_trans hg2.size hbt.size), fun q hq ho => ?_⟩
    have q1 := hB.block q hq
    have hq1 : q < W1.heap.size := Nat.lt_of_lt_of_le hq hB.size
    have q2 := hg2.block q hq1 (fun e => by have := hr2 q e.symm; omega)
    have q3 := hbt.block q (Nat.lt_of_lt_of_le hq1 hg2.size) (by omega)
    exact q3.trans (q2.trans q1)
  exact ⟨rfl, ⟨_, _, rfl, h2, h3, Nat.le_trans h4 h23.size, hI2.between hbt (.inl (Nat.le_refl _)), hG3⟩, h23⟩

set_option maxRecDepth 100000 in
set_option maxHeartbeats 1000000 in
theorem heldDesk_in {W : World} {base mid lim n m : Nat} {v : Value} {L : Nat → Nat} (k : Nat) (h : OwnD W base mid lim v n (fun i => ((k + i : Nat) : Int)) m L (fun j i => ((k + n + accN L j + i : Nat) : Int))) (hn : n ≤ 100) (hL : ∀ j, j < m → L j ≤ 100) (hm : m ≤ 100) (hk : k ≤ 500) :
    Calls Try.prog 26 #[v, .int .i64 k] W fun e w' => e = .returned (.int .i64 ((k + n + accN L m : Nat) : Int)) ∧ Below W.heap.size W w' := by
  obtain ⟨xa, xc, pa, pc, hv⟩ := h.form
  obtain ⟨x, p, rfl, h2, h3, h4, h5, h6⟩ := h
  injection hv with hv
  simp at hv
  obtain ⟨rfl, rfl⟩ := hv
  have hB := (Below.refl _ W).alloc (Nat.le_refl _) (.cells #[.slice xa n xc, .slice pa m pc] 26)
  have k0 := World.alloc_heap_new W (.cells #[.slice xa n xc, .slice pa m pc] 26)
  obtain ⟨W1, hW1⟩ : ∃ W1, W.alloc (.cells #[.slice xa n xc, .slice pa m pc] 26) = W1 := ⟨_, rfl⟩
  rw [hW1] at hB k0
  have hM := held_own k (h5.below hB) (by omega) (by omega)
  have hS := heldSS_in (k + n) (h6.below hB) hL hm (by omega)
  obtain ⟨c0, c1, _, _⟩ := row_at k0
  have hneg1 : ¬ ((k + n : Nat) : Int) < 0 := by omega
  have hneg2 : ¬ ((k + n + accN L m : Nat) : Int) < 0 := by omega
  clear h5 h6
  generalize accN L m = A at *
  have hkn : ((k + n : Nat) : Int) = (k : Int) + (n : Int) := by omega
  go_enter Try.func26, Try.ntmps26
  go_wp2_with (first
    | (go_at_call 58; go_loud (refine hM.mono ?_; clear hM; rintro e W2 ⟨rfl, rfl⟩))
    | (go_at_call 59; go_loud (refine hS.mono ?_; clear hS; rintro e W3 ⟨rfl, rfl⟩)))
  go_ret
  exact ⟨rfl, hB⟩
end Go.Proofs.Ytimnhedjapakhaa
