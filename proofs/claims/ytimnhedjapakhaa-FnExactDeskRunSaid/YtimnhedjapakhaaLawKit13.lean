/-
  The laws' helpers over desks: marks over a desk of one's own change no block but those of its rows.
-/
import Derived.Test.YtimnhedjapakhaaLawKit9
namespace Go.Proofs.Ytimnhedjapakhaa
open Go.RowKit

/-- A block of ints. -/
def IntB (W : World) (k : Nat) : Prop := ∃ cur, W.heap[k]? = some (.cells cur 3 (0, 0))
theorem RowAt.isInt {W : World} {g n : Nat} {f : Nat → Int} (h : RowAt W g n f) : IntB W g := by
  obtain ⟨cur, h1, _⟩ := h
  exact ⟨cur, h1⟩
/-- What changes between two marks alone, and only blocks of ints. -/
structure BetI (base lim : Nat) (W W' : World) : Prop where
  os : W'.os = W.os
  tape : W'.tape = W.tape
  output : W'.output = W.output
  size : W.heap.size ≤ W'.heap.size
  block : ∀ k, k < W.heap.size → (k < base ∨ lim ≤ k ∨ ¬ IntB W k) → W'.heap[k]? = W.heap[k]?
theorem BetI.bet {base lim : Nat} {W W' : World} (h : BetI base lim W W') : Between base lim W W' := ⟨h.os, h.tape, h.output, h.size, fun k hk ho => h.block k hk (by omega)⟩
theorem BetI.refl (base lim : Nat) (W : World) : BetI base lim W W := ⟨rfl, rfl, rfl, Nat.le_refl _, fun _ _ _ => rfl⟩
/-- A block of ints was one before. -/
theorem int_back {base lim : Nat} {W W' : World} {k : Nat} (h : BetI base lim W W') (hk : IntB W' k) (hl : k < W.heap.size) : IntB W k := by
  by_cases e : IntB W k
  · exact e
  · obtain ⟨cur, hc⟩ := hk
    exact ⟨cur, (h.block k hl (.inr (.inr e))).symm.trans hc⟩
theorem BetI.row {base lim : Nat} {W W' W2 : World} {g : Nat} (h : BetI base lim W W') (hg : W'.grownBy W2 (some g)) (hb : base ≤ g ∧ g < lim) (hi : IntB W g) : BetI base lim W W2 :=
  ⟨hg.os.trans h.os, hg.tape.trans h.tape, hg.output.trans h.output, Nat.le_trans h.size hg.size, fun k hk ho => (hg.block k (Nat.lt_of_lt_of_le hk h.size) (fun e => by
    injection e with e
    subst e
    rcases ho with ho | ho | ho
    · omega
    · omega
    · exact ho hi)).trans (h.block k hk ho)⟩
theorem mark_ownI {W : World} {base lim n : Nat} {v : Value} {f : Nat → Int} (h : OwnI W base lim v n f) (hn : n ≤ 10000000) (m : Nat) (hm : m ≤ 10000000) :
    Calls Try.prog 56 #[v, .int .i64 m] W fun e w' => e = .returned (.int .i64 ((m + n : Nat) : Int)) ∧ OwnI w' base lim v n (fun i => ((m + i : Nat) : Int)) ∧ ∃ row, W.grownBy w' row ∧ (∀ k, row = some k → base ≤ k ∧ k < lim) ∧ ∀ k, row = some k → IntB W k := by
  rcases h with ⟨h0, a, c, rfl⟩ | ⟨g, cap, rfl, h1, h2, h3⟩
  · exact (mark_none a c m W).mono fun e w' ⟨he, hw⟩ => ⟨by rw [he, h0]; rfl, .inl ⟨h0, a, c, rfl⟩, none, hw ▸ grownBy_refl _ _, (fun _ e => by cases e), (fun _ e => by cases e)⟩
  · have hxs : ((List.range n).map f).length = n := by simp
    have h := mark_in g cap ((List.range n).map f) n f W (by omega) (by omega) h3 m hm
    rw [hxs] at h
    exact h.mono fun e w' ⟨he, hr, hg⟩ => ⟨he, .inr ⟨g, cap, rfl, h1, h2, hr.congr (fun i hi => by rw [if_pos hi])⟩, some g, hg, (fun k e => by cases e; exact ⟨h1, h2⟩), (fun k e => by cases e; exact h3.isInt)⟩

set_option maxHeartbeats 1000000 in
theorem markSSI_in {W : World} {base lim n : Nat} {v : Value} {L : Nat → Nat} {F : Nat → Nat → Int} (h : OwnG W base lim v n L F) (hL : ∀ j, j < n → L j ≤ 100) (hn : n ≤ 100) (m : Nat) (hm : m ≤ 1000) :
    Calls Try.prog 57 #[v, .int .i64 m] W fun e w' => e = .returned (.int .i64 ((m + accN L n : Nat) : Int)) ∧ OwnG w' base lim v n L (fun j i => ((m + accN L j + i : Nat) : Int)) ∧ BetI base lim W w' := by
  rcases h with ⟨rfl, a, c, rfl⟩ | ⟨G, cap, b, cb, rfl, hg⟩
  · go_enter Try.func57, Try.ntmps57
    go_wp2
    refine wp_loop_rounds 1 ?_
    rw [rounds_succ]
    go_wp2
    go_ret
    exact ⟨rfl, .inl ⟨rfl, _, _, rfl⟩, BetI.refl _ _ _⟩
  · have hacc := accN_le hL
    have hgl := fun k (hk : k < n) => (hg.row k hk).lt
    have hstep : ∀ k, accN L (k + 1) = accN L k + L k := fun k => rfl
    go_enter Try.func57, Try.ntmps57
    go_wp2
    go_loopw [1, 5] (fun q i wr => ∃ k : Nat, k ≤ n ∧ i = .int .i64 k ∧ q = .int .i64 ((m + accN L k : Nat) : Int) ∧ Grid wr base lim G n b cb L (fun j i => if j < k then ((m + accN L j + i : Nat) : Int) else F j i) ∧ BetI base lim W wr) (fun _ i _ => n - (intOf i).toNat)
    case atStart => exact ⟨0, Nat.zero_le _, rfl, rfl, by simpa using hg, BetI.refl _ _ _⟩
    case round =>
      clear hg
      obtain ⟨k, hk, rfl, rfl, hgr, hbt⟩ := hrel
      by_cases hlt : k < n
      · have hat := hgr.at_ k hlt
        have hrow := hgr.row k hlt
        have hLk := hL k hlt
        have hak := hacc k hk
        have hM := mark_in (b k) (cb k) (List.replicate (L k) 0) (L k) _ wr (by simp; omega) (by simp) hrow (m + accN L k) (by omega)
        simp only [List.length_replicate] at hM
        have hrb := hgr.rb k hlt
        have hint := int_back hbt hrow.isInt (hgl k hlt)
        have hki : (k : Int) < (n : Int) := by omega
        have hsk := hide (hstep k)
        have hGs := hgr.gb
        clear hacc hstep hL hrow
        obtain ⟨A, hA⟩ : ∃ A, m + accN L k = A := ⟨_, rfl⟩
        rw [hA] at hM ⊢
        go_wp2_with (go_at_call 56; (with_reducible refine hM.mono ?_); clear hM; rintro e w2 ⟨rfl, hr2, hg2⟩)
        go_roundw
        case rel =>
          refine ⟨k + 1, by omega, by go_num, by rw [hsk.out, ← Nat.add_assoc, hA, Int.natCast_add], ?_, hbt.row hg2 (by omega) hint⟩
          refine hgr.set hlt hg2 (hr2.congr fun i hi => ?_) (fun j hj => ?_)
          · rw [if_pos hi, if_pos (by omega), hA]
          · funext i
            by_cases e : j < k
            · rw [if_pos e, if_pos (by omega)]
            · rw [if_neg e, if_neg (by omega)]
        case measure => simp [intOf]; omega
      · obtain rfl : k = n := by omega
        clear hacc hstep hL
        go_wp2
        go_ret
        refine ⟨rfl, .inr ⟨G, cap, b, cb, rfl, ⟨hgr.gb, hgr.at_, hgr.rb, fun j hj => (hgr.row j hj).congr fun i _ => by rw [if_pos hj], hgr.ne⟩⟩, hbt⟩

set_option maxRecDepth 100000 in
set_option maxHeartbeats 1000000 in
theorem markDeskI_in {W : World} {base mid lim n m : Nat} {v : Value} {f : Nat → Int} {L : Nat → Nat} {F : Nat → Nat → Int} (h : OwnD W base mid lim v n f m L F) (hn : n ≤ 100) (hL : ∀ j, j < m → L j ≤ 100) (hm : m ≤ 100) (k : Nat) (hk : k ≤ 500) :
    Calls Try.prog 25 #[v, .int .i64 k] W fun e w' => e = .returned (.int .i64 ((k + n + accN L m : Nat) : Int)) ∧ OwnD w' base mid lim v n (fun i => ((k + i : Nat) : Int)) m L (fun j i => ((k + n + accN L j + i : Nat) : Int)) ∧ BetI base lim W w' := by
  obtain ⟨xa, xc, pa, pc, hv⟩ := h.form
  obtain ⟨x, p, rfl, h2, h3, h4, h5, h6⟩ := h
  injection hv with hv
  simp at hv
  obtain ⟨rfl, rfl⟩ := hv
  have hB := (Below.refl _ W).alloc (Nat.le_refl _) (.cells #[.slice xa n xc, .slice pa m pc] 26)
  have k0 := World.alloc_heap_new W (.cells #[.slice xa n xc, .slice pa m pc] 26)
  have hs1 := World.size_alloc W (.cells #[.slice xa n xc, .slice pa m pc] 26)
  obtain ⟨W1, hW1⟩ : ∃ W1, W.alloc (.cells #[.slice xa n xc, .slice pa m pc] 26) = W1 := ⟨_, rfl⟩
  rw [hW1] at hB k0 hs1
  have hM := mark_ownI (h5.below hB) (by omega) k (by omega)
  have hG1 := h6.below hB
  obtain ⟨c0, c1, _, _⟩ := row_at k0
  have hs := Nat.le_of_eq hs1
  have hs' := Nat.le_of_eq hs1.symm
  clear h5 h6 hs1
  have hkn : ((k + n : Nat) : Int) = (k : Int) + (n : Int) := by omega
  go_enter Try.func25, Try.ntmps25
  go_wp2_with (first
    | (go_at_call 56; go_loud (refine hM.mono ?_; clear hM; rintro e W2 ⟨rfl, hI2, row, hg2, hr2, ht2⟩; have k2 := (hg2.block _ (Array.getElem?_eq_some_iff.1 k0).1 (fun e => (by have := hr2 _ e.symm; omega))).trans k0; obtain ⟨c0, c1, _, _⟩ := row_at k2; have hG2 := hG1.grown hg2 (fun j e => (by have := hr2 j e; omega)); have hS := markSSI_in hG2 hL hm (k + n) (by omega)))
    | (go_at_call 57; go_loud (refine hS.mono ?_; clear hS; rintro e W3 ⟨rfl, hG3, hbt⟩)))
  go_ret
  have h23 : BetI base lim W W3 := by
    refine ⟨(hbt.os.trans hg2.os).trans hB.os, (hbt.tape.trans hg2.tape).trans hB.tape, (hbt.output.trans hg2.output).trans hB.output, Nat.le_trans hB.size (Nat.le_trans hg2.size hbt.size), fun q hq ho => ?_⟩
    have q1 := hB.block q hq
    have hq1 : q < W1.heap.size := Nat.lt_of_lt_of_le hq hB.size
    have hne : row ≠ some q := fun e => by
      rcases ho with ho | ho | ho
      · have := hr2 q e; omega
      · have := hr2 q e; omega
      · obtain ⟨cur, hc⟩ := ht2 q e
        exact ho ⟨cur, q1.symm.trans hc⟩
    have q2 := hg2.block q hq1 (fun e => hne e.symm)
    have q3 := hbt.block q (Nat.lt_of_lt_of_le hq1 hg2.size) (by
      rcases ho with ho | ho | ho
      · exact .inl (by omega)
      · exact .inr (.inl ho)
      · exact .inr (.inr fun ⟨cur, hc⟩ => ho ⟨cur, (q2.trans q1).symm.trans hc⟩))
    exact q3.trans (q2.trans q1)
  exact ⟨rfl, ⟨_, _, rfl, h2, h3, Nat.le_trans h4 h23.size, hI2.between hbt.bet (.inl (Nat.le_refl _)), hG3⟩, h23⟩

end Go.Proofs.Ytimnhedjapakhaa
