/-
  More of the laws' own helpers: toIntS over an argument that came in; marking and holding over a result of one's own, whether it is empty or not.
-/
import Derived.Test.YtmnmbelmcdfcjaaLawKit
import Derived.Test.YtmnmbelmcdfcjaaBlk
import Derived.Test.YtmnmbelmcdfcjaaOpen
namespace Go.Proofs.Ytmnmbelmcdfcjaa
open Go.RowKit

/-- A slice of ints that came in, in the world in which the law began. -/
def ArgI (W0 : World) (v : Value) (xs : List Int) : Prop :=
  (∃ a c, v = .slice a 0 c ∧ xs = []) ∨ ∃ b off cap, v = .slice (some ⟨b, off, none⟩) xs.length cap ∧ b < W0.heap.size ∧ ∀ i, i < xs.length → W0.cell? ⟨b, off + i, none⟩ = some (.int .i64 (xs.getD i 0))
theorem IsRow.arg {w : World} {a : Option Addr} {len cap : Nat} {zs : List Int} (h : IsRow .i64 w a len cap zs) : ArgI w (.slice a len cap) (zs.take len) ∧ (zs.take len).length = len := by
  rcases h with ⟨rfl, rfl, rfl, rfl⟩ | ⟨⟨b, off, spot⟩, rfl, hl, hm, hz, hcell, hwf⟩
  · exact ⟨.inl ⟨_, _, rfl, rfl⟩, rfl⟩
  · have hlen : (zs.take len).length = len := by simp; omega
    refine ⟨?_, hlen⟩
    by_cases h0 : len = 0
    · subst h0; exact .inl ⟨_, _, rfl, by simp⟩
    · have h0 := hcell 0 (by omega)
      have hs : spot = none := by simpa [Addr.add] using World.cell?_spot h0
      subst hs
      have hb : b < w.heap.size := by
        have := World.block_lt_of_cell? w _ h0
        simpa [Addr.add] using this
      refine .inr ⟨b, off, cap, by rw [hlen], hb, fun i hi => ?_⟩
      have h1 := hcell i (by omega)
      have hadd : (⟨b, off, none⟩ : Addr).add i = ⟨b, off + i, none⟩ := by unfold Addr.add; split <;> simp_all
      rw [hadd] at h1
      rw [h1, List.getD, List.getD, List.getElem?_take, if_pos (by omega)]

set_option maxHeartbeats 400000 in
theorem toIntS_in (W0 : World) (v : Value) (xs : List Int) (w : World) (h : ArgI W0 v xs) (hB : Below W0.heap.size W0 w) (hl : xs.length ≤ 2000000) :
    Calls Try.prog 35 #[v] w fun e w' => ∃ r, e = .returned r ∧ w'.ownsRow w.heap.size 3 1 r xs.length (xs.map (Value.int .i64)) ∧ Below w.heap.size w w' := by
  obtain ⟨a, c, rfl, hc⟩ : ∃ a c, v = .slice a xs.length c ∧ (0 < xs.length → ∃ b off, a = some ⟨b, off, none⟩ ∧ b < W0.heap.size ∧ ∀ i, i < xs.length → W0.cell? ⟨b, off + i, none⟩ = some (.int .i64 (xs.getD i 0))) := by
    rcases h with ⟨a, c, rfl, rfl⟩ | ⟨b, off, cap, rfl, h1, h2⟩
    · exact ⟨a, c, rfl, fun h => by simp at h⟩
    · exact ⟨_, _, rfl, fun _ => ⟨b, off, rfl, h1, h2⟩⟩
  clear h
  have hxs : (xs.length = xs.length) := rfl
  obtain ⟨n, hn⟩ : ∃ n, xs.length = n := ⟨_, rfl⟩
  rw [hn] at hl hc ⊢
  have hn' := hide hn
  clear hn hxs
  go_enter Try.func35, Try.ntmps35
  go_wp2_with (refine make_blk _ rfl _ _ rfl _ _ n rfl rfl rfl rfl (by omega) ?_; intro w1 hb1 hg1)
  have hst : BlkAt w1 w.heap.size 3 n (intsV n fun i => if i < 0 then xs.getD i 0 else 0) := BlkAt.congr hb1 (fun i _ => by rw [if_neg (by omega)])
  have hBs : Below w.heap.size w w1 := (Below.refl _ w).grown hg1 (Nat.le_refl _) (fun _ e => by cases e)
  clear hb1 hg1
  go_loopw [4] (fun i wr => ∃ k : Nat, k ≤ n ∧ i = .int .i64 k ∧ BlkAt wr w.heap.size 3 n (intsV n fun i => if i < k then xs.getD i 0 else 0) ∧ Below w.heap.size w wr) (fun i _ => n - (intOf i).toNat)
  case atStart => exact ⟨0, by omega, rfl, hst, hBs⟩
  case round =>
    clear hst hBs
    obtain ⟨k, hk, rfl, hb, hBw⟩ := hrel
    by_cases hlt : k < n
    · obtain ⟨b, off, rfl, hbW, hcells⟩ := hc (by omega)
      have hc1 : wr.cell? ⟨b, off + k, none⟩ = some (.int .i64 (xs.getD k 0)) := (hBw.cell (p := ⟨b, off + k, none⟩) (Nat.lt_of_lt_of_le hbW hB.size)).trans ((hB.cell (p := ⟨b, off + k, none⟩) hbW).trans (hcells k hlt))
      have hfz := hb.frozen k
      have hc2 := hb.cell (intsV_at hlt)
      have hki : (k : Int) < (n : Int) := by omega
      have hSn : BlkAt (wr.setCell ⟨w.heap.size, k, none⟩ (.int .i64 (xs.getD k 0))) w.heap.size 3 n (intsV n fun i => if i < k + 1 then xs.getD i 0 else 0) := (hb.setI _ hlt).congr (fun i _ => by
        by_cases e : i = k
        · subst e; rw [if_pos rfl, if_pos (by omega)]
        · rw [if_neg e]
          by_cases e2 : i < k
          · rw [if_pos e2, if_pos (by omega)]
          · rw [if_neg e2, if_neg (by omega)])
      have hBn : Below w.heap.size w (wr.setCell ⟨w.heap.size, k, none⟩ (.int .i64 (xs.getD k 0))) := hBw.setCell (p := ⟨w.heap.size, k, none⟩) (Nat.le_refl _) _
      clear hc hcells hb hBw hB
      generalize xs.getD k 0 = z at *
      go_wp2
      go_roundw
      case rel => exact ⟨k + 1, by omega, by go_num, hSn, hBn⟩
      case measure => simp [intOf]; omega
    · obtain rfl : k = n := by omega
      have hown : wr.ownsRow w.heap.size 3 1 (.slice (some ⟨w.heap.size, 0, none⟩) k k) k (xs.map (Value.int .i64)) := hb.owns hn'.out (fun i hi => by rw [intsV_at hi, if_pos hi]) (Nat.le_refl _) (by omega)
      clear hc hb
      go_wp2
      go_ret
      exact ⟨_, rfl, hown, hBw⟩

/-- A slice of one's own with n numbers f, in a block between base and lim. -/
def OwnI (W : World) (base lim : Nat) (v : Value) (n : Nat) (f : Nat → Int) : Prop :=
  (n = 0 ∧ ∃ a c, v = .slice a 0 c) ∨ ∃ g cap, v = .slice (some ⟨g, 0, none⟩) n cap ∧ base ≤ g ∧ g < lim ∧ RowAt W g n f
theorem OwnI.of_owns {w w' : World} {v : Value} {xs : List Int} (h : w'.ownsRow w.heap.size 3 1 v xs.length (xs.map (Value.int .i64))) : OwnI w' w.heap.size w'.heap.size v xs.length (fun i => xs.getD i 0) := by
  by_cases h0 : 0 < xs.length
  · obtain ⟨g, cap, rfl, hb, hr⟩ := RowAt.of_owns h h0
    exact .inr ⟨g, cap, rfl, hb, hr.lt, hr⟩
  · refine .inl ⟨by omega, ?_⟩
    have e : xs.length = 0 := by omega
    rcases h.2 with ⟨rfl, _⟩ | ⟨g, cap, cur, rfl, _⟩
    · exact ⟨_, _, rfl⟩
    · rw [e]; exact ⟨_, _, rfl⟩
theorem OwnI.ints {W : World} {base lim : Nat} {v : Value} {xs : List Int} (h : OwnI W base lim v xs.length (fun i => xs.getD i 0)) : Ints W v xs := by
  rcases h with ⟨h0, a, c, rfl⟩ | ⟨g, cap, rfl, _, _, hr⟩
  · exact .inl ⟨_, _, rfl, List.length_eq_zero_iff.1 h0⟩
  · exact .inr ⟨g, cap, rfl, hr.lt, fun i hi => hr.cell hi⟩
theorem OwnI.grown {W W' : World} {base lim n : Nat} {v : Value} {f : Nat → Int} {row : Option Nat} (h : OwnI W base lim v n f) (hg : W.grownBy W' row) (hr : ∀ k, row = some k → k < base ∨ lim ≤ k) : OwnI W' base lim v n f := by
  rcases h with h | ⟨g, cap, rfl, h1, h2, h3⟩
  · exact .inl h
  · exact .inr ⟨g, cap, rfl, h1, h2, h3.kept hg (fun e => by have := hr g e.symm; omega)⟩
theorem OwnI.below {W W' : World} {base lim n : Nat} {v : Value} {f : Nat → Int} (h : OwnI W base lim v n f) (hb : Below W.heap.size W W') : OwnI W' base lim v n f := by
  rcases h with h | ⟨g, cap, rfl, h1, h2, h3⟩
  · exact .inl h
  · exact .inr ⟨g, cap, rfl, h1, h2, h3.of_block (hb.block g h3.lt)⟩
theorem mark_own {W : World} {base lim : Nat} {v : Value} {xs : List Int} (h : OwnI W base lim v xs.length (fun i => xs.getD i 0)) (hn : xs.length ≤ 10000000) (m : Nat) (hm : m ≤ 10000000) :
    Calls Try.prog 37 #[v, .int .i64 m] W fun e w' => e = .returned (.int .i64 ((m + xs.length : Nat) : Int)) ∧ OwnI w' base lim v xs.length (fun i => ((m + i : Nat) : Int)) ∧ ∃ row, W.grownBy w' row ∧ ∀ k, row = some k → base ≤ k ∧ k < lim := by
  rcases h with ⟨h0, a, c, rfl⟩ | ⟨g, cap, rfl, h1, h2, h3⟩
  · exact (mark_none a c m W).mono fun e w' ⟨he, hw⟩ => ⟨by rw [he, h0]; rfl, .inl ⟨h0, a, c, rfl⟩, none, hw ▸ grownBy_refl _ _, fun _ e => by cases e⟩
  · exact (mark_in g cap xs xs.length _ W hn (Nat.le_refl _) h3 m hm).mono fun e w' ⟨he, hr, hg⟩ => ⟨he, .inr ⟨g, cap, rfl, h1, h2, hr.congr (fun i hi => by rw [if_pos hi])⟩, some g, hg, fun k e => by cases e; exact ⟨h1, h2⟩⟩
theorem held_own {W : World} {base lim n : Nat} {v : Value} (m : Nat) (h : OwnI W base lim v n (fun i => ((m + i : Nat) : Int))) (hn : n ≤ 10000000) (hm : m ≤ 10000000) :
    Calls Try.prog 38 #[v, .int .i64 m] W fun e w' => e = .returned (.int .i64 ((m + n : Nat) : Int)) ∧ W = w' := by
  rcases h with ⟨h0, a, c, rfl⟩ | ⟨g, cap, rfl, h1, h2, h3⟩
  · subst h0; exact held_none a c m W
  · exact held_in g cap n W hn m hm (fun i hi => h3.cell hi)
end Go.Proofs.Ytmnmbelmcdfcjaa
