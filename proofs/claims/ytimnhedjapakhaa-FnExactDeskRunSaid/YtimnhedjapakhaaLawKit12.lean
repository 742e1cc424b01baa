/-
  The laws' helpers over desks that came in: marks over a copy.
-/
import Derived.Test.YtimnhedjapakhaaExact12b
namespace Go.Proofs.Ytimnhedjapakhaa
open Go.RowKit

/-- The rows from k on lie as they were, the others have been marked. -/
structure Mkq (W0 : World) (base lim : Nat) (v : Value) (rows : List (List Int)) (us : List Value) (k : Nat) (W : World) : Prop where
  bet : Between base lim W0 W
  own : W.ownsRow base 23 1 v us.length us
  row : ∀ j, k ≤ j → j < rows.length → W.ownsRow base 3 1 (us.getD j undef) (rows.getD j []).length ((rows.getD j []).map (Value.int .i64))

/-- Rows of one's own between two marks. -/
def OwnQL (W : World) (base lim : Nat) (v : Value) (rows : List (List Int)) : Prop :=
  ∃ us : List Value, us.length = rows.length ∧ W.ownsRow base 23 1 v us.length us ∧ (∀ j, j < rows.length → W.ownsRow base 3 1 (us.getD j undef) (rows.getD j []).length ((rows.getD j []).map (Value.int .i64))) ∧
    (∀ i j, i < j → j < rows.length → (us.getD i undef).ownBlock = .none ∨ (us.getD i undef).ownBlock ≠ (us.getD j undef).ownBlock) ∧ ∀ j, j < rows.length → ∀ g, (us.getD j undef).ownBlock = some g → g < lim
theorem OwnQL.of {W : World} {base : Nat} {v : Value} {rows : List (List Int)} (h : OwnQ W base v rows) : OwnQL W base W.heap.size v rows := by
  obtain ⟨us, l, o, r, ne⟩ := h
  exact ⟨us, l, o, r, ne, fun j hj g e => ((r j hj).lt g e).2⟩
theorem OwnQL.ownQ {W : World} {base lim : Nat} {v : Value} {rows : List (List Int)} (h : OwnQL W base lim v rows) : OwnQ W base v rows := by
  obtain ⟨us, l, o, r, ne, _⟩ := h
  exact ⟨us, l, o, r, ne⟩
theorem OwnQL.old {W W' : World} {base lim b : Nat} {v : Value} {rows : List (List Int)} (h : OwnQL W base lim v rows) (hb : b < base) (hg : W.grownBy W' (some b)) : OwnQL W' base lim v rows := by
  obtain ⟨us, l, o, r, ne, hl⟩ := h
  exact ⟨us, l, own_kept o hg (own_old o hb), fun j hj => own_kept (r j hj) hg (own_old (r j hj) hb), ne, hl⟩
theorem OwnQL.rowed {W W' : World} {base lim : Nat} {row : Option Nat} {v : Value} {rows : List (List Int)} (h : OwnQL W base lim v rows) (hg : W.grownBy W' row) (hb : ∀ b, row = some b → b < base) : OwnQL W' base lim v rows := by
  cases row with
  | some b => exact h.old (hb b rfl) hg
  | none =>
    obtain ⟨us, l, o, r, ne, hl⟩ := h
    have hg' : W.grownBy W' (some W.heap.size) := ⟨hg.os, hg.tape, hg.output, hg.size, fun k hk _ => hg.block k hk (by simp)⟩
    exact ⟨us, l, own_kept o hg' (fun e => absurd (o.lt _ e).2 (Nat.lt_irrefl _)), fun j hj => own_kept (r j hj) hg' (fun e => absurd ((r j hj).lt _ e).2 (Nat.lt_irrefl _)), ne, hl⟩
theorem OwnQL.below {W W' : World} {base lim : Nat} {v : Value} {rows : List (List Int)} (h : OwnQL W base lim v rows) (hB : Below W.heap.size W W') : OwnQL W' base lim v rows := by
  obtain ⟨us, l, o, r, ne, hl⟩ := h
  exact ⟨us, l, own_below o hB, fun j hj => own_below (r j hj) hB, ne, hl⟩

set_option maxRecDepth 100000 in
set_option maxHeartbeats 1000000 in
theorem markQ_in {W : World} {base lim : Nat} {v : Value} {rows : List (List Int)} (h : OwnQL W base lim v rows) (hn : rows.length ≤ 1048576) (m : Nat) (hs : m + accN (fun j => (rows.getD j []).length) rows.length ≤ 5000000) :
    Calls Try.prog 57 #[v, .int .i64 m] W fun e w' => e = .returned (.int .i64 ((m + accN (fun j => (rows.getD j []).length) rows.length : Nat) : Int)) ∧ Between base lim W w' := by
  obtain ⟨us, hl, ho, hr, hne, hbs⟩ := h
  obtain ⟨a, c, rfl⟩ := own_form ho
  have hacc : ∀ k, accN (fun j => (rows.getD j []).length) (k + 1) = accN (fun j => (rows.getD j []).length) k + (rows.getD k []).length := fun k => rfl
  have hle : ∀ k, k ≤ rows.length → accN (fun j => (rows.getD j []).length) k ≤ accN (fun j => (rows.getD j []).length) rows.length := fun k hk => by
    obtain ⟨d, hd⟩ : ∃ d, rows.length = k + d := ⟨rows.length - k, by omega⟩
    rw [hd]
    clear hd hk
    induction d with
    | zero => exact Nat.le_refl _
    | succ d ih => exact Nat.le_trans ih (Nat.le_add_right _ _)
  have hM0 : Mkq W base lim (.slice a us.length c) rows us 0 W := ⟨Between.refl _ _ _, ho, fun j _ hj => hr j hj⟩
  clear ho hr
  generalize hA : accN (fun j => (rows.getD j []).length) = A at *
  have hA0 : A 0 = 0 := by rw [← hA]; rfl
  have hAh := hide hA
  clear hA
  obtain ⟨n, hN⟩ : ∃ n, rows.length = n := ⟨_, rfl⟩
  rw [hl] at hM0 ⊢
  rw [hN] at hn hs hle hM0 ⊢
  have hNh := hide hN
  go_enter Try.func57, Try.ntmps57
  go_wp2
  go_loopw [1, 5] (fun q i wr => ∃ k : Nat, k ≤ n ∧ i = .int .i64 k ∧ q = .int .i64 ((m + A k : Nat) : Int) ∧ Mkq W base lim (.slice a n c) rows us k wr) (fun _ i _ => n - (intOf i).toNat)
  case atStart => exact ⟨0, Nat.zero_le _, rfl, by rw [hA0]; rfl, hM0⟩
  case round =>
    clear hM0
    obtain ⟨k, hk, rfl, rfl, hM⟩ := hrel
    by_cases hlt : k < n
    · have hrow := hM.row k (Nat.le_refl _) (by omega)
      have hz := hM.bet.size
      have hMh := hide hM
      have hki : (k : Int) < (n : Int) := by omega
      have hk1 := hle (k + 1) (by omega)
      have hsk := hacc k
      have hskh := hide hsk
      obtain ⟨G, hG⟩ : ∃ G, a = some ⟨G, 0, none⟩ := by
        rcases hM.own.2 with ⟨e, h0⟩ | ⟨g, cap, cur, e, _⟩
        · omega
        · injection e with e1; exact ⟨g, e1⟩
      subst hG
      have hat : wr.cell? ⟨G, k, none⟩ = some (us.getD k undef) := by
        have hown' : wr.ownsRow base 23 1 (.slice (some ⟨G, 0, none⟩) n c) n us := by
          have h := hM.own
          rwa [show us.length = n by omega] at h
        have h1 := hown'.cellAt k (by omega)
        rw [List.getD, List.getElem?_eq_getElem (by omega)]
        rw [List.getElem?_eq_getElem (by omega)] at h1
        exact h1
      by_cases h0 : (rows.getD k []).length = 0
      · have hsh : ∃ ua uc, us.getD k undef = .slice ua 0 uc := by
          obtain ⟨ua, uc, e⟩ := own_form hrow
          exact ⟨ua, uc, by rw [e, h0]⟩
        obtain ⟨ua, uc, hu⟩ := hsh
        rw [hu] at hat
        have hMk := mark_none ua uc (m + A k) wr
        have hnew : Mkq W base lim (.slice (some ⟨G, 0, none⟩) n c) rows us (k + 1) wr := ⟨hM.bet, hM.own, fun j hj hj2 => hM.row j (by omega) hj2⟩
        have hAe : A (k + 1) = A k := by rw [hsk, h0]; rfl
        have hnewh := hide hnew
        have hAk : A k ≤ 5000000 := by omega
        have hAeh := hide hAe
        clear hnew hAe hu hrow hMh hM hacc hle hk1 hsk hne hN
        generalize A k = Ak at *
        obtain ⟨T, hT⟩ : ∃ T, m + Ak = T := ⟨_, rfl⟩
        rw [hT] at hMk ⊢
        go_wp2_with (go_at_call 56; go_loud ((with_reducible refine hMk.mono ?_); clear hMk; rintro e w2 ⟨rfl, rfl⟩))
        go_roundw
        case rel => exact ⟨k + 1, by omega, by go_num, by rw [hAeh.out, hT], hnewh.out⟩
        case measure => simp [intOf]; omega
      · obtain ⟨g, cap, hu, hgb, hra⟩ := RowAt.of_owns hrow (by omega)
        rw [hu] at hat
        have hMk := mark_in g cap (rows.getD k []) _ _ wr (by omega) (Nat.le_refl _) hra (m + A k) (by omega)
        have hgl := hra.lt
        have hnew : ∀ w2, wr.grownBy w2 (some g) → g < lim → Mkq W base lim (.slice (some ⟨G, 0, none⟩) n c) rows us (k + 1) w2 := fun w2 hg2 hgW => by
          have hM := hMh.out
          refine ⟨⟨hg2.os.trans hM.bet.os, hg2.tape.trans hM.bet.tape, hg2.output.trans hM.bet.output, Nat.le_trans hM.bet.size hg2.size, fun q hq hout => (hg2.block q (Nat.lt_of_lt_of_le hq hM.bet.size) (fun e => by injection e with e; omega)).trans (hM.bet.block q hq hout)⟩, hM.own.kept hg2 ?_, fun j hj hj2 => (hM.row j (by omega) hj2).kept hg2 ?_⟩
          · rcases own_apart (hM.row k (Nat.le_refl _) (by omega)) hM.own with h3 | h3
            · rw [hu] at h3; simp [Value.ownBlock] at h3
            · rw [hu] at h3
              exact .inr (fun e => h3 (by rw [e]; rfl))
          · rcases hne k j (by omega) hj2 with h3 | h3
            · rw [hu] at h3; simp [Value.ownBlock] at h3
            · rw [hu] at h3
              exact .inr (fun e => h3 (by rw [e]; rfl))
        have hgW := hbs k (by omega) g (by rw [hu]; rfl)
        have hAk : A k ≤ 5000000 := by omega
        have hLk : (rows.getD k []).length ≤ 5000000 := by omega
        have hnewh := hide hnew
        clear hnew hu hrow hMh hM hacc hle hk1 hsk hne hN hra h0 hbs
        generalize (rows.getD k []).length = L at *
        generalize A k = Ak at *
        obtain ⟨T, hT⟩ : ∃ T, m + Ak = T := ⟨_, rfl⟩
        rw [hT] at hMk ⊢
        go_wp2_with (go_at_call 56; go_loud ((with_reducible refine hMk.mono ?_); clear hMk; rintro e w2 ⟨rfl, _, hg2⟩; have hM2 := hnewh.out w2 hg2 hgW))
        go_roundw
        case rel => exact ⟨k + 1, by omega, by go_num, by rw [hskh.out, ← Nat.add_assoc, hT, Int.natCast_add], hM2⟩
        case measure => simp [intOf]; omega
    · obtain rfl : k = n := by omega
      have hki : ¬ ((k : Nat) : Int) < (k : Int) := by omega
      have hMh := hide hM
      clear hM hacc hle hne
      go_wp2
      go_ret
      exact ⟨rfl, hMh.out.bet⟩

/-- A copy of a desk that came in: its row below the rows of before, all between two marks. -/
def OwnA (W : World) (base lim : Nat) (v : Value) (d : Dk) : Prop :=
  ∃ mid x p, v = .agg #[x, p] ∧ base ≤ mid ∧ mid ≤ lim ∧ lim ≤ W.heap.size ∧ W.ownsRow base 3 1 x d.1.length (d.1.map (Value.int .i64)) ∧ (∀ g, x.ownBlock = some g → g < mid) ∧ OwnQL W mid lim p d.2
theorem OwnA.deskI {W : World} {base lim : Nat} {v : Value} {d : Dk} (h : OwnA W base lim v d) : DeskI W v d := by
  obtain ⟨mid, x, p, rfl, hm, _, _, h1, _, h2⟩ := h
  exact desk_agg h1 (h2.ownQ.down hm)
theorem OwnA.below {W W' : World} {base lim : Nat} {v : Value} {d : Dk} (h : OwnA W base lim v d) (hB : Below W.heap.size W W') : OwnA W' base lim v d := by
  obtain ⟨mid, x, p, rfl, h0, h1, h2, h3, h4, h5⟩ := h
  exact ⟨mid, x, p, rfl, h0, h1, Nat.le_trans h2 hB.size, own_below h3 hB, h4, h5.below hB⟩
theorem OwnA.cap {W : World} {base lim : Nat} {v : Value} {d : Dk} (h : OwnA W base lim v d) : CapP v := by
  obtain ⟨mid, x, p, rfl, _, _, _, _, _, us, _, ho, _⟩ := h
  obtain ⟨a, c, rfl⟩ := own_form ho
  refine CapP.of ?_
  rcases ho.2 with ⟨e, h0⟩ | ⟨b, cap, cur, e, _, _, hc, _⟩
  · injection e with _ e2 e3; omega
  · injection e with _ e2 e3; omega
theorem OwnA.form {W : World} {base lim : Nat} {v : Value} {d : Dk} (h : OwnA W base lim v d) : ∃ a b c e, v = .agg #[.slice a d.1.length b, .slice c d.2.length e] := by
  obtain ⟨mid, x, p, rfl, _, _, _, h1, _, h2⟩ := h
  obtain ⟨a, b, rfl⟩ := own_form h1
  obtain ⟨c, e, rfl⟩ := h2.ownQ.ownSS.form
  exact ⟨_, _, _, _, rfl⟩

set_option maxRecDepth 100000 in
set_option maxHeartbeats 1000000 in
theorem markA_in {W : World} {base lim : Nat} {v : Value} {d : Dk} (h : OwnA W base lim v d) (hn : d.1.length ≤ 1048576) (hm : d.2.length ≤ 1048576) (hs : accN (fun j => (d.2.getD j []).length) d.2.length ≤ 1048576) (k : Nat) (hk : k ≤ 1000000) :
    Calls Try.prog 25 #[v, .int .i64 k] W fun e w' => e = .returned (.int .i64 ((k + d.1.length + accN (fun j => (d.2.getD j []).length) d.2.length : Nat) : Int)) ∧ Between base lim W w' := by
  obtain ⟨xa, xc, pa, pc, hv⟩ := h.form
  obtain ⟨mid, x, p, rfl, h0, h1, h2, h3, h4, h5⟩ := h
  injection hv with hv
  simp at hv
  obtain ⟨rfl, rfl⟩ := hv
  have hB := (Below.refl _ W).alloc (Nat.le_refl _) (.cells #[.slice xa d.1.length xc, .slice pa d.2.length pc] 26)
  have k0 := World.alloc_heap_new W (.cells #[.slice xa d.1.length xc, .slice pa d.2.length pc] 26)
  have hs1 := World.size_alloc W (.cells #[.slice xa d.1.length xc, .slice pa d.2.length pc] 26)
  obtain ⟨W1, hW1⟩ : ∃ W1, W.alloc (.cells #[.slice xa d.1.length xc, .slice pa d.2.length pc] 26) = W1 := ⟨_, rfl⟩
  rw [hW1] at hB k0 hs1
  have hI : OwnI W1 base mid (.slice xa d.1.length xc) d.1.length (fun i => d.1.getD i 0) := by
    have hr := own_below h3 hB
    by_cases hp : 0 < d.1.length
    · obtain ⟨g, cap, e, hb, hra⟩ := RowAt.of_owns hr hp
      exact .inr ⟨g, cap, e, hb, h4 g (by rw [e]; rfl), hra⟩
    · exact .inl ⟨by omega, xa, xc, by rw [show d.1.length = 0 by omega]⟩
  have hM := mark_own hI (by omega) k (by omega)
  have hG1 := h5.below hB
  obtain ⟨c0, c1, _, _⟩ := row_at k0
  have hs2 := Nat.le_of_eq hs1
  have hs' := Nat.le_of_eq hs1.symm
  clear h3 h5 hs1 hI
  have hkn : ((k + d.1.length : Nat) : Int) = (k : Int) + (d.1.length : Int) := by omega
  go_enter Try.func25, Try.ntmps25
  go_wp2_with (first
    | (go_at_call 56; go_loud (refine hM.mono ?_; clear hM; rintro e W2 ⟨rfl, _, row, hg2, hr2⟩; have k2 := (hg2.block _ (Array.getElem?_eq_some_iff.1 k0).1 (fun e => (by have := hr2 _ e.symm; omega))).trans k0; obtain ⟨c0, c1, _, _⟩ := row_at k2; have hG2 := hG1.rowed hg2 (fun j e => (hr2 j e).2); have hS := markQ_in hG2 (by omega) (k + d.1.length) (by omega)))
    | (go_at_call 57; go_loud (refine hS.mono ?_; clear hS; rintro e W3 ⟨rfl, hbt⟩)))
  go_ret
  refine ⟨rfl, (hbt.os.trans hg2.os).trans hB.os, (hbt.tape.trans hg2.tape).trans hB.tape, (hbt.output.trans hg2.output).trans hB.output, Nat.le_trans hB.size (Nat.le_trans hg2.size hbt.size), fun q hq ho => ?_⟩
  have q1 := hB.block q hq
  have hq1 : q < W1.heap.size := Nat.lt_of_lt_of_le hq hB.size
  have q2 := hg2.block q hq1 (fun e => by have := hr2 q e.symm; omega)
  have q3 := hbt.block q (Nat.lt_of_lt_of_le hq1 hg2.size) (by omega)
  exact q3.trans (q2.trans q1)
end Go.Proofs.Ytimnhedjapakhaa
