/-
  slices.Concat of rows and one row.
-/
import Derived.Test.YtimnhedjapakhaaDesk12g
namespace Go.Proofs.Ytimnhedjapakhaa
open Go.RowKit Go.Shelf

/-- 'append(s, r...)' of rows, of however many, to rows of one's own that have a block. -/
theorem append_rows {ops : Array Oper} {rest : List Oper} {o : Oper} {a : Act} {Q : Exit → Act → World → Prop} {w : World} (hgd : o.guard = none) (s x : Operand)
    (ho : o.op = .call { callee := .builtin .append, args := #[s, x], argTypes := #[24, 24] })
    (base : Nat) (v : Value) (n : Nat) (xs : List Value) (hs : a.eval s = v) (hown : w.ownsRow base 23 1 v n xs) (hnn : v.ownBlock ≠ none) (ad : Option Addr) (m c : Nat) (us : List Value) (hx : a.eval x = .slice ad m c) (hl : us.length = m)
    (hc : 0 < m → ∃ G o, ad = some ⟨G, o, none⟩ ∧ ∀ j, j < m → w.cell? ⟨G, o + j, none⟩ = some (us.getD j undef)) (h1 : ∀ u ∈ us, u.oneCell' = true) (hn : n + m ≤ 1000) (hbase : base ≤ w.heap.size)
    (h : ∀ v' w', w'.ownsRow base 23 1 v' (n + m) (xs ++ us) → v'.ownBlock ≠ none → w.grownBy w' v.ownBlock → wpList Try.prog ops Q rest (a.put o.dst v') w') :
    wpList Try.prog ops Q (o :: rest) a w := by
  obtain ⟨i0, hi, hz0, hz1, hz2⟩ := info_rows Try.infoRow
  by_cases h0 : 0 < m
  · obtain ⟨G, off, rfl, hcell⟩ := hc h0
    refine wpList_append_own _ hgd s x 24 ho base 23 i0 (.slice none 0 0) 1 24 Try.underlying24 hi hz0 hz1 hz2 rfl (by decide) v n xs hs hown ⟨G, off, none⟩ m c us hx (by omega) ?_ h1 ?_ ?_ hbase ?_
    · intro j u hj
      have hjl := (List.getElem?_eq_some_iff.1 hj).1
      have hadd : (⟨G, off, none⟩ : Addr).add j = ⟨G, off + j, none⟩ := by unfold Addr.add; split <;> simp_all
      rw [hadd, hcell j (by omega), List.getD, hj]; rfl
    · unfold maxLen; omega
    · omega
    · intro v' w' h2 h3 _
      refine h v' w' h2 ?_ h3
      obtain ⟨b, e, _⟩ := own_pos h2 (by omega)
      rw [e]; exact fun e => by cases e
  · obtain rfl : m = 0 := by omega
    obtain rfl : us = [] := List.length_eq_zero_iff.1 hl
    rcases hown.2 with ⟨rfl, _⟩ | ⟨B, cap, cur, rfl, hB, hg, hc1, hc2, hc3, hc4⟩
    · exact absurd rfl hnn
    · have hfc : (Builtin.firstCells i0.size 0 (.slice ad 0 c)).run Try.prog w = .ok (([] : List Value).toArray) w := by
        cases ad with
        | none => exact run_firstCells_none w i0.size 0 0 c
        | some q => exact run_firstCells_some w i0.size 0 q 0 c [] (by simp) (fun j v hj => by simp at hj)
      have hrun : (Builtin.append_ #[24, 24] o.type #[.slice (some ⟨B, 0, none⟩) n cap, .slice ad 0 c]).run Try.prog w = .ok (.slice (some ⟨B, 0, none⟩) n cap) w := by
        have hst := run_storeCells_cells (P := Try.prog) B (0 + n * i0.size) [] 0 w (fun j hj => absurd hj (Nat.not_lt_zero j)) (fun j hj => absurd hj (Nat.not_lt_zero j)) (by simp)
        simp only [Nat.add_zero] at hst
        simp [Builtin.append_, run_underlying Try.underlying24, sizeOf, typeInfo, hi, Builtin.lenOf, hc1, hfc, Addr.add_lit]
        simp at hst
        rw [hst]; rfl
      refine Lib.wpList_append_run _ hgd s x 24 24 ho _ _ hs hx _ _ hrun ?_
      refine h _ _ ?_ hnn ⟨rfl, rfl, rfl, Nat.le_refl _, fun _ _ _ => rfl⟩
      simpa using hown
/-- The values of rows that lie. -/
theorem rows_values {W : World} {a : Option Addr} {n c : Nat} {rows : List (List Int)} (h : PastI W (.slice a n c) rows) : n = rows.length ∧ ∃ us : List Value, us.length = rows.length ∧ (0 < rows.length → ∃ G o, a = some ⟨G, o, none⟩ ∧ G < W.heap.size ∧ ∀ j, j < rows.length → W.cell? ⟨G, o + j, none⟩ = some (us.getD j undef)) ∧ ∀ j, j < rows.length → Ints W (us.getD j undef) (rows.getD j []) := by
  obtain ⟨a', c', e, h⟩ := h
  cases e
  refine ⟨rfl, ?_⟩
  by_cases h0 : 0 < rows.length
  · obtain ⟨G, o, rfl, hG, hr⟩ := h h0
    refine ⟨(List.range rows.length).map fun j => (W.cell? ⟨G, o + j, none⟩).getD undef, by simp, fun _ => ⟨G, o, rfl, hG, fun j hj => ?_⟩, fun j hj => ?_⟩
    · obtain ⟨u, h1, _⟩ := hr j hj
      rw [List.getD, List.getElem?_map, List.getElem?_range hj, Option.map_some, Option.getD_some, h1]; rfl
    · obtain ⟨u, h1, h2⟩ := hr j hj
      rw [List.getD, List.getElem?_map, List.getElem?_range hj]
      show Ints W ((W.cell? ⟨G, o + j, none⟩).getD undef) _
      rw [h1]; exact h2
  · have e : rows = [] := List.length_eq_zero_iff.1 (by omega)
    subst e
    exact ⟨[], rfl, fun h => absurd h h0, fun j hj => absurd hj (Nat.not_lt_zero j)⟩

set_option maxRecDepth 100000 in
set_option maxHeartbeats 2000000 in
theorem concat_in (q : Nat) (a : Option Addr) (n c q2 : Nat) (vr : Value) (rows : List (List Int)) (row : List Int) (w : World) (hq0 : w.cell? ⟨q, 0, none⟩ = some (.slice a n c)) (hq1 : w.cell? ⟨q, 1, none⟩ = some (.slice (some ⟨q2, 0, none⟩) 1 1)) (hq2 : w.cell? ⟨q2, 0, none⟩ = some vr)
    (hr : Ints w vr row) (hp : PastI w (.slice a n c) rows) (hn : rows.length ≤ 8) : Calls Try.prog 40 #[.slice (some ⟨q, 0, none⟩) 2 2] w fun e w' =>
    ∃ G cp, e = .returned (.slice (some ⟨G, 0, none⟩) (rows.length + 1) cp) ∧ rows.length + 1 ≤ cp ∧ w.heap.size ≤ G ∧ G < w'.heap.size ∧ (∀ k, k < rows.length + 1 → ∃ u, w'.cell? ⟨G, 0 + k, none⟩ = some u ∧ Ints w' u ((rows ++ [row]).getD k [])) ∧ Below w.heap.size w w' := by
  obtain ⟨rfl, us, hul, huc, hui⟩ := rows_values hp
  have hq0l := World.block_lt_of_cell? w _ hq0
  have hq2l := World.block_lt_of_cell? w _ hq2
  have hlt : ∀ j, j < rows.length → (us.getD j undef).oneCell' = true := fun j hj => by obtain ⟨x, y, e⟩ := (hui j hj).shape; rw [e]; rfl
  have hvr : vr.oneCell' = true := by obtain ⟨x, y, e⟩ := hr.shape; rw [e]; rfl
  have hGr := grow_nil (rows.length + 1) (by omega) (by omega) w
  obtain ⟨n, hne⟩ : ∃ n, rows.length = n := ⟨_, rfl⟩
  rw [hne] at hul huc hui hlt hGr hn hq0 hp ⊢
  have h1 : ∀ u ∈ us, u.oneCell' = true := fun u hu => by
    obtain ⟨j, hj, rfl⟩ := List.getElem_of_mem hu
    have := hlt j (by omega)
    rwa [List.getD, List.getElem?_eq_getElem hj] at this
  have hwr : ((n + 1 : Nat) : Int) = (n : Int) + 1 := by omega
  rw [hwr] at hGr
  have hfin : ∀ (v' : Value) (w' : World), w'.ownsRow w.heap.size 23 1 v' (n + 1) (us ++ [vr]) → Below w.heap.size w w' → ∃ G cp, v' = .slice (some ⟨G, 0, none⟩) (n + 1) cp ∧ n + 1 ≤ cp ∧ w.heap.size ≤ G ∧ G < w'.heap.size ∧ (∀ k, k < n + 1 → ∃ u, w'.cell? ⟨G, 0 + k, none⟩ = some u ∧ Ints w' u ((rows ++ [row]).getD k [])) := fun v' w' ho hB => by
    rcases ho.2 with ⟨_, h0⟩ | ⟨G, cp, cur, rfl, hb, hg, hc1, _⟩
    · omega
    · refine ⟨G, cp, rfl, hc1, hb, (Array.getElem?_eq_some_iff.1 hg).1, fun k hk => ?_⟩
      have h2 := ho.cellAt k (by omega)
      rw [Nat.zero_add]
      by_cases e : k < n
      · rw [List.getElem?_append_left (by omega)] at h2
        refine ⟨us.getD k undef, ?_, ?_⟩
        · rw [List.getD, List.getElem?_eq_getElem (by omega)]
          rw [List.getElem?_eq_getElem (by omega)] at h2
          exact h2
        · rw [List.getD, List.getD, List.getElem?_append_left (by omega)]
          exact (hui k e).below hB
      · have : k = n := by omega
        subst this
        rw [← hul, List.getElem?_append_right (Nat.le_refl _), Nat.sub_self] at h2
        rw [← hul]
        refine ⟨vr, h2, ?_⟩
        rw [List.getD, hul, ← hne, List.getElem?_append_right (Nat.le_refl _), Nat.sub_self]
        exact hr.below hB
  have hfin' := hide hfin
  have hn0 : ¬ ((n : Int) < 0) := by omega
  have hn1 : ¬ ((n : Int) + 1 < 0) := by omega
  clear hfin hui hp hr hlt hne
  go_enter Try.func40, Try.ntmps40
  go_wp2
  refine wp_loop_rounds 3 ?_
  rw [rounds_succ]
  go_wp2
  rw [rounds_succ]
  go_wp2
  rw [rounds_succ]
  go_wp2_with (go_at_call 76; go_loud (refine hGr.mono ?_); clear hGr; rintro e w2 ⟨v, rfl, hv, hvn, hB2⟩)
  have hB2s := hB2.size
  have c0 := (hB2.cell (p := ⟨q, 0, none⟩) hq0l).trans hq0
  have hcW : 0 < n → ∃ G o, a = some ⟨G, o, none⟩ ∧ ∀ j, j < n → w2.cell? ⟨G, o + j, none⟩ = some (us.getD j undef) := fun h => by
    obtain ⟨G, o, e, hG, hc⟩ := huc h
    exact ⟨G, o, e, fun j hj => (hB2.cell (p := ⟨G, o + j, none⟩) hG).trans (hc j hj)⟩
  clear huc hq0
  refine wp_loop_rounds 3 ?_
  rw [rounds_succ]
  go_wp2_with (at_builtin; go_loud (refine append_rows rfl _ _ rfl w.heap.size _ 0 [] rfl hv hvn a n c us rfl hul hcW h1 (by omega) hB2s ?_); intro v3 w3 hv3 hv3n hg3)
  rw [Nat.zero_add, List.nil_append] at hv3
  have hB3 : Below w.heap.size w w3 := hB2.grown hg3 hB2s (fun k e => (hv.lt k e).1)
  have hB3s := hB3.size
  have c1 := (hB3.cell (p := ⟨q, 1, none⟩) hq0l).trans hq1
  have c2 := (hB3.cell (p := ⟨q2, 0, none⟩) hq2l).trans hq2
  have c3 : 0 < 1 → ∃ G o, (some ⟨q2, 0, none⟩ : Option Addr) = some ⟨G, o, none⟩ ∧ ∀ j, j < 1 → w3.cell? ⟨G, o + j, none⟩ = some (([vr] : List Value).getD j undef) := fun _ => ⟨q2, 0, rfl, fun j hj => by
    obtain rfl : j = 0 := by omega
    exact c2⟩
  have h1' : ∀ u ∈ ([vr] : List Value), u.oneCell' = true := fun u hu => by simp at hu; subst hu; exact hvr
  clear hcW h1 c0 hq1 hq2 hg3 hB2 hv hvn
  rw [rounds_succ]
  go_wp2_with (at_builtin; go_loud (refine append_rows rfl _ _ rfl w.heap.size _ n us rfl hv3 hv3n (some ⟨q2, 0, none⟩) 1 1 [vr] rfl rfl c3 h1' (by omega) hB3s ?_); intro v4 w4 hv4 hv4n hg4)
  have hB4 : Below w.heap.size w w4 := hB3.grown hg4 hB3s (fun k e => (hv3.lt k e).1)
  obtain ⟨G, cp, rfl, h5, h6, h7, h8⟩ := hfin'.out v4 w4 hv4 hB4
  clear hfin' hv4 hg4 c3 h1' hv3
  rw [rounds_succ]
  go_wp2
  go_ret
  exact ⟨G, cp, rfl, h5, h6, h7, h8, hB4⟩
end Go.Proofs.Ytimnhedjapakhaa
