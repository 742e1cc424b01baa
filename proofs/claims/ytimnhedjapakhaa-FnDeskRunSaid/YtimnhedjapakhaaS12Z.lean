/-
  Desks that lie in memory; the model's DeskOk.
-/
import Derived.Test.YtimnhedjapakhaaSpecZ
import Derived.Test.YtimnhedjapakhaaMathZ
import Derived.Test.YtimnhedjapakhaaBaseZ
import Derived.OwnWalkIn
import Derived.Test.YtimnhedjapakhaaSpec10
namespace Go.Proofs.Ytimnhedjapakhaa
open Go.RowKit

/-- A slice of rows, as it reads; it may begin inside its block. -/
def PastI (W : World) (v : Value) (rows : List (List Int)) : Prop :=
  ∃ a c, v = .slice a rows.length c ∧ (0 < rows.length → ∃ G o, a = some ⟨G, o, none⟩ ∧ G < W.heap.size ∧ ∀ j, j < rows.length → ∃ u, W.cell? ⟨G, o + j, none⟩ = some u ∧ Ints W u (rows.getD j []))
theorem PastI.below {W W' : World} {v : Value} {rows : List (List Int)} (h : PastI W v rows) (hb : Below W.heap.size W W') : PastI W' v rows := by
  obtain ⟨a, c, rfl, h⟩ := h
  refine ⟨a, c, rfl, fun h0 => ?_⟩
  obtain ⟨G, o, rfl, hG, hr⟩ := h h0
  refine ⟨G, o, rfl, Nat.lt_of_lt_of_le hG hb.size, fun j hj => ?_⟩
  obtain ⟨u, h1, h2⟩ := hr j hj
  exact ⟨u, (hb.cell (p := ⟨G, o + j, none⟩) hG).trans h1, h2.below hb⟩
theorem RowsI.past {W : World} {v : Value} {rows : List (List Int)} (h : RowsI W v rows) : PastI W v rows := by
  obtain ⟨a, c, rfl, h⟩ := h
  refine ⟨a, c, rfl, fun h0 => ?_⟩
  obtain ⟨G, rfl, hG, hr⟩ := h h0
  exact ⟨G, 0, rfl, hG, fun j hj => by rw [Nat.zero_add]; exact hr j hj⟩
/-- A desk, as it reads. -/
def DeskI (W : World) (v : Value) (d : Dk) : Prop := ∃ x p, v = .agg #[x, p] ∧ Ints W x d.1 ∧ PastI W p d.2
theorem DeskI.below {W W' : World} {v : Value} {d : Dk} (h : DeskI W v d) (hb : Below W.heap.size W W') : DeskI W' v d := by
  obtain ⟨x, p, rfl, h1, h2⟩ := h
  exact ⟨x, p, rfl, h1.below hb, h2.below hb⟩
/-- A desk whose lists are not too long for the walks. -/
def DkS (d : Dk) : Prop := d.1.length ≤ 2000000 ∧ d.2.length ≤ 2000000 ∧ ∀ j, (d.2.getD j []).length ≤ 2000000
theorem deskB_no {d : Dk} {k : Nat} (hk : k < d.2.length) (h : sideB (d.2.getD k []) = false) : deskB d = false := by
  cases hd : deskB d with
  | false => rfl
  | true =>
    have := (deskB_is.1 hd).1 (d.2.getD k []) (by rw [List.getD, List.getElem?_eq_getElem hk]; exact List.getElem_mem hk)
    rw [h] at this; cases this
theorem deskB_end {d : Dk} (h : ∀ k, k < d.2.length → sideB (d.2.getD k []) = true) : deskB d = (sideB d.1 && decide (d.2.length ≤ 8)) := by
  unfold deskB
  have : d.2.all sideB = true := List.all_eq_true.2 fun r hr => by
    obtain ⟨k, hk, rfl⟩ := List.getElem_of_mem hr
    have := h k hk
    rwa [List.getD, List.getElem?_eq_getElem hk] at this
  rw [this, Bool.true_and]

theorem desk_box {w : World} {x p : Value} {t : TypeId} : (w.alloc (.cells #[x, p] t)).cell? ⟨w.heap.size, 0, none⟩ = some x ∧ (w.alloc (.cells #[x, p] t)).cell? ⟨w.heap.size, 1, none⟩ = some p := by
  have hb := World.alloc_heap_new w (.cells #[x, p] t)
  exact ⟨by unfold World.cell?; rw [hb]; rfl, by unfold World.cell?; rw [hb]; rfl⟩
set_option maxHeartbeats 1000000 in
theorem specDeskOk (v : Value) (d : Dk) (w : World) (hv : DeskI w v d) (hs : DkS d) : Calls Try.prog 10 #[v] w fun e w' => e = .returned (.bool (deskB d)) ∧ Below w.heap.size w w' := by
  obtain ⟨x, p, rfl, hx, hp⟩ := hv
  have hB0 : Below w.heap.size w (w.alloc (.cells #[x, p] 26)) := (Below.refl _ w).alloc (Nat.le_refl _) _
  have hx0 := specSide x d.1 _ (hx.below hB0) (by have := hs.1; omega)
  have hp0 := hp.below hB0
  obtain ⟨d0, d1⟩ := desk_box (w := w) (x := x) (p := p) (t := 26)
  obtain ⟨a, c, rfl, hr⟩ := hp0
  have hno := fun k (hk : k < d.2.length) => deskB_no hk
  have hend := deskB_end (d := d)
  have hsm := hs.2.2
  have hn := hs.2.1
  obtain ⟨W0, hW0⟩ : ∃ W0, w.alloc (.cells #[x, .slice a d.2.length c] 26) = W0 := ⟨_, rfl⟩
  rw [hW0] at hB0 hx0 hr d0 d1
  generalize d.2.length = n at *
  generalize deskB d = res at *
  obtain ⟨row, past⟩ := d
  simp only at hr hno hend hsm hx0
  clear hx hp hs
  by_cases h0 : 0 < n
  · obtain ⟨G, o, rfl, hG, hc⟩ := hr h0
    clear hr
    go_enter Try.func10, Try.ntmps10
    go_wp2
    try rw [hW0]
    clear hW0
    go_loop [3] (fun i => ∃ k : Nat, k ≤ n ∧ i = .int .i64 k ∧ Hid (∀ j, j < k → sideB (past.getD j []) = true)) (fun i => n - (intOf i).toNat)
    case atStart => exact ⟨0, by omega, rfl, hide (fun i hi => by omega)⟩
    case round =>
      obtain ⟨k, hk, rfl, hall⟩ := hrel
      by_cases hlt : k < n
      · obtain ⟨u, huc, hu⟩ := hc k hlt
        have hki : (k : Int) < (n : Int) := by omega
        have hS := specSide u (past.getD k []) W0 hu (by have := hsm k; omega)
        cases hsd : sideB (past.getD k []) with
        | false =>
          have hr := hide (hno k hlt hsd)
          rw [hsd] at hS
          clear hc hno hend hall hx0 hsd
          go_wp2_with (go_at_call 34; refine hS.mono ?_; clear hS; rintro e w' ⟨rfl, rfl⟩)
          go_ret
          exact ⟨ret_bool hr.out.symm, hB0⟩
        | true =>
          have hall' : Hid (∀ i, i < k + 1 → sideB (past.getD i []) = true) := hide (fun i hi => by
            by_cases e : i = k
            · subst e; exact hsd
            · exact hall.out i (by omega))
          rw [hsd] at hS
          clear hc hno hend hall hx0 hsd
          go_wp2_with (go_at_call 34; refine hS.mono ?_; clear hS; rintro e w' ⟨rfl, rfl⟩)
          go_round
          case rel => exact ⟨k + 1, by omega, by go_num, hall'⟩
          case measure => simp [intOf]; omega
      · obtain rfl : k = n := by omega
        have hr := hide (hend hall.out)
        have hki : ¬ ((k : Nat) : Int) < (k : Int) := by omega
        clear hc hno hend hall hlt
        cases hsd : sideB row with
        | false =>
          rw [hsd] at hx0 hr
          go_wp2_with (go_at_call 34; refine hx0.mono ?_; clear hx0; rintro e w' ⟨rfl, rfl⟩)
          go_ret
          exact ⟨ret_bool hr.out.symm, hB0⟩
        | true =>
          rw [hsd] at hx0 hr
          go_wp2_with (go_at_call 34; refine hx0.mono ?_; clear hx0; rintro e w' ⟨rfl, rfl⟩)
          go_ret
          refine ⟨ret_bool ?_, hB0⟩
          rw [hr.out]
          by_cases h8 : k ≤ 8
          · rw [decide_eq_true h8, decide_eq_true (by omega)]; rfl
          · rw [decide_eq_false h8, decide_eq_false (by omega)]; rfl
  · obtain rfl : n = 0 := by omega
    have hr := hide (hend (fun k hk => absurd hk (Nat.not_lt_zero k)))
    clear hno hend
    cases hsd : sideB row with
    | false =>
      rw [hsd] at hx0 hr
      go_enter Try.func10, Try.ntmps10
      go_wp2
      try rw [hW0]
      refine wp_loop_rounds 1 ?_
      rw [rounds_succ]
      go_wp2_with (go_at_call 34; refine hx0.mono ?_; clear hx0; rintro e w' ⟨rfl, rfl⟩)
      go_ret
      exact ⟨ret_bool hr.out.symm, hB0⟩
    | true =>
      rw [hsd] at hx0 hr
      go_enter Try.func10, Try.ntmps10
      go_wp2
      try rw [hW0]
      refine wp_loop_rounds 1 ?_
      rw [rounds_succ]
      go_wp2_with (go_at_call 34; refine hx0.mono ?_; clear hx0; rintro e w' ⟨rfl, rfl⟩)
      go_ret
      exact ⟨ret_bool (by rw [hr.out]; rfl), hB0⟩
end Go.Proofs.Ytimnhedjapakhaa
/-
  The model's l12Copy: a copy of a desk.
-/
namespace Go.Proofs.Ytimnhedjapakhaa
open Go.RowKit Go.Shelf
attribute [local go_sem] Oper.semAt_some

/-- 'append(s, r...)' of a row that reads, inside a fence. -/
theorem append_row_in {F : Fence} {k : Nat} {w : World} {ops : Array Oper} {rest : List Oper} {o : Oper} {a : Act} {Q : Exit → Act → World → Prop} (hgd : o.guard = none) (s x : Operand)
    (ho : o.op = .call { callee := .builtin .append, args := #[s, x], argTypes := #[23, 23] })
    (base : Nat) (v : Value) (n : Nat) (xs : List Value) (hs : a.eval s = v) (hown : w.ownsRow base 3 1 v n xs) (g m c : Nat) (zs : List Int) (hx : a.eval x = .slice (some ⟨g, 0, none⟩) m c) (hl : zs.length = m)
    (hz : ∀ i, i < m → w.cell? ⟨g, i, none⟩ = some (.int .i64 (zs.getD i 0))) (hn : n + m ≤ 1000000000) (hbase : base ≤ w.heap.size)
    (h : ∀ v' w', w'.ownsRow base 3 1 v' (n + m) (xs ++ zs.map (Value.int .i64)) → w.grownBy w' v.ownBlock → wpListIn F k Try.prog ops Q rest (a.put o.dst v') w') :
    wpListIn F k Try.prog ops Q (o :: rest) a w := by
  obtain ⟨i0, hi, hz0, hz1, hz2⟩ := info_parts Try.infoInt
  refine wpListIn_append_own _ hgd s x 23 ho base 3 i0 (.int .i64 0) 1 8 Try.underlying23 hi hz0 hz1 hz2 rfl (by decide) v n xs hs hown ⟨g, 0, none⟩ m c (zs.map (Value.int .i64)) hx (by simp [hl]) ?_ ?_ ?_ ?_ hbase ?_
  · intro j u hj
    rw [List.getElem?_map] at hj
    obtain ⟨z, hz3, rfl⟩ := Option.map_eq_some_iff.1 hj
    have hjl := (List.getElem?_eq_some_iff.1 hz3).1
    have h1 := hz j (by omega)
    have hadd : (⟨g, 0, none⟩ : Addr).add j = ⟨g, j, none⟩ := by unfold Addr.add; split <;> simp_all
    rw [hadd, h1, List.getD, hz3]; rfl
  · intro u hu
    obtain ⟨z, _, rfl⟩ := List.mem_map.1 hu
    rfl
  · unfold maxLen; omega
  · omega
  · intro v' w' h1 h2 _; exact h v' w' h1 h2
/-- 'append([]int{}, r...)' of a row that reads, inside a fence: a new block, and nothing else. -/
theorem append_copy_in {F : Fence} {k : Nat} {w : World} {ops : Array Oper} {rest : List Oper} {o : Oper} {a : Act} {Q : Exit → Act → World → Prop} (hgd : o.guard = none) (s x : Operand)
    (ho : o.op = .call { callee := .builtin .append, args := #[s, x], argTypes := #[23, 23] })
    (base : Nat) (b : Addr) (hs : a.eval s = .slice (some b) 0 0) (g m c : Nat) (zs : List Int) (hx : a.eval x = .slice (some ⟨g, 0, none⟩) m c) (hl : zs.length = m)
    (hz : ∀ i, i < m → w.cell? ⟨g, i, none⟩ = some (.int .i64 (zs.getD i 0))) (h0 : 1 ≤ m) (hn : m ≤ 1000000000) (hbase : base ≤ w.heap.size)
    (h : ∀ v' w', w'.ownsRow base 3 1 v' m (zs.map (Value.int .i64)) → Below w.heap.size w w' → wpListIn F k Try.prog ops Q rest (a.put o.dst v') w') :
    wpListIn F k Try.prog ops Q (o :: rest) a w := by
  obtain ⟨i0, hi, hz0, hz1, hz2⟩ := info_parts Try.infoInt
  refine wpListIn_plain hgd fun K hK' => ?_
  have hr := run_append_grow (P := Try.prog) w 23 o.type 3 i0 (.int .i64 0) Try.underlying23 hi hz0 b 0 0 [] (by simp) (fun j u hj => by simp at hj) ⟨g, 0, none⟩ m c (zs.map (Value.int .i64)) (by simp [hl, hz1]) (fun j u hj => by
    rw [List.getElem?_map] at hj
    obtain ⟨z, hz3, rfl⟩ := Option.map_eq_some_iff.1 hj
    have hjl := (List.getElem?_eq_some_iff.1 hz3).1
    have h1 := hz j (by omega)
    have hadd : (⟨g, 0, none⟩ : Addr).add j = ⟨g, j, none⟩ := by unfold Addr.add; split <;> simp_all
    rw [hadd, h1, List.getD, hz3]; rfl) (by omega) (by omega) (growslice_fits (by omega) (by rw [hz2]; omega))
  simp only [Nat.zero_add] at hr
  have hge := grownCap_ge w m 0 3
  have hcm := grownCap_le_maxLen w m 0 3 (by unfold maxLen; omega)
  have hown : (w.drew.alloc (.cells (([] : List Value).toArray ++ (zs.map (Value.int .i64)).toArray ++ Builtin.zeroCells (Value.int .i64 0).cells (grownCap w m 0 3 - m)) 3)).ownsRow base 3 1
      (.slice (some ⟨w.heap.size, 0, none⟩) m (grownCap w m 0 3)) m (zs.map (Value.int .i64)) := by
    refine ⟨by simp [hl], .inr ⟨w.heap.size, _, _, rfl, hbase, World.alloc_heap_new w.drew _, hge, hcm, ?_, ?_⟩⟩
    · simp only [Array.size_append, List.size_toArray, size_zeroCells, List.length_nil, List.length_map, hl, Value.cells]
      simp
      omega
    · simp only [Array.toList_append, List.nil_append]
      rw [List.take_append_of_le_length (by simp [hl]), List.take_of_length_le (by simp [hl])]
  have hB : Below w.heap.size w (w.drew.alloc (.cells (([] : List Value).toArray ++ (zs.map (Value.int .i64)).toArray ++ Builtin.zeroCells (Value.int .i64 0).cells (grownCap w m 0 3 - m)) 3)) :=
    (Below.refl w.heap.size w).drew.alloc (Nat.le_refl _) _
  unfold Oper.wpIn
  refine ⟨?_, ?_⟩
  · simp [Oper.about, ho, resolve, Target.leads, Sem.run_pure]
  · rw [Oper.semAt_plain F _ _ (by rw [ho]; intro c hc'; cases hc')]
    simp only [execOp, ho, resolve, invoke, builtin, Sem.run_bind, Sem.run_pure, Result.andThen_ok, List.map_toArray, List.map_cons, List.map_nil, hs, hx, hr]
    exact hK' _ _ (h _ _ hown hB)
/-- 'append(s, r)' of one row, whose cell lies somewhere, inside a fence. -/
theorem append_slice_in {F : Fence} {k : Nat} {ops : Array Oper} {rest : List Oper} {o : Oper} {a : Act} {Q : Exit → Act → World → Prop} {w : World} {z : Value} (hgd : o.guard = none) (s x : Operand)
    (ho : o.op = .call { callee := .builtin .append, args := #[s, x], argTypes := #[24, 24] }) (hz1 : z.oneCell' = true)
    (base : Nat) (v : Value) (n : Nat) (xs : List Value) (hs : a.eval s = v) (hown : w.ownsRow base 23 1 v n xs) (q : Nat) (hx : a.eval x = .slice (some ⟨q, 0, none⟩) 1 1) (hq : w.cell? ⟨q, 0, none⟩ = some z)
    (hn : n ≤ 1000000) (hbase : base ≤ w.heap.size)
    (h : ∀ v' w', w'.ownsRow base 23 1 v' (n + 1) (xs ++ [z]) → w.grownBy w' v.ownBlock → wpListIn F k Try.prog ops Q rest (a.put o.dst v') w') :
    wpListIn F k Try.prog ops Q (o :: rest) a w := by
  obtain ⟨i0, hi, hz0, hz2, hz3⟩ := info_rows Try.infoRow
  refine wpListIn_append_own _ hgd s x 24 ho base 23 i0 (.slice none 0 0) 1 24 Try.underlying24 hi hz0 hz2 hz3 rfl (by decide) v n xs hs hown ⟨q, 0, none⟩ 1 1 [z] hx rfl ?_ ?_ ?_ ?_ hbase ?_
  · intro j u hj
    match j, hj with
    | 0, hj => simp at hj; subst hj; simpa [Addr.add] using hq
  · intro u hu; simp at hu; subst hu; exact hz1
  · unfold maxLen; omega
  · omega
  · intro v' w' h1 h2 _; exact h v' w' h1 h2
/-- One row more behind rows of one's own. -/
theorem OwnSS.push {V w' : World} {base : Nat} {v v' u : Value} {rows : List (List Int)} {row : List Int} {us : List Value} (h1 : us.length = rows.length) (h2 : V.ownsRow base 23 1 v us.length us)
    (h3 : ∀ j, j < rows.length → V.ownsRow base 3 1 (us.getD j undef) (rows.getD j []).length ((rows.getD j []).map (Value.int .i64)))
    (hu : V.ownsRow base 3 1 u row.length (row.map (Value.int .i64))) (hv : w'.ownsRow base 23 1 v' (us.length + 1) (us ++ [u])) (hg : V.grownBy w' v.ownBlock) : OwnSS w' base v' (rows ++ [row]) := by
  refine ⟨us ++ [u], by simp [h1], by rw [List.length_append]; exact hv, fun j hj => ?_⟩
  by_cases e : j < rows.length
  · rw [List.getD, List.getElem?_append_left (by omega), List.getD, List.getElem?_append_left e]
    exact (h3 j e).kept hg (own_apart (h3 j e) h2)
  · have : j = rows.length := by simp at hj; omega
    subst this
    rw [List.getD, ← h1, List.getElem?_append_right (Nat.le_refl _), List.getD, h1, List.getElem?_append_right (Nat.le_refl _), Nat.sub_self]
    exact hu.kept hg (own_apart hu h2)
theorem Try.infoDesk : (Try.prog.info? 26).map (fun i => (i.zero, i.size, i.bytes)) = some (some (.agg #[.slice none 0 0, .slice none 0 0]), 2, 48) := by kernel_rfl

theorem desk_new {w : World} {a b : Value} {t : TypeId} : (w.alloc (.cells #[a, b] t)).cell? ⟨w.heap.size, 0, none⟩ = some a ∧ (w.alloc (.cells #[a, b] t)).cell? ⟨w.heap.size, 1, none⟩ = some b ∧
    (w.alloc (.cells #[a, b] t)).frozen? ⟨w.heap.size, 0, none⟩ = false ∧ (w.alloc (.cells #[a, b] t)).frozen? ⟨w.heap.size, 1, none⟩ = false := by
  have hb := World.alloc_heap_new w (.cells #[a, b] t)
  exact ⟨by unfold World.cell?; rw [hb]; rfl, by unfold World.cell?; rw [hb]; rfl, by unfold World.frozen?; rw [hb]; rfl, by unfold World.frozen?; rw [hb]; rfl⟩

theorem own_not {W : World} {base n b : Nat} {e t : TypeId} {v : Value} {xs : List Value} {cur : Array Value} (h : W.ownsRow base e 1 v n xs) (hb : W.heap[b]? = some (.cells cur t (0, 0))) (ht : e ≠ t) : v.ownBlock ≠ some b := by
  intro e2
  rcases h.2 with ⟨rfl, _⟩ | ⟨g, cap, cur', rfl, _, hg, _⟩
  · cases e2
  · injection e2 with e2
    subst e2
    rw [hg] at hb
    injection hb with hb
    injection hb with _ h2
    exact ht h2
theorem own_old {W : World} {base n b : Nat} {e : TypeId} {v : Value} {xs : List Value} (h : W.ownsRow base e 1 v n xs) (hb : b < base) : v.ownBlock ≠ some b := by
  intro e2
  have := h.lt b e2
  omega
theorem own_kept {W W' : World} {base n : Nat} {e : TypeId} {v : Value} {xs : List Value} {k : Nat} (h : W.ownsRow base e 1 v n xs) (hg : W.grownBy W' (some k)) (hk : v.ownBlock ≠ some k) : W'.ownsRow base e 1 v n xs := h.kept hg (.inr hk)
theorem OwnSS.kept {W W' : World} {base : Nat} {v : Value} {rows : List (List Int)} {b : Nat} {cur : Array Value} {t : TypeId} (h : OwnSS W base v rows) (hb : W.heap[b]? = some (.cells cur t (0, 0))) (h1 : 23 ≠ t) (h2 : 3 ≠ t) (hg : W.grownBy W' (some b)) : OwnSS W' base v rows := by
  obtain ⟨us, l, o, r⟩ := h
  exact ⟨us, l, own_kept o hg (own_not o hb h1), fun j hj => own_kept (r j hj) hg (own_not (r j hj) hb h2)⟩
theorem grownBy_setAt (W : World) (b i : Nat) (v : Value) : W.grownBy (W.setCell ⟨b, i, none⟩ v) (some b) :=
  ⟨rfl, rfl, rfl, (KeepsWalks.setCell W _ v).size, fun k _ hk => Below.heap_setCell _ _ _ k (fun e => hk (by rw [e]))⟩
theorem own_from {w : World} {base base' n : Nat} {e : TypeId} {v : Value} {xs : List Value} (h : w.ownsRow base e 1 v n xs) (hb : base' ≤ base) : w.ownsRow base' e 1 v n xs := by
  obtain ⟨h1, h2⟩ := h
  refine ⟨h1, ?_⟩
  rcases h2 with h2 | ⟨g, cap, cur, rfl, h3, h4⟩
  · exact .inl h2
  · exact .inr ⟨g, cap, cur, rfl, Nat.le_trans hb h3, h4⟩
/-- A copy of a desk on the way: the desk's block, the result's, the copy's b. -/
structure Cp (w0 : World) (b : Nat) (x p Y : Value) (row : List Int) (rows : List (List Int)) (pv : Value) (W : World) : Prop where
  below : Below w0.heap.size w0 W
  box : W.heap[w0.heap.size]? = some (.cells #[x, p] 26 (0, 0))
  res : W.heap[w0.heap.size + 1]? = some (.cells #[.slice none 0 0, .slice none 0 0] 26 (0, 0))
  lt : w0.heap.size + 2 ≤ b
  out : W.heap[b]? = some (.cells #[Y, pv] 26 (0, 0))
  now : W.ownsRow (w0.heap.size + 2) 3 1 Y row.length (row.map (Value.int .i64))
  past : OwnSS W (w0.heap.size + 2) pv rows
theorem Cp.more {w0 : World} {b : Nat} {x p Y : Value} {row : List Int} {rows : List (List Int)} {pv : Value} {W V : World} (h : Cp w0 b x p Y row rows pv W) (hV : Below W.heap.size W V) : Cp w0 b x p Y row rows pv V where
  below := h.below.trans (hV.mono h.below.size)
  box := (hV.block _ (Array.getElem?_eq_some_iff.1 h.box).1).trans h.box
  res := (hV.block _ (Array.getElem?_eq_some_iff.1 h.res).1).trans h.res
  lt := h.lt
  out := (hV.block _ (Array.getElem?_eq_some_iff.1 h.out).1).trans h.out
  now := own_below h.now hV
  past := h.past.below hV
theorem Cp.grown {w0 : World} {b : Nat} {x p Y : Value} {row : List Int} {rows rows' : List (List Int)} {pv v' : Value} {V V' : World} (h : Cp w0 b x p Y row rows pv V) (hg : V.grownBy V' pv.ownBlock) (hn : OwnSS V' (w0.heap.size + 2) v' rows') : Cp w0 b x p Y row rows' v' (V'.setCell ⟨b, 1, none⟩ v') := by
  have hp := h.past
  obtain ⟨us, _, ho, _⟩ := h.past
  have n0 : pv.ownBlock ≠ some w0.heap.size := own_old ho (by omega)
  have n1 : pv.ownBlock ≠ some (w0.heap.size + 1) := own_old ho (by omega)
  have n2 : pv.ownBlock ≠ some b := own_not ho h.out (by decide)
  have l0 := (Array.getElem?_eq_some_iff.1 h.box).1
  have l1 := (Array.getElem?_eq_some_iff.1 h.res).1
  have l2 := (Array.getElem?_eq_some_iff.1 h.out).1
  have k0 := (hg.block _ l0 (fun e => n0 e.symm)).trans h.box
  have k1 := (hg.block _ l1 (fun e => n1 e.symm)).trans h.res
  have k2 := (hg.block _ l2 (fun e => n2 e.symm)).trans h.out
  have hs := grownBy_setAt V' b 1 v'
  have hlt := h.lt
  have hnow : V'.ownsRow (w0.heap.size + 2) 3 1 Y row.length (row.map (Value.int .i64)) := h.now.kept hg (own_apart h.now ho)
  refine ⟨?_, (hs.block _ (Array.getElem?_eq_some_iff.1 k0).1 (fun e => by injection e with e; omega)).trans k0, (hs.block _ (Array.getElem?_eq_some_iff.1 k1).1 (fun e => by injection e with e; omega)).trans k1, h.lt, set_cells k2 1 v', own_kept hnow hs (own_not hnow k2 (by decide)), hn.kept k2 (by decide) (by decide) hs⟩
  exact (h.below.grown hg h.below.size (fun k e => by have := ho.lt k e; omega)).setCell (p := ⟨b, 1, none⟩) (by show w0.heap.size ≤ b; omega) _

theorem Cp.at_ {w0 : World} {b : Nat} {x p Y : Value} {row : List Int} {rows : List (List Int)} {pv : Value} {V V' : World} (h : Cp w0 b x p Y row rows pv V) (hg : V.grownBy V' pv.ownBlock) : V'.heap[b]? = some (.cells #[Y, pv] 26 (0, 0)) := by
  obtain ⟨us, _, ho, _⟩ := h.past
  exact (hg.block _ (Array.getElem?_eq_some_iff.1 h.out).1 (fun e => own_not ho h.out (by decide) e.symm)).trans h.out
theorem row_at {W : World} {b : Nat} {x y : Value} {t : TypeId} (h : W.heap[b]? = some (.cells #[x, y] t (0, 0))) : W.cell? ⟨b, 0, none⟩ = some x ∧ W.cell? ⟨b, 1, none⟩ = some y ∧ W.frozen? ⟨b, 0, none⟩ = false ∧ W.frozen? ⟨b, 1, none⟩ = false :=
  ⟨by unfold World.cell?; rw [h]; rfl, by unfold World.cell?; rw [h]; rfl, by unfold World.frozen?; rw [h]; rfl, by unfold World.frozen?; rw [h]; rfl⟩
theorem OwnSS.form {W : World} {base : Nat} {v : Value} {rows : List (List Int)} (h : OwnSS W base v rows) : ∃ a c, v = .slice a rows.length c := by
  obtain ⟨us, l, o, _⟩ := h
  obtain ⟨a, c, rfl⟩ := own_form o
  exact ⟨a, c, by rw [l]⟩
theorem desk_set {W : World} {B : Nat} {x y : Value} (h : W.heap[B]? = some (.cells #[x, y] 26 (0, 0))) (u v : Value) :
    ((W.setCell ⟨B, 0, none⟩ u).setCell ⟨B, 1, none⟩ v).heap[B]? = some (.cells #[u, v] 26 (0, 0)) := set_cells (set_cells h 0 _) 1 _
theorem results_desk {fn : Func} {p : Tmp} (h : fn.results = #[.cell p 26]) (tmps : Array Value) (w : World) (B : Nat) (u v : Value) (hp : tmps.getD p undef = .pointer (some ⟨B, 0, none⟩))
    (hb : w.heap[B]? = some (.cells #[u, v] 26 (0, 0))) : (results fn tmps).run Try.prog w = .ok (.agg #[u, v]) w := by
  have hl : (loadVar 26 ⟨B, 0, none⟩).run Try.prog w = .ok (.agg #[u, v]) w := run_loadVar_row w B _ 26 #[u, v] (0, 0) _ hb Try.underlying26 rfl (by kernel_rfl)
  have hp' : tmps[p]?.getD undef = .pointer (some ⟨B, 0, none⟩) := by simpa using hp
  simp [results, h, hp', asAddr, hl]
theorem OwnSS.old {W W' : World} {base b : Nat} {v : Value} {rows : List (List Int)} (h : OwnSS W base v rows) (hb : b < base) (hg : W.grownBy W' (some b)) : OwnSS W' base v rows := by
  obtain ⟨us, l, o, r⟩ := h
  exact ⟨us, l, own_kept o hg (own_old o hb), fun j hj => own_kept (r j hj) hg (own_old (r j hj) hb)⟩
theorem OwnSS.down {W : World} {base base' : Nat} {v : Value} {rows : List (List Int)} (h : OwnSS W base v rows) (hb : base' ≤ base) : OwnSS W base' v rows := by
  obtain ⟨us, l, o, r⟩ := h
  exact ⟨us, l, own_from o hb, fun j hj => own_from (r j hj) hb⟩

/-- What is known behind the append of a round: the rows, and the field's address. -/
def cpPh (base b : Nat) (rows : List (List Int)) (k : Nat) (v : Value) (V : World) : Prop := (k = 10 → OwnSS V base v rows) ∧ (k = 11 → v = .pointer (some ⟨b, 1, none⟩))
def cpP (base b : Nat) (rows : List (List Int)) (ks : List Kd) (c : Bool) (k : Nat) (v : Value) (V : World) : Prop := match c with | true => cpPh base b rows k v V | false => (kdAt ks k).holds v V
def cpC (W : World) (row : Option Nat) (c : Bool) (V : World) : Prop := match c with | true => ∃ V0, Below W.heap.size W V0 ∧ V0.grownBy V row | false => Below W.heap.size W V
theorem cpP.mono {base b : Nat} {rows : List (List Int)} {ks : List Kd} (c : Bool) (k : Nat) (v : Value) (V V' : World) (h : cpP base b rows ks c k v V) (hB : Below V.heap.size V V') : cpP base b rows ks c k v V' := by
  cases c with
  | false => exact Kd.mono _ h hB
  | true => exact ⟨fun e => (h.1 e).below hB, h.2⟩

set_option maxRecDepth 100000 in
set_option maxHeartbeats 2000000 in
theorem specCopy (x p : Value) (d : Dk) (w : World) (hx : Ints w x d.1) (hp : PastI w p d.2) (hb : deskB d = true) : Calls Try.prog 41 #[.agg #[x, p]] w fun e w' =>
    ∃ y q, e = .returned (.agg #[y, q]) ∧ w'.ownsRow w.heap.size 3 1 y d.1.length (d.1.map (Value.int .i64)) ∧ OwnSS w' w.heap.size q d.2 ∧ Below w.heap.size w w' := by
  obtain ⟨hd1, hd2, hd3⟩ := deskB_is.1 hb
  have hl := sideB_len hd2
  obtain ⟨row, past⟩ := d
  simp only at hd1 hd2 hd3 hl hx hp ⊢
  obtain ⟨gx, cx, rfl, hgx, hcx⟩ := hx.cells hl.1
  refine (callsIn_wide (n := 9)).1 ?_
  refine callsIn_of_wp Try.func41 rfl trivial ?_ rfl
  simp only [Try.ntmps41, List.size_toArray, List.length_cons, List.length_nil, Nat.reduceAdd, Nat.reduceSub, Array.replicate_succ, Array.replicate_zero, List.push_toArray, List.append_toArray, List.nil_append, List.cons_append]
  obtain ⟨wa, hwa⟩ : ∃ wa, ((w.alloc (.cells #[.slice (some ⟨gx, 0, none⟩) row.length cx, p] 26)).alloc (.cells #[.slice none 0 0, .slice none 0 0] 26)).alloc (.cells #[] 3) = wa := ⟨_, rfl⟩
  have hBa : Below w.heap.size w wa := by rw [← hwa]; exact (((Below.refl _ w).alloc (Nat.le_refl _) _).alloc (by rw [World.size_alloc]; omega) _).alloc (by rw [World.size_alloc, World.size_alloc]; omega) _
  have hcxa : ∀ i, i < row.length → wa.cell? ⟨gx, i, none⟩ = some (.int .i64 (row.getD i 0)) := fun i hi => (hBa.cell (p := ⟨gx, i, none⟩) hgx).trans (hcx i hi)
  have hsz : wa.heap.size = w.heap.size + 3 := by rw [← hwa]; simp
  have hmade : wa.ownsRow (w.heap.size + 2) 3 1 (.slice (some ⟨w.heap.size + 2, 0, none⟩) 0 0) 0 [] := by
    have h := World.ownsRow_made (base := w.heap.size + 2) (e := 3) (size := 1) ((w.alloc (.cells #[.slice (some ⟨gx, 0, none⟩) row.length cx, p] 26)).alloc (.cells #[.slice none 0 0, .slice none 0 0] 26)) #[] 0 (by simp) (by decide) rfl
    rw [hwa] at h
    simpa using h
  have hbox : wa.heap[w.heap.size]? = some (.cells #[.slice (some ⟨gx, 0, none⟩) row.length cx, p] 26 (0, 0)) := by
    rw [← hwa]
    exact (Below.heap_alloc _ _ _ (by rw [World.size_alloc, World.size_alloc]; omega)).trans ((Below.heap_alloc _ _ _ (by rw [World.size_alloc]; omega)).trans (World.alloc_heap_new w _))
  have hres : wa.heap[w.heap.size + 1]? = some (.cells #[.slice none 0 0, .slice none 0 0] 26 (0, 0)) := by
    rw [← hwa]
    refine (Below.heap_alloc _ _ _ (by rw [World.size_alloc, World.size_alloc]; omega)).trans ?_
    have h := World.alloc_heap_new (w.alloc (.cells #[.slice (some ⟨gx, 0, none⟩) row.length cx, p] 26)) (.cells #[.slice none 0 0, .slice none 0 0] 26)
    rw [World.size_alloc] at h
    exact h
  have b0 : wa.cell? ⟨w.heap.size, 0, none⟩ = some (.slice (some ⟨gx, 0, none⟩) row.length cx) := by unfold World.cell?; rw [hbox]; rfl
  have b1 : wa.cell? ⟨w.heap.size, 1, none⟩ = some p := by unfold World.cell?; rw [hbox]; rfl
  gi_wp2_with (gi_at_builtin; go_loud (refine append_row_in rfl _ _ rfl (w.heap.size + 2) _ 0 [] rfl hmade gx row.length cx row rfl rfl hcxa (by omega) (by omega) ?_; intro y w2 hy hg2; replace hg2 : wa.grownBy w2 (some (w.heap.size + 2)) := hg2; rw [Nat.zero_add, List.nil_append] at hy; obtain ⟨ay, cy, rfl⟩ := own_form hy; obtain ⟨e0, e1, e2, e3⟩ := desk_new (w := w2) (a := .slice none 0 0) (b := .slice none 0 0) (t := 26)))
  have hBg : Below w.heap.size w w2 := hBa.grown hg2 hBa.size (fun k e => by injection e with e; omega)
  have hsz2 := hg2.size
  have hC : Cp w w2.heap.size (.slice (some ⟨gx, 0, none⟩) row.length cx) p (.slice ay row.length cy) row (past.take 0) (.slice none 0 0) (w2.alloc (.cells #[.slice ay row.length cy, .slice none 0 0] 26)) := by
    refine ⟨hBg.alloc hBg.size _, ?_, ?_, by omega, World.alloc_heap_new w2 _, hy.alloc _, OwnSS.nil ⟨by simp, .inl ⟨rfl, rfl⟩⟩⟩
    · rw [Below.heap_alloc _ _ _ (by omega)]
      exact (hg2.block _ (by omega) (fun e => by injection e with e; omega)).trans hbox
    · rw [Below.heap_alloc _ _ _ (by omega)]
      exact (hg2.block _ (by omega) (fun e => by injection e with e; omega)).trans hres
  generalize w2.alloc (.cells #[.slice ay row.length cy, .slice none 0 0] 26) = W3 at *
  generalize w2.heap.size = b at *
  clear hbox hres b0 b1 hy hg2 hsz2 hBg hmade hsz hcxa hBa hwa
  obtain ⟨a, c, rfl, hrows⟩ := id hp
  gi_loopw [4] (fun i wr => ∃ k : Nat, k ≤ past.length ∧ i = .int .i64 k ∧ ∃ pv, Cp w b (.slice (some ⟨gx, 0, none⟩) row.length cx) (.slice a past.length c) (.slice ay row.length cy) row (past.take k) pv wr) (fun i _ => past.length - (intOf i).toNat)
  case atStart => exact ⟨0, by omega, rfl, _, hC⟩
  case round =>
    obtain ⟨k, hk, rfl, pv, hCk⟩ := hrel
    have b1 : wr.cell? ⟨w.heap.size, 1, none⟩ = some (.slice a past.length c) := by unfold World.cell?; rw [hCk.box]; rfl
    by_cases hlt : k < past.length
    · have hki : (k : Int) < (past.length : Int) := by omega
      obtain ⟨G, o, rfl, hG, hc⟩ := hrows (by omega)
      have hsk : sideB (past.getD k []) = true := hd1 _ (by rw [List.getD, List.getElem?_eq_getElem hlt]; exact List.getElem_mem hlt)
      have hlk := sideB_len hsk
      have htake : past.take (k + 1) = past.take k ++ [past.getD k []] := by
        rw [List.take_add_one, List.getElem?_eq_getElem hlt, List.getD, List.getElem?_eq_getElem hlt]; rfl
      obtain ⟨u, huc, hu⟩ := hc k hlt
      obtain ⟨gu, cu, rfl, hgu, hcu⟩ := hu.cells hlk.1
      obtain ⟨R, hR⟩ : ∃ R, past.getD k [] = R := ⟨_, rfl⟩
      rw [hR] at hcu huc hlk htake
      have hG2 := Nat.lt_of_lt_of_le hG hCk.below.size
      have hgu2 := Nat.lt_of_lt_of_le hgu hCk.below.size
      have huc2 := (hCk.below.cell (p := ⟨G, o + k, none⟩) hG).trans huc
      have hcu2 : ∀ i, i < R.length → wr.cell? ⟨gu, i, none⟩ = some (.int .i64 (R.getD i 0)) := fun i hi => (hCk.below.cell (p := ⟨gu, i, none⟩) hgu).trans (hcu i hi)
      have hwb := hCk.below.size
      have hblt := hCk.lt
      have hbs := (Array.getElem?_eq_some_iff.1 hCk.out).1
      have hCk' := hide hCk
      clear hCk huc hu hcu hsk hR hcx hx
      gi_wp2
      refine wpIn_region_two 10 12 (by kernel_rfl) (by kernel_rfl) (by kernel_rfl) (by decide) (by decide)
        (fun s => { tmps := #[.agg #[.slice (some ⟨gx, 0, none⟩) row.length cx, .slice (some ⟨G, o, none⟩) past.length c], .pointer (some ⟨w.heap.size, 0, none⟩), .pointer (some ⟨w.heap.size + 1, 0, none⟩), .pointer (some ⟨b, 0, none⟩), .int .i64 k, .slice (some ⟨w.heap.size + 1 + 1, 0, none⟩) 0 0, .pointer (some ⟨w.heap.size, 0, none⟩), .slice (some ⟨gx, 0, none⟩) row.length cx, .slice ay row.length cy, .agg #[.slice ay row.length cy, .slice none 0 0], .int .i64 k, .pointer (some ⟨w.heap.size, 1, none⟩), .slice (some ⟨G, o, none⟩) past.length c, .int .i64 past.length, .bool true, u15, u16, s 0, s 1, s 2, s 3, s 4, s 5, s 6, s 7, s 8, s 9, s 10, s 11, undef], defers := [] })
        (cpC wr pv.ownBlock) (fun V V' => Below V.heap.size V V')
        (cpP (w.heap.size + 2) b (past.take (k + 1)) [.val (.pointer (some ⟨b, 1, none⟩)), .val pv, .cells 0 [], .val (.pointer (some ⟨w.heap.size, 1, none⟩)), .val (.slice (some ⟨G, o, none⟩) past.length c), .val (.int .i64 k), .val (.pointer (some ⟨G, o + k, none⟩)), .val (.slice (some ⟨gu, 0, none⟩) R.length cu), .own (w.heap.size + 2) R.length (R.map (Value.int .i64)), .oneOwn (w.heap.size + 2) R.length (R.map (Value.int .i64)), .val undef, .val (.pointer (some ⟨b, 1, none⟩))])
        ⟨fun j => #[u17, u18, u19, u20, u21, u22, u23, u24, u25, u26, u27, u28].getD j undef, rfl⟩ ?put (Below.refl _ _).drew cpP.mono ?step ?mid ?tail
      case put =>
        intro i o s v hi ho
        rcases (show i = 0 ∨ i = 1 ∨ i = 2 ∨ i = 3 ∨ i = 4 ∨ i = 5 ∨ i = 6 ∨ i = 7 ∨ i = 8 ∨ i = 9 ∨ i = 10 ∨ i = 11 by omega) with rfl | rfl | rfl | rfl | rfl | rfl | rfl | rfl | rfl | rfl | rfl | rfl
        all_goals
          simp at ho
          subst ho
          simp [Act.put]
      case step =>
        rintro ph i op s V hi hip hneed ho hV hd Q' hQ
        rcases (show i = 0 ∨ i = 1 ∨ i = 2 ∨ i = 3 ∨ i = 4 ∨ i = 5 ∨ i = 6 ∨ i = 7 ∨ i = 8 ∨ i = 9 ∨ i = 11 by omega) with rfl | rfl | rfl | rfl | rfl | rfl | rfl | rfl | rfl | rfl | rfl
        all_goals
          simp at ho
          subst ho
          simp [Act.put] at hQ
          have hQ' := hide hQ
          clear hQ
        case inl =>
          cases ph with
          | true => cases ((hneed rfl).symm.trans (by kernel_rfl) : false = true)
          | false =>
            have hV1 : Below wr.heap.size wr V := hV
            clear hd hV
            gi_wp2
            exact hQ'.out _ _ hV1 (Below.refl _ _) rfl
        case inr.inl =>
          cases ph with
          | true => cases ((hneed rfl).symm.trans (by kernel_rfl) : false = true)
          | false =>
            have hV1 : Below wr.heap.size wr V := hV
            have e1 : s 0 = .pointer (some ⟨b, 1, none⟩) := hd 0 (by kernel_rfl)
            have hcc : V.cell? ⟨b, 1, none⟩ = some pv := by unfold World.cell?; rw [(hCk'.out.more hV1).out]; rfl
            clear hd hV
            gi_wp2
            exact hQ'.out _ _ hV1 (Below.refl _ _) rfl
        case inr.inr.inl =>
          cases ph with
          | true => cases ((hneed rfl).symm.trans (by kernel_rfl) : false = true)
          | false =>
            have hV1 : Below wr.heap.size wr V := hV
            clear hd hV
            gi_wp2
            exact hQ'.out _ _ (hV1.alloc hV1.size _) ((Below.refl _ V).alloc (Nat.le_refl _) _) ⟨V.heap.size, rfl, by simp, fun j u h => by simp at h⟩
        case inr.inr.inr.inl =>
          cases ph with
          | true => cases ((hneed rfl).symm.trans (by kernel_rfl) : false = true)
          | false =>
            have hV1 : Below wr.heap.size wr V := hV
            clear hd hV
            gi_wp2
            exact hQ'.out _ _ hV1 (Below.refl _ _) rfl
        case inr.inr.inr.inr.inl =>
          cases ph with
          | true => cases ((hneed rfl).symm.trans (by kernel_rfl) : false = true)
          | false =>
            have hV1 : Below wr.heap.size wr V := hV
            have e1 : s 3 = .pointer (some ⟨w.heap.size, 1, none⟩) := hd 3 (by kernel_rfl)
            have hcc : V.cell? ⟨w.heap.size, 1, none⟩ = some (.slice (some ⟨G, o, none⟩) past.length c) := by unfold World.cell?; rw [(hCk'.out.more hV1).box]; rfl
            clear hd hV
            gi_wp2
            exact hQ'.out _ _ hV1 (Below.refl _ _) rfl
        case inr.inr.inr.inr.inr.inl =>
          cases ph with
          | true => cases ((hneed rfl).symm.trans (by kernel_rfl) : false = true)
          | false =>
            have hV1 : Below wr.heap.size wr V := hV
            clear hd hV
            gi_wp2
            exact hQ'.out _ _ hV1 (Below.refl _ _) rfl
        case inr.inr.inr.inr.inr.inr.inl =>
          cases ph with
          | true => cases ((hneed rfl).symm.trans (by kernel_rfl) : false = true)
          | false =>
            have hV1 : Below wr.heap.size wr V := hV
            have e1 : s 4 = .slice (some ⟨G, o, none⟩) past.length c := hd 4 (by kernel_rfl)
            have e2 : s 5 = .int .i64 k := hd 5 (by kernel_rfl)
            clear hd hV
            gi_wp2
            exact hQ'.out _ _ hV1 (Below.refl _ _) rfl
        case inr.inr.inr.inr.inr.inr.inr.inl =>
          cases ph with
          | true => cases ((hneed rfl).symm.trans (by kernel_rfl) : false = true)
          | false =>
            have hV1 : Below wr.heap.size wr V := hV
            have e1 : s 6 = .pointer (some ⟨G, o + k, none⟩) := hd 6 (by kernel_rfl)
            have hcc := (hV1.cell (p := ⟨G, o + k, none⟩) hG2).trans huc2
            clear hd hV
            gi_wp2
            exact hQ'.out _ _ hV1 (Below.refl _ _) rfl
        case inr.inr.inr.inr.inr.inr.inr.inr.inl =>
          cases ph with
          | true => cases ((hneed rfl).symm.trans (by kernel_rfl) : false = true)
          | false =>
            have hV1 : Below wr.heap.size wr V := hV
            obtain ⟨q, e1, hq, _⟩ : ∃ q, s 2 = .slice (some ⟨q, 0, none⟩) 0 0 ∧ q < V.heap.size ∧ ∀ j u, ([] : List Value)[j]? = some u → V.cell? ⟨q, j, none⟩ = some u := hd 2 (by kernel_rfl)
            have e2 : s 7 = .slice (some ⟨gu, 0, none⟩) R.length cu := hd 7 (by kernel_rfl)
            have hcV : ∀ i, i < R.length → V.cell? ⟨gu, i, none⟩ = some (.int .i64 (R.getD i 0)) := fun i hi => (hV1.cell (p := ⟨gu, i, none⟩) hgu2).trans (hcu2 i hi)
            clear hd hV
            have hVs := hV1.size
            refine append_copy_in rfl _ _ rfl (w.heap.size + 2) ⟨q, 0, none⟩ e1 gu R.length cu R e2 rfl hcV hlk.1 (by omega) (by omega) ?_
            intro v' w' how hBw
            gi_wp2
            have hr := hQ'.out
            rw [e1, e2] at hr
            exact hr _ _ (hV1.trans (hBw.mono hVs)) hBw how
        case inr.inr.inr.inr.inr.inr.inr.inr.inr.inl =>
          cases ph with
          | true => cases ((hneed rfl).symm.trans (by kernel_rfl) : false = true)
          | false =>
            have hV1 : Below wr.heap.size wr V := hV
            have e1 : V.ownsRow (w.heap.size + 2) 3 1 (s 8) R.length (R.map (Value.int .i64)) := hd 8 (by kernel_rfl)
            clear hd hV
            obtain ⟨ar, cr, er⟩ := own_form e1
            rw [er] at e1
            gi_wp2
            exact hQ'.out _ _ (hV1.alloc hV1.size _) ((Below.refl _ V).alloc (Nat.le_refl _) _) ⟨V.heap.size, .slice ar R.length cr, rfl, by simp, (Boxed.new V 23 (.slice ar R.length cr)).cell, e1.alloc _⟩
        case inr.inr.inr.inr.inr.inr.inr.inr.inr.inr =>
          cases ph with
          | true =>
            clear hd
            gi_wp2
            exact hQ'.out _ _ hV (Below.refl _ _) ⟨fun e => (by cases e), fun _ => rfl⟩
          | false =>
            have hV1 : Below wr.heap.size wr V := hV
            clear hd hV
            gi_wp2
            exact hQ'.out _ _ hV1 (Below.refl _ _) rfl
      case mid =>
        rintro op s V ho hV hd Q' hQ
        have hV1 : Below wr.heap.size wr V := hV
        simp at ho
        subst ho
        simp [Act.put] at hQ
        have hQ' := hide hQ
        clear hQ
        have e1 : s 1 = pv := hd 1 (by kernel_rfl)
        obtain ⟨q, u, e9, hq, hcq, hu⟩ : ∃ q u, s 9 = .slice (some ⟨q, 0, none⟩) 1 1 ∧ q < V.heap.size ∧ V.cell? ⟨q, 0, none⟩ = some u ∧ V.ownsRow (w.heap.size + 2) 3 1 u R.length (R.map (Value.int .i64)) := hd 9 (by kernel_rfl)
        clear hd hV
        obtain ⟨us, hul, huo, hur⟩ := (hCk'.out.more hV1).past
        have hus : us.length ≤ 8 := by rw [hul, List.length_take]; omega
        have hVs := hV1.size
        refine append_slice_in rfl _ _ rfl (by obtain ⟨ar, cr, rfl⟩ := own_form hu; rfl) (w.heap.size + 2) pv us.length us e1 huo q e9 hcq (by omega) (by omega) ?_
        intro v' w' how hgr
        gi_wp2
        have hr := hQ'.out
        rw [e1, e9] at hr
        refine hr _ _ ⟨V, hV1, hgr⟩ (fun k x hk h => ⟨fun e => absurd e hk, fun e => (by subst e; exact h)⟩) ⟨fun _ => ?_, fun e => (by cases e)⟩
        rw [htake]
        exact OwnSS.push hul huo hur hu how hgr
      case tail =>
        rintro s V ⟨V0, hV0, hgr⟩ hd
        have e10 : OwnSS V (w.heap.size + 2) (s 10) (past.take (k + 1)) := (hd 10 (by omega)).1 rfl
        have e11 : s 11 = .pointer (some ⟨b, 1, none⟩) := (hd 11 (by omega)).2 rfl
        clear hd
        have hnew := (hCk'.out.more hV0).grown hgr e10
        obtain ⟨c0, c1, f0, f1⟩ := row_at ((hCk'.out.more hV0).at_ hgr)
        obtain ⟨a', c', e'⟩ := e10.form
        rw [List.length_take, Nat.min_eq_left (by omega)] at e'
        rw [e'] at hnew
        have hnew' := hide hnew
        clear hnew e10 hgr hV0 hCk'
        simp only [List.drop_succ_cons, List.drop_zero]
        gi_wp2
        go_roundw
        case rel => exact ⟨k + 1, by omega, by go_num, _, hnew'.out⟩
        case measure => simp [intOf]; omega
    · obtain rfl : k = past.length := by omega
      have hki : ¬ ((past.length : Nat) : Int) < (past.length : Int) := by omega
      rw [List.take_length] at hCk
      obtain ⟨c0, c1, f0, f1⟩ := row_at hCk.out
      obtain ⟨r0, r1, g0, g1⟩ := row_at hCk.res
      obtain ⟨a', c', e'⟩ := hCk.past.form
      subst e'
      have hres := desk_set hCk.res (.slice ay row.length cy) (.slice a' past.length c')
      have hCk' := hide hCk
      clear hCk hcx hx hrows
      gi_wp2
      refine bodyPost_ret (results_desk rfl _ _ (w.heap.size + 1) _ _ rfl hres) rfl ⟨_, _, rfl, ?_, ?_, ?_⟩
      · have hn := hCk'.out.now
        have hn1 := own_kept hn (grownBy_setAt wr (w.heap.size + 1) 0 (.slice ay row.length cy)) (own_old hn (by omega))
        exact own_from (own_kept hn1 (grownBy_setAt _ (w.heap.size + 1) 1 (.slice a' past.length c')) (own_old hn1 (by omega))) (by omega)
      · exact ((hCk'.out.past.old (by omega) (grownBy_setAt wr (w.heap.size + 1) 0 (.slice ay row.length cy))).old (by omega) (grownBy_setAt _ (w.heap.size + 1) 1 (.slice a' past.length c'))).down (by omega)
      · exact (hCk'.out.below.setCell (p := ⟨w.heap.size + 1, 0, none⟩) (by show w.heap.size ≤ w.heap.size + 1; omega) _).setCell (p := ⟨w.heap.size + 1, 1, none⟩) (by show w.heap.size ≤ w.heap.size + 1; omega) _
end Go.Proofs.Ytimnhedjapakhaa
/-
  The model's l12Same and DeskNew.
-/
namespace Go.Proofs.Ytimnhedjapakhaa
open Go.RowKit

theorem same_not {xs ys : List Int} {k : Nat} (h : xs.getD k 0 ≠ ys.getD k 0) : decide (xs = ys) = false := decide_eq_false fun e => h (by rw [e])
theorem same_all {xs ys : List Int} (hl : xs.length = ys.length) (h : ∀ k, k < xs.length → xs.getD k 0 = ys.getD k 0) : decide (xs = ys) = true := decide_eq_true (by
  refine List.ext_getElem hl fun i h1 h2 => ?_
  have := h i h1
  rwa [List.getD, List.getD, List.getElem?_eq_getElem h1, List.getElem?_eq_getElem h2] at this)

set_option maxHeartbeats 1000000 in
theorem specSame (v u : Value) (xs ys : List Int) (w : World) (hv : Ints w v xs) (hu : Ints w u ys) (hl : xs.length ≤ 1000000000) : Calls Try.prog 43 #[v, u] w fun e w' => e = .returned (.bool (decide (xs = ys))) ∧ Below w.heap.size w w' := by
  by_cases hll : xs.length = ys.length
  · by_cases h0 : xs.length = 0
    · have hr := hide (same_all hll (fun k hk => by omega))
      obtain ⟨a, c, rfl⟩ := hv.shape
      obtain ⟨a2, c2, rfl⟩ := hu.shape
      rw [← hll, h0]
      clear hv hu
      go_enter Try.func43, Try.ntmps43
      go_wp2
      refine wp_loop_rounds 1 ?_
      rw [rounds_succ]
      go_wp2
      go_ret
      exact ⟨ret_bool hr.out.symm, Below.refl _ _⟩
    · obtain ⟨g, c, rfl, hg, hc⟩ := hv.cells (by omega)
      obtain ⟨g2, c2, rfl, hg2, hc2⟩ := hu.cells (by omega)
      have hno := fun k => same_not (xs := xs) (ys := ys) (k := k)
      have hall := same_all hll
      rw [← hll] at hc2 ⊢
      generalize decide (xs = ys) = res at *
      generalize xs.length = n at *
      clear hv hu hll
      go_enter Try.func43, Try.ntmps43
      go_wp2
      go_loopw [5] (fun i wr => ∃ k : Nat, k ≤ n ∧ i = .int .i64 k ∧ Below w.heap.size w wr ∧ Hid (∀ i, i < k → xs.getD i 0 = ys.getD i 0)) (fun i _ => n - (intOf i).toNat)
      case atStart => exact ⟨0, by omega, rfl, Below.refl _ _, hide (fun i hi => by omega)⟩
      case round =>
        obtain ⟨k, hk, rfl, hB, hkk⟩ := hrel
        by_cases hlt : k < n
        · have hki : (k : Int) < (n : Int) := by omega
          have c1 := (hB.cell (p := ⟨g, k, none⟩) hg).trans (hc k hlt)
          have c3 := (hB.cell (p := ⟨g2, k, none⟩) hg2).trans (hc2 k hlt)
          by_cases he : xs.getD k 0 = ys.getD k 0
          · have hkk' : Hid (∀ i, i < k + 1 → xs.getD i 0 = ys.getD i 0) := hide (fun i hi => by
              by_cases e : i = k
              · subst e; exact he
              · exact hkk.out i (by omega))
            rw [← he] at c3
            clear hc hc2 hno hall hkk he
            generalize xs.getD k 0 = z at *
            go_wp2
            go_region
            all_goals
              go_wp2
              go_roundw
              case rel => exact ⟨k + 1, by omega, by go_num, hB.drew, hkk'⟩
              case measure => simp [intOf]; omega
          · have hr := hide (hno k he)
            generalize xs.getD k 0 = z at *
            generalize ys.getD k 0 = y at *
            clear hc hc2 hno hall hkk
            go_wp2
            go_region
            all_goals
              go_wp2
              go_ret
              exact ⟨ret_bool hr.out.symm, hB.drew⟩
        · obtain rfl : k = n := by omega
          have hr := hide (hall hkk.out)
          clear hc hc2 hno hall hkk
          go_wp2
          go_ret
          exact ⟨ret_bool hr.out.symm, hB⟩
  · have hr : Hid (decide (xs = ys) = false) := hide (decide_eq_false fun e => hll (by rw [e]))
    obtain ⟨a, c, rfl⟩ := hv.shape
    obtain ⟨a2, c2, rfl⟩ := hu.shape
    generalize decide (xs = ys) = res at *
    have hb : ((xs.length : Int) == (ys.length : Int)) = false := by rw [beq_eq_false_iff_ne]; omega
    generalize xs.length = n at *
    generalize ys.length = m at *
    clear hv hu
    by_cases h0 : 0 < n
    · have h0' : (0 : Int) < (n : Int) := by omega
      go_enter Try.func43, Try.ntmps43
      go_wp2
      refine wp_loop_rounds 1 ?_
      rw [rounds_succ]
      go_wp2
      go_ret
      exact ⟨ret_bool hr.out.symm, Below.refl _ _⟩
    · obtain rfl : n = 0 := by omega
      go_enter Try.func43, Try.ntmps43
      go_wp2
      refine wp_loop_rounds 1 ?_
      rw [rounds_succ]
      go_wp2
      go_ret
      exact ⟨ret_bool (by rw [hr.out, beq_eq_false_iff_ne]; omega), Below.refl _ _⟩

theorem results_desk2 {fn : Func} {p u : Tmp} (h : fn.results = #[.cell p 26, .tmp u]) (tmps : Array Value) (w : World) (B : Nat) (x y : Value) (hp : tmps.getD p undef = .pointer (some ⟨B, 0, none⟩))
    (hb : w.heap[B]? = some (.cells #[x, y] 26 (0, 0))) : (results fn tmps).run Try.prog w = .ok (.tuple #[.agg #[x, y], tmps.getD u undef]) w := by
  have hl : (loadVar 26 ⟨B, 0, none⟩).run Try.prog w = .ok (.agg #[x, y]) w := run_loadVar_row w B _ 26 #[x, y] (0, 0) _ hb Try.underlying26 rfl (by kernel_rfl)
  have hp' : tmps[p]?.getD undef = .pointer (some ⟨B, 0, none⟩) := by simpa using hp
  simp [results, h, hp', asAddr, hl, Result.andThen]
theorem PastI.none (W : World) (a : Option Addr) (c : Nat) : PastI W (.slice a 0 c) [] := ⟨a, c, rfl, fun h => absurd h (Nat.lt_irrefl 0)⟩
theorem Ints.none (W : World) (a : Option Addr) (c : Nat) : Ints W (.slice a 0 c) [] := .inl ⟨a, c, rfl, rfl⟩

set_option maxRecDepth 100000 in
set_option maxHeartbeats 1000000 in
theorem specNew (v : Value) (xs : List Int) (w : World) (hv : Ints w v xs) (hl : xs.length ≤ 1000000000) : Calls Try.prog 61 #[v] w fun e w' =>
    ∃ x, e = .returned (.tuple #[.agg #[x, .slice none 0 0], .bool (sideB xs)]) ∧ w'.ownsRow w.heap.size 3 1 x (newV xs).1.length ((newV xs).1.map (Value.int .i64)) ∧ Below w.heap.size w w' := by
  have hB0 : Below w.heap.size w (w.alloc (.cells #[.slice none 0 0, .slice none 0 0] 26)) := (Below.refl _ w).alloc (Nat.le_refl _) _
  have hS := specSide v xs _ (hv.below hB0) hl
  have hb := World.alloc_heap_new w (.cells #[.slice none 0 0, .slice none 0 0] 26)
  have hset := desk_set hb
  obtain ⟨d0, d1, f0, f1⟩ := row_at hb
  cases hsd : sideB xs with
  | false =>
    have hnv : newV xs = ([], []) := by unfold newV; rw [hsd]; rfl
    rw [hnv]
    rw [hsd] at hS
    clear hb
    obtain ⟨W0, hW0⟩ : ∃ W0, w.alloc (.cells #[.slice none 0 0, .slice none 0 0] 26) = W0 := ⟨_, rfl⟩
    rw [hW0] at hS hset d0 d1 f0 f1 hB0
    go_enter Try.func61, Try.ntmps61
    go_wp2_with (go_at_call 34; refine hS.mono ?_; clear hS; rintro e w' ⟨rfl, rfl⟩)
    refine bodyPost_ret (results_desk2 rfl _ _ w.heap.size _ _ rfl (hset _ _)) rfl ⟨_, rfl, World.ownsRow_nil _ _ _ _, ?_⟩
    exact (hB0.setCell (p := ⟨w.heap.size, 0, none⟩) (Nat.le_refl _) _).setCell (p := ⟨w.heap.size, 1, none⟩) (Nat.le_refl _) _
  | true =>
    have hlen := sideB_len hsd
    have hnv : newV xs = (xs, []) := by unfold newV; rw [hsd]; rfl
    rw [hnv]
    rw [hsd] at hS
    obtain ⟨g, c, rfl, hg, hc⟩ := hv.cells hlen.1
    have hs0 := World.size_alloc w (.cells #[.slice none 0 0, .slice none 0 0] 26)
    obtain ⟨W0, hW0⟩ : ∃ W0, w.alloc (.cells #[.slice none 0 0, .slice none 0 0] 26) = W0 := ⟨_, rfl⟩
    rw [hW0] at hS hB0 hb hs0
    have hs1 := Nat.le_of_eq hs0
    have hs2 := Nat.le_of_eq hs0.symm
    clear hs0
    have hcz : ∀ i, i < xs.length → (W0.alloc (.cells #[] 3)).cell? ⟨g, i, none⟩ = some (.int .i64 (xs.getD i 0)) := fun i hi => ((hB0.alloc hB0.size (.cells #[] 3)).cell (p := ⟨g, i, none⟩) hg).trans (hc i hi)
    have hmade : (W0.alloc (.cells #[] 3)).ownsRow (w.heap.size + 1) 3 1 (.slice (some ⟨W0.heap.size, 0, none⟩) 0 0) 0 [] := World.ownsRow_made _ _ _ (by omega) (by decide) rfl
    have hba : (W0.alloc (.cells #[] 3)).heap[w.heap.size]? = some (.cells #[.slice none 0 0, .slice none 0 0] 26 (0, 0)) := (Below.heap_alloc _ _ _ (by omega)).trans hb
    have hBa : Below w.heap.size w (W0.alloc (.cells #[] 3)) := hB0.alloc hB0.size _
    have hsz := Nat.le_of_eq (World.size_alloc W0 (.cells #[] 3)).symm
    clear hset d0 d1 f0 f1 hv hc
    go_enter Try.func61, Try.ntmps61
    go_wp2_with (first
      | (go_at_call 34; refine hS.mono ?_; clear hS; rintro e w' ⟨rfl, rfl⟩)
      | (at_builtin; go_loud (refine append_row rfl _ _ rfl (w.heap.size + 1) _ 0 [] rfl hmade g xs.length c xs rfl rfl hcz (by omega) (by omega) ?_; intro y w2 hy hg2; replace hg2 : (W0.alloc (.cells #[] 3)).grownBy w2 (some W0.heap.size) := hg2; rw [Nat.zero_add, List.nil_append] at hy; obtain ⟨ay, cy, rfl⟩ := own_form hy; have hb2 := (hg2.block w.heap.size (by omega) (fun e => by injection e with e; omega)).trans hba; obtain ⟨d0, d1, f0, f1⟩ := row_at hb2)))
    have hset := desk_set hb2 (.slice ay xs.length cy) (.slice none 0 0)
    refine bodyPost_ret (results_desk2 rfl _ _ w.heap.size _ _ rfl hset) rfl ⟨_, rfl, ?_, ?_⟩
    · have h1 := own_kept hy (grownBy_setAt w2 w.heap.size 0 (.slice ay xs.length cy)) (own_old hy (by omega))
      exact own_from (own_kept h1 (grownBy_setAt _ w.heap.size 1 (.slice none 0 0)) (own_old h1 (by omega))) (by omega)
    · exact ((hBa.grown hg2 hBa.size (fun k e => by injection e with e; omega)).setCell (p := ⟨w.heap.size, 0, none⟩) (Nat.le_refl _) _).setCell (p := ⟨w.heap.size, 1, none⟩) (Nat.le_refl _) _
end Go.Proofs.Ytimnhedjapakhaa
/-
  The model's l12Made: what a deed makes of a row.
-/
namespace Go.Proofs.Ytimnhedjapakhaa
open Go.RowKit Go.Shelf
attribute [local go_sem] Oper.semAt_some

theorem made_flip {row : List Int} {k n : Int} (h : k = 0 ∧ 0 ≤ n ∧ n ≤ (row.length : Int) - 1) : madeV row k n = flipV row n.toNat := by unfold madeV; rw [if_pos h]
theorem made_put {row : List Int} {k n : Int} (h : k = 1 ∧ 0 ≤ n ∧ n ≤ 1 ∧ (row.length : Int) < 12) : madeV row k n = row ++ [n] := by unfold madeV; rw [if_neg (by omega), if_pos h]
theorem made_none {row : List Int} {k n : Int} (h0 : ¬ (k = 0 ∧ 0 ≤ n ∧ n ≤ (row.length : Int) - 1)) (h1 : ¬ (k = 1 ∧ 0 ≤ n ∧ n ≤ 1 ∧ (row.length : Int) < 12)) (h2 : ¬ (k = 2 ∧ n = 0)) (h3 : ¬ (k = 3 ∧ n = 0)) (h4 : ¬ (k = 4 ∧ n = 0)) : madeV row k n = [] := by
  unfold madeV; rw [if_neg h0, if_neg h1, if_neg h2, if_neg h3, if_neg h4]

theorem flip_ints {W : World} {g m cb : Nat} {row : List Int} (h : RowAt W g row.length (fun i => if i = m then 1 - row.getD m 0 else row.getD i 0)) : Ints W.drew (.slice (some ⟨g, 0, none⟩) row.length cb) (flipV row (Int.toNat (m : Int))) := by
  rw [Int.toNat_natCast]
  have hl : (flipV row m).length = row.length := by unfold flipV; rw [List.length_set]
  refine .inr ⟨g, cb, by rw [hl], h.lt, fun i hi => ?_⟩
  rw [hl] at hi
  refine (h.cell hi).trans ?_
  congr 2
  unfold flipV
  rw [show (row.set m (1 - row.getD m 0)).getD i 0 = ((row.set m (1 - row.getD m 0))[i]?).getD 0 from rfl, List.getElem?_set]
  by_cases e : m = i
  · subst e; rw [if_pos rfl, if_pos rfl, if_pos hi]; rfl
  · rw [if_neg (fun e2 => e e2.symm), if_neg e]; rfl

def mdP (base n : Nat) (xs : List Value) (ks : List Kd) (c : Bool) (k : Nat) (v : Value) (V : World) : Prop := match c with | true => (k = 6 → V.ownsRow base 3 1 v n xs) | false => (kdAt ks k).holds v V
theorem mdP.mono {base n : Nat} {xs : List Value} {ks : List Kd} (c : Bool) (k : Nat) (v : Value) (V V' : World) (h : mdP base n xs ks c k v V) (hB : Below V.heap.size V V') : mdP base n xs ks c k v V' := by
  cases c with
  | false => exact Kd.mono _ h hB
  | true => exact fun e => own_below (h e) hB

set_option maxRecDepth 100000 in
set_option maxHeartbeats 2000000 in
theorem specMade (u : Value) (row : List Int) (k n : Int) (w : World) (hu : Ints w u row) (hs : sideB row = true) (hk : Fits k) (hn : Fits n) : Calls Try.prog 42 #[u, dV k n] w fun e w' =>
    ∃ r, e = .returned r ∧ Ints w' r (madeV row k n) ∧ Below w.heap.size w w' ∧ ∀ g, r.ownBlock = some g → w.heap.size ≤ g := by
  have hlen := sideB_len hs
  have hBa : Below w.heap.size w (w.alloc (.cells #[.int .i64 k, .int .i64 n] 32)) := (Below.refl _ w).alloc (Nat.le_refl _) _
  have hB0 : Below w.heap.size w ((w.alloc (.cells #[.int .i64 k, .int .i64 n] 32)).alloc (.cells #[] 3)) := hBa.alloc hBa.size _
  have hb0 : ((w.alloc (.cells #[.int .i64 k, .int .i64 n] 32)).alloc (.cells #[] 3)).heap[w.heap.size]? = some (.cells #[.int .i64 k, .int .i64 n] 32 (0, 0)) := (Below.heap_alloc _ _ _ (by simp)).trans (World.alloc_heap_new w _)
  have hmade : ((w.alloc (.cells #[.int .i64 k, .int .i64 n] 32)).alloc (.cells #[] 3)).ownsRow (w.heap.size + 1) 3 1 (.slice (some ⟨w.heap.size + 1, 0, none⟩) 0 0) 0 [] := by
    have h := World.ownsRow_made (base := w.heap.size + 1) (e := 3) (size := 1) (w.alloc (.cells #[.int .i64 k, .int .i64 n] 32)) #[] 0 (by simp) (by decide) rfl
    simpa using h
  have hsz := Nat.le_of_eq (show ((w.alloc (.cells #[.int .i64 k, .int .i64 n] 32)).alloc (.cells #[] 3)).heap.size = w.heap.size + 2 by simp)
  have hsz2 := Nat.le_of_eq (show w.heap.size + 2 = ((w.alloc (.cells #[.int .i64 k, .int .i64 n] 32)).alloc (.cells #[] 3)).heap.size by simp)
  have q2 := equal_deed hk hn (k' := 2) (n' := 0) (by constructor <;> omega) (by constructor <;> omega) ((w.alloc (.cells #[.int .i64 k, .int .i64 n] 32)).alloc (.cells #[] 3))
  have q3 := equal_deed hk hn (k' := 3) (n' := 0) (by constructor <;> omega) (by constructor <;> omega) ((w.alloc (.cells #[.int .i64 k, .int .i64 n] 32)).alloc (.cells #[] 3))
  have q4 := equal_deed hk hn (k' := 4) (n' := 0) (by constructor <;> omega) (by constructor <;> omega) ((w.alloc (.cells #[.int .i64 k, .int .i64 n] 32)).alloc (.cells #[] 3))
  have hu0 := hu.below hB0
  obtain ⟨W1, hW1⟩ : ∃ W1, (w.alloc (.cells #[.int .i64 k, .int .i64 n] 32)).alloc (.cells #[] 3) = W1 := ⟨_, rfl⟩
  rw [hW1] at hB0 hb0 hmade q2 q3 q4 hu0 hsz hsz2
  obtain ⟨d0, d1, _, _⟩ := row_at hb0
  obtain ⟨g, c, rfl, hg, hc⟩ := hu0.cells hlen.1
  have hlies : Lies (.slice (some ⟨g, 0, none⟩) row.length c) := .inr ⟨_, _, _, rfl⟩
  unfold dV
  by_cases h0 : k = 0 ∧ 0 ≤ n ∧ n ≤ (row.length : Int) - 1
  · rw [made_flip h0]
    obtain ⟨rfl, h1, h2⟩ := h0
    obtain ⟨m, rfl⟩ : ∃ m : Nat, n = m := ⟨n.toNat, by omega⟩
    have hm : m < row.length := by omega
    clear q2 q3 q4 hBa hlies hu
    go_enter Try.func42, Try.ntmps42
    go_wp2_with (first
      | (go_at_call 65; refine (l1In_t _ _ _ _ (by omega) (by omega)).mono ?_; rintro e w' ⟨rfl, rfl⟩)
      | (at_builtin; go_loud (refine append_row rfl _ _ rfl (w.heap.size + 1) _ 0 [] rfl hmade g row.length c row rfl rfl hc (by omega) (by omega) ?_; intro y w2 hy hg2; replace hg2 : W1.grownBy w2 (some (w.heap.size + 1)) := hg2; rw [Nat.zero_add, List.nil_append] at hy; obtain ⟨gb, cb, rfl, hgb, hra⟩ := RowAt.of_owns hy (by omega); have hd1 := (hg2.cell d1 (by simp)); have hcz := hra.cell hm; have hfz := hra.frozen m)))
    have hmi : (m : Int) < (row.length : Int) := by omega
    have hzb := sideB_at hs hm
    obtain ⟨z, hz⟩ : ∃ z, row.getD m 0 = z := ⟨_, rfl⟩
    rw [hz] at hcz hzb
    go_region
    go_wp2
    go_ret
    refine ⟨_, rfl, ?_, ?_, fun q e => by simp [Value.ownBlock] at e; omega⟩
    · rw [← hz]
      exact flip_ints (hra.set (1 - row.getD m 0))
    · exact ((hB0.grown hg2 hB0.size (fun k e => by injection e with e; omega)).setCell (p := ⟨gb, m, none⟩) (by show w.heap.size ≤ gb; omega) _).drew
  by_cases h1 : k = 1 ∧ 0 ≤ n ∧ n ≤ 1 ∧ (row.length : Int) < 12
  · rw [made_put h1]
    obtain ⟨rfl, hn0, hn1, hl12⟩ := h1
    clear q2 q3 q4 hBa hlies hu h0
    refine (callsIn_wide (n := 9)).1 ?_
    refine callsIn_of_wp Try.func42 rfl trivial ?_ rfl
    simp only [Try.ntmps42, List.size_toArray, List.length_cons, List.length_nil, Nat.reduceAdd, Nat.reduceSub, Array.replicate_succ, Array.replicate_zero, List.push_toArray, List.append_toArray, List.nil_append, List.cons_append]
    gi_wp2_with (first
      | (refine ⟨trivial, ?_⟩; gi_at_call 65; refine (callsIn_wide.2 (l1In_t _ _ _ _ (by assumption) (by assumption))).mono ?_; rintro e w' ⟨rfl, rfl⟩)
      | (refine ⟨trivial, ?_⟩))
    have hn' : row.length ≤ 12 := hlen.2
    refine wpIn_region_two 6 7 (by kernel_rfl) (by kernel_rfl) (by kernel_rfl) (by decide) (by decide)
      (fun s => { tmps := #[.slice (some ⟨g, 0, none⟩) row.length c, .agg #[.int .i64 1, .int .i64 n], undef, .pointer (some ⟨w.heap.size, 0, none⟩), .slice none 0 0, .slice (some ⟨w.heap.size + 1, 0, none⟩) 0 0, .slice (some ⟨w.heap.size + 1, 0, none⟩) 0 0, .bool false, .pointer (some ⟨w.heap.size, 0, none⟩), .int .i64 1, .bool false, .bool false, undef, undef, undef, undef, undef, undef, .bool false, undef, undef, undef, undef, undef, undef, undef, undef, undef, undef, undef, undef, undef, .bool true, .pointer (some ⟨w.heap.size, 0, none⟩), .int .i64 1, .bool true, .bool true, .pointer (some ⟨w.heap.size, 1, none⟩), .int .i64 n, .bool true, .bool true, .bool true, .slice (some ⟨g, 0, none⟩) row.length c, .int .i64 row.length, .bool true, .bool true, s 0, s 1, s 2, s 3, s 4, s 5, s 6, undef, undef, undef, undef, undef, undef, undef, undef, undef, undef, undef, undef, undef, undef, undef, undef, undef, undef, undef], defers := [] })
      (fun _ V => Below W1.heap.size W1 V) (fun V V' => Below V.heap.size V V')
      (mdP W1.heap.size (row.length + 1) (row.map (Value.int .i64) ++ [.int .i64 n]) [.val (.slice (some ⟨w.heap.size + 1, 0, none⟩) 0 0), .val (.slice (some ⟨g, 0, none⟩) row.length c), .own W1.heap.size row.length (row.map (Value.int .i64)), .val (.pointer (some ⟨w.heap.size, 1, none⟩)), .val (.int .i64 n), .one (.int .i64 n), .val undef])
      ⟨fun _ => undef, rfl⟩ ?put (Below.refl _ _).drew mdP.mono ?step ?mid ?tail
    case put =>
      intro i o s v hi ho
      rcases (show i = 0 ∨ i = 1 ∨ i = 2 ∨ i = 3 ∨ i = 4 ∨ i = 5 ∨ i = 6 by omega) with rfl | rfl | rfl | rfl | rfl | rfl | rfl
      all_goals
        simp at ho
        subst ho
        simp [Act.put]
    case step =>
      rintro ph i op s V hi hip hneed ho hV hd Q' hQ
      rcases (show i = 0 ∨ i = 1 ∨ i = 2 ∨ i = 3 ∨ i = 4 ∨ i = 5 by omega) with rfl | rfl | rfl | rfl | rfl | rfl
      all_goals
        cases ph with
        | true => cases ((hneed rfl).symm.trans (by kernel_rfl) : false = true)
        | false => _
      all_goals
        simp at ho
        subst ho
        simp [Act.put] at hQ
        have hQ' := hide hQ
        clear hQ
        have hV1 : Below W1.heap.size W1 V := hV
      · clear hd hV
        gi_wp2
        exact hQ'.out _ _ hV1 (Below.refl _ _) rfl
      · clear hd hV
        gi_wp2
        exact hQ'.out _ _ hV1 (Below.refl _ _) rfl
      · have e1 : s 0 = .slice (some ⟨w.heap.size + 1, 0, none⟩) 0 0 := hd 0 (by kernel_rfl)
        have e2 : s 1 = .slice (some ⟨g, 0, none⟩) row.length c := hd 1 (by kernel_rfl)
        have hcV : ∀ i, i < row.length → V.cell? ⟨g, i, none⟩ = some (.int .i64 (row.getD i 0)) := fun i hi => (hV1.cell (p := ⟨g, i, none⟩) hg).trans (hc i hi)
        clear hd hV
        refine append_copy_in rfl _ _ rfl W1.heap.size ⟨w.heap.size + 1, 0, none⟩ e1 g row.length c row e2 rfl hcV hlen.1 (by omega) hV1.size ?_
        intro v' w' how hBw
        gi_wp2
        have hr := hQ'.out
        rw [e1, e2] at hr
        exact hr _ _ (hV1.trans (hBw.mono hV1.size)) hBw how
      · clear hd hV
        gi_wp2
        exact hQ'.out _ _ hV1 (Below.refl _ _) rfl
      · have e1 : s 3 = .pointer (some ⟨w.heap.size, 1, none⟩) := hd 3 (by kernel_rfl)
        have hcc := (hV1.cell (p := ⟨w.heap.size, 1, none⟩) (by show w.heap.size < _; omega)).trans d1
        clear hd hV
        gi_wp2
        have hr := hQ'.out
        rw [e1] at hr
        exact hr _ _ hV1 (Below.refl _ _) rfl
      · have e1 : s 4 = .int .i64 n := hd 4 (by kernel_rfl)
        clear hd hV
        gi_wp2
        have hr := hQ'.out
        rw [e1] at hr
        exact hr _ _ (hV1.alloc hV1.size _) ((Below.refl _ V).alloc (Nat.le_refl _) _) ⟨V.heap.size, rfl, by simp, (Boxed.new V 3 (.int .i64 n)).cell⟩
    case mid =>
      rintro op s V ho hV hd Q' hQ
      have hV1 : Below W1.heap.size W1 V := hV
      simp at ho
      subst ho
      simp [Act.put] at hQ
      have hQ' := hide hQ
      clear hQ
      have e1 : V.ownsRow W1.heap.size 3 1 (s 2) row.length (row.map (Value.int .i64)) := hd 2 (by kernel_rfl)
      obtain ⟨q, e9, hq, hcq⟩ : ∃ q, s 5 = .slice (some ⟨q, 0, none⟩) 1 1 ∧ q < V.heap.size ∧ V.cell? ⟨q, 0, none⟩ = some (.int .i64 n) := hd 5 (by kernel_rfl)
      clear hd hV
      have hVs := hV1.size
      have hcn : ∀ i, i < 1 → V.cell? ⟨q, i, none⟩ = some (.int .i64 ([n].getD i 0)) := fun i hi => by
        obtain rfl : i = 0 := by omega
        exact hcq
      refine append_row_in rfl _ _ rfl W1.heap.size (s 2) row.length _ rfl e1 q 1 1 [n] e9 rfl hcn (by omega) hVs ?_
      intro v' w' how hgr
      gi_wp2
      have hr := hQ'.out
      rw [e9] at hr
      refine hr _ _ (hV1.grown hgr hVs (fun k e => (e1.lt k e).1)) (fun k x hk h => fun e => absurd e hk) (fun _ => how)
    case tail =>
      rintro s V hV hd
      have hV1 : Below W1.heap.size W1 V := hV
      have e6 : V.ownsRow W1.heap.size 3 1 (s 6) (row.length + 1) (row.map (Value.int .i64) ++ [.int .i64 n]) := hd 6 (by omega) rfl
      clear hd hV
      simp only [List.drop_succ_cons, List.drop_zero]
      gi_wp2
      have e7 : V.ownsRow W1.heap.size 3 1 (s 6) (row ++ [n]).length ((row ++ [n]).map (Value.int .i64)) := by simpa using e6
      refine bodyPost_ret (results_tmp rfl _ _ _) rfl ⟨s 6, rfl, Ints.of_owns e7, hB0.trans (hV1.mono hB0.size), fun q e => Nat.le_trans hB0.size (e7.lt q e).1⟩
  by_cases h2 : k = 2 ∧ n = 0
  · obtain ⟨rfl, rfl⟩ := h2
    have hU := specUnder9 _ row W1 hu0 (by omega)
    have hr : madeV row 2 0 = undrV row := rfl
    rw [hr]
    generalize undrV row = R at *
    have e2 : decide ((2 : Int) = 2 ∧ (0 : Int) = 0) = true := by decide
    rw [e2] at q2
    clear q3 q4 e2 hBa hlies hu hr
    go_enter Try.func42, Try.ntmps42
    go_wp2_with (go_at_call 77; refine hU.mono ?_; clear hU; rintro e w2 ⟨r, rfl, hr, hB2⟩)
    go_ret
    exact ⟨_, rfl, Ints.of_owns hr, hB0.trans (hB2.mono hB0.size), fun q e => Nat.le_trans hB0.size (hr.lt q e).1⟩
  by_cases h3 : k = 3 ∧ n = 0
  · obtain ⟨rfl, rfl⟩ := h3
    have hU := specTurned _ row W1 hu0 hlies (by omega)
    have hr : madeV row 3 0 = turnV row := rfl
    rw [hr]
    generalize turnV row = R at *
    have e2 : decide ((3 : Int) = 2 ∧ (0 : Int) = 0) = false := by decide
    have e3 : decide ((3 : Int) = 3 ∧ (0 : Int) = 0) = true := by decide
    rw [e2] at q2
    rw [e3] at q3
    clear q4 e2 e3 hBa hlies hu hr
    go_enter Try.func42, Try.ntmps42
    go_wp2_with (go_at_call 78; refine hU.mono ?_; clear hU; rintro e w2 ⟨r, rfl, hr, hB2⟩)
    go_ret
    exact ⟨_, rfl, Ints.of_owns hr, hB0.trans (hB2.mono hB0.size), fun q e => Nat.le_trans hB0.size (hr.lt q e).1⟩
  by_cases h4 : k = 4 ∧ n = 0
  · obtain ⟨rfl, rfl⟩ := h4
    have hU := specRound _ row W1 hu0 (by omega)
    have hr : madeV row 4 0 = roundV row := rfl
    rw [hr]
    generalize roundV row = R at *
    have e2 : decide ((4 : Int) = 2 ∧ (0 : Int) = 0) = false := by decide
    have e3 : decide ((4 : Int) = 3 ∧ (0 : Int) = 0) = false := by decide
    have e4 : decide ((4 : Int) = 4 ∧ (0 : Int) = 0) = true := by decide
    rw [e2] at q2
    rw [e3] at q3
    rw [e4] at q4
    clear e2 e3 e4 hBa hlies hu hr
    go_enter Try.func42, Try.ntmps42
    go_wp2_with (go_at_call 79; refine hU.mono ?_; clear hU; rintro e w2 ⟨r, rfl, hr, hB2⟩)
    go_ret
    exact ⟨_, rfl, Ints.of_owns hr, hB0.trans (hB2.mono hB0.size), fun q e => Nat.le_trans hB0.size (hr.lt q e).1⟩
  rw [made_none h0 h1 h2 h3 h4]
  rw [decide_eq_false h2] at q2
  rw [decide_eq_false h3] at q3
  rw [decide_eq_false h4] at q4
  have g2 := hide h2
  have g3 := hide h3
  have g4 := hide h4
  clear h2 h3 h4 hlies hu hBa
  by_cases k0 : k = 0
  · subst k0
    have hb : n < 0 ∨ (row.length : Int) - 1 < n := by omega
    clear h0 h1
    go_enter Try.func42, Try.ntmps42
    go_wp2_with (go_at_call 65; refine (l1In_f _ _ _ _ (by assumption)).mono ?_; rintro e w' ⟨rfl, rfl⟩)
    go_ret
    exact ⟨_, rfl, Ints.none _ _ _, hB0, fun q e => by simp [Value.ownBlock] at e; omega⟩
  · by_cases k1 : k = 1
    · subst k1
      by_cases hb : n < 0 ∨ 1 < n
      · clear h0 h1
        go_enter Try.func42, Try.ntmps42
        go_wp2_with (go_at_call 65; refine (l1In_f _ _ _ _ (by assumption)).mono ?_; rintro e w' ⟨rfl, rfl⟩)
        go_ret
        exact ⟨_, rfl, Ints.none _ _ _, hB0, fun q e => by simp [Value.ownBlock] at e; omega⟩
      · have hlb : ¬ (row.length : Int) < 12 := by omega
        have hn0 : 0 ≤ n := by omega
        have hn1 : n ≤ 1 := by omega
        clear h0 h1
        go_enter Try.func42, Try.ntmps42
        go_wp2_with (go_at_call 65; refine (l1In_t _ _ _ _ (by assumption) (by assumption)).mono ?_; rintro e w' ⟨rfl, rfl⟩)
        go_ret
        exact ⟨_, rfl, Ints.none _ _ _, hB0, fun q e => by simp [Value.ownBlock] at e; omega⟩
    · have b0 : (k == 0) = false := by rw [beq_eq_false_iff_ne]; exact k0
      have b1 : (k == 1) = false := by rw [beq_eq_false_iff_ne]; exact k1
      clear h0 h1
      go_enter Try.func42, Try.ntmps42
      go_wp2_with fail
      all_goals try subst_vars
      all_goals first
        | exact absurd ⟨rfl, rfl⟩ g2.out
        | exact absurd ⟨rfl, rfl⟩ g3.out
        | exact absurd ⟨rfl, rfl⟩ g4.out
        | (go_ret; exact ⟨_, rfl, Ints.none _ _ _, hB0, fun q e => by simp [Value.ownBlock] at e; omega⟩)
end Go.Proofs.Ytimnhedjapakhaa
/-
  The model's DeskDo.
-/
namespace Go.Proofs.Ytimnhedjapakhaa
open Go.RowKit

theorem doV_back {d : Dk} {k n : Int} (hb : deskB d = true) (h : k = 5 ∧ n = 0 ∧ 0 < d.2.length) : doV d k n = ((pstV d.2, d.2.take (d.2.length - 1)), true) := by unfold doV; rw [if_pos hb, if_pos h]
theorem doV_same {d : Dk} {k n : Int} (hb : deskB d = true) (h : ¬ (k = 5 ∧ n = 0 ∧ 0 < d.2.length)) (hm : madeV d.1 k n = [] ∨ madeV d.1 k n = d.1) : doV d k n = (d, false) := by unfold doV; rw [if_pos hb, if_neg h, if_pos hm]
theorem doV_made {d : Dk} {k n : Int} (hb : deskB d = true) (h : ¬ (k = 5 ∧ n = 0 ∧ 0 < d.2.length)) (hm : ¬ (madeV d.1 k n = [] ∨ madeV d.1 k n = d.1)) : doV d k n = ((madeV d.1 k n, pastV d.2 d.1), true) := by unfold doV; rw [if_pos hb, if_neg h, if_neg hm]
theorem OwnSS.past {W : World} {base : Nat} {v : Value} {rows : List (List Int)} (h : OwnSS W base v rows) : PastI W v rows := h.rowsI.past

/-- The rows of before fill no more than their slice holds. -/
def CapP (v : Value) : Prop := ∀ x a n c, v = .agg #[x, .slice a n c] → n ≤ c
theorem CapP.of {x : Value} {a : Option Addr} {n c : Nat} (h : n ≤ c) : CapP (.agg #[x, .slice a n c]) := by
  intro x' a' n' c' e
  injection e with e
  simp at e
  omega

/-- Besides, their slice lies in a block from 'base' on. -/
def CapN (base : Nat) (v : Value) : Prop := CapP v ∧ ∀ x g o t n c, v = .agg #[x, .slice (some ⟨g, o, t⟩) n c] → base ≤ g
/-- The rows of before of a result are its own. -/
def PastO (W : World) (base : Nat) (y : Value) (rows : List (List Int)) : Prop := ∃ x p, y = .agg #[x, p] ∧ OwnSS W base p rows ∧ ∀ g, x.ownBlock = some g → base ≤ g ∧ p.ownBlock ≠ some g
/-- As OwnSS.read, with whose the row is. -/
theorem OwnSS.read2 {w : World} {base : Nat} {v : Value} {rows : List (List Int)} (h : OwnSS w base v rows) (h0 : 0 < rows.length) : ∃ g cap, v = .slice (some ⟨g, 0, .none⟩) rows.length cap ∧ g < w.heap.size ∧ ∀ j, j < rows.length → ∃ u, w.cell? ⟨g, j, .none⟩ = some u ∧ Ints w u (rows.getD j []) ∧ w.ownsRow base 3 1 u (rows.getD j []).length ((rows.getD j []).map (Value.int .i64)) := by
  obtain ⟨us, h1, h2, h3⟩ := h
  rcases h2.2 with ⟨_, hn⟩ | ⟨g, cap, cur, rfl, hb, hg, _⟩
  · omega
  · refine ⟨g, cap, by rw [h1], (Array.getElem?_eq_some_iff.1 hg).1, fun j hj => ⟨us.getD j undef, ?_, Ints.of_owns (h3 j hj), h3 j hj⟩⟩
    rw [h2.cellAt j (by omega), List.getD, List.getElem?_eq_getElem (by omega)]; rfl
theorem ints_ownSS {W : World} {base : Nat} {x p : Value} {xs : List Int} {rows : List (List Int)} (h : Ints W x xs) (h1 : 0 < xs.length) (k : OwnSS W base p rows) (k1 : 0 < rows.length) : ∀ g, x.ownBlock = some g → p.ownBlock ≠ some g := by
  intro g e1 e2
  rcases h with ⟨_, _, _, h0⟩ | ⟨g', c, rfl, _, hc⟩
  · rw [h0] at h1; simp at h1
  · obtain ⟨G, cp, rfl, _, hr⟩ := k.read k1
    obtain ⟨u, h2, h3, _⟩ := hr 0 k1
    simp only [Value.ownBlock, Option.some.injEq] at e1 e2
    subst e1
    subst e2
    rw [hc 0 h1] at h2
    injection h2 with h2
    obtain ⟨a, b, e⟩ := h3.shape
    rw [← h2] at e
    cases e
theorem CapN.of {base : Nat} {x : Value} {a : Option Addr} {n c : Nat} (h : n ≤ c) (ha : ∀ g o t, a = some ⟨g, o, t⟩ → base ≤ g) : CapN base (.agg #[x, .slice a n c]) := by
  refine ⟨CapP.of h, fun x' g o t n' c' e => ?_⟩
  injection e with e
  simp at e
  exact ha g o t e.2.1

set_option maxRecDepth 100000 in
set_option maxHeartbeats 2000000 in
theorem specDo_no (v : Value) (d : Dk) (k n : Int) (w : World) (hv : DeskI w v d) (hs : DkS d) (hb : deskB d = false) : Calls Try.prog 14 #[v, dV k n] w fun e w' =>
    ∃ x, e = .returned (.tuple #[x, .bool (doV d k n).2]) ∧ DeskI w' x (doV d k n).1 ∧ (CapN w.heap.size x ∧ (d.2.length < 8 → PastO w' w.heap.size x (doV d k n).1.2)) ∧ Below w.heap.size w w' := by
  obtain ⟨x, p, rfl, hx, hp⟩ := hv
  have hB1 : Below w.heap.size w (((w.alloc (.cells #[x, p] 26)).alloc (.cells #[.int .i64 k, .int .i64 n] 32)).alloc (.cells #[.slice none 0 0, .slice none 0 0] 26)) :=
    (((Below.refl _ w).alloc (Nat.le_refl _) _).alloc (by rw [World.size_alloc]; omega) _).alloc (by rw [World.size_alloc, World.size_alloc]; omega) _
  have hbr : (((w.alloc (.cells #[x, p] 26)).alloc (.cells #[.int .i64 k, .int .i64 n] 32)).alloc (.cells #[.slice none 0 0, .slice none 0 0] 26)).heap[w.heap.size + 2]? = some (.cells #[.slice none 0 0, .slice none 0 0] 26 (0, 0)) := by
    have h := World.alloc_heap_new ((w.alloc (.cells #[x, p] 26)).alloc (.cells #[.int .i64 k, .int .i64 n] 32)) (.cells #[.slice none 0 0, .slice none 0 0] 26)
    rw [World.size_alloc, World.size_alloc] at h
    exact h
  have hbx : (((w.alloc (.cells #[x, p] 26)).alloc (.cells #[.int .i64 k, .int .i64 n] 32)).alloc (.cells #[.slice none 0 0, .slice none 0 0] 26)).heap[w.heap.size]? = some (.cells #[x, p] 26 (0, 0)) :=
    (Below.heap_alloc _ _ _ (by rw [World.size_alloc, World.size_alloc]; omega)).trans ((Below.heap_alloc _ _ _ (by rw [World.size_alloc]; omega)).trans (World.alloc_heap_new w _))
  have hsz := Nat.le_of_eq (show w.heap.size + 3 = (((w.alloc (.cells #[x, p] 26)).alloc (.cells #[.int .i64 k, .int .i64 n] 32)).alloc (.cells #[.slice none 0 0, .slice none 0 0] 26)).heap.size by simp)
  obtain ⟨W1, hW1⟩ : ∃ W1, ((w.alloc (.cells #[x, p] 26)).alloc (.cells #[.int .i64 k, .int .i64 n] 32)).alloc (.cells #[.slice none 0 0, .slice none 0 0] 26) = W1 := ⟨_, rfl⟩
  rw [hW1] at hB1 hbr hbx hsz
  have hOK := specDeskOk (.agg #[x, p]) d W1 ⟨x, p, rfl, hx.below hB1, hp.below hB1⟩ hs
  rw [hb] at hOK
  rw [doV_no hb]
  obtain ⟨a0, a1, _, _⟩ := row_at hbx
  unfold dV
  clear hx hp hs hb
  go_enter Try.func14, Try.ntmps14
  go_wp2_with (go_at_call 10; refine hOK.mono ?_; clear hOK; go_loud (rintro e W2 ⟨rfl, hB2⟩; have hbr2 := (hB2.block (w.heap.size + 2) (by omega)).trans hbr; obtain ⟨r0, r1, g0, g1⟩ := row_at hbr2))
  refine bodyPost_ret (results_desk2 rfl _ _ (w.heap.size + 2) _ _ rfl (desk_set hbr2 _ _)) rfl ⟨_, rfl, ⟨_, _, rfl, Ints.none _ _ _, PastI.none _ _ _⟩, ⟨CapN.of (Nat.le_refl _) (fun g o t e => by cases e), fun _ => ⟨_, _, rfl, ⟨[], rfl, World.ownsRow_nil _ _ _ _, fun j hj => by simp at hj⟩, fun g e => by simp [Value.ownBlock] at e⟩⟩, ?_⟩
  exact ((hB1.trans (hB2.mono hB1.size)).setCell (p := ⟨w.heap.size + 2, 0, none⟩) (by show w.heap.size ≤ w.heap.size + 2; omega) _).setCell (p := ⟨w.heap.size + 2, 1, none⟩) (by show w.heap.size ≤ w.heap.size + 2; omega) _

/-- The world in which the calls begin: the desk, the deed and the result lie boxed. -/
structure Do1 (w : World) (x p : Value) (k n : Int) (W : World) : Prop where
  below : Below w.heap.size w W
  size : w.heap.size + 3 ≤ W.heap.size
  desk : W.heap[w.heap.size]? = some (.cells #[x, p] 26 (0, 0))
  deed : W.heap[w.heap.size + 1]? = some (.cells #[.int .i64 k, .int .i64 n] 32 (0, 0))
  res : W.heap[w.heap.size + 2]? = some (.cells #[.slice none 0 0, .slice none 0 0] 26 (0, 0))
theorem Do1.new (w : World) (x p : Value) (k n : Int) : Do1 w x p k n (((w.alloc (.cells #[x, p] 26)).alloc (.cells #[.int .i64 k, .int .i64 n] 32)).alloc (.cells #[.slice none 0 0, .slice none 0 0] 26)) := by
  refine ⟨(((Below.refl _ w).alloc (Nat.le_refl _) _).alloc (by rw [World.size_alloc]; omega) _).alloc (by rw [World.size_alloc, World.size_alloc]; omega) _, by simp, ?_, ?_, ?_⟩
  · exact (Below.heap_alloc _ _ _ (by rw [World.size_alloc, World.size_alloc]; omega)).trans ((Below.heap_alloc _ _ _ (by rw [World.size_alloc]; omega)).trans (World.alloc_heap_new w _))
  · refine (Below.heap_alloc _ _ _ (by rw [World.size_alloc, World.size_alloc]; omega)).trans ?_
    have h := World.alloc_heap_new (w.alloc (.cells #[x, p] 26)) (.cells #[.int .i64 k, .int .i64 n] 32)
    rw [World.size_alloc] at h
    exact h
  · have h := World.alloc_heap_new ((w.alloc (.cells #[x, p] 26)).alloc (.cells #[.int .i64 k, .int .i64 n] 32)) (.cells #[.slice none 0 0, .slice none 0 0] 26)
    rw [World.size_alloc, World.size_alloc] at h
    exact h
theorem Do1.more {w : World} {x p : Value} {k n : Int} {W V : World} (h : Do1 w x p k n W) (hV : Below W.heap.size W V) : Do1 w x p k n V :=
  ⟨h.below.trans (hV.mono h.below.size), Nat.le_trans h.size hV.size, (hV.block _ (by have := h.size; omega)).trans h.desk, (hV.block _ (by have := h.size; omega)).trans h.deed, (hV.block _ (by have := h.size; omega)).trans h.res⟩
end Go.Proofs.Ytimnhedjapakhaa
/-
  The model's DeskDo: what its walks know.
-/
namespace Go.Proofs.Ytimnhedjapakhaa
open Go.RowKit

theorem own_cap {W : World} {base n n' c : Nat} {e : TypeId} {a : Option Addr} {xs : List Value} (h : W.ownsRow base e 1 (.slice a n' c) n xs) : n' ≤ c := by
  rcases h.2 with ⟨e, h0⟩ | ⟨b, cap, cur, e, _, _, hc, _⟩
  · injection e with _ e2 e3; omega
  · injection e with _ e2 e3; omega
/-- 'append(s, r)' of one row, whose cell lies somewhere. -/
theorem append_slice12 {ops : Array Oper} {rest : List Oper} {o : Oper} {a : Act} {Q : Exit → Act → World → Prop} {w : World} {z : Value} (hgd : o.guard = none) (s x : Operand)
    (ho : o.op = .call { callee := .builtin .append, args := #[s, x], argTypes := #[24, 24] }) (hz1 : z.oneCell' = true)
    (base : Nat) (v : Value) (n : Nat) (xs : List Value) (hs : a.eval s = v) (hown : w.ownsRow base 23 1 v n xs) (q : Nat) (hx : a.eval x = .slice (some ⟨q, 0, none⟩) 1 1) (hq : w.cell? ⟨q, 0, none⟩ = some z)
    (hn : n ≤ 1000000) (hbase : base ≤ w.heap.size)
    (h : ∀ v' w', w'.ownsRow base 23 1 v' (n + 1) (xs ++ [z]) → w.grownBy w' v.ownBlock → wpList Try.prog ops Q rest (a.put o.dst v') w') :
    wpList Try.prog ops Q (o :: rest) a w := by
  obtain ⟨i0, hi, hz0, hz2, hz3⟩ := info_rows Try.infoRow
  refine wpList_append_own _ hgd s x 24 ho base 23 i0 (.slice none 0 0) 1 24 Try.underlying24 hi hz0 hz2 hz3 rfl (by decide) v n xs hs hown ⟨q, 0, none⟩ 1 1 [z] hx rfl ?_ ?_ ?_ ?_ hbase ?_
  · intro j u hj
    match j, hj with
    | 0, hj => simp at hj; subst hj; simpa [Addr.add] using hq
  · intro u hu; simp at hu; subst hu; exact hz1
  · unfold maxLen; omega
  · omega
  · intro v' w' h1 h2 _; exact h v' w' h1 h2

/-- What is known behind the copy: the copy lies in block b. -/
structure Do2 (w : World) (x p : Value) (k n : Int) (b : Nat) (y q : Value) (d : Dk) (W : World) : Prop where
  one : Do1 w x p k n W
  lt : w.heap.size + 3 ≤ b
  out : W.heap[b]? = some (.cells #[y, q] 26 (0, 0))
  now : W.ownsRow (w.heap.size + 3) 3 1 y d.1.length (d.1.map (Value.int .i64))
  past : OwnSS W (w.heap.size + 3) q d.2
theorem Do2.more {w : World} {x p : Value} {k n : Int} {b : Nat} {y q : Value} {d : Dk} {W V : World} (h : Do2 w x p k n b y q d W) (hV : Below W.heap.size W V) : Do2 w x p k n b y q d V :=
  ⟨h.one.more hV, h.lt, (hV.block _ (Array.getElem?_eq_some_iff.1 h.out).1).trans h.out, own_below h.now hV, h.past.below hV⟩
theorem ints_grown {W W' : World} {v : Value} {xs : List Int} {b n1 c1 n2 c2 : Nat} {a1 a2 : Option Addr} {t : TypeId} (h : Ints W v xs) (hb : W.heap[b]? = some (.cells #[.slice a1 n1 c1, .slice a2 n2 c2] t (0, 0))) (hg : W.grownBy W' (some b)) : Ints W' v xs := by
  rcases h with h | ⟨g, cap, rfl, hg0, hc⟩
  · exact .inl h
  · by_cases h0 : 0 < xs.length
    · have hne : g ≠ b := fun e => by
        subst e
        have h1 := hc 0 h0
        unfold World.cell? at h1
        rw [hb] at h1
        simp at h1
      exact .inr ⟨g, cap, rfl, Nat.lt_of_lt_of_le hg0 hg.size, fun i hi => (show W'.cell? ⟨g, i, none⟩ = W.cell? ⟨g, i, none⟩ from World.cell?_of_block (w := W) (hg.block g hg0 (fun e => hne (by injection e)))).trans (hc i hi)⟩
    · exact .inr ⟨g, cap, rfl, Nat.lt_of_lt_of_le hg0 hg.size, fun i hi => absurd hi (by omega)⟩
/-- The copy itself is handed back. -/
theorem Do2.result {w : World} {x p : Value} {k n : Int} {b : Nat} {y q : Value} {d : Dk} {W : World} (h : Do2 w x p k n b y q d W) :
    DeskI ((W.setCell ⟨w.heap.size + 2, 0, .none⟩ y).setCell ⟨w.heap.size + 2, 1, .none⟩ q) (.agg #[y, q]) d ∧ Below w.heap.size w ((W.setCell ⟨w.heap.size + 2, 0, .none⟩ y).setCell ⟨w.heap.size + 2, 1, .none⟩ q) ∧ OwnSS ((W.setCell ⟨w.heap.size + 2, 0, .none⟩ y).setCell ⟨w.heap.size + 2, 1, .none⟩ q) w.heap.size q d.2 ∧ ∀ g, y.ownBlock = some g → w.heap.size ≤ g ∧ q.ownBlock ≠ some g := by
  have g0 := grownBy_setAt W (w.heap.size + 2) 0 y
  have g1 := grownBy_setAt (W.setCell ⟨w.heap.size + 2, 0, .none⟩ y) (w.heap.size + 2) 1 q
  have n1 := own_kept h.now g0 (own_old h.now (by omega))
  have n2 := own_kept n1 g1 (own_old n1 (by omega))
  refine ⟨⟨y, q, rfl, Ints.of_owns n2, ((h.past.old (by omega) g0).old (by omega) g1).past⟩, ?_, ((h.past.old (by omega) g0).old (by omega) g1).down (by omega), fun g e1 => ⟨by have := (h.now.lt g e1).1; omega, fun e2 => by
    obtain ⟨us, _, ho, _⟩ := h.past
    rcases own_apart h.now ho with h3 | h3
    · rw [h3] at e1; cases e1
    · exact h3 (e1.trans e2.symm)⟩⟩
  exact (h.one.below.setCell (p := ⟨w.heap.size + 2, 0, .none⟩) (by show w.heap.size ≤ w.heap.size + 2; omega) _).setCell (p := ⟨w.heap.size + 2, 1, .none⟩) (by show w.heap.size ≤ w.heap.size + 2; omega) _
theorem do2_new {w : World} {x p : Value} {k n : Int} {y q : Value} {d : Dk} {V W : World} (hD : Do1 w x p k n V) (hy : W.ownsRow V.heap.size 3 1 y d.1.length (d.1.map (Value.int .i64))) (hq : OwnSS W V.heap.size q d.2) (hB : Below V.heap.size V W) : Do2 w x p k n W.heap.size y q d (W.alloc (.cells #[y, q] 26)) := by
  have hs := hD.size
  have hB2 := hB.size
  have ha := (Below.refl _ W).alloc (Nat.le_refl _) (.cells #[y, q] 26)
  exact ⟨(hD.more hB).more ha, by omega, World.alloc_heap_new W _, own_below (own_from hy (by omega)) ha, (hq.down (by omega)).below ha⟩
theorem own_some {w : World} {base n : Nat} {e : TypeId} {v : Value} {xs : List Value} (h : w.ownsRow base e 1 v n xs) (hn : 0 < n) : ∃ g c, v = .slice (some ⟨g, 0, none⟩) n c := by
  rcases h.2 with ⟨_, h0⟩ | ⟨g, cap, cur, rfl, _⟩
  · omega
  · exact ⟨g, cap, rfl⟩
theorem do2_block {w : World} {x p : Value} {k n : Int} {b : Nat} {y q : Value} {d : Dk} {W : World} (h : Do2 w x p k n b y q d W) : ∀ g, q.ownBlock = some g → g < W.heap.size := fun g e => by
  obtain ⟨us, _, ho, _⟩ := h.past
  exact (ho.lt g e).2
theorem ints_apart {W W' : World} {v : Value} {xs : List Int} {row : Option Nat} (h : Ints W v xs) (hg : W.grownBy W' row) (hr : ∀ g, v.ownBlock = some g → row ≠ some g) : Ints W' v xs := by
  rcases h with h | ⟨g, cap, rfl, hg0, hc⟩
  · exact .inl h
  · exact .inr ⟨g, cap, rfl, Nat.lt_of_lt_of_le hg0 hg.size, fun i hi => (show W'.cell? ⟨g, i, none⟩ = W.cell? ⟨g, i, none⟩ from World.cell?_of_block (w := W) (hg.block g hg0 (fun e => hr g rfl e.symm))).trans (hc i hi)⟩
/-- The end of the way: the copy's block, the rows, and the row that was made. -/
structure Fin12 (w : World) (b : Nat) (y q r : Value) (M : List Int) (v : Value) (rows : List (List Int)) (W : World) : Prop where
  below : Below w.heap.size w W
  lt : w.heap.size + 3 ≤ b
  out : W.heap[b]? = some (.cells #[y, q] 26 (0, 0))
  res : W.heap[w.heap.size + 2]? = some (.cells #[.slice none 0 0, .slice none 0 0] 26 (0, 0))
  own : OwnSS W (w.heap.size + 3) v rows
  ints : Ints W r M
theorem Fin12.set0 {w : World} {b n1 c1 n2 c2 : Nat} {a1 a2 : Option Addr} {r : Value} {M : List Int} {v : Value} {rows : List (List Int)} {W : World} (h : Fin12 w b (.slice a1 n1 c1) (.slice a2 n2 c2) r M v rows W) (z : Value) : Fin12 w b z (.slice a2 n2 c2) r M v rows (W.setCell ⟨b, 0, .none⟩ z) := by
  have hs := grownBy_setAt W b 0 z
  have hlt := h.lt
  exact ⟨h.below.setCell (p := ⟨b, 0, .none⟩) (by show w.heap.size ≤ b; omega) _, h.lt, set_cells h.out 0 z, (hs.block _ (Array.getElem?_eq_some_iff.1 h.res).1 (fun e => by injection e with e; omega)).trans h.res, h.own.kept h.out (by decide) (by decide) hs, ints_grown h.ints h.out hs⟩
theorem Fin12.set1 {w : World} {b n1 c1 n2 c2 : Nat} {a1 a2 : Option Addr} {r : Value} {M : List Int} {v : Value} {rows : List (List Int)} {W : World} (h : Fin12 w b (.slice a1 n1 c1) (.slice a2 n2 c2) r M v rows W) (z : Value) : Fin12 w b (.slice a1 n1 c1) z r M v rows (W.setCell ⟨b, 1, .none⟩ z) := by
  have hs := grownBy_setAt W b 1 z
  have hlt := h.lt
  exact ⟨h.below.setCell (p := ⟨b, 1, .none⟩) (by show w.heap.size ≤ b; omega) _, h.lt, set_cells h.out 1 z, (hs.block _ (Array.getElem?_eq_some_iff.1 h.res).1 (fun e => by injection e with e; omega)).trans h.res, h.own.kept h.out (by decide) (by decide) hs, ints_grown h.ints h.out hs⟩
theorem past_tail {W : World} {G o n c : Nat} {rows : List (List Int)} (h : PastI W (.slice (some ⟨G, o, none⟩) (n + 1) c) rows) : PastI W (.slice (some ⟨G, o + 1, none⟩) n (c - 1)) rows.tail := by
  obtain ⟨a, c', e, hr⟩ := h
  injection e with e1 e2 e3
  subst e1
  refine ⟨some ⟨G, o + 1, none⟩, c - 1, by rw [List.length_tail, ← e2]; rfl, fun h0 => ?_⟩
  obtain ⟨G', o', e, hG, hc⟩ := hr (by omega)
  injection e with e
  injection e with e4 e5
  subst e4 e5
  refine ⟨G, o + 1, rfl, hG, fun j hj => ?_⟩
  obtain ⟨u, h1, h2⟩ := hc (j + 1) (by rw [List.length_tail] at hj; omega)
  refine ⟨u, by rw [show o + 1 + j = o + (j + 1) by omega]; exact h1, ?_⟩
  rw [List.getD, List.getElem?_tail]
  exact h2
/-- A desk is handed back: its row, and rows that lie where the rows lie. -/
theorem Fin12.result {w : World} {b : Nat} {y q r z : Value} {M : List Int} {v : Value} {rows rows' : List (List Int)} {W : World} (h : Fin12 w b y q r M v rows W) (hz : ∀ W', PastI W' v rows → PastI W' z rows') :
    DeskI ((W.setCell ⟨w.heap.size + 2, 0, .none⟩ r).setCell ⟨w.heap.size + 2, 1, .none⟩ z) (.agg #[r, z]) (M, rows') ∧ Below w.heap.size w ((W.setCell ⟨w.heap.size + 2, 0, .none⟩ r).setCell ⟨w.heap.size + 2, 1, .none⟩ z) := by
  have g0 := grownBy_setAt W (w.heap.size + 2) 0 r
  have g1 := grownBy_setAt (W.setCell ⟨w.heap.size + 2, 0, .none⟩ r) (w.heap.size + 2) 1 z
  obtain ⟨ar, cr, er⟩ := h.ints.shape
  have k0 := set_cells h.res 0 r
  have i1 := ints_grown h.ints h.res g0
  rw [er] at i1 k0 g0 g1 ⊢
  have i2 := ints_grown i1 k0 g1
  refine ⟨⟨_, z, rfl, i2, hz _ ((h.own.old (by omega) g0).old (by omega) g1).past⟩, ?_⟩
  exact (h.below.setCell (p := ⟨w.heap.size + 2, 0, .none⟩) (by show w.heap.size ≤ w.heap.size + 2; omega) _).setCell (p := ⟨w.heap.size + 2, 1, .none⟩) (by show w.heap.size ≤ w.heap.size + 2; omega) _
theorem Fin12.own2 {w : World} {b : Nat} {y q r z : Value} {M : List Int} {v : Value} {rows : List (List Int)} {W : World} (h : Fin12 w b y q r M v rows W) :
    OwnSS ((W.setCell ⟨w.heap.size + 2, 0, .none⟩ r).setCell ⟨w.heap.size + 2, 1, .none⟩ z) w.heap.size v rows := by
  have g0 := grownBy_setAt W (w.heap.size + 2) 0 r
  have g1 := grownBy_setAt (W.setCell ⟨w.heap.size + 2, 0, .none⟩ r) (w.heap.size + 2) 1 z
  exact ((h.own.old (by omega) g0).old (by omega) g1).down (by omega)
theorem ownSS_take {W : World} {base G L c : Nat} {rows : List (List Int)} (h : OwnSS W base (.slice (some ⟨G, 0, .none⟩) (L + 1) c) rows) : OwnSS W base (.slice (some ⟨G, 0, .none⟩) L c) (rows.take L) := by
  obtain ⟨us, hl, ho, hr⟩ := h
  obtain ⟨a, c', e⟩ := own_form ho
  injection e with _ e2 _
  have hln : (us.take L).length = L := by rw [List.length_take]; omega
  refine ⟨us.take L, by rw [List.length_take, List.length_take, hl], ?_, fun j hj => ?_⟩
  · rcases ho.2 with ⟨e, _⟩ | ⟨g, cap, cur, e, hb, hg, hc, hm, hs, ht⟩
    · cases e
    · injection e with e1 e3 e4
      injection e1 with e1
      injection e1 with e1
      subst e1 e4
      refine ⟨by omega, .inr ⟨G, c, cur, by rw [hln], hb, hg, by omega, hm, hs, ?_⟩⟩
      rw [hln, ← ht, List.take_take, show min L (us.length * 1) = L * 1 by omega]
  · rw [List.length_take] at hj
    have h1 := hr j (by omega)
    rw [List.getD, List.getD, List.getElem?_take, List.getElem?_take, if_pos (by omega), if_pos (by omega)]
    exact h1
theorem Do2.append {w : World} {x p : Value} {k n : Int} {b : Nat} {y q : Value} {row : List Int} {past : List (List Int)} {V W : World} {us : List Value} {r v : Value} {M : List Int} {B : Nat} (h : Do2 w x p k n b y q (row, past) V) (hul : us.length = past.length) (huo : V.ownsRow (w.heap.size + 3) 23 1 q us.length us)
    (hur : ∀ j, j < past.length → V.ownsRow (w.heap.size + 3) 3 1 (us.getD j undef) (past.getD j []).length ((past.getD j []).map (Value.int .i64))) (how : W.ownsRow (w.heap.size + 3) 23 1 v (us.length + 1) (us ++ [y])) (hg : V.grownBy W q.ownBlock)
    (hr : Ints V r M) (hrf : ∀ g, r.ownBlock = some g → B ≤ g) (hqb : ∀ g, q.ownBlock = some g → g < B) : Fin12 w b y q r M v (past ++ [row]) W := by
  have hlt := h.lt
  have n1 : q.ownBlock ≠ some (w.heap.size + 2) := own_old huo (by omega)
  have n2 : q.ownBlock ≠ some b := own_not huo h.out (by decide)
  refine ⟨h.one.below.grown hg h.one.below.size (fun k e => by have := huo.lt k e; omega), h.lt, (hg.block _ (Array.getElem?_eq_some_iff.1 h.out).1 (fun e => n2 e.symm)).trans h.out, (hg.block _ (Array.getElem?_eq_some_iff.1 h.one.res).1 (fun e => n1 e.symm)).trans h.one.res, OwnSS.push hul huo hur h.now how hg, ints_apart hr hg (fun g e1 e2 => ?_)⟩
  have := hrf g e1
  have := hqb g e2
  omega
end Go.Proofs.Ytimnhedjapakhaa
