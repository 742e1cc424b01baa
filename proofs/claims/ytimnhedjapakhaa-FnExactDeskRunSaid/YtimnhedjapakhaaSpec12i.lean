/-
  The model's l12Copy: a copy of a desk.
-/
import Derived.Test.YtimnhedjapakhaaSpec12h
import Derived.Test.YtimnhedjapakhaaRegTwo
import Derived.Test.YtimnhedjapakhaaBaseZ
import Derived.OwnWalkIn
namespace Go.Proofs.Ytimnhedjapakhaa
open Go.RowKit Go.Shelf
attribute [local go_sem] Oper.semAt_some

/-- 'append(s, r...)' of a row that reads, inside a fence. -/
theorem append_row_in {F : Fence} {k : Nat} {w : World} {ops : Array Oper} {rest : List Oper} {o : Oper} {a : Act} {Q : Exit → Act → World → Prop} (hgd : o.guard = none) (s x : Operand)
    (ho : o.op = .call { callee := .builtin .append, args := #[s, x], argTypes := #[23, 23] })
    (base : Nat) (v : Value) (n : Nat) (xs : List Value) (hs : a.eval s = v) (hown : w.ownsRow base 3 1 v n xs) (g m c : Nat) (zs : List Int) (hx : a.eval x = .slice (some ⟨g, 0, none⟩) m c) (hl : zs.length = m)
    (hz : ∀ i, i < m → w.cell? ⟨g, i, none⟩ = some (.int .i64 (zs.getD i 0))) (hn : n + m ≤ 1000000000) (hbase : base ≤ w.heap.size)
    (h : ∀ v' w', w'.ownsRow base 3 1 v' (n + m) (xs ++ zs.map (Value.int .i64)) → w.grownBy w' v.ownBlock → wpListIn F k Try.prog ops Q rest (a.put o.dst v') w') :
    wpListIn F k Try.prog ops Q (o :: rest) a w := by
  obtain ⟨i0, hi, hz0, hz1, hz2⟩ := info_parts Try.infoInt
  refine wpListIn_append_own _ hgd s x 23 ho base 3 i0 (.int .i64 0) 1 8 Try.underlying23 hi hz0 hz1 hz2 rfl (by decide) v n xs hs hown ⟨g, 0, none⟩ m c (zs.map (Value.int .i64)) hx (by simp [hl]) ?_ ?_ ?_ ?_ hbase ?_
  · intro j u hj
    rw [List.getElem?_map] at hj
    obtain ⟨z, hz3, rfl⟩ := Option.map_eq_some_iff.1 hj
    have hjl := (List.getElem?_eq_some_iff.1 hz3).1
    have h1 := hz j (by omega)
    have hadd : (⟨g, 0, none⟩ : Addr).add j = ⟨g, j, none⟩ := by unfold Addr.add; split <;> simp_all
    rw [hadd, h1, List.getD, hz3]; rfl
  · intro u hu
    obtain ⟨z, _, rfl⟩ := List.mem_map.1 hu
    rfl
  · unfold maxLen; omega
  · omega
  · intro v' w' h1 h2 _; exact h v' w' h1 h2
/-- 'append([]int{}, r...)' of a row that reads, inside a fence: a new block, and nothing else. -/
theorem append_copy_in {F : Fence} {k : Nat} {w : World} {ops : Array Oper} {rest : List Oper} {o : Oper} {a : Act} {Q : Exit → Act → World → Prop} (hgd : o.guard = none) (s x : Operand)
    (ho : o.op = .call { callee := .builtin .append, args := #[s, x], argTypes := #[23, 23] })
    (base : Nat) (b : Addr) (hs : a.eval s = .slice (some b) 0 0) (g m c : Nat) (zs : List Int) (hx : a.eval x = .slice (some ⟨g, 0, none⟩) m c) (hl : zs.length = m)
    (hz : ∀ i, i < m → w.cell? ⟨g, i, none⟩ = some (.int .i64 (zs.getD i 0))) (h0 : 1 ≤ m) (hn : m ≤ 1000000000) (hbase : base ≤ w.heap.size)
    (h : ∀ v' w', w'.ownsRow base 3 1 v' m (zs.map (Value.int .i64)) → Below w.heap.size w w' → wpListIn F k Try.prog ops Q rest (a.put o.dst v') w') :
    wpListIn F k Try.prog ops Q (o :: rest) a w := by
  obtain ⟨i0, hi, hz0, hz1, hz2⟩ := info_parts Try.infoInt
  refine wpListIn_plain hgd fun K hK' => ?_
  have hr := run_append_grow (P := Try.prog) w 23 o.type 3 i0 (.int .i64 0) Try.underlying23 hi hz0 b 0 0 [] (by simp) (fun j u hj => by simp at hj) ⟨g, 0, none⟩ m c (zs.map (Value.int .i64)) (by simp [hl, hz1]) (fun j u hj => by
    rw [List.getElem?_map] at hj
    obtain ⟨z, hz3, rfl⟩ := Option.map_eq_some_iff.1 hj
    have hjl := (List.getElem?_eq_some_iff.1 hz3).1
    have h1 := hz j (by omega)
    have hadd : (⟨g, 0, none⟩ : Addr).add j = ⟨g, j, none⟩ := by unfold Addr.add; split <;> simp_all
    rw [hadd, h1, List.getD, hz3]; rfl) (by omega) (by omega) (growslice_fits (by omega) (by rw [hz2]; omega))
  simp only [Nat.zero_add] at hr
  have hge := grownCap_ge w m 0 3
  have hcm := grownCap_le_maxLen w m 0 3 (by unfold maxLen; omega)
  have hown : (w.drew.alloc (.cells (([] : List Value).toArray ++ (zs.map (Value.int .i64)).toArray ++ Builtin.zeroCells (Value.int .i64 0).cells (grownCap w m 0 3 - m)) 3)).ownsRow base 3 1
      (.slice (some ⟨w.heap.size, 0, none⟩) m (grownCap w m 0 3)) m (zs.map (Value.int .i64)) := by
    refine ⟨by simp [hl], .inr ⟨w.heap.size, _, _, rfl, hbase, World.alloc_heap_new w.drew _, hge, hcm, ?_, ?_⟩⟩
    · simp only [Array.size_append, List.size_toArray, size_zeroCells, List.length_nil, List.length_map, hl, Value.cells]
      simp
      omega
    · simp only [Array.toList_append, List.nil_append]
      rw [List.take_append_of_le_length (by simp [hl]), List.take_of_length_le (by simp [hl])]
  have hB : Below w.heap.size w (w.drew.alloc (.cells (([] : List Value).toArray ++ (zs.map (Value.int .i64)).toArray ++ Builtin.zeroCells (Value.int .i64 0).cells (grownCap w m 0 3 - m)) 3)) :=
    (Below.refl w.heap.size w).drew.alloc (Nat.le_refl _) _
  unfold Oper.wpIn
  refine ⟨?_, ?_⟩
  · simp [Oper.about, ho, resolve, Target.leads, Sem.run_pure]
  · rw [Oper.semAt_plain F _ _ (by rw [ho]; intro c hc'; cases hc')]
    simp only [execOp, ho, resolve, invoke, builtin, Sem.run_bind, Sem.run_pure, Result.andThen_ok, List.map_toArray, List.map_cons, List.map_nil, hs, hx, hr]
    exact hK' _ _ (h _ _ hown hB)
/-- 'append(s, r)' of one row, whose cell lies somewhere, inside a fence. -/
theorem append_slice_in {F : Fence} {k : Nat} {ops : Array Oper} {rest : List Oper} {o : Oper} {a : Act} {Q : Exit → Act → World → Prop} {w : World} {z : Value} (hgd : o.guard = none) (s x : Operand)
    (ho : o.op = .call { callee := .builtin .append, args := #[s, x], argTypes := #[24, 24] }) (hz1 : z.oneCell' = true)
    (base : Nat) (v : Value) (n : Nat) (xs : List Value) (hs : a.eval s = v) (hown : w.ownsRow base 23 1 v n xs) (q : Nat) (hx : a.eval x = .slice (some ⟨q, 0, none⟩) 1 1) (hq : w.cell? ⟨q, 0, none⟩ = some z)
    (hn : n ≤ 1000000) (hbase : base ≤ w.heap.size)
    (h : ∀ v' w', w'.ownsRow base 23 1 v' (n + 1) (xs ++ [z]) → w.grownBy w' v.ownBlock → wpListIn F k Try.prog ops Q rest (a.put o.dst v') w') :
    wpListIn F k Try.prog ops Q (o :: rest) a w := by
  obtain ⟨i0, hi, hz0, hz2, hz3⟩ := info_rows Try.infoRow
  refine wpListIn_append_own _ hgd s x 24 ho base 23 i0 (.slice none 0 0) 1 24 Try.underlying24 hi hz0 hz2 hz3 rfl (by decide) v n xs hs hown ⟨q, 0, none⟩ 1 1 [z] hx rfl ?_ ?_ ?_ ?_ hbase ?_
  · intro j u hj
    match j, hj with
    | 0, hj => simp at hj; subst hj; simpa [Addr.add] using hq
  · intro u hu; simp at hu; subst hu; exact hz1
  · unfold maxLen; omega
  · omega
  · intro v' w' h1 h2 _; exact h v' w' h1 h2
/-- One row more behind rows of one's own. -/
theorem OwnSS.push {V w' : World} {base : Nat} {v v' u : Value} {rows : List (List Int)} {row : List Int} {us : List Value} (h1 : us.length = rows.length) (h2 : V.ownsRow base 23 1 v us.length us)
    (h3 : ∀ j, j < rows.length → V.ownsRow base 3 1 (us.getD j undef) (rows.getD j []).length ((rows.getD j []).map (Value.int .i64)))
    (hu : V.ownsRow base 3 1 u row.length (row.map (Value.int .i64))) (hv : w'.ownsRow base 23 1 v' (us.length + 1) (us ++ [u])) (hg : V.grownBy w' v.ownBlock) : OwnSS w' base v' (rows ++ [row]) := by
  refine ⟨us ++ [u], by simp [h1], by rw [List.length_append]; exact hv, fun j hj => ?_⟩
  by_cases e : j < rows.length
  · rw [List.getD, List.getElem?_append_left (by omega), List.getD, List.getElem?_append_left e]
    exact (h3 j e).kept hg (own_apart (h3 j e) h2)
  · have : j = rows.length := by simp at hj; omega
    subst this
    rw [List.getD, ← h1, List.getElem?_append_right (Nat.le_refl _), List.getD, h1, List.getElem?_append_right (Nat.le_refl _), Nat.sub_self]
    exact hu.kept hg (own_apart hu h2)
theorem Try.infoDesk : (Try.prog.info? 26).map (fun i => (i.zero, i.size, i.bytes)) = some (some (.agg #[.slice none 0 0, .slice none 0 0]), 2, 48) := by kernel_rfl

theorem desk_new {w : World} {a b : Value} {t : TypeId} : (w.alloc (.cells #[a, b] t)).cell? ⟨w.heap.size, 0, none⟩ = some a ∧ (w.alloc (.cells #[a, b] t)).cell? ⟨w.heap.size, 1, none⟩ = some b ∧
    (w.alloc (.cells #[a, b] t)).frozen? ⟨w.heap.size, 0, none⟩ = false ∧ (w.alloc (.cells #[a, b] t)).frozen? ⟨w.heap.size, 1, none⟩ = false := by
  have hb := World.alloc_heap_new w (.cells #[a, b] t)
  exact ⟨by unfold World.cell?; rw [hb]; rfl, by unfold World.cell?; rw [hb]; rfl, by unfold World.frozen?; rw [hb]; rfl, by unfold World.frozen?; rw [hb]; rfl⟩

theorem own_not {W : World} {base n b : Nat} {e t : TypeId} {v : Value} {xs : List Value} {cur : Array Value} (h : W.ownsRow base e 1 v n xs) (hb : W.heap[b]? = some (.cells cur t (0, 0))) (ht : e ≠ t) : v.ownBlock ≠ some b := by
  intro e2
  rcases h.2 with ⟨rfl, _⟩ | ⟨g, cap, cur', rfl, _, hg, _⟩
  · cases e2
  · injection e2 with e2
    subst e2
    rw [hg] at hb
    injection hb with hb
    injection hb with _ h2
    exact ht h2
theorem own_old {W : World} {base n b : Nat} {e : TypeId} {v : Value} {xs : List Value} (h : W.ownsRow base e 1 v n xs) (hb : b < base) : v.ownBlock ≠ some b := by
  intro e2
  have := h.lt b e2
  omega
theorem own_kept {W W' : World} {base n : Nat} {e : TypeId} {v : Value} {xs : List Value} {k : Nat} (h : W.ownsRow base e 1 v n xs) (hg : W.grownBy W' (some k)) (hk : v.ownBlock ≠ some k) : W'.ownsRow base e 1 v n xs := h.kept hg (.inr hk)
theorem OwnSS.kept {W W' : World} {base : Nat} {v : Value} {rows : List (List Int)} {b : Nat} {cur : Array Value} {t : TypeId} (h : OwnSS W base v rows) (hb : W.heap[b]? = some (.cells cur t (0, 0))) (h1 : 23 ≠ t) (h2 : 3 ≠ t) (hg : W.grownBy W' (some b)) : OwnSS W' base v rows := by
  obtain ⟨us, l, o, r⟩ := h
  exact ⟨us, l, own_kept o hg (own_not o hb h1), fun j hj => own_kept (r j hj) hg (own_not (r j hj) hb h2)⟩
theorem grownBy_setAt (W : World) (b i : Nat) (v : Value) : W.grownBy (W.setCell ⟨b, i, none⟩ v) (some b) :=
  ⟨rfl, rfl, rfl, (KeepsWalks.setCell W _ v).size, fun k _ hk => Below.heap_setCell _ _ _ k (fun e => hk (by rw [e]))⟩
theorem own_from {w : World} {base base' n : Nat} {e : TypeId} {v : Value} {xs : List Value} (h : w.ownsRow base e 1 v n xs) (hb : base' ≤ base) : w.ownsRow base' e 1 v n xs := by
  obtain ⟨h1, h2⟩ := h
  refine ⟨h1, ?_⟩
  rcases h2 with h2 | ⟨g, cap, cur, rfl, h3, h4⟩
  · exact .inl h2
  · exact .inr ⟨g, cap, cur, rfl, Nat.le_trans hb h3, h4⟩
/-- A copy of a desk on the way: the desk's block, the result's, the copy's b. -/
structure Cp (w0 : World) (b : Nat) (x p Y : Value) (row : List Int) (rows : List (List Int)) (pv : Value) (W : World) : Prop where
  below : Below w0.heap.size w0 W
  box : W.heap[w0.heap.size]? = some (.cells #[x, p] 26 (0, 0))
  res : W.heap[w0.heap.size + 1]? = some (.cells #[.slice none 0 0, .slice none 0 0] 26 (0, 0))
  lt : w0.heap.size + 2 ≤ b
  out : W.heap[b]? = some (.cells #[Y, pv] 26 (0, 0))
  now : W.ownsRow (w0.heap.size + 2) 3 1 Y row.length (row.map (Value.int .i64))
  past : OwnSS W (w0.heap.size + 2) pv rows
theorem Cp.more {w0 : World} {b : Nat} {x p Y : Value} {row : List Int} {rows : List (List Int)} {pv : Value} {W V : World} (h : Cp w0 b x p Y row rows pv W) (hV : Below W.heap.size W V) : Cp w0 b x p Y row rows pv V where
  below := h.below.trans (hV.mono h.below.size)
  box := (hV.block _ (Array.getElem?_eq_some_iff.1 h.box).1).trans h.box
  res := (hV.block _ (Array.getElem?_eq_some_iff.1 h.res).1).trans h.res
  lt := h.lt
  out := (hV.block _ (Array.getElem?_eq_some_iff.1 h.out).1).trans h.out
  now := own_below h.now hV
  past := h.past.below hV
theorem Cp.grown {w0 : World} {b : Nat} {x p Y : Value} {row : List Int} {rows rows' : List (List Int)} {pv v' : Value} {V V' : World} (h : Cp w0 b x p Y row rows pv V) (hg : V.grownBy V' pv.ownBlock) (hn : OwnSS V' (w0.heap.size + 2) v' rows') : Cp w0 b x p Y row rows' v' (V'.setCell ⟨b, 1, none⟩ v') := by
  have hp := h.past
  obtain ⟨us, _, ho, _⟩ := h.past
  have n0 : pv.ownBlock ≠ some w0.heap.size := own_old ho (by omega)
  have n1 : pv.ownBlock ≠ some (w0.heap.size + 1) := own_old ho (by omega)
  have n2 : pv.ownBlock ≠ some b := own_not ho h.out (by decide)
  have l0 := (Array.getElem?_eq_some_iff.1 h.box).1
  have l1 := (Array.getElem?_eq_some_iff.1 h.res).1
  have l2 := (Array.getElem?_eq_some_iff.1 h.out).1
  have k0 := (hg.block _ l0 (fun e => n0 e.symm)).trans h.box
  have k1 := (hg.block _ l1 (fun e => n1 e.symm)).trans h.res
  have k2 := (hg.block _ l2 (fun e => n2 e.symm)).trans h.out
  have hs := grownBy_setAt V' b 1 v'
  have hlt := h.lt
  have hnow : V'.ownsRow (w0.heap.size + 2) 3 1 Y row.length (row.map (Value.int .i64)) := h.now.kept hg (own_apart h.now ho)
  refine ⟨?_, (hs.block _ (Array.getElem?_eq_some_iff.1 k0).1 (fun e => by injection e with e; omega)).trans k0, (hs.block _ (Array.getElem?_eq_some_iff.1 k1).1 (fun e => by injection e with e; omega)).trans k1, h.lt, set_cells k2 1 v', own_kept hnow hs (own_not hnow k2 (by decide)), hn.kept k2 (by decide) (by decide) hs⟩
  exact (h.below.grown hg h.below.size (fun k e => by have := ho.lt k e; omega)).setCell (p := ⟨b, 1, none⟩) (by show w0.heap.size ≤ b; omega) _

theorem Cp.at_ {w0 : World} {b : Nat} {x p Y : Value} {row : List Int} {rows : List (List Int)} {pv : Value} {V V' : World} (h : Cp w0 b x p Y row rows pv V) (hg : V.grownBy V' pv.ownBlock) : V'.heap[b]? = some (.cells #[Y, pv] 26 (0, 0)) := by
  obtain ⟨us, _, ho, _⟩ := h.past
  exact (hg.block _ (Array.getElem?_eq_some_iff.1 h.out).1 (fun e => own_not ho h.out (by decide) e.symm)).trans h.out
theorem row_at {W : World} {b : Nat} {x y : Value} {t : TypeId} (h : W.heap[b]? = some (.cells #[x, y] t (0, 0))) : W.cell? ⟨b, 0, none⟩ = some x ∧ W.cell? ⟨b, 1, none⟩ = some y ∧ W.frozen? ⟨b, 0, none⟩ = false ∧ W.frozen? ⟨b, 1, none⟩ = false :=
  ⟨by unfold World.cell?; rw [h]; rfl, by unfold World.cell?; rw [h]; rfl, by unfold World.frozen?; rw [h]; rfl, by unfold World.frozen?; rw [h]; rfl⟩
theorem OwnSS.form {W : World} {base : Nat} {v : Value} {rows : List (List Int)} (h : OwnSS W base v rows) : ∃ a c, v = .slice a rows.length c := by
  obtain ⟨us, l, o, _⟩ := h
  obtain ⟨a, c, rfl⟩ := own_form o
  exact ⟨a, c, by rw [l]⟩
theorem desk_set {W : World} {B : Nat} {x y : Value} (h : W.heap[B]? = some (.cells #[x, y] 26 (0, 0))) (u v : Value) :
    ((W.setCell ⟨B, 0, none⟩ u).setCell ⟨B, 1, none⟩ v).heap[B]? = some (.cells #[u, v] 26 (0, 0)) := set_cells (set_cells h 0 _) 1 _
theorem results_desk {fn : Func} {p : Tmp} (h : fn.results = #[.cell p 26]) (tmps : Array Value) (w : World) (B : Nat) (u v : Value) (hp : tmps.getD p undef = .pointer (some ⟨B, 0, none⟩))
    (hb : w.heap[B]? = some (.cells #[u, v] 26 (0, 0))) : (results fn tmps).run Try.prog w = .ok (.agg #[u, v]) w := by
  have hl : (loadVar 26 ⟨B, 0, none⟩).run Try.prog w = .ok (.agg #[u, v]) w := run_loadVar_row w B _ 26 #[u, v] (0, 0) _ hb Try.underlying26 rfl (by kernel_rfl)
  have hp' : tmps[p]?.getD undef = .pointer (some ⟨B, 0, none⟩) := by simpa using hp
  simp [results, h, hp', asAddr, hl]
theorem OwnSS.old {W W' : World} {base b : Nat} {v : Value} {rows : List (List Int)} (h : OwnSS W base v rows) (hb : b < base) (hg : W.grownBy W' (some b)) : OwnSS W' base v rows := by
  obtain ⟨us, l, o, r⟩ := h
  exact ⟨us, l, own_kept o hg (own_old o hb), fun j hj => own_kept (r j hj) hg (own_old (r j hj) hb)⟩
theorem OwnSS.down {W : World} {base base' : Nat} {v : Value} {rows : List (List Int)} (h : OwnSS W base v rows) (hb : base' ≤ base) : OwnSS W base' v rows := by
  obtain ⟨us, l, o, r⟩ := h
  exact ⟨us, l, own_from o hb, fun j hj => own_from (r j hj) hb⟩

/-- What is known behind the append of a round: the rows, and the field's address. -/
def cpPh (base b : Nat) (rows : List (List Int)) (k : Nat) (v : Value) (V : World) : Prop := (k = 10 → OwnSS V base v rows) ∧ (k = 11 → v = .pointer (some ⟨b, 1, none⟩))
def cpP (base b : Nat) (rows : List (List Int)) (ks : List Kd) (c : Bool) (k : Nat) (v : Value) (V : World) : Prop := match c with | true => cpPh base b rows k v V | false => (kdAt ks k).holds v V
def cpC (W : World) (row : Option Nat) (c : Bool) (V : World) : Prop := match c with | true => ∃ V0, Below W.heap.size W V0 ∧ V0.grownBy V row | false => Below W.heap.size W V
theorem cpP.mono {base b : Nat} {rows : List (List Int)} {ks : List Kd} (c : Bool) (k : Nat) (v : Value) (V V' : World) (h : cpP base b rows ks c k v V) (hB : Below V.heap.size V V') : cpP base b rows ks c k v V' := by
  cases c with
  | false => exact Kd.mono _ h hB
  | true => exact ⟨fun e => (h.1 e).below hB, h.2⟩

set_option maxRecDepth 100000 in
set_option maxHeartbeats 2000000 in
theorem specCopy (x p : Value) (d : Dk) (w : World) (hx : Ints w x d.1) (hp : PastI w p d.2) (hb : deskB d = true) : Calls Try.prog 41 #[.agg #[x, p]] w fun e w' =>
    ∃ y q, e = .returned (.agg #[y, q]) ∧ w'.ownsRow w.heap.size 3 1 y d.1.length (d.1.map (Value.int .i64)) ∧ OwnSS w' w.heap.size q d.2 ∧ Below w.heap.size w w' := by
  obtain ⟨hd1, hd2, hd3⟩ := deskB_is.1 hb
  have hl := sideB_len hd2
  obtain ⟨row, past⟩ := d
  simp only at hd1 hd2 hd3 hl hx hp ⊢
  obtain ⟨gx, cx, rfl, hgx, hcx⟩ := hx.cells hl.1
  refine (callsIn_wide (n := 9)).1 ?_
  refine callsIn_of_wp Try.func41 rfl trivial ?_ rfl
  simp only [Try.ntmps41, List.size_toArray, List.length_cons, List.length_nil, Nat.reduceAdd, Nat.reduceSub, Array.replicate_succ, Array.replicate_zero, List.push_toArray, List.append_toArray, List.nil_append, List.cons_append]
  obtain ⟨wa, hwa⟩ : ∃ wa, ((w.alloc (.cells #[.slice (some ⟨gx, 0, none⟩) row.length cx, p] 26)).alloc (.cells #[.slice none 0 0, .slice none 0 0] 26)).alloc (.cells #[] 3) = wa := ⟨_, rfl⟩
  have hBa : Below w.heap.size w wa := by rw [← hwa]; exact (((Below.refl _ w).alloc (Nat.le_refl _) _).alloc (by rw [World.size_alloc]; omega) _).alloc (by rw [World.size_alloc, World.size_alloc]; omega) _
  have hcxa : ∀ i, i < row.length → wa.cell? ⟨gx, i, none⟩ = some (.int .i64 (row.getD i 0)) := fun i hi => (hBa.cell (p := ⟨gx, i, none⟩) hgx).trans (hcx i hi)
  have hsz : wa.heap.size = w.heap.size + 3 := by rw [← hwa]; simp
  have hmade : wa.ownsRow (w.heap.size + 2) 3 1 (.slice (some ⟨w.heap.size + 2, 0, none⟩) 0 0) 0 [] := by
    have h := World.ownsRow_made (base := w.heap.size + 2) (e := 3) (size := 1) ((w.alloc (.cells #[.slice (some ⟨gx, 0, none⟩) row.length cx, p] 26)).alloc (.cells #[.slice none 0 0, .slice none 0 0] 26)) #[] 0 (by simp) (by decide) rfl
    rw [hwa] at h
    simpa using h
  have hbox : wa.heap[w.heap.size]? = some (.cells #[.slice (some ⟨gx, 0, none⟩) row.length cx, p] 26 (0, 0)) := by
    rw [← hwa]
    exact (Below.heap_alloc _ _ _ (by rw [World.size_alloc, World.size_alloc]; omega)).trans ((Below.heap_alloc _ _ _ (by rw [World.size_alloc]; omega)).trans (World.alloc_heap_new w _))
  have hres : wa.heap[w.heap.size + 1]? = some (.cells #[.slice none 0 0, .slice none 0 0] 26 (0, 0)) := by
    rw [← hwa]
    refine (Below.heap_alloc _ _ _ (by rw [World.size_alloc, World.size_alloc]; omega)).trans ?_
    have h := World.alloc_heap_new (w.alloc (.cells #[.slice (some ⟨gx, 0, none⟩) row.length cx, p] 26)) (.cells #[.slice none 0 0, .slice none 0 0] 26)
    rw [World.size_alloc] at h
    exact h
  have b0 : wa.cell? ⟨w.heap.size, 0, none⟩ = some (.slice (some ⟨gx, 0, none⟩) row.length cx) := by unfold World.cell?; rw [hbox]; rfl
  have b1 : wa.cell? ⟨w.heap.size, 1, none⟩ = some p := by unfold World.cell?; rw [hbox]; rfl
  gi_wp2_with (gi_at_builtin; go_loud (refine append_row_in rfl _ _ rfl (w.heap.size + 2) _ 0 [] rfl hmade gx row.length cx row rfl rfl hcxa (by omega) (by omega) ?_; intro y w2 hy hg2; replace hg2 : wa.grownBy w2 (some (w.heap.size + 2)) := hg2; rw [Nat.zero_add, List.nil_append] at hy; obtain ⟨ay, cy, rfl⟩ := own_form hy; obtain ⟨e0, e1, e2, e3⟩ := desk_new (w := w2) (a := .slice none 0 0) (b := .slice none 0 0) (t := 26)))
  have hBg : Below w.heap.size w w2 := hBa.grown hg2 hBa.size (fun k e => by injection e with e; omega)
  have hsz2 := hg2.size
  have hC : Cp w w2.heap.size (.slice (some ⟨gx, 0, none⟩) row.length cx) p (.slice ay row.length cy) row (past.take 0) (.slice none 0 0) (w2.alloc (.cells #[.slice ay row.length cy, .slice none 0 0] 26)) := by
    refine ⟨hBg.alloc hBg.size _, ?_, ?_, by omega, World.alloc_heap_new w2 _, hy.alloc _, OwnSS.nil ⟨by simp, .inl ⟨rfl, rfl⟩⟩⟩
    · rw [Below.heap_alloc _ _ _ (by omega)]
      exact (hg2.block _ (by omega) (fun e => by injection e with e; omega)).trans hbox
    · rw [Below.heap_alloc _ _ _ (by omega)]
      exact (hg2.block _ (by omega) (fun e => by injection e with e; omega)).trans hres
  generalize w2.alloc (.cells #[.slice ay row.length cy, .slice none 0 0] 26) = W3 at *
  generalize w2.heap.size = b at *
  clear hbox hres b0 b1 hy hg2 hsz2 hBg hmade hsz hcxa hBa hwa
  obtain ⟨a, c, rfl, hrows⟩ := id hp
  gi_loopw [4] (fun i wr => ∃ k : Nat, k ≤ past.length ∧ i = .int .i64 k ∧ ∃ pv, Cp w b (.slice (some ⟨gx, 0, none⟩) row.length cx) (.slice a past.length c) (.slice ay row.length cy) row (past.take k) pv wr) (fun i _ => past.length - (intOf i).toNat)
  case atStart => exact ⟨0, by omega, rfl, _, hC⟩
  case round =>
    obtain ⟨k, hk, rfl, pv, hCk⟩ := hrel
    have b1 : wr.cell? ⟨w.heap.size, 1, none⟩ = some (.slice a past.length c) := by unfold World.cell?; rw [hCk.box]; rfl
    by_cases hlt : k < past.length
    · have hki : (k : Int) < (past.length : Int) := by omega
      obtain ⟨G, o, rfl, hG, hc⟩ := hrows (by omega)
      have hsk : sideB (past.getD k []) = true := hd1 _ (by rw [List.getD, List.getElem?_eq_getElem hlt]; exact List.getElem_mem hlt)
      have hlk := sideB_len hsk
      have htake : past.take (k + 1) = past.take k ++ [past.getD k []] := by
        rw [List.take_add_one, List.getElem?_eq_getElem hlt, List.getD, List.getElem?_eq_getElem hlt]; rfl
      obtain ⟨u, huc, hu⟩ := hc k hlt
      obtain ⟨gu, cu, rfl, hgu, hcu⟩ := hu.cells hlk.1
      obtain ⟨R, hR⟩ : ∃ R, past.getD k [] = R := ⟨_, rfl⟩
      rw [hR] at hcu huc hlk htake
      have hG2 := Nat.lt_of_lt_of_le hG hCk.below.size
      have hgu2 := Nat.lt_of_lt_of_le hgu hCk.below.size
      have huc2 := (hCk.below.cell (p := ⟨G, o + k, none⟩) hG).trans huc
      have hcu2 : ∀ i, i < R.length → wr.cell? ⟨gu, i, none⟩ = some (.int .i64 (R.getD i 0)) := fun i hi => (hCk.below.cell (p := ⟨gu, i, none⟩) hgu).trans (hcu i hi)
      have hwb := hCk.below.size
      have hblt := hCk.lt
      have hbs := (Array.getElem?_eq_some_iff.1 hCk.out).1
      have hCk' := hide hCk
      clear hCk huc hu hcu hsk hR hcx hx
      gi_wp2
      refine wpIn_region_two 10 12 (by kernel_rfl) (by kernel_rfl) (by kernel_rfl) (by decide) (by decide)
        (fun s => { tmps := #[.agg #[.slice (some ⟨gx, 0, none⟩) row.length cx, .slice (some ⟨G, o, none⟩) past.length c], .pointer (some ⟨w.heap.size, 0, none⟩), .pointer (some ⟨w.heap.size + 1, 0, none⟩), .pointer (some ⟨b, 0, none⟩), .int .i64 k, .slice (some ⟨w.heap.size + 1 + 1, 0, none⟩) 0 0, .pointer (some ⟨w.heap.size, 0, none⟩), .slice (some ⟨gx, 0, none⟩) row.length cx, .slice ay row.length cy, .agg #[.slice ay row.length cy, .slice none 0 0], .int .i64 k, .pointer (some ⟨w.heap.size, 1, none⟩), .slice (some ⟨G, o, none⟩) past.length c, .int .i64 past.length, .bool true, u15, u16, s 0, s 1, s 2, s 3, s 4, s 5, s 6, s 7, s 8, s 9, s 10, s 11, undef], defers := [] })
        (cpC wr pv.ownBlock) (fun V V' => Below V.heap.size V V')
        (cpP (w.heap.size + 2) b (past.take (k + 1)) [.val (.pointer (some ⟨b, 1, none⟩)), .val pv, .cells 0 [], .val (.pointer (some ⟨w.heap.size, 1, none⟩)), .val (.slice (some ⟨G, o, none⟩) past.length c), .val (.int .i64 k), .val (.pointer (some ⟨G, o + k, none⟩)), .val (.slice (some ⟨gu, 0, none⟩) R.length cu), .own (w.heap.size + 2) R.length (R.map (Value.int .i64)), .oneOwn (w.heap.size + 2) R.length (R.map (Value.int .i64)), .val undef, .val (.pointer (some ⟨b, 1, none⟩))])
        ⟨fun j => #[u17, u18, u19, u20, u21, u22, u23, u24, u25, u26, u27, u28].getD j undef, rfl⟩ ?put (Below.refl _ _).drew cpP.mono ?step ?mid ?tail
      case put =>
        intro i o s v hi ho
        rcases (show i = 0 ∨ i = 1 ∨ i = 2 ∨ i = 3 ∨ i = 4 ∨ i = 5 ∨ i = 6 ∨ i = 7 ∨ i = 8 ∨ i = 9 ∨ i = 10 ∨ i = 11 by omega) with rfl | rfl | rfl | rfl | rfl | rfl | rfl | rfl | rfl | rfl | rfl | rfl
        all_goals
          simp at ho
          subst ho
          simp [Act.put]
      case step =>
        rintro ph i op s V hi hip hneed ho hV hd Q' hQ
        rcases (show i = 0 ∨ i = 1 ∨ i = 2 ∨ i = 3 ∨ i = 4 ∨ i = 5 ∨ i = 6 ∨ i = 7 ∨ i = 8 ∨ i = 9 ∨ i = 11 by omega) with rfl | rfl | rfl | rfl | rfl | rfl | rfl | rfl | rfl | rfl | rfl
        all_goals
          simp at ho
          subst ho
          simp [Act.put] at hQ
          have hQ' := hide hQ
          clear hQ
        case inl =>
          cases ph with
          | true => cases ((hneed rfl).symm.trans (by kernel_rfl) : false = true)
          | false =>
            have hV1 : Below wr.heap.size wr V := hV
            clear hd hV
            gi_wp2
            exact hQ'.out _ _ hV1 (Below.refl _ _) rfl
        case inr.inl =>
          cases ph with
          | true => cases ((hneed rfl).symm.trans (by kernel_rfl) : false = true)
          | false =>
            have hV1 : Below wr.heap.size wr V := hV
            have e1 : s 0 = .pointer (some ⟨b, 1, none⟩) := hd 0 (by kernel_rfl)
            have hcc : V.cell? ⟨b, 1, none⟩ = some pv := by unfold World.cell?; rw [(hCk'.out.more hV1).out]; rfl
            clear hd hV
            gi_wp2
            exact hQ'.out _ _ hV1 (Below.refl _ _) rfl
        case inr.inr.inl =>
          cases ph with
          | true => cases ((hneed rfl).symm.trans (by kernel_rfl) : false = true)
          | false =>
            have hV1 : Below wr.heap.size wr V := hV
            clear hd hV
            gi_wp2
            exact hQ'.out _ _ (hV1.alloc hV1.size _) ((Below.refl _ V).alloc (Nat.le_refl _) _) ⟨V.heap.size, rfl, by simp, fun j u h => by simp at h⟩
        case inr.inr.inr.inl =>
          cases ph with
          | true => cases ((hneed rfl).symm.trans (by kernel_rfl) : false = true)
          | false =>
            have hV1 : Below wr.heap.size wr V := hV
            clear hd hV
            gi_wp2
            exact hQ'.out _ _ hV1 (Below.refl _ _) rfl
        case inr.inr.inr.inr.inl =>
          cases ph with
          | true => cases ((hneed rfl).symm.trans (by kernel_rfl) : false = true)
          | false =>
            have hV1 : Below wr.heap.size wr V := hV
            have e1 : s 3 = .pointer (some ⟨w.heap.size, 1, none⟩) := hd 3 (by kernel_rfl)
            have hcc : V.cell? ⟨w.heap.size, 1, none⟩ = some (.slice (some ⟨G, o, none⟩) past.length c) := by unfold World.cell?; rw [(hCk'.out.more hV1).box]; rfl
            clear hd hV
            gi_wp2
            exact hQ'.out _ _ hV1 (Below.refl _ _) rfl
        case inr.inr.inr.inr.inr.inl =>
          cases ph with
          | true => cases ((hneed rfl).symm.trans (by kernel_rfl) : false = true)
          | false =>
            have hV1 : Below wr.heap.size wr V := hV
            clear hd hV
            gi_wp2
            exact hQ'.out _ _ hV1 (Below.refl _ _) rfl
        case inr.inr.inr.inr.inr.inr.inl =>
          cases ph with
          | true => cases ((hneed rfl).symm.trans (by kernel_rfl) : false = true)
          | false =>
            have hV1 : Below wr.heap.size wr V := hV
            have e1 : s 4 = .slice (some ⟨G, o, none⟩) past.length c := hd 4 (by kernel_rfl)
            have e2 : s 5 = .int .i64 k := hd 5 (by kernel_rfl)
            clear hd hV
            gi_wp2
            exact hQ'.out _ _ hV1 (Below.refl _ _) rfl
        case inr.inr.inr.inr.inr.inr.inr.inl =>
          cases ph with
          | true => cases ((hneed rfl).symm.trans (by kernel_rfl) : false = true)
          | false =>
            have hV1 : Below wr.heap.size wr V := hV
            have e1 : s 6 = .pointer (some ⟨G, o + k, none⟩) := hd 6 (by kernel_rfl)
            have hcc := (hV1.cell (p := ⟨G, o + k, none⟩) hG2).trans huc2
            clear hd hV
            gi_wp2
            exact hQ'.out _ _ hV1 (Below.refl _ _) rfl
        case inr.inr.inr.inr.inr.inr.inr.inr.inl =>
          cases ph with
          | true => cases ((hneed rfl).symm.trans (by kernel_rfl) : false = true)
          | false =>
            have hV1 : Below wr.heap.size wr V := hV
            obtain ⟨q, e1, hq, _⟩ : ∃ q, s 2 = .slice (some ⟨q, 0, none⟩) 0 0 ∧ q < V.heap.size ∧ ∀ j u, ([] : List Value)[j]? = some u → V.cell? ⟨q, j, none⟩ = some u := hd 2 (by kernel_rfl)
            have e2 : s 7 = .slice (some ⟨gu, 0, none⟩) R.length cu := hd 7 (by kernel_rfl)
            have hcV : ∀ i, i < R.length → V.cell? ⟨gu, i, none⟩ = some (.int .i64 (R.getD i 0)) := fun i hi => (hV1.cell (p := ⟨gu, i, none⟩) hgu2).trans (hcu2 i hi)
            clear hd hV
            have hVs := hV1.size
            refine append_copy_in rfl _ _ rfl (w.heap.size + 2) ⟨q, 0, none⟩ e1 gu R.length cu R e2 rfl hcV hlk.1 (by omega) (by omega) ?_
            intro v' w' how hBw
            gi_wp2
            have hr := hQ'.out
            rw [e1, e2] at hr
            exact hr _ _ (hV1.trans (hBw.mono hVs)) hBw how
        case inr.inr.inr.inr.inr.inr.inr.inr.inr.inl =>
          cases ph with
          | true => cases ((hneed rfl).symm.trans (by kernel_rfl) : false = true)
          | false =>
            have hV1 : Below wr.heap.size wr V := hV
            have e1 : V.ownsRow (w.heap.size + 2) 3 1 (s 8) R.length (R.map (Value.int .i64)) := hd 8 (by kernel_rfl)
            clear hd hV
            obtain ⟨ar, cr, er⟩ := own_form e1
            rw [er] at e1
            gi_wp2
            exact hQ'.out _ _ (hV1.alloc hV1.size _) ((Below.refl _ V).alloc (Nat.le_refl _) _) ⟨V.heap.size, .slice ar R.length cr, rfl, by simp, (Boxed.new V 23 (.slice ar R.length cr)).cell, e1.alloc _⟩
        case inr.inr.inr.inr.inr.inr.inr.inr.inr.inr =>
          cases ph with
          | true =>
            clear hd
            gi_wp2
            exact hQ'.out _ _ hV (Below.refl _ _) ⟨fun e => (by cases e), fun _ => rfl⟩
          | false =>
            have hV1 : Below wr.heap.size wr V := hV
            clear hd hV
            gi_wp2
            exact hQ'.out _ _ hV1 (Below.refl _ _) rfl
      case mid =>
        rintro op s V ho hV hd Q' hQ
        have hV1 : Below wr.heap.size wr V := hV
        simp at ho
        subst ho
        simp [Act.put] at hQ
        have hQ' := hide hQ
        clear hQ
        have e1 : s 1 = pv := hd 1 (by kernel_rfl)
        obtain ⟨q, u, e9, hq, hcq, hu⟩ : ∃ q u, s 9 = .slice (some ⟨q, 0, none⟩) 1 1 ∧ q < V.heap.size ∧ V.cell? ⟨q, 0, none⟩ = some u ∧ V.ownsRow (w.heap.size + 2) 3 1 u R.length (R.map (Value.int .i64)) := hd 9 (by kernel_rfl)
        clear hd hV
        obtain ⟨us, hul, huo, hur⟩ := (hCk'.out.more hV1).past
        have hus : us.length ≤ 8 := by rw [hul, List.length_take]; omega
        have hVs := hV1.size
        refine append_slice_in rfl _ _ rfl (by obtain ⟨ar, cr, rfl⟩ := own_form hu; rfl) (w.heap.size + 2) pv us.length us e1 huo q e9 hcq (by omega) (by omega) ?_
        intro v' w' how hgr
        gi_wp2
        have hr := hQ'.out
        rw [e1, e9] at hr
        refine hr _ _ ⟨V, hV1, hgr⟩ (fun k x hk h => ⟨fun e => absurd e hk, fun e => (by subst e; exact h)⟩) ⟨fun _ => ?_, fun e => (by cases e)⟩
        rw [htake]
        exact OwnSS.push hul huo hur hu how hgr
      case tail =>
        rintro s V ⟨V0, hV0, hgr⟩ hd
        have e10 : OwnSS V (w.heap.size + 2) (s 10) (past.take (k + 1)) := (hd 10 (by omega)).1 rfl
        have e11 : s 11 = .pointer (some ⟨b, 1, none⟩) := (hd 11 (by omega)).2 rfl
        clear hd
        have hnew := (hCk'.out.more hV0).grown hgr e10
        obtain ⟨c0, c1, f0, f1⟩ := row_at ((hCk'.out.more hV0).at_ hgr)
        obtain ⟨a', c', e'⟩ := e10.form
        rw [List.length_take, Nat.min_eq_left (by omega)] at e'
        rw [e'] at hnew
        have hnew' := hide hnew
        clear hnew e10 hgr hV0 hCk'
        simp only [List.drop_succ_cons, List.drop_zero]
        gi_wp2
        go_roundw
        case rel => exact ⟨k + 1, by omega, by go_num, _, hnew'.out⟩
        case measure => simp [intOf]; omega
    · obtain rfl : k = past.length := by omega
      have hki : ¬ ((past.length : Nat) : Int) < (past.length : Int) := by omega
      rw [List.take_length] at hCk
      obtain ⟨c0, c1, f0, f1⟩ := row_at hCk.out
      obtain ⟨r0, r1, g0, g1⟩ := row_at hCk.res
      obtain ⟨a', c', e'⟩ := hCk.past.form
      subst e'
      have hres := desk_set hCk.res (.slice ay row.length cy) (.slice a' past.length c')
      have hCk' := hide hCk
      clear hCk hcx hx hrows
      gi_wp2
      refine bodyPost_ret (results_desk rfl _ _ (w.heap.size + 1) _ _ rfl hres) rfl ⟨_, _, rfl, ?_, ?_, ?_⟩
      · have hn := hCk'.out.now
        have hn1 := own_kept hn (grownBy_setAt wr (w.heap.size + 1) 0 (.slice ay row.length cy)) (own_old hn (by omega))
        exact own_from (own_kept hn1 (grownBy_setAt _ (w.heap.size + 1) 1 (.slice a' past.length c')) (own_old hn1 (by omega))) (by omega)
      · exact ((hCk'.out.past.old (by omega) (grownBy_setAt wr (w.heap.size + 1) 0 (.slice ay row.length cy))).old (by omega) (grownBy_setAt _ (w.heap.size + 1) 1 (.slice a' past.length c'))).down (by omega)
      · exact (hCk'.out.below.setCell (p := ⟨w.heap.size + 1, 0, none⟩) (by show w.heap.size ≤ w.heap.size + 1; omega) _).setCell (p := ⟨w.heap.size + 1, 1, none⟩) (by show w.heap.size ≤ w.heap.size + 1; omega) _
end Go.Proofs.Ytimnhedjapakhaa
