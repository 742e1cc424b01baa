/-
  slices.AppendSeq and slices.Collect of an iterator of numbers that ends: the numbers that it hands out, in a row of one's own.
-/
import Derived.Test.YtammmcffbfkgjaaImpl2
import Derived.OwnWalkIn
namespace Go.Proofs.Ytammmcffbfkgjaa
open Go.RowKit Go.Shelf
attribute [local go_sem] Oper.semAt_some

/-- 'append(s, z)' of one number inside a fence. -/
theorem append_one_in {F : Fence} {k : Nat} {ops : Array Oper} {rest : List Oper} {o : Oper} {a : Act} {Q : Exit → Act → World → Prop} {w : World} {z : Int} (hgd : o.guard = none) (s x : Operand)
    (ho : o.op = .call { callee := .builtin .append, args := #[s, x], argTypes := #[25, 25] })
    (base : Nat) (v : Value) (n : Nat) (xs : List Value) (hs : a.eval s = v) (hown : w.ownsRow base 3 1 v n xs) (hx : a.eval x = .slice (some ⟨w.heap.size, 0, none⟩) 1 1)
    (hn : n ≤ 1000000000) (hbase : base ≤ w.heap.size)
    (h : ∀ v' w', w'.ownsRow base 3 1 v' (n + 1) (xs ++ [.int .i64 z]) → (w.alloc (.cells #[.int .i64 z] 3)).grownBy w' v.ownBlock → wpListIn F k Try.prog ops Q rest (a.put o.dst v') w') :
    wpListIn F k Try.prog ops Q (o :: rest) a (w.alloc (.cells #[.int .i64 z] 3)) := by
  obtain ⟨i0, hi, hz0, hz1, hz2⟩ := info_parts Try.infoInt
  refine wpListIn_append_own _ hgd s x 25 ho base 3 i0 (.int .i64 0) 1 8 Try.underlying25 hi hz0 hz1 hz2 rfl (by decide) v n xs hs (hown.alloc _) ⟨w.heap.size, 0, none⟩ 1 1 [.int .i64 z] hx rfl ?_ ?_ ?_ ?_ ?_ ?_
  · intro j u hj
    match j, hj with
    | 0, hj => simp at hj; subst hj; simp [Addr.add]
  · intro u hu; simp at hu; subst hu; rfl
  · unfold maxLen; omega
  · omega
  · simp; omega
  · intro v' w' h1 h2 _; exact h v' w' h1 h2

theorem ownsRow_grown {w w' : World} {base n : Nat} {v : Value} {xs : List Value} {row : Option Nat} (h : w.ownsRow base 3 1 v n xs) (hg : w.grownBy w' row) (hr : ∀ k, v.ownBlock = some k → row ≠ some k) : w'.ownsRow base 3 1 v n xs := by
  obtain ⟨h1, h2⟩ := h
  refine ⟨h1, ?_⟩
  rcases h2 with hn | ⟨g, cap, cur, rfl, hb, hgb, rest⟩
  · exact .inl hn
  · exact .inr ⟨g, cap, cur, rfl, hb, (hg.block g (Array.getElem?_eq_some_iff.1 hgb).1 (fun e => hr g rfl e.symm)).trans hgb, rest⟩

set_option maxRecDepth 100000 in
set_option maxHeartbeats 1000000 in
theorem appendSeq_in {α : Type} (val : α → Int) (gf : Nat) (lb : Array Value) (m : Nat) (Hd : Nat → List α → α → World → Prop) (K : Nat → Nat → Prop) (S : Nat → List α → World → Prop) (w : World)
    (eg : ∀ args w, (callFunc gf args).run Try.prog w = .ok (.enter gf args) w)
    (hseq : ∀ W, Below w.heap.size w W → SeqMem Fence.wide 8 Try.prog gf lb m (fun _ x => #[.int .i64 (val x)]) Hd K S (fun _ _ _ => True) W)
    (hK : ∀ n0 k, K n0 k → n0 ≤ k ∧ k < n0 + m)
    (hHd : ∀ n0 b pre x W o, b < n0 → Hd n0 pre x W → Hd n0 pre x (W.putObj b o))
    (hHl : ∀ n0 pre x W, Hd n0 pre x W → pre.length ≤ 1000000000 ∧ n0 + m ≤ W.heap.size)
    (hS : ∀ n0 b xs W o, b < n0 → S n0 xs W → S n0 xs (W.putObj b o))
    (xs : List α) (hxs : ∀ n0 ys W, S n0 ys W → ys = xs) :
    Calls Try.prog 44 #[.slice none 0 0, .func (.func gf) #[] lb] w fun e w' =>
      ∃ v, e = .returned v ∧ w'.ownsRow w.heap.size 3 1 v xs.length (xs.map fun x => Value.int .i64 (val x)) ∧ Below w.heap.size w w' := by
  refine (callsIn_wide (n := 9)).1 ?_
  refine callsIn_of_wp_marks Try.func44 rfl trivial ?_ rfl
  simp only [Try.ntmps44, List.size_toArray, List.length_cons, List.length_nil, Nat.reduceAdd, Nat.reduceSub, Array.replicate_succ, Array.replicate_zero, List.push_toArray, List.append_toArray, List.nil_append, List.cons_append]
  gi_wp2
  obtain ⟨W0, hW0⟩ : ∃ W0, (w.alloc (Obj.cells #[Value.slice none 0 0] 25)) = W0 := ⟨_, rfl⟩
  have hsz1 : W0.heap.size ≤ w.heap.size + 1 := by rw [← hW0]; simp
  have hsz2 : w.heap.size + 1 ≤ W0.heap.size := by rw [← hW0]; simp
  have hbs : Boxed W0 w.heap.size 25 (.slice none 0 0) := by rw [← hW0]; exact Boxed.new w _ _
  have hbel : Below w.heap.size w W0 := by rw [← hW0]; exact (Below.refl _ w).alloc (Nat.le_refl _) _
  rw [hW0]
  clear hW0
  refine wpIn_rangeFunc_mem rfl (by omega) (gf := gf) (lb := lb) rfl trivial eg
    (hseq W0 hbel) (fun _ _ => rfl) (fun h => by have := hK _ _ h; omega)
    (fun pre x W o h => hHd _ _ _ _ _ _ (by omega) h) (fun ys W o h => hS _ _ _ _ _ (by omega) h) (fun pre W o h => h)
    (fun pre W => ∃ v, Boxed W w.heap.size 25 v ∧ W.ownsRow (W0.heap.size + 2 + m) 3 1 v pre.length (pre.map fun x => Value.int .i64 (val x)) ∧ Below w.heap.size w W) (fun _ _ _ => False)
    (fun s A B row hs hg hr => by
      obtain ⟨v, h1, h2, h3⟩ := hs
      exact ⟨v, h1.kept hg (fun e => by have := hr _ e.symm; omega), ownsRow_grown h2 hg (fun k hk e => by have := hr _ e; have := (h2.lt k hk).1; omega), h3.grown hg h3.size (fun k e => by have := hr _ e; omega)⟩)
    (fun _ _ _ _ _ hs _ _ => hs) ⟨_, hbs, World.ownsRow_nil _ _ _ _, hbel⟩
    (fun x => { tmps := #[.slice none 0 0, .func (.func gf) #[] lb, .pointer (some ⟨w.heap.size, 0, none⟩), undef, .slice none 0 0, .int .i64 (val x), .func (.func gf) #[] lb, .int .i64 (val x), undef, undef, undef, undef, undef], defers := [] }) ?assign ?body ?done ?stop
  case assign =>
    intro l x W Q hQ
    gi_wp2
    exact hQ
  case body =>
    rintro l pre x W hlt ⟨v, hbx, hown, hB⟩ hhd
    obtain ⟨hpl, hsz⟩ := hHl _ _ _ _ hhd
    have hc := hbx.cell
    have hf := hbx.frozen
    obtain ⟨z, hz⟩ : ∃ z, val x = z := ⟨_, rfl⟩
    rw [hz]
    gi_wp2_with (gi_at_builtin; go_loud (refine append_one_in rfl _ _ rfl (W0.heap.size + 2 + m) v _ _ rfl hown rfl (by omega) (by omega) ?_; intro v' w1 hown' hgrow; obtain ⟨g', cap', rfl, _, _, _, _⟩ := owns_open hown' (by omega); have hb1 := (hbx.alloc (.cells #[.int .i64 z] 3)).kept hgrow (fun e => by have := (hown.lt _ e.symm).1; omega); have hc1 := hb1.cell; have hf1 := hb1.frozen))
    have hgk : KeepsSet (fun k => k = W0.heap.size ∨ k = W0.heap.size + 1 ∨ K (W0.heap.size + 2) k) W w1 :=
      (KeepsSet.alloc _ W _).trans (KeepsSet.of_grownBy hgrow (fun r e h => by
        have h1 := (hown.lt r e).1
        rcases h with h | h | h
        · omega
        · omega
        · have := hK _ _ h; omega))
    have hB1 : Below w.heap.size w w1 := (hB.alloc hB.size _).grown hgrow (by have := hB.size; simp; omega) (fun k hk => by have := (hown.lt k hk).1; omega)
    refine ⟨hgk.trans (KeepsSet.setCell _ _ _ (fun h => by
        rcases h with h | h | h
        · omega
        · omega
        · have := hK _ _ h; omega)), _, hb1.set _, ?_, hB1.setCell (p := ⟨w.heap.size, 0, none⟩) (Nat.le_refl _) _⟩
    rw [List.length_append, List.map_append, List.map_cons, hz]
    exact ownsRow_grown hown' (grownBy_setCell' w1 w.heap.size _) (fun k hk e => by cases e; have := (hown'.lt _ hk).1; omega)
  case done =>
    rintro ys W hys ⟨v, hbx, hown, hB⟩ hK
    obtain rfl : ys = xs := hxs _ _ _ hys
    have hc := hbx.cell
    gi_wp2
    refine ⟨by simp, .inl ⟨_, _, rfl, run_takeDeferred hK, ?_⟩⟩
    refine ⟨_, results_tmp rfl _ _ _, v, rfl, owns_from (ownsRow_putObj hown _ hK rfl) (by omega), ?_⟩
    exact hB.grown (grownBy_putObj' W _ _) hB.size (fun k e => by cases e; omega)
  case stop =>
    rintro c pre W _ h _
    exact h.elim
end Go.Proofs.Ytammmcffbfkgjaa
