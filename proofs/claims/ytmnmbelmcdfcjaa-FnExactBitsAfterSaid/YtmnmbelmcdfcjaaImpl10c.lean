/-
  The program's ComesAgain at every argument.
-/
import Derived.Test.YtmnmbelmcdfcjaaImpl10b
import Derived.Test.YtmnmbelmcdfcjaaSpec10d
namespace Go.Proofs.Ytmnmbelmcdfcjaa
open Go.RowKit Go.Shelf Go.Maps
attribute [local go_sem] Oper.semAt_some

/-- A map by circles that reads as D. -/
abbrev CirM (w : World) (b n : Nat) (D : DataW Unit) : Prop := w.ownsMap Try.prog 47 (plainElem Try.prog 3) b n D
/-- What a ring after so many rounds reads as. -/
noncomputable def kyL (f : Nat → Nat) (n j : Nat) : Lit := (keyOf Try.prog 47 (crV (cz (dR f j) n) n)).getD (.bool false)
theorem kyL_of {f : Nat → Nat} {n : Nat} (hf : ∀ k, f k ≤ 100) (hn : n ≤ 8) (j : Nat) : keyOf Try.prog 47 (crV (cz (dR f j) n) n) = some (kyL f n j) := by
  obtain ⟨l, hl⟩ := key_circle (cz (dR f j) n) n (cz_small (hundred hf j) n) (by omega)
  unfold kyL
  rw [hl]; rfl
theorem kyL_same {f : Nat → Nat} {n : Nat} (hf : ∀ k, f k ≤ 100) (hn : n ≤ 8) (j r : Nat) : kyL f n j = kyL f n r ↔ Same f n r j := by
  constructor
  · intro e q hq
    have h1 := kyL_of hf hn j
    rw [e] at h1
    have := key_inj h1 (kyL_of hf hn r) q (by omega)
    rwa [cz_in hq, cz_in hq] at this
  · intro h
    have : crV (cz (dR f j) n) n = crV (cz (dR f r) n) n := by
      unfold crV
      rw [crA_congr n (fun i _ => show cz (dR f j) n i = cz (dR f r) n i by
        unfold cz
        split
        · exact h i (by assumption)
        · rfl)]
    unfold kyL
    rw [this]
/-- The rings that were seen. -/
noncomputable def mapD (kl : Nat → Lit) : Nat → DataW Unit
  | 0 => .map []
  | r + 1 => (mapD kl r).put (kl r) (.lit (.int .i64 r))
theorem mapD_is (kl : Nat → Lit) : ∀ r, IsMap (mapD kl r)
  | 0 => isMap_empty
  | r + 1 => (mapD_is kl r).put _ _
theorem mapD_none (kl : Nat → Lit) (k : Lit) (z : DataW Unit) : ∀ r, (∀ j, j < r → kl j ≠ k) → has (mapD kl r) k = false ∧ (mapD kl r).atKey k z = z
  | 0, _ => ⟨rfl, rfl⟩
  | r + 1, h => by
    obtain ⟨h1, h2⟩ := mapD_none kl k z r (fun j hj => h j (by omega))
    have hne : k ≠ kl r := fun e => h r (by omega) e.symm
    exact ⟨(has_put_other hne _).trans h1, (atKey_put_other hne _ _).trans h2⟩
theorem mapD_some (kl : Nat → Lit) (z : DataW Unit) (j : Nat) (hk : WideAt.IsKeyLit (kl j)) : ∀ r, j < r → (∀ i, j < i → i < r → kl i ≠ kl j) → has (mapD kl r) (kl j) = true ∧ (mapD kl r).atKey (kl j) z = .lit (.int .i64 j)
  | 0, h, _ => by omega
  | r + 1, h, hd => by
    by_cases e : j = r
    · subst e
      exact ⟨has_put_same (mapD_is kl j) hk _, atKey_put_same (mapD_is kl j) hk _ _⟩
    · obtain ⟨h1, h2⟩ := mapD_some kl z j hk r (by omega) (fun i hi hi2 => hd i hi (by omega))
      have hne : kl j ≠ kl r := fun e2 => hd r (by omega) (by omega) e2.symm
      exact ⟨(has_put_other hne _).trans h1, (atKey_put_other hne _ _).trans h2⟩
theorem look_int (w : World) {b n : Nat} {D : DataW Unit} (h : CirM w b n D) {v : Value} {k : Lit} (hk : keyOf Try.prog 47 v = some k) :
    ∃ c, (Instr.lookup 59 (.map (some b)) v true).run Try.prog w = .ok (.tuple #[.int .i64 c, .bool (has D k)]) w ∧ D.atKey k (.lit (.int .i64 0)) = .lit (.int .i64 c) := by
  have hz : ∀ W : World, (zeroValue 3).run Try.prog W = .ok (.int .i64 0) W := fun W => by kernel_rfl
  obtain ⟨v, ps, h1, h2⟩ := World.ownsMap.look_ok h keyedCircle Try.underlying59 (hz w) (plainElem_int Try.underlying3 (by decide)) hk
  obtain ⟨c, rfl, h3, _⟩ := plainElem_int_inv Try.underlying3 h2
  exact ⟨c, h1, by simpa using congrArg Prod.fst h3⟩
theorem update_int (w : World) {b n : Nat} {D : DataW Unit} (h : CirM w b n D) (hn : n < 1000000) {v : Value} {k : Lit} (hk : keyOf Try.prog 47 v = some k) (r : Nat) (hr : r ≤ 1000000) :
    ∃ w', (Instr.mapUpdate 59 (.map (some b)) v (.int .i64 r)).run Try.prog w = .ok () w' ∧ CirM w' b (n + 1) (D.put k (.lit (.int .i64 r))) ∧ w.grownBy w' (some b) :=
  World.ownsMap.update h keyedCircle Try.underlying59 (by unfold maxLen; omega) hk (plainElem_int Try.underlying3 (wf_small hr))

theorem grown_none_alloc {W W' : World} (h : W.grownBy W' none) (o : Obj) : W.grownBy (W'.alloc o) none :=
  let g := World.grownBy_alloc W' o none
  ⟨g.os.trans h.os, g.tape.trans h.tape, g.output.trans h.output, Nat.le_trans h.size g.size, fun k hk hn => (g.block k (Nat.lt_of_lt_of_le hk h.size) hn).trans (h.block k hk hn)⟩
/-- What is known while rings are seen: x of them. -/
structure AgHd (B M : Nat) (f : Nat → Nat) (n : Nat) (w W : World) (x : Nat) : Prop where
  b2 : Boxed W B 3 (.int .i64 0)
  b3 : Boxed W (B + 1) 3 (.int .i64 0)
  b4 : Boxed W (B + 1 + 1) 4 (.bool false)
  b5 : Boxed W (M + 1) 59 (.map (some M))
  map : CirM W M x (mapD (kyL f n) x)
  first : ∀ s, s < x → ∀ k, k < s → ¬ Same f n s k
  below : Below B w W
  lo : B + 1 + 1 < M
theorem AgHd.kept {B M : Nat} {f : Nat → Nat} {n : Nat} {w W W' : World} {x : Nat} {row : Option Nat} (h : AgHd B M f n w W x) (hg : W.grownBy W' row) (hr : ∀ k, row = some k → M + 1 < k) : AgHd B M f n w W' x :=
  ⟨h.b2.kept hg (fun e => by have := hr _ e.symm; have := h.lo; omega), h.b3.kept hg (fun e => by have := hr _ e.symm; have := h.lo; omega), h.b4.kept hg (fun e => by have := hr _ e.symm; have := h.lo; omega),
    h.b5.kept hg (fun e => by have := hr _ e.symm; omega), h.map.kept hg (fun e => by have := hr _ e.symm; omega), h.first, h.below.grown hg (Nat.le_of_lt h.b2.lt) (fun k e => by have := hr _ e; have := h.lo; omega), h.lo⟩

set_option maxRecDepth 100000 in
set_option maxHeartbeats 1000000 in
theorem implAgain_in (v : Value) (xs : List Int) (w : World) (hv : Ints w v xs) (hs : ringB xs = true) : Calls Try.prog 33 #[v] w fun e w' => e = .returned (.tuple #[.int .i64 (againI xs), .int .i64 (againJ xs), .bool (againB xs)]) ∧ Below w.heap.size w w' := by
  have hlen := ringB_len hs
  obtain ⟨V0, hV0⟩ : ∃ V0, ((w.alloc (.cells #[.int .i64 0] 3)).alloc (.cells #[.int .i64 0] 3)).alloc (.cells #[.bool false] 4) = V0 := ⟨_, rfl⟩
  have hB0 : Below w.heap.size w V0 := by rw [← hV0]; exact (((Below.refl _ w).alloc (Nat.le_refl _) _).alloc (by simp) _).alloc (by simp; omega) _
  have h2 : Boxed V0 w.heap.size 3 (.int .i64 0) := by rw [← hV0]; exact ((Boxed.new w _ _).alloc _).alloc _
  have h3 : Boxed V0 (w.heap.size + 1) 3 (.int .i64 0) := by rw [← hV0]; exact (box_at _ _ (by simp)).alloc _
  have h4 : Boxed V0 (w.heap.size + 1 + 1) 4 (.bool false) := by rw [← hV0]; exact box_at _ _ (by simp)
  have hS := implRing v xs V0 (hv.below hB0) (by omega)
  rw [hs] at hS
  have hO := fun w1 (hB : Below w.heap.size w w1) => circleOf_in v xs w1 (hv.below hB) hs
  have hf := ringF_le hs
  have hp := ringF_per (xs := xs)
  have hsome : ∀ r j : Nat, r ≤ 2000 → j < r → Same (ringF xs) xs.length r j → (∀ s, s < r → ∀ k, k < s → ¬ Same (ringF xs) xs.length s k) → againI xs = r ∧ againJ xs = (r : Int) - j ∧ againB xs = true := fun r j h1 h2 h3 h4 => by
    have hj : r - 1 - (r - 1 - j) = j := by omega
    have := again_at hs (r := r) (i := r - 1 - j) h1 (by omega) (by rw [hj]; exact h3) (fun i hi hsm => h4 (r - 1 - i) (by omega) j (by omega) (fun q hq => (h3 q hq).trans (hsm q hq).symm)) h4
    rwa [show ((r - 1 - j + 1 : Nat) : Int) = (r : Int) - j by omega] at this
  have hnone := fun h3 => again_none hs h3
  have hsome' := hide hsome
  have hnone' := hide hnone
  clear hv hs hsome hnone
  generalize againI xs = I at *
  generalize againJ xs = J at *
  generalize againB xs = E at *
  generalize ringF xs = f at *
  generalize xs.length = n at *
  have hmm := @run_makeMap Try.prog
  refine (callsIn_wide (n := 9)).1 ?_
  refine callsIn_of_wp_marks Try.func33 rfl trivial ?_ rfl
  simp only [Try.ntmps33, List.size_toArray, List.length_cons, List.length_nil, Nat.reduceAdd, Nat.reduceSub, Array.replicate_succ, Array.replicate_zero, List.push_toArray, List.append_toArray, List.nil_append, List.cons_append]
  have hD := fun w => roundsTo_in (cz f n) n 2000 w
  gi_wp2_with (first
    | (refine ⟨trivial, ?_⟩; gi_at_call 16; refine (callsIn_wide.2 hS).mono ?_; clear hS; go_loud (rintro e w1 ⟨rfl, hB1⟩; have hB1' := hB0.trans (hB1.mono hB0.size); have hB2' := ((hB1'.alloc hB1'.size (.map #[] 0)).alloc (by simp; have := hB1'.size; omega) (.cells #[.map (some w1.heap.size)] 59))))
    | (refine ⟨trivial, ?_⟩; gi_at_call 44; refine (callsIn_wide.2 (hO _ hB2')).mono ?_; clear hO; rintro e w4 ⟨rfl, hB4⟩)
    | (refine ⟨trivial, ?_⟩; gi_at_call 49; refine (callsIn_wide.2 (hD _)).mono ?_; clear hD; rintro e w' ⟨rfl, rfl⟩))
  obtain ⟨W0, hW0⟩ : ∃ W0, (w4.alloc (Obj.cells (crA (cz f n) n) 47)).alloc (Obj.cells #[Value.int IntKind.i64 2000] 3) = W0 := ⟨_, rfl⟩
  have hC0 : CrAt W0 w4.heap.size (cz f n) n := by rw [← hW0]; exact (CrAt.new w4 _ _).alloc _
  have hL0 : Boxed W0 (w4.heap.size + 1) 3 (.int .i64 (2000 : Nat)) := by
    rw [← hW0]
    have := Boxed.new (w4.alloc (Obj.cells (crA (cz f n) n) 47)) 3 (.int .i64 2000)
    rwa [World.size_alloc] at this
  obtain ⟨W3, hW3⟩ : ∃ W3, (w1.alloc (Obj.map #[] 0)).alloc (Obj.cells #[Value.map (some w1.heap.size)] 59) = W3 := ⟨_, rfl⟩
  have hg3 : w1.grownBy W3 none := by rw [← hW3]; exact grown_none_alloc (World.grownBy_alloc w1 _ none) _
  rw [hW3] at hB4 hB2'
  have hg4 : W3.grownBy w4 none := ⟨hB4.os, hB4.tape, hB4.output, hB4.size, fun b hb _ => hB4.block b hb⟩
  have hg0 : w4.grownBy W0 none := by rw [← hW0]; exact grown_none_alloc (World.grownBy_alloc w4 _ none) _
  have k2 : Boxed W0 w.heap.size 3 (.int .i64 0) := (((show Boxed w1 w.heap.size 3 (.int .i64 0) from (hB1.block _ h2.lt).trans h2).kept hg3 (by simp)).kept hg4 (by simp)).kept hg0 (by simp)
  have k3 : Boxed W0 (w.heap.size + 1) 3 (.int .i64 0) := (((show Boxed w1 (w.heap.size + 1) 3 (.int .i64 0) from (hB1.block _ h3.lt).trans h3).kept hg3 (by simp)).kept hg4 (by simp)).kept hg0 (by simp)
  have k4 : Boxed W0 (w.heap.size + 1 + 1) 4 (.bool false) := (((show Boxed w1 (w.heap.size + 1 + 1) 4 (.bool false) from (hB1.block _ h4.lt).trans h4).kept hg3 (by simp)).kept hg4 (by simp)).kept hg0 (by simp)
  have k5 : Boxed W0 (w1.heap.size + 1) 59 (.map (some w1.heap.size)) := ((show Boxed W3 (w1.heap.size + 1) 59 (.map (some w1.heap.size)) by rw [← hW3]; exact box_at _ _ (by simp)).kept hg4 (by simp)).kept hg0 (by simp)
  have kM : CirM W0 w1.heap.size 0 (mapD (kyL f n) 0) := ((show CirM W3 w1.heap.size 0 (mapD (kyL f n) 0) by rw [← hW3]; exact (World.ownsMap_made w1 Try.prog 47 (plainElem (H := Unit) Try.prog 3)).alloc _).kept hg4 (by simp)).kept hg0 (by simp)
  have hBx : Below w.heap.size w w4 := hB2'.trans (hB4.mono hB2'.size)
  have hB0' : Below w.heap.size w W0 := hBx.grown hg0 hBx.size (fun _ e => by cases e)
  have hsz0 : w4.heap.size + 1 < W0.heap.size := by rw [← hW0]; simp
  have hM3 : w.heap.size + 1 + 1 < w1.heap.size := Nat.lt_of_lt_of_le h4.lt hB1.size
  have hM5 : w1.heap.size + 1 < w4.heap.size := Nat.lt_of_lt_of_le (by rw [← hW3]; simp) hB4.size
  rw [hW0]
  clear hW0 hB4 hBx hB1 hB1' hB2' hB0 h2 h3 h4 hW3 hg3 hg4 hg0 hV0 hmm
  generalize w4.heap.size = C at *
  generalize w1.heap.size = M at *
  have hky := fun j => kyL_of hf hlen.2 j
  have hsame := fun j r => kyL_same hf hlen.2 j r
  have hkey : ∀ j, WideAt.IsKeyLit (kyL f n j) := fun j => keyedCircle.key (hky j)
  refine wpIn_rangeFunc_box rfl (by omega) (gf := 58) (lb := #[.pointer (some ⟨C, 0, none⟩), .pointer (some ⟨C + 1, 0, none⟩)]) rfl trivial (enters_of Try.func58 (by kernel_rfl) rfl)
    (rounds_stops (9 - 1) C (C + 1) 2000 n f (by omega) hlen.1 hlen.2 hf hp (by omega) W0 hC0 hL0) (fun _ _ => rfl) (by omega)
    (fun ys W o h => h) (fun pre W o h => h)
    (fun pre W => AgHd w.heap.size M f n w W pre.length)
    (fun c pre W => ∃ r j : Nat, c = .ret ∧ Boxed W w.heap.size 3 (.int .i64 r) ∧ Boxed W (w.heap.size + 1) 3 (.int .i64 ((r : Int) - j)) ∧ Boxed W (w.heap.size + 1 + 1) 4 (.bool true) ∧
      Hid (r ≤ 2000 ∧ j < r ∧ Same f n r j ∧ ∀ s, s < r → ∀ k, k < s → ¬ Same f n s k) ∧ Below w.heap.size w W)
    (fun s A B' row hs hg hr => hs.kept hg (fun k e => by have := hr _ e; omega))
    (fun c s A B' row hs hg hr => by
      obtain ⟨r, j, h1, h2, h3, h4, h5, h6⟩ := hs
      exact ⟨r, j, h1, h2.kept hg (fun e => by have := hr _ e.symm; omega), h3.kept hg (fun e => by have := hr _ e.symm; omega), h4.kept hg (fun e => by have := hr _ e.symm; omega), h5, h6.grown hg h6.size (fun k e => by have := hr _ e; omega)⟩)
    ⟨k2, k3, k4, k5, kM, fun s hs => (Nat.not_lt_zero _ hs).elim, hB0', by omega⟩
    (fun pre x b W => ∃ k, b = { tmps := #[v, undef, .pointer (some ⟨w.heap.size, 0, none⟩), .pointer (some ⟨w.heap.size + 1, 0, none⟩), .pointer (some ⟨w.heap.size + 1 + 1, 0, none⟩), .pointer (some ⟨M + 1, 0, none⟩), .int .i64 x, .pointer (some ⟨k, 0, none⟩), undef, undef, v, .bool true, .bool false, .map (some M), v, crV (cz f n) n,
      .func (.func 58) #[] #[.pointer (some ⟨C, 0, none⟩), .pointer (some ⟨C + 1, 0, none⟩)], .int .i64 x, crV (cz (dR f x) n) n, undef, undef, undef, undef, undef, undef, undef, undef, undef, undef, undef, undef, undef, undef], defers := [] } ∧ (CrAt W k (cz (dR f x) n) n ∧ AgHd w.heap.size M f n w W pre.length ∧ Hid (pre.length = x ∧ x ≤ 2000) ∧ W0.heap.size + 2 ≤ k))
    (fun pre x b W o ⟨k, hb, hO⟩ => ⟨k, hb, hO.1.of_block (World.putObj_heap_other (by have := hO.2.2.2; omega)), hO.2.1.kept (grownBy_putObj' W _ _) (fun q e => by cases e; omega), hO.2.2⟩) ?assign ?body ?done ?stop
  case assign =>
    rintro l pre x W Q' hlt hH ⟨hpre, hx⟩ hQ
    have hQ' := hide hQ
    clear hQ
    gi_wp2_with (refine store_crI rfl _ _ rfl W.heap.size _ _ rfl rfl (World.alloc_heap_new W _) rfl ?_; intro w6 hC6 hg6)
    have hgW := World.grownBy_alloc W (Obj.cells (crA (fun _ => 0) 0) 47) none
    have hg6' : (W.alloc (Obj.cells (crA (fun _ => 0) 0) 47)).grownBy w6 (some W.heap.size) := hg6
    exact hQ'.out _ _ ⟨Nat.le_trans hgW.size hg6'.size, fun q hq _ => (hg6'.block q (Nat.lt_of_lt_of_le hq hgW.size) (by simp; omega)).trans (hgW.block q hq (by simp))⟩
      ⟨W.heap.size, rfl, hC6, (hH.kept hgW (fun k e => by cases e)).kept hg6' (fun k e => by cases e; omega), hide ⟨by rw [hpre, List.length_range], hx⟩, by omega⟩
  case body =>
    rintro l pre x b W hlt ⟨k, rfl, hC, hH, hpx, hk⟩
    obtain ⟨hpl, hx⟩ := hpx.out
    rw [hpl] at hH
    have hpl' := hide (show (pre ++ [x]).length = x + 1 by rw [List.length_append, hpl]; rfl)
    obtain ⟨c, hl, hat⟩ := look_int W hH.map (hky x)
    have c2 := hH.b2.cell
    have c3 := hH.b3.cell
    have c4 := hH.b4.cell
    have c5 := hH.b5.cell
    have f2 := hH.b2.frozen
    have f3 := hH.b3.frozen
    have f4 := hH.b4.frozen
    have hlo := hH.lo
    have hm5 := hH.b5.lt
    by_cases hag : ∃ j, j < x ∧ Same f n x j
    · obtain ⟨j, hj, hsm⟩ := hag
      have he : kyL f n j = kyL f n x := (hsame j x).2 hsm
      obtain ⟨m1, m2⟩ := mapD_some (kyL f n) (.lit (.int .i64 0)) j (hkey j) x hj (fun i hi hi2 e => hH.first i hi2 j hi ((hsame j i).1 e.symm))
      rw [he] at m1 m2
      rw [m1] at hl
      rw [m2] at hat
      obtain rfl : (j : Int) = c := by injection hat with hat; injection hat
      have hr := hide (show x ≤ 2000 ∧ j < x ∧ Same f n x j ∧ ∀ s, s < x → ∀ k, k < s → ¬ Same f n s k from ⟨hx, hj, hsm, hH.first⟩)
      have hw : IntKind.i64.wrap ((x : Int) - (j : Int)) = (x : Int) - (j : Int) := IntWalk.i64_in _ (by omega)
      clear hat m1 m2 he hsm hpx hpl hky hsame hkey
      gi_wp2_with (refine load_crI rfl _ rfl k rfl hC ?_)
      have g2 := grown_cell W w.heap.size 0 (.int .i64 x)
      have b2 := hH.b2.set (.int .i64 x)
      have b3 := (hH.b3.kept g2 (by simp)).set (.int .i64 ((x : Int) - (j : Int)))
      have g3 := grown_cell (W.setCell ⟨w.heap.size, 0, none⟩ (.int .i64 x)) (w.heap.size + 1) 0 (.int .i64 ((x : Int) - (j : Int)))
      have b4 := ((hH.b4.kept g2 (by simp; omega)).kept g3 (by simp)).set (.bool true)
      have g4 := grown_cell ((W.setCell ⟨w.heap.size, 0, none⟩ (.int .i64 x)).setCell ⟨w.heap.size + 1, 0, none⟩ (.int .i64 ((x : Int) - (j : Int)))) (w.heap.size + 1 + 1) 0 (.bool true)
      exact ⟨(KeepsSet.of_grownBy g2 (fun r e => by cases e; omega)).trans ((KeepsSet.of_grownBy g3 (fun r e => by cases e; omega)).trans (KeepsSet.of_grownBy g4 (fun r e => by cases e; omega))), x, j, rfl, (b2.kept g3 (by simp)).kept g4 (by simp; omega), b3.kept g4 (by simp), b4, hr,
        ((hH.below.setCell (p := ⟨w.heap.size, 0, none⟩) (Nat.le_refl _) _).setCell (p := ⟨w.heap.size + 1, 0, none⟩) (by show w.heap.size ≤ w.heap.size + 1; omega) _).setCell (p := ⟨w.heap.size + 1 + 1, 0, none⟩) (by show w.heap.size ≤ w.heap.size + 1 + 1; omega) _⟩
    · obtain ⟨m1, m2⟩ := mapD_none (kyL f n) (kyL f n x) (.lit (.int .i64 0)) x (fun j hj e => hag ⟨j, hj, (hsame j x).1 e⟩)
      rw [m1] at hl
      obtain ⟨w9, hu, hM9, hg9⟩ := update_int W hH.map (by omega) (hky x) x (by omega)
      have hfirst := hide (show ∀ s, s < x + 1 → ∀ k, k < s → ¬ Same f n s k from fun s hs k hk hsm => by
        by_cases e : s = x
        · subst e; exact hag ⟨k, hk, hsm⟩
        · exact hH.first s (by omega) k hk hsm)
      have hM9' : CirM w9 M (x + 1) (mapD (kyL f n) (x + 1)) := hM9
      clear hat m1 m2 hag hpx hpl hky hsame hkey hM9
      gi_wp2_with (refine load_crI rfl _ rfl k rfl hC ?_)
      refine ⟨KeepsSet.of_grownBy hg9 (fun r e => by cases e; omega), ?_⟩
      show AgHd w.heap.size M f n w w9 (pre ++ [x]).length
      rw [hpl'.out]
      exact ⟨hH.b2.kept hg9 (by simp; omega), hH.b3.kept hg9 (by simp; omega), hH.b4.kept hg9 (by simp; omega), hH.b5.kept hg9 (by simp), hM9', hfirst.out, hH.below.grown hg9 (Nat.le_of_lt hH.b2.lt) (fun q e => by cases e; omega), hlo⟩
  case done =>
    rintro ys W hys hH hK
    obtain rfl : ys = List.range 2001 := hys
    rw [List.length_range] at hH
    obtain ⟨rfl, rfl, rfl⟩ := hnone'.out fun s hs k hk => hH.first s (by omega) k hk
    have c2 := hH.b2.cell
    have c3 := hH.b3.cell
    have c4 := hH.b4.cell
    have f2 := hH.b2.frozen
    have f3 := hH.b3.frozen
    have f4 := hH.b4.frozen
    clear hky hsame hkey hsome'
    gi_wp2
    have g2 := grown_cell W w.heap.size 0 (.int .i64 (-1))
    have b2 := hH.b2.set (.int .i64 (-1))
    have b3 := (hH.b3.kept g2 (by simp)).set (.int .i64 (-1))
    have g3 := grown_cell (W.setCell ⟨w.heap.size, 0, none⟩ (.int .i64 (-1))) (w.heap.size + 1) 0 (.int .i64 (-1))
    have b4 := ((hH.b4.kept g2 (by simp; omega)).kept g3 (by simp)).set (.bool false)
    have g4 := grown_cell ((W.setCell ⟨w.heap.size, 0, none⟩ (.int .i64 (-1))).setCell ⟨w.heap.size + 1, 0, none⟩ (.int .i64 (-1))) (w.heap.size + 1 + 1) 0 (.bool false)
    have hb2 := (b2.kept g3 (by simp)).kept g4 (by simp; omega)
    have hb3 := b3.kept g4 (by simp)
    have hB9 := ((hH.below.setCell (p := ⟨w.heap.size, 0, none⟩) (Nat.le_refl _) (.int .i64 (-1))).setCell (p := ⟨w.heap.size + 1, 0, none⟩) (by show w.heap.size ≤ w.heap.size + 1; omega) (.int .i64 (-1))).setCell (p := ⟨w.heap.size + 1 + 1, 0, none⟩) (by show w.heap.size ≤ w.heap.size + 1 + 1; omega) (.bool false)
    have hK2 := (g4.block _ (Nat.lt_of_lt_of_le (Array.getElem?_eq_some_iff.1 hK).1 (Nat.le_trans g2.size g3.size)) (by simp; omega)).trans ((g3.block _ (Nat.lt_of_lt_of_le (Array.getElem?_eq_some_iff.1 hK).1 g2.size) (by simp; omega)).trans ((g2.block _ (Array.getElem?_eq_some_iff.1 hK).1 (by simp; omega)).trans hK))
    refine ⟨by simp, .inl ⟨_, _, rfl, run_takeDeferred hK2, ?_⟩⟩
    refine ⟨_, results_three rfl _ _ rfl rfl rfl (box_int _ _ (hb2.kept (grownBy_putObj' _ _ _) (by simp; omega))) (box_int _ _ (hb3.kept (grownBy_putObj' _ _ _) (by simp; omega))) (box_bool _ _ (b4.kept (grownBy_putObj' _ _ _) (by simp; omega))), rfl, ?_⟩
    exact hB9.grown (grownBy_putObj' _ _ _) hB9.size (fun k e => by cases e; omega)
  case stop =>
    rintro cd pre W _ ⟨r, j, rfl, hx2, hx3, hx4, hr, hB⟩ hK
    obtain ⟨rfl, rfl, rfl⟩ := hsome'.out r j hr.out.1 hr.out.2.1 hr.out.2.2.1 hr.out.2.2.2
    clear hky hsame hkey hnone'
    gi_wp2
    refine ⟨by simp, .inl ⟨_, _, rfl, run_takeDeferred hK, ?_⟩⟩
    refine ⟨_, results_three rfl _ _ rfl rfl rfl (box_int _ _ (hx2.kept (grownBy_putObj' _ _ _) (by simp; omega))) (box_int _ _ (hx3.kept (grownBy_putObj' _ _ _) (by simp; omega))) (box_bool _ _ (hx4.kept (grownBy_putObj' _ _ _) (by simp; omega))), rfl, ?_⟩
    exact hB.grown (grownBy_putObj' _ _ _) hB.size (fun k e => by cases e; omega)

theorem implAgain_no (v : Value) (xs : List Int) (w : World) (hv : Ints w v xs) (hl : xs.length ≤ 10000000) (hs : ringB xs = false) : Calls Try.prog 33 #[v] w fun e w' => e = .returned (.tuple #[.int .i64 (-1), .int .i64 (-1), .bool false]) ∧ Below w.heap.size w w' := by
  obtain ⟨V0, hV0⟩ : ∃ V0, ((w.alloc (.cells #[.int .i64 0] 3)).alloc (.cells #[.int .i64 0] 3)).alloc (.cells #[.bool false] 4) = V0 := ⟨_, rfl⟩
  have hB0 : Below w.heap.size w V0 := by rw [← hV0]; exact (((Below.refl _ w).alloc (Nat.le_refl _) _).alloc (by simp) _).alloc (by simp; omega) _
  have h2 : Boxed V0 w.heap.size 3 (.int .i64 0) := by rw [← hV0]; exact ((Boxed.new w _ _).alloc _).alloc _
  have h3 : Boxed V0 (w.heap.size + 1) 3 (.int .i64 0) := by rw [← hV0]; exact (box_at _ _ (by simp)).alloc _
  have h4 : Boxed V0 (w.heap.size + 1 + 1) 4 (.bool false) := by rw [← hV0]; exact box_at _ _ (by simp)
  have hS := implRing v xs V0 (hv.below hB0) (by omega)
  rw [hs] at hS
  clear hv
  go_enter Try.func33, Try.ntmps33
  go_wp2_with (go_at_call 16; refine hS.mono ?_; clear hS; go_loud (rintro e w1 ⟨rfl, hB1⟩; have x2 : Boxed w1 w.heap.size 3 (.int .i64 0) := (hB1.block _ h2.lt).trans h2; have x3 : Boxed w1 (w.heap.size + 1) 3 (.int .i64 0) := (hB1.block _ h3.lt).trans h3; have x4 : Boxed w1 (w.heap.size + 1 + 1) 4 (.bool false) := (hB1.block _ h4.lt).trans h4; have c2 := x2.cell; have c3 := x3.cell; have c4 := x4.cell; have f2 := x2.frozen; have f3 := x3.frozen; have f4 := x4.frozen))
  have g2 := grown_cell w1 w.heap.size 0 (.int .i64 (-1))
  have b2 := x2.set (.int .i64 (-1))
  have b3 := (x3.kept g2 (by simp)).set (.int .i64 (-1))
  have g3 := grown_cell (w1.setCell ⟨w.heap.size, 0, none⟩ (.int .i64 (-1))) (w.heap.size + 1) 0 (.int .i64 (-1))
  have b4 := ((x4.kept g2 (by simp; omega)).kept g3 (by simp)).set (.bool false)
  have g4 := grown_cell ((w1.setCell ⟨w.heap.size, 0, none⟩ (.int .i64 (-1))).setCell ⟨w.heap.size + 1, 0, none⟩ (.int .i64 (-1))) (w.heap.size + 1 + 1) 0 (.bool false)
  refine bodyPost_ret (results_three rfl _ _ rfl rfl rfl (box_int _ _ ((b2.kept g3 (by simp)).kept g4 (by simp; omega))) (box_int _ _ (b3.kept g4 (by simp))) (box_bool _ _ b4)) rfl ⟨rfl, ?_⟩
  exact (((hB0.trans (hB1.mono hB0.size)).setCell (p := ⟨w.heap.size, 0, none⟩) (Nat.le_refl _) (.int .i64 (-1))).setCell (p := ⟨w.heap.size + 1, 0, none⟩) (by show w.heap.size ≤ w.heap.size + 1; omega) (.int .i64 (-1))).setCell (p := ⟨w.heap.size + 1 + 1, 0, none⟩) (by show w.heap.size ≤ w.heap.size + 1 + 1; omega) (.bool false)
theorem implAgain (v : Value) (xs : List Int) (w : World) (hv : Ints w v xs) (_hlies : Lies v) (hl : xs.length ≤ 10000000) : Calls Try.prog 33 #[v] w fun e w' => e = .returned (.tuple #[.int .i64 (againI xs), .int .i64 (againJ xs), .bool (againB xs)]) ∧ Below w.heap.size w w' := by
  cases hs : ringB xs with
  | true => exact implAgain_in v xs w hv hs
  | false =>
    have h := implAgain_no v xs w hv hl hs
    obtain ⟨e1, e2, e3⟩ := again_no hs
    rw [e1, e2, e3]
    exact h
end Go.Proofs.Ytmnmbelmcdfcjaa
