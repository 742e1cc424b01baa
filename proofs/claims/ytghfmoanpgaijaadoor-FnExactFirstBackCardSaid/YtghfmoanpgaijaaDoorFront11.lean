/-
  The program's FirstBack: the first place at which a way is at the beginning again.
-/
import Derived.Test.YtghfmoanpgaijaaDoorHts11
namespace Go.Proofs.YtghfmoanpgaijaaDoor
open Go.RowKit Go.Shelf
attribute [local go_sem] Oper.semAt_some

theorem loadBox {t : TypeId} {B : Nat} {v : Value} {w : World} (ht : (match Tryd.prog.underlying t with | some (.struct _) | some (.array _ _) => false | some _ => true | none => false) = true) (hb : Boxed w B t v) :
    (loadVar t ⟨B, 0, none⟩).run Tryd.prog w = .ok v w := by
  have hc := hb.cell
  have ha : (isAgg t).run Tryd.prog w = .ok false w := by
    unfold isAgg
    cases hu : Tryd.prog.underlying t with
    | none => rw [hu] at ht; cases ht
    | some d =>
      rw [Sem.run_bind, run_underlying hu w]
      rw [hu] at ht
      cases d <;> simp_all [Result.andThen]
  simp [loadVar, Sem.run_bind, ha, Result.andThen, hc]
theorem rcell_three {fn : Func} {p q r : Tmp} {t u s : TypeId} (h : fn.results = #[.cell p t, .cell q u, .cell r s]) (tmps : Array Value) (w : World) {B C D : Nat} {v z y : Value} (hp : tmps.getD p undef = .pointer (some ⟨B, 0, none⟩)) (hq : tmps.getD q undef = .pointer (some ⟨C, 0, none⟩)) (hr : tmps.getD r undef = .pointer (some ⟨D, 0, none⟩))
    (hB : (loadVar t ⟨B, 0, none⟩).run Tryd.prog w = .ok v w) (hC : (loadVar u ⟨C, 0, none⟩).run Tryd.prog w = .ok z w) (hD : (loadVar s ⟨D, 0, none⟩).run Tryd.prog w = .ok y w) : (results fn tmps).run Tryd.prog w = .ok (.tuple #[v, z, y]) w := by
  have hp' : tmps[p]?.getD undef = .pointer (some ⟨B, 0, none⟩) := by simpa using hp
  have hq' : tmps[q]?.getD undef = .pointer (some ⟨C, 0, none⟩) := by simpa using hq
  have hr' : tmps[r]?.getD undef = .pointer (some ⟨D, 0, none⟩) := by simpa using hr
  simp [results, h, hp', hq', hr', asAddr, hB, hC, hD, Sem.run_bind, Result.andThen]
theorem box_new_at {W : World} {k : Nat} (t : TypeId) (v : Value) (h : W.heap.size = k) : Boxed (W.alloc (.cells #[v] t)) k t v := h ▸ Boxed.new W t v
/-- Three stores into three boxes. -/
theorem box_three {W : World} {B C D : Nat} {t u s : TypeId} {v z y : Value} (hB : Boxed W B t v) (hC : Boxed W C u z) (hD : Boxed W D s y) (h1 : B ≠ C) (h2 : B ≠ D) (h3 : C ≠ D) (v' z' y' : Value) :
    Boxed (((W.setCell ⟨B, 0, none⟩ v').setCell ⟨C, 0, none⟩ z').setCell ⟨D, 0, none⟩ y') B t v' ∧ Boxed (((W.setCell ⟨B, 0, none⟩ v').setCell ⟨C, 0, none⟩ z').setCell ⟨D, 0, none⟩ y') C u z' ∧ Boxed (((W.setCell ⟨B, 0, none⟩ v').setCell ⟨C, 0, none⟩ z').setCell ⟨D, 0, none⟩ y') D s y' := by
  have b1 : Boxed (W.setCell ⟨B, 0, none⟩ v') B t v' := hB.set v'
  have c1 : Boxed (W.setCell ⟨B, 0, none⟩ v') C u z := hC.kept (grownBy_setCell' W B v') (by simp; exact fun e => h1 e.symm)
  have d1 : Boxed (W.setCell ⟨B, 0, none⟩ v') D s y := hD.kept (grownBy_setCell' W B v') (by simp; exact fun e => h2 e.symm)
  have b2 := b1.kept (grownBy_setCell' _ C z') (by simp; exact h1)
  have c2 := c1.set z'
  have d2 := d1.kept (grownBy_setCell' _ C z') (by simp; exact fun e => h3 e.symm)
  exact ⟨b2.kept (grownBy_setCell' _ D y') (by simp; exact h2), c2.kept (grownBy_setCell' _ D y') (by simp; exact h3), d2.set y'⟩
theorem below_three {W w : World} {n B C D : Nat} {v z y : Value} (h : Below n w W) (hB : n ≤ B) (hC : n ≤ C) (hD : n ≤ D) : Below n w (((W.setCell ⟨B, 0, none⟩ v).setCell ⟨C, 0, none⟩ z).setCell ⟨D, 0, none⟩ y) :=
  ((h.setCell (p := ⟨B, 0, none⟩) hB _).setCell (p := ⟨C, 0, none⟩) hC _).setCell (p := ⟨D, 0, none⟩) hD _
theorem ldStr (B : Nat) (v : Value) {w : World} (hb : Boxed w B 9 v) : (loadVar 9 ⟨B, 0, none⟩).run Tryd.prog w = .ok v w := loadBox (by kernel_rfl) hb
theorem ldBool (B : Nat) (v : Value) {w : World} (hb : Boxed w B 4 v) : (loadVar 4 ⟨B, 0, none⟩).run Tryd.prog w = .ok v w := loadBox (by kernel_rfl) hb

/-- Where a way is at the beginning first again, and what is inside and behind. -/
theorem front_at {l : List Nat} (hk : wayL l = true) : (l = [] ∧ frontB l = false) ∨
    (∃ p, 1 ≤ p ∧ p < l.length ∧ hgt l (p + 1) = 0 ∧ (∀ q, q < p → hgt l (q + 1) ≠ 0) ∧ (str l).extract 1 p = str (frontA l) ∧ (str l).extract (p + 1) l.length = str (frontR l) ∧ frontB l = true) := by
  by_cases h0 : 0 < l.length
  · right
    have hg : frontB l = true := by unfold frontB; rw [hk, decide_eq_true h0]; rfl
    obtain ⟨r, hl, h1, h13, eA, eR⟩ := front_is hg
    have hh1 : hgt l 1 = (0 : Nat) + 1 := by
      rw [hgt_succ l 0 h0, hgt_zero, hl]; rfl
    obtain ⟨p, hp1, hp2, hp3, hp4, hp5, hp6⟩ := back_at r 0 1 l h1 (by rw [hl]; rfl) hh1 (by rw [hl, List.length_cons]; omega)
    refine ⟨p, hp1, hp2, hp3, fun q hq => ?_, ?_, ?_, hg⟩
    · by_cases e : q = 0
      · subst e; rw [hh1]; omega
      · exact hp4 q (by omega) hq
    · rw [str_cut, eA, hp5]
    · rw [str_cut, eR, hp6, List.take_of_length_le (by rw [List.length_drop]; omega)]
  · left
    have : l = [] := List.eq_nil_of_length_eq_zero (by omega)
    refine ⟨this, ?_⟩
    unfold frontB
    rw [decide_eq_false h0, Bool.and_false]
theorem strClone_in (s : ByteArray) (w : World) (h : s.size ≤ 281474976710656) : Calls Tryd.prog 39 #[.string s] w fun e w' => e = .returned (.string s) ∧ Below w.heap.size w w' := by
  have hC := Any.stringslite_Clone Tryd.cloneA s w h
  go_enter Tryd.func39, Tryd.ntmps39
  go_wp2_with (go_at_call 53; refine hC.mono ?_; clear hC; rintro e w1 ⟨rfl, hB⟩)
  go_ret
  exact ⟨rfl, hB⟩

theorem clone_ok {Z A : ByteArray} {a b : Nat} (h : Z.extract a b = A) (hs : Z.size ≤ 1000) : ∀ V, Calls Tryd.prog 39 #[.string A] V fun e w' => e = .returned (.string A) ∧ Below V.heap.size V w' := fun V =>
  strClone_in A V (by rw [← h, ByteArray.size_extract]; omega)

set_option maxRecDepth 100000 in
set_option maxHeartbeats 1000000 in
theorem implFirstBack (l : List Nat) (hl : ∀ x ∈ l, x < 256) (hn : l.length ≤ 1048576) (w : World) : Calls Tryd.prog 23 #[.string (str l)] w fun e w' => e = .returned (.tuple #[.string (str (frontA l)), .string (str (frontR l)), .bool (frontB l)]) ∧ Below w.heap.size w w' := by
  have hW := implWayOk l hl hn
  refine (callsIn_wide (n := 9)).1 ?_
  refine callsIn_of_wp_marks Tryd.func23 rfl trivial ?_ rfl
  simp only [Tryd.ntmps23, List.size_toArray, List.length_cons, List.length_nil, Nat.reduceAdd, Nat.reduceSub, Array.replicate_succ, Array.replicate_zero, List.push_toArray, List.append_toArray, List.nil_append, List.cons_append]
  obtain ⟨w0, hw0⟩ : ∃ w0, (((w.alloc (.cells #[.string (str l)] 9)).alloc (.cells #[.string ⟨#[]⟩] 9)).alloc (.cells #[.string ⟨#[]⟩] 9)).alloc (.cells #[.bool false] 4) = w0 := ⟨_, rfl⟩
  have b0 : Boxed w0 w.heap.size 9 (.string (str l)) := by rw [← hw0]; exact (((Boxed.new w _ _).alloc _).alloc _).alloc _
  have b1 : Boxed w0 (w.heap.size + 1) 9 (.string ⟨#[]⟩) := by rw [← hw0]; exact ((box_new_at _ _ (by simp)).alloc _).alloc _
  have b2 : Boxed w0 (w.heap.size + 1 + 1) 9 (.string ⟨#[]⟩) := by rw [← hw0]; exact (box_new_at _ _ (by simp)).alloc _
  have b3 : Boxed w0 (w.heap.size + 1 + 1 + 1) 4 (.bool false) := by rw [← hw0]; exact box_new_at _ _ (by simp)
  have hB0 : Below w.heap.size w w0 := by rw [← hw0]; exact ((((Below.refl _ w).alloc (Nat.le_refl _) _).alloc (by simp) _).alloc (by simp; omega) _).alloc (by simp; omega) _
  have hs0 : w0.heap.size ≤ w.heap.size + 4 := by rw [← hw0]; simp
  have hs1 : w.heap.size + 4 ≤ w0.heap.size := by rw [← hw0]; simp
  cases hk : wayL l with
  | false =>
    have hbad : frontB l = false := by unfold frontB; rw [hk, Bool.false_and]
    obtain ⟨e1, e2⟩ := front_bad hbad
    have e1' := hide e1
    have e2' := hide e2
    have hbad' := hide hbad
    rw [hk] at hW
    have hc0 := b0.cell
    clear e1 e2 hbad
    gi_wp2_with (refine ⟨trivial, ?_⟩; gi_at_call 11; refine (callsIn_wide.2 (hW _)).mono ?_; clear hW; rintro e w1 ⟨rfl, hB⟩; have x1 : Boxed w1 (w.heap.size + 1) 9 (.string ⟨#[]⟩) := (hB.block _ b1.lt).trans b1; have x2 : Boxed w1 (w.heap.size + 1 + 1) 9 (.string ⟨#[]⟩) := (hB.block _ b2.lt).trans b2; have x3 : Boxed w1 (w.heap.size + 1 + 1 + 1) 4 (.bool false) := (hB.block _ b3.lt).trans b3; have c1 := x1.cell; have c2 := x2.cell; have c3 := x3.cell; have f1 := x1.frozen; have f2 := x2.frozen; have f3 := x3.frozen)
    obtain ⟨k1, k2, k3⟩ := box_three x1 x2 x3 (by omega) (by omega) (by omega) (.string ⟨#[]⟩) (.string ⟨#[]⟩) (.bool false)
    exact ⟨_, rcell_three rfl _ _ rfl rfl rfl (ldStr _ _ k1) (ldStr _ _ k2) (ldBool _ _ k3), by rw [e1'.out, e2'.out, hbad'.out]; rfl, below_three (hB0.trans (hB.mono hB0.size)) (by omega) (by omega) (by omega)⟩
  | true =>
    obtain ⟨hok, hl14, hex⟩ := wayL_is hk
    clear hex
    rw [hk] at hW
    have hfront := front_at hk
    have hsz := str_size l
    have hHs := fun B W (hB : Boxed W B 9 (.string (str l))) => heights_stops (9 - 1) B l hl (by omega) W hB
    obtain ⟨Z, hZ⟩ : ∃ Z, str l = Z := ⟨_, rfl⟩
    obtain ⟨A, hA⟩ : ∃ Z, str (frontA l) = Z := ⟨_, rfl⟩
    obtain ⟨R, hR⟩ : ∃ Z, str (frontR l) = Z := ⟨_, rfl⟩
    have hZe : l = [] → A = ⟨#[]⟩ ∧ R = ⟨#[]⟩ := fun h => by
      have hb : frontB l = false := by unfold frontB; rw [h]; rfl
      rw [← hA, ← hR, (front_bad hb).1, (front_bad hb).2]
      exact ⟨rfl, rfl⟩
    rw [hZ] at hsz b0 hW hHs hw0
    rw [hZ, hA, hR] at hfront
    rw [hZ, hA, hR]
    have hZe' := hide hZe
    have hf' := hide hfront
    clear hZ hA hR hfront hZe hl
    have hH := heightsOf_in Z
    have hc0 := b0.cell
    gi_wp2_with (first
      | (refine ⟨trivial, ?_⟩; gi_at_call 11; refine (callsIn_wide.2 (hW _)).mono ?_; clear hW; rintro e w1 ⟨rfl, hB⟩; have x0 : Boxed w1 w.heap.size 9 (.string Z) := (hB.block _ b0.lt).trans b0; have hc1 := x0.cell)
      | (refine ⟨trivial, ?_⟩; gi_at_call 28; refine (callsIn_wide.2 (hH _)).mono ?_; clear hH; rintro e w2 ⟨rfl, hw2⟩))
    clear hw0
    have hsB := hB.size
    have y0 : Boxed w2 w.heap.size 9 (.string Z) := by rw [← hw2]; exact x0.alloc _
    have y1 : Boxed w2 (w.heap.size + 1) 9 (.string ⟨#[]⟩) := by rw [← hw2]; exact Boxed.alloc ((hB.block _ b1.lt).trans b1) _
    have y2 : Boxed w2 (w.heap.size + 1 + 1) 9 (.string ⟨#[]⟩) := by rw [← hw2]; exact Boxed.alloc ((hB.block _ b2.lt).trans b2) _
    have y3 : Boxed w2 (w.heap.size + 1 + 1 + 1) 4 (.bool false) := by rw [← hw2]; exact Boxed.alloc ((hB.block _ b3.lt).trans b3) _
    have y4 : Boxed w2 w1.heap.size 9 (.string Z) := by rw [← hw2]; exact Boxed.new w1 _ _
    have hs2 : w2.heap.size ≤ w1.heap.size + 1 := by rw [← hw2]; simp
    have hs3 : w1.heap.size + 1 ≤ w2.heap.size := by rw [← hw2]; simp
    have hB2 : Below w.heap.size w w2 := by rw [← hw2]; exact (hB0.trans (hB.mono hB0.size)).alloc (by omega) _
    clear hw2 x0 hc1 hc0 b0 b1 b2 b3 hB hB0
    refine wpIn_rangeFunc_dyn (gf := 48) (lb := #[.pointer (some ⟨w1.heap.size, 0, none⟩)]) rfl (enters_of Tryd.func48 (by kernel_rfl) rfl)
      (hHs w1.heap.size w2 y4) (fun _ => rfl) (by omega)
      (fun U pre V => (Boxed V w.heap.size 9 (.string Z) ∧ Boxed V (w.heap.size + 1) 9 (.string ⟨#[]⟩) ∧ Boxed V (w.heap.size + 1 + 1) 9 (.string ⟨#[]⟩) ∧ Boxed V (w.heap.size + 1 + 1 + 1) 4 (.bool false)) ∧ (∀ q, q < pre.length → hgt l (q + 1) ≠ 0) ∧ Below w.heap.size w V ∧ w2.heap.size ≤ V.heap.size ∧ ∀ k, U k → w2.heap.size ≤ k)
      (fun c U pre V => c = .ret ∧ (Boxed V (w.heap.size + 1) 9 (.string A) ∧ Boxed V (w.heap.size + 1 + 1) 9 (.string R) ∧ Boxed V (w.heap.size + 1 + 1 + 1) 4 (.bool true)) ∧ frontB l = true ∧ Below w.heap.size w V ∧ w2.heap.size ≤ V.heap.size ∧ ∀ k, U k → w2.heap.size ≤ k)
      (fun U U' s A B row hs hg hr hu => by
        obtain ⟨⟨h1, h2, h3, h4⟩, h5, h6, h7, h8⟩ := hs
        have hsz := hg.size
        have hrow : ∀ r, row = some r → w2.heap.size ≤ r := fun r e => by
          rcases hr r e with (h | h) | h
          · omega
          · omega
          · exact h8 r h
        exact ⟨⟨h1.kept hg (fun e => by have := hrow _ e.symm; omega), h2.kept hg (fun e => by have := hrow _ e.symm; omega), h3.kept hg (fun e => by have := hrow _ e.symm; omega), h4.kept hg (fun e => by have := hrow _ e.symm; omega)⟩, h5, h6.grown hg h6.size (fun k e => by have := hrow _ e; omega), by omega, fun k hk => by
          rcases hu k hk with h | h
          · exact h8 k h
          · omega⟩)
      (fun c U U' s A B row hs hg hr hu => by
        obtain ⟨h0, ⟨h2, h3, h4⟩, h5, h6, h7, h8⟩ := hs
        have hsz := hg.size
        have hrow : ∀ r, row = some r → w2.heap.size ≤ r := fun r e => by
          rcases hr r e with (h | h) | h
          · omega
          · omega
          · exact h8 r h
        exact ⟨h0, ⟨h2.kept hg (fun e => by have := hrow _ e.symm; omega), h3.kept hg (fun e => by have := hrow _ e.symm; omega), h4.kept hg (fun e => by have := hrow _ e.symm; omega)⟩, h5, h6.grown hg h6.size (fun k e => by have := hrow _ e; omega), by omega, fun k hk => by
          rcases hu k hk with h | h
          · exact h8 k h
          · omega⟩)
      ⟨⟨y0, y1, y2, y3⟩, fun q hq => absurd hq (by simp), hB2, Nat.le_refl _, fun _ h => h.elim⟩
      (fun x => { tmps := #[.string Z, .pointer (some ⟨w.heap.size, 0, none⟩), .pointer (some ⟨w.heap.size + 1, 0, none⟩), .pointer (some ⟨w.heap.size + 1 + 1, 0, none⟩), .pointer (some ⟨w.heap.size + 1 + 1 + 1, 0, none⟩), .int .i64 x, .int .i64 (hgt l (x + 1)), .string Z, .bool true, .bool false, .string Z,
        .func (.func 48) #[] #[.pointer (some ⟨w1.heap.size, 0, none⟩)], .int .i64 x, .int .i64 (hgt l (x + 1)), undef, undef, undef, undef, undef, undef, undef, undef, undef, undef, undef], defers := [] }) ?assign ?body ?done ?stop
    case assign =>
      intro l' x V Q hQ
      gi_wp2
      exact hQ
    case body =>
      rintro l' U pre x post V hxs hlt hU ⟨⟨h1, h2, h3, h4⟩, h5, h6, h7, h8⟩
      obtain ⟨hx, hxl, hpre⟩ := range_split hxs
      have hpl : (pre ++ [x]).length = x + 1 := by rw [List.length_append, ← hx]; rfl
      rw [← hx] at h5
      obtain ⟨h, hh⟩ : ∃ h, hgt l (x + 1) = h := ⟨_, rfl⟩
      have hpl' := hide hpl
      have hno : ∀ b, (b = w.heap.size + 1 ∨ b = w.heap.size + 1 + 1 ∨ b = w.heap.size + 1 + 1 + 1) → ¬ (b = w2.heap.size ∨ b = w2.heap.size + 1 ∨ b = w1.heap.size ∨ U b) := fun b hb h => by
        rcases h with h | h | h | h
        · omega
        · omega
        · omega
        · have := hU _ h; omega
      clear hpl hx hxs hpre
      by_cases hz : h = 0
      · subst hz
        rcases hf'.out with ⟨hn, _⟩ | ⟨p, hp1, hp2, hp3, hp4, hp5, hp6, hp7⟩
        · rw [hn] at hxl; simp at hxl
        · have hxp : x = p := by
            rcases Nat.lt_trichotomy x p with e | e | e
            · exact absurd hh (hp4 x e)
            · exact e
            · exact absurd hp3 (h5 p e)
          subst hxp
          rw [hh]
          have hfb := hide hp7
          have hZA := clone_ok hp5 (by omega)
          have hZR := clone_ok hp6 (by omega)
          have hx1 : (1 : Int) ≤ (x : Int) := by omega
          have hx2 : (x : Int) ≤ (Z.size : Int) := by omega
          have hx3 : (x : Int) + 1 ≤ (Z.size : Int) := by omega
          have hx4 : (0 : Int) ≤ (x : Int) + 1 := by omega
          have hx5 : ((x : Int) + 1).toNat = x + 1 := by omega
          have hw1 : IntKind.i64.wrap ((x : Int) + 1) = (x : Int) + 1 := IntWalk.i64_in _ (by omega)
          clear hh hp3 hp4 hp7 hf' hZe' h5
          gi_wp2
          refine wpIn_region_kinds 9 (by kernel_rfl) (by kernel_rfl) (by kernel_rfl) (by decide)
            (fun s => { tmps := #[.string Z, .pointer (some ⟨w.heap.size, 0, none⟩), .pointer (some ⟨w.heap.size + 1, 0, none⟩), .pointer (some ⟨w.heap.size + 1 + 1, 0, none⟩), .pointer (some ⟨w.heap.size + 1 + 1 + 1, 0, none⟩), .int .i64 x, .int .i64 0, .string Z, .bool true, .bool false, .string Z,
              .func (.func 48) #[] #[.pointer (some ⟨w1.heap.size, 0, none⟩)], .int .i64 x, .int .i64 0, .int .i64 0, .bool true, s 0, s 1, s 2, s 3, s 4, s 5, s 6, s 7, s 8], defers := [] })
            [.val (.string Z), .val (.int .i64 x), .val (.string A), .val (.string A), .val (.string Z), .val (.int .i64 x), .val (.int .i64 ((x : Int) + 1)), .val (.string R), .val (.string R)]
            ⟨fun _ => undef, rfl⟩ ?put ?step ?tail
          case put =>
            intro i o s v hi ho
            rcases (show i = 0 ∨ i = 1 ∨ i = 2 ∨ i = 3 ∨ i = 4 ∨ i = 5 ∨ i = 6 ∨ i = 7 ∨ i = 8 by omega) with rfl | rfl | rfl | rfl | rfl | rfl | rfl | rfl | rfl
            all_goals
              simp at ho
              subst ho
              simp [Act.put]
          case step =>
            rintro i o s V' hi ho hV hd Q' hQ
            have hbb := (boxed_below h1 hV).cell
            rcases (show i = 0 ∨ i = 1 ∨ i = 2 ∨ i = 3 ∨ i = 4 ∨ i = 5 ∨ i = 6 ∨ i = 7 ∨ i = 8 by omega) with rfl | rfl | rfl | rfl | rfl | rfl | rfl | rfl | rfl
            all_goals
              simp at ho
              subst ho
              simp [Act.put] at hQ
              have hQ' := hide hQ
              clear hQ
            case inl =>
              clear hd hZA hZR
              gi_wp2
              have hr := hQ'.out
              exact hr _ _ (Below.refl _ _) rfl
            case inr.inl =>
              clear hd hZA hZR
              gi_wp2
              have hr := hQ'.out
              exact hr _ _ (Below.refl _ _) rfl
            case inr.inr.inl =>
              have e1 : s 0 = .string Z := hd 0 (by kernel_rfl)
              have e2 : s 1 = .int .i64 x := hd 1 (by kernel_rfl)
              clear hd hZA hZR
              gi_wp2
              first
                | exact hQ'.out _ _ (Below.refl _ _) rfl
                | (have hr := hQ'.out; rw [e1, e2] at hr; exact hr _ _ (Below.refl _ _) rfl)
            case inr.inr.inr.inl =>
              have e1 : s 2 = .string A := hd 2 (by kernel_rfl)
              have hC := hZA V'
              clear hd hZA hZR
              gi_wp2_with (refine ⟨trivial, ?_⟩; gi_at_call 39; refine (callsIn_wide.2 hC).mono ?_; clear hC; rintro e w' ⟨rfl, hB'⟩)
              have hr := hQ'.out
              rw [e1] at hr
              exact hr _ _ hB' rfl
            case inr.inr.inr.inr.inl =>
              clear hd hZA hZR
              gi_wp2
              have hr := hQ'.out
              exact hr _ _ (Below.refl _ _) rfl
            case inr.inr.inr.inr.inr.inl =>
              clear hd hZA hZR
              gi_wp2
              have hr := hQ'.out
              exact hr _ _ (Below.refl _ _) rfl
            case inr.inr.inr.inr.inr.inr.inl =>
              have e1 : s 5 = .int .i64 x := hd 5 (by kernel_rfl)
              clear hd hZA hZR
              gi_wp2
              first
                | exact hQ'.out _ _ (Below.refl _ _) rfl
                | (have hr := hQ'.out; rw [e1] at hr; exact hr _ _ (Below.refl _ _) rfl)
            case inr.inr.inr.inr.inr.inr.inr.inl =>
              have e1 : s 4 = .string Z := hd 4 (by kernel_rfl)
              have e2 : s 6 = .int .i64 ((x : Int) + 1) := hd 6 (by kernel_rfl)
              clear hd hZA hZR
              gi_wp2
              first
                | exact hQ'.out _ _ (Below.refl _ _) rfl
                | (have hr := hQ'.out; rw [e1, e2] at hr; exact hr _ _ (Below.refl _ _) rfl)
            case inr.inr.inr.inr.inr.inr.inr.inr =>
              have e1 : s 7 = .string R := hd 7 (by kernel_rfl)
              have hC := hZR V'
              clear hd hZA hZR
              gi_wp2_with (refine ⟨trivial, ?_⟩; gi_at_call 39; refine (callsIn_wide.2 hC).mono ?_; clear hC; rintro e w' ⟨rfl, hB'⟩)
              have hr := hQ'.out
              rw [e1] at hr
              exact hr _ _ hB' rfl
          case tail =>
            rintro s V' hV hd
            have e3 : s 3 = .string A := hd 3 (by omega)
            have e8 : s 8 = .string R := hd 8 (by omega)
            have g1 := boxed_below h2 hV
            have g2 := boxed_below h3 hV
            have g3 := boxed_below h4 hV
            have c1 := g1.cell
            have c2 := g2.cell
            have c3 := g3.cell
            have f1 := g1.frozen
            have f2 := g2.frozen
            have f3 := g3.frozen
            have hVs := hV.size
            obtain ⟨k1, k2, k3⟩ := box_three g1 g2 g3 (by omega) (by omega) (by omega) (.string A) (.string R) (.bool true)
            clear hd hZA hZR
            simp only [List.drop_succ_cons, List.drop_zero]
            gi_wp2
            refine ⟨(⟨hV.size, fun k hk _ => hV.block k hk⟩ : KeepsSet _ V V').trans ((KeepsSet.setCell _ _ _ (hno _ (.inl rfl))).trans ((KeepsSet.setCell _ _ _ (hno _ (.inr (.inl rfl)))).trans (KeepsSet.setCell _ _ _ (hno _ (.inr (.inr rfl)))))), rfl, ⟨k1, k2, k3⟩, hfb.out, below_three (h6.trans (hV.mono h6.size)) (by omega) (by omega) (by omega), ?_, h8⟩
            rw [World.size_setCell, World.size_setCell, World.size_setCell]; omega
      · rw [hh]
        have hz' : (h == 0) = false := by simpa using hz
        have hh' := hide hh
        clear hh
        gi_wp2
        refine ⟨KeepsSet.refl _ _, ⟨h1, h2, h3, h4⟩, fun q hq => ?_, h6, h7, h8⟩
        rw [hpl'.out] at hq
        by_cases e : q = x
        · subst e; rw [hh'.out]; exact hz
        · exact h5 q (by omega)
    case done =>
      rintro U V ⟨⟨h1, h2, h3, h4⟩, h5, h6, h7, h8⟩ hD
      rw [List.length_range] at h5
      have hnil : l = [] ∧ frontB l = false := by
        rcases hf'.out with h | ⟨p, _, hp2, hp3, _⟩
        · exact h
        · exact absurd hp3 (h5 p hp2)
      obtain ⟨eA, eR⟩ := hZe'.out hnil.1
      have hnb := hide hnil.2
      have eA' := hide eA
      have eR' := hide eR
      have c1 := h2.cell
      have c2 := h3.cell
      have c3 := h4.cell
      have f1 := h2.frozen
      have f2 := h3.frozen
      have f3 := h4.frozen
      have hD2 : (((V.setCell ⟨w.heap.size + 1, 0, none⟩ (.string ⟨#[]⟩)).setCell ⟨w.heap.size + 1 + 1, 0, none⟩ (.string ⟨#[]⟩)).setCell ⟨w.heap.size + 1 + 1 + 1, 0, none⟩ (.bool false)).heap[w2.heap.size]? = some (.deferred (some [])) := by
        rw [heap_setCell_other _ _ _ _ (by show w2.heap.size ≠ w.heap.size + 1 + 1 + 1; omega), heap_setCell_other _ _ _ _ (by show w2.heap.size ≠ w.heap.size + 1 + 1; omega), heap_setCell_other _ _ _ _ (by show w2.heap.size ≠ w.heap.size + 1; omega)]; exact hD
      obtain ⟨k1, k2, k3⟩ := box_three h2 h3 h4 (by omega) (by omega) (by omega) (.string ⟨#[]⟩) (.string ⟨#[]⟩) (.bool false)
      clear eA eR hnil h5
      gi_wp2
      refine ⟨by simp, .inl ⟨_, _, rfl, run_takeDeferred hD2, ?_⟩⟩
      refine ⟨_, rcell_three rfl _ _ rfl rfl rfl (ldStr _ _ (k1.kept (grownBy_putObj' _ _ _) (by simp; omega))) (ldStr _ _ (k2.kept (grownBy_putObj' _ _ _) (by simp; omega))) (ldBool _ _ (k3.kept (grownBy_putObj' _ _ _) (by simp; omega))), by rw [eA'.out, eR'.out, hnb.out], ?_⟩
      exact (below_three h6 (by omega) (by omega) (by omega)).grown (grownBy_putObj' _ _ _) (by rw [World.size_setCell, World.size_setCell, World.size_setCell]; exact h6.size) (fun k e => by cases e; omega)
    case stop =>
      rintro c U pre V _ ⟨rfl, ⟨h2, h3, h4⟩, h5, h6, h7, h8⟩ hD
      have hnb := hide h5
      clear h5
      gi_wp2
      refine ⟨by simp, .inl ⟨_, _, rfl, run_takeDeferred hD, ?_⟩⟩
      refine ⟨_, rcell_three rfl _ _ rfl rfl rfl (ldStr _ _ (h2.kept (grownBy_putObj' _ _ _) (by simp; omega))) (ldStr _ _ (h3.kept (grownBy_putObj' _ _ _) (by simp; omega))) (ldBool _ _ (h4.kept (grownBy_putObj' _ _ _) (by simp; omega))), by rw [hnb.out], ?_⟩
      exact h6.grown (grownBy_putObj' _ _ _) h6.size (fun k e => by cases e; omega)
end Go.Proofs.YtghfmoanpgaijaaDoor
