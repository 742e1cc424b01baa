/-
  The draws of chapter 12: a row of one's own, and a deed; the reader alone is written.
-/
import Derived.Test.YtkcbfiglmjdaiaaDoorDraw9
import Derived.Test.YtkcbfiglmjdaiaaDoorRegRd
import Derived.Test.YtkcbfiglmjdaiaaDoorBaseZ
import Derived.Test.YtkcbfiglmjdaiaaDoorL12Z
namespace Go.Proofs.YtkcbfiglmjdaiaaDoor
open Go Go.RowKit
attribute [local go_sem] Oper.semAt_some

theorem row_atD {W : World} {b : Nat} {x y : Value} {t : TypeId} (h : W.heap[b]? = some (.cells #[x, y] t (0, 0))) : W.cell? ⟨b, 0, none⟩ = some x ∧ W.cell? ⟨b, 1, none⟩ = some y ∧ W.frozen? ⟨b, 0, none⟩ = false ∧ W.frozen? ⟨b, 1, none⟩ = false :=
  ⟨by unfold World.cell?; rw [h]; rfl, by unfold World.cell?; rw [h]; rfl, by unfold World.frozen?; rw [h]; rfl, by unfold World.frozen?; rw [h]; rfl⟩
theorem grownBy_setAtD (W : World) (b i : Nat) (v : Value) : W.grownBy (W.setCell ⟨b, i, none⟩ v) (some b) :=
  ⟨rfl, rfl, rfl, (KeepsWalks.setCell W _ v).size, fun k _ hk => Below.heap_setCell _ _ _ k (fun e => hk (by rw [e]))⟩
theorem odd_zero (w : World) (R : Nat) : Calls Tryd.prog 12 #[.pointer (some ⟨R, 0, none⟩), .int .i64 0] w fun e w' => e = .returned (.bool false) ∧ w = w' := by
  go_enter Tryd.func12, Tryd.ntmps12
  go_wp2
  go_ret
  exact ⟨rfl, rfl⟩

set_option maxHeartbeats 2000000 in
theorem l20Side0_in (W0 : World) (R len cap p : Nat) (a : Option Addr) (w : World) (hb : Bytes W0 a len) (h : Rd W0 R a len cap w p) (hp : p ≤ 800000) :
    Calls Tryd.prog 23 #[.pointer (some ⟨R, 0, none⟩), .int .i64 0] w fun e w' => ∃ (v : Value) (xs : List Int), e = .returned v ∧ w'.ownsRow w.heap.size 3 1 v xs.length (xs.map (Value.int .i64)) ∧ 1 ≤ xs.length ∧ xs.length ≤ 12 ∧ ∃ p', p' ≤ p + 13 ∧ Rd W0 R a len cap w' p' ∧ w.grownBy w' (some R) := by
  have hRw : R < w.heap.size := (Array.getElem?_eq_some_iff.1 h.2.2).1
  have hW0R := h.2.1
  go_enter Tryd.func23, Tryd.ntmps23
  go_wp2_with fail
  go_at_call 24
  refine (pick_in W0 R len cap _ a _ _ hb (h.alloc _) (by omega)).mono ?_
  rintro e w2 ⟨x, rfl, hx0, _, hx1, hR2, hgr2, _⟩
  replace hx1 := hx1 (by omega)
  have hg0 : w.grownBy w2 (some R) := (World.grownBy_alloc w _ _).trans hgr2
  have hs2 := hgr2.size
  obtain ⟨N, rfl⟩ : ∃ N : Nat, x = N := ⟨x.toNat, by omega⟩
  have hmade : (w.alloc (.cells #[] 3)).ownsRow w.heap.size 3 1 (.slice (some ⟨w.heap.size, 0, none⟩) 0 0) 0 [] := World.ownsRow_made _ _ _ (Nat.le_refl _) (by decide) rfl
  go_wp2
  go_loopw [5, 6] (fun out n wr => ∃ (j : Nat) (zs : List Int), j ≤ N + 1 ∧ n = .int .i64 ((N : Int) + 1 - (j : Nat)) ∧ zs.length = j ∧ wr.ownsRow w.heap.size 3 1 out zs.length (zs.map (Value.int .i64)) ∧ w.grownBy wr (some R) ∧ Rd W0 R a len cap wr (p + 1 + j)) (fun _ n _ => (intOf n).toNat)
  case atStart => exact ⟨0, [], by omega, by go_num, rfl, hmade.kept hgr2 (.inr (by simp [Value.ownBlock]; omega)), hg0, hR2⟩
  case round =>
    obtain ⟨j, zs, hj, rfl, hz, hown, hgr, hR⟩ := hrel
    by_cases hjn : j ≤ N
    · have hc : (0 : Int) < (N : Int) + 1 - (j : Int) := by omega
      have hw1 : IntKind.i64.wrap ((N : Int) + 1 - (j : Int) - 1) = (N : Int) + 1 - (j : Int) - 1 := IntWalk.i64_in _ (by omega)
      have hs := hgr.size
      go_wp2_with (first
        | (go_at_call 24; refine (pick_in W0 R len cap _ a _ _ hb hR (by omega)).mono ?_; rintro e w3 ⟨x, rfl, _, _, _, hR3, hgr3, _⟩; have hown3 := hown.kept hgr3 (.inr (fun e => by have := hown.lt R e; omega)); have hs3 := hgr3.size)
        | (at_builtin; refine append_one rfl _ _ rfl w.heap.size _ _ _ rfl hown3 rfl (by omega) (by omega) ?_; intro v' w4 hown4 hgr4))
      all_goals
        have hgr4' : (w3.alloc (.cells #[.int .i64 x] 3)).grownBy w4 u5.ownBlock := hgr4
        go_roundw
        case rel =>
          have hbl : ∀ k, u5.ownBlock = some k → w.heap.size ≤ k := fun k e => (hown.lt k e).1
          refine ⟨j + 1, zs ++ [x], by omega, by go_num, by simp [hz], by simpa using hown4, ?_, ?_⟩
          · exact ((hgr.trans hgr3).andThen (World.grownBy_alloc _ _ none) (fun _ e => by cases e)).andThen hgr4' (fun k e => .inl (hbl k e))
          · rw [show p + 1 + (j + 1) = p + 1 + j + 1 by omega]
            exact (hR3.alloc _).kept hgr4' (fun e => by have := hbl R e.symm; omega) (fun k e => by have := hbl k e; omega)
        case measure => simp [intOf]; omega
    · obtain rfl : j = N + 1 := by omega
      have hc : ¬ (0 : Int) < (N : Int) + 1 - (((N + 1 : Nat)) : Int) := by omega
      have hl12 : zs.length ≤ 12 := by omega
      have hl1 : 1 ≤ zs.length := by omega
      go_wp2_with fail
      go_at_call 12
      refine (odd_zero wr R).mono ?_
      rintro e w3 ⟨rfl, rfl⟩
      go_wp2
      go_ret
      exact ⟨_, zs, rfl, hown, hl1, hl12, _, (by omega : p + 1 + (N + 1) ≤ p + 13), hR, hgr⟩

theorem pickF_in (W0 : World) (R len cap p : Nat) (a : Option Addr) (n : Int) (w : World) (hb : Bytes W0 a len) (h : Rd W0 R a len cap w p) (hp : p ≤ 1000000) :
    Calls Tryd.prog 24 #[.pointer (some ⟨R, 0, none⟩), .int .i64 n] w fun e w' => ∃ x : Int, e = .returned (.int .i64 x) ∧ 0 ≤ x ∧ (n ≤ 1000 → x ≤ 1000) ∧ Rd W0 R a len cap w' (p + 1) ∧ w.grownBy w' (some R) :=
  (pick_in W0 R len cap p a n w hb h hp).mono fun e w' ⟨x, h1, h2, h3, h4, h5, h6, _⟩ => ⟨x, h1, h2, fun hn => by
    by_cases hh : n < 1
    · rw [h3 hh]; omega
    · have := h4 (by omega); omega, h5, h6⟩
theorem Rd.lt {W0 w : World} {R len cap p : Nat} {a : Option Addr} (h : Rd W0 R a len cap w p) : R < w.heap.size := (Array.getElem?_eq_some_iff.1 h.2.2).1
/-- Eight kinds, one of which is picked. -/
def kindsL : List Int := [0, 0, 1, 1, 2, 3, 4, 5]
theorem kinds_in (i : Nat) : 0 ≤ kindsL.getD i 0 ∧ kindsL.getD i 0 ≤ 5 := by
  match i with
  | 0 => decide
  | 1 => decide
  | 2 => decide
  | 3 => decide
  | 4 => decide
  | 5 => decide
  | 6 => decide
  | 7 => decide
  | (n + 8) => simp [kindsL]
theorem quo59 (x : Nat) (h : x < 60) : ∃ y : Nat, y ≤ 1 ∧ Int.tdiv (x : Int) 59 = (y : Int) := ⟨x / 59, by omega, by rw [Int.tdiv_eq_ediv_of_nonneg (by omega)]; rfl⟩
/-- A deed that is drawn: its variable is block b, the result's block r. -/
structure Dd (W0 : World) (R len cap : Nat) (a : Option Addr) (w : World) (b : Nat) (k n : Int) (V : World) (q : Nat) : Prop where
  rd : Rd W0 R a len cap V q
  gr : w.grownBy V (some R)
  box : V.heap[b]? = some (.cells #[.int .i64 k, .int .i64 n] 36 (0, 0))
  res : V.heap[w.heap.size]? = some (.cells #[.int .i64 0, .int .i64 0] 36 (0, 0))
  lo : w.heap.size + 1 ≤ b
  rw_ : R < w.heap.size
theorem Dd.move {W0 : World} {R len cap : Nat} {a : Option Addr} {w : World} {b : Nat} {k n : Int} {V V' : World} {q q' : Nat} (h : Dd W0 R len cap a w b k n V q) (h1 : Rd W0 R a len cap V' q') (h2 : V.grownBy V' (some R)) : Dd W0 R len cap a w b k n V' q' := by
  have h3 := h.lo
  have h4 := h.rw_
  exact ⟨h1, h.gr.trans h2, (h2.block b (Array.getElem?_eq_some_iff.1 h.box).1 (fun e => by injection e with e; omega)).trans h.box, (h2.block _ (Array.getElem?_eq_some_iff.1 h.res).1 (fun e => by injection e with e; omega)).trans h.res, h3, h4⟩
theorem Dd.set1 {W0 : World} {R len cap : Nat} {a : Option Addr} {w : World} {b : Nat} {k n : Int} {V : World} {q : Nat} (h : Dd W0 R len cap a w b k n V q) (x : Int) : Dd W0 R len cap a w b k x (V.setCell ⟨b, 1, .none⟩ (.int .i64 x)) q := by
  have h3 := h.lo
  have h4 := h.rw_
  have h5 := h.rd.2.1
  have g := grownBy_setAtD V b 1 (.int .i64 x)
  exact ⟨h.rd.kept g (fun e => by injection e with e; omega) (fun k e => by injection e with e; omega), h.gr.andThen g (fun k e => .inl (by injection e with e; omega)), set_cells h.box 1 _, (g.block _ (Array.getElem?_eq_some_iff.1 h.res).1 (fun e => by injection e with e; omega)).trans h.res, h3, h4⟩
/-- The deed is handed back. -/
theorem Dd.done {W0 : World} {R len cap : Nat} {a : Option Addr} {w : World} {b : Nat} {k n : Int} {V : World} {q : Nat} (h : Dd W0 R len cap a w b k n V q) :
    ((V.setCell ⟨w.heap.size, 0, .none⟩ (.int .i64 k)).setCell ⟨w.heap.size, 1, .none⟩ (.int .i64 n)).heap[w.heap.size]? = some (.cells #[.int .i64 k, .int .i64 n] 36 (0, 0)) ∧
    Rd W0 R a len cap ((V.setCell ⟨w.heap.size, 0, .none⟩ (.int .i64 k)).setCell ⟨w.heap.size, 1, .none⟩ (.int .i64 n)) q ∧ w.grownBy ((V.setCell ⟨w.heap.size, 0, .none⟩ (.int .i64 k)).setCell ⟨w.heap.size, 1, .none⟩ (.int .i64 n)) (some R) := by
  have h4 := h.rw_
  have h5 := h.rd.2.1
  have g := grownBy_setAtD V w.heap.size 0 (.int .i64 k)
  have g2 := grownBy_setAtD (V.setCell ⟨w.heap.size, 0, .none⟩ (.int .i64 k)) w.heap.size 1 (.int .i64 n)
  exact ⟨set_cells (set_cells h.res 0 _) 1 _, (h.rd.kept g (fun e => by injection e with e; omega) (fun k e => by injection e with e; omega)).kept g2 (fun e => by injection e with e; omega) (fun k e => by injection e with e; omega),
    (h.gr.andThen g (fun k e => .inl (by injection e with e; omega))).andThen g2 (fun k e => .inl (by injection e with e; omega))⟩
theorem grown_cell12 {W W' : World} {R g : Nat} (h : W.grownBy W' (some R)) (h1 : g < W.heap.size) (h2 : g ≠ R) (i : Nat) : W'.cell? ⟨g, i, none⟩ = W.cell? ⟨g, i, none⟩ := by
  unfold World.cell?
  rw [h.block g h1 (fun e => h2 (by injection e))]

set_option maxRecDepth 100000 in
set_option maxHeartbeats 4000000 in
theorem l20Deed_in (W0 : World) (R len cap p : Nat) (a : Option Addr) (w : World) (hb : Bytes W0 a len) (h : Rd W0 R a len cap w p) (hp : p ≤ 800000) (rv : Option Addr) (rn rc : Nat) (hrn : rn ≤ 13) :
    Calls Tryd.prog 39 #[.pointer (some ⟨R, 0, none⟩), .slice rv rn rc] w fun e w' => (∃ k n, Fits k ∧ Fits n ∧ e = .returned (dV k n)) ∧ ∃ p', p' ≤ p + 30 ∧ Rd W0 R a len cap w' p' ∧ w.grownBy w' (some R) := by
  have hRw := h.lt
  have hW0R := h.2.1
  refine (callsIn_wide (n := 9)).1 ?_
  refine callsIn_of_wp Tryd.func39 rfl trivial ?_ rfl
  simp only [Tryd.ntmps39, List.size_toArray, List.length_cons, List.length_nil, Nat.reduceAdd, Nat.reduceSub, Array.replicate_succ, Array.replicate_zero, List.push_toArray, List.append_toArray, List.nil_append, List.cons_append]
  have hg1 : w.grownBy (w.alloc (.cells #[.int .i64 0, .int .i64 0] 36)) (some R) := World.grownBy_alloc w _ _
  have k1 := World.alloc_heap_new w (.cells #[.int .i64 0, .int .i64 0] 36)
  have hR1 := h.alloc (.cells #[.int .i64 0, .int .i64 0] 36)
  have z1 := World.size_alloc w (.cells #[.int .i64 0, .int .i64 0] 36)
  obtain ⟨w1, hw1⟩ : ∃ w1, w.alloc (.cells #[.int .i64 0, .int .i64 0] 36) = w1 := ⟨_, rfl⟩
  rw [hw1] at hg1 k1 hR1 z1
  have z1' : w.heap.size + 1 ≤ w1.heap.size := by omega
  clear z1
  gi_wp2
  refine wpIn_region_rd W0 R len cap p a 1 12 [(some 6, 0), (some 7, 1), (some 8, 2), (some 9, 3), (some 10, 4), (some 11, 5), (some 12, 6), (some 13, 7), (some 14, 8), (some 15, 9), (some 16, 10), (some 5, 11)] (by omega) (by kernel_rfl) (by kernel_rfl) (by kernel_rfl) (by decide) (by decide) (by rfl) (by decide) hR1
    (fun i v V => match i with | 0 => ∃ g, v = .slice (some ⟨g, 0, none⟩) 8 8 ∧ g ≠ R ∧ g < V.heap.size ∧ ∀ j, j < 8 → V.cell? ⟨g, j, none⟩ = some (.int .i64 (kindsL.getD j 0)) | 1 => v = .pointer (some ⟨R, 0, none⟩) | 2 => ∃ x : Nat, x < 8 ∧ v = .int .i64 x | 3 => ∃ g j, v = .pointer (some ⟨g, j, none⟩) ∧ g ≠ R ∧ g < V.heap.size ∧ ∃ z : Int, 0 ≤ z ∧ z ≤ 5 ∧ V.cell? ⟨g, j, none⟩ = some (.int .i64 z) | 4 => ∃ z : Int, 0 ≤ z ∧ z ≤ 5 ∧ v = .int .i64 z | 5 => v = .pointer (some ⟨R, 0, none⟩) | 6 => ∃ x : Nat, x < 60 ∧ v = .int .i64 x | 7 => ∃ x : Nat, x ≤ 1 ∧ v = .int .i64 x | 8 => ∃ z : Int, 0 ≤ z ∧ z ≤ 6 ∧ v = .int .i64 z | 9 => ∃ z : Int, 0 ≤ z ∧ z ≤ 11 ∧ v = .int .i64 z | 10 => ∃ z : Int, 0 ≤ z ∧ z ≤ 11 ∧ v = .agg #[.int .i64 z, .int .i64 0] | 11 => ∃ b, v = .pointer (some ⟨b, 0, none⟩) ∧ w1.heap.size ≤ b ∧ V.heap[b]? = some (.cells #[.int .i64 0, .int .i64 0] 36 (0, 0)) | _ => True)
    (fun i v V V' h hg => match i, h with | 0, h => (by obtain ⟨g, h1, h2, h3, h4⟩ := h; exact ⟨g, h1, h2, Nat.lt_of_lt_of_le h3 hg.size, fun j hj => (grown_cell12 hg h3 h2 j).trans (h4 j hj)⟩) | 1, h => h | 2, h => h | 3, h => (by obtain ⟨g, j, h1, h2, h3, z, h4, h5, h6⟩ := h; exact ⟨g, j, h1, h2, Nat.lt_of_lt_of_le h3 hg.size, z, h4, h5, (grown_cell12 hg h3 h2 j).trans h6⟩) | 4, h => h | 5, h => h | 6, h => h | 7, h => h | 8, h => h | 9, h => h | 10, h => h | 11, h => (by obtain ⟨b, h1, h2, h3⟩ := h; exact ⟨b, h1, h2, (hg.block b (Array.getElem?_eq_some_iff.1 h3).1 (fun e => by injection e with e; omega)).trans h3⟩) | (_ + 12), _ => trivial)
    ?step ?tail
  case step =>
    rintro i oo s V q hi ho hqb hRV hgV hd Q' hQ
    rcases (show i = 0 ∨ i = 1 ∨ i = 2 ∨ i = 3 ∨ i = 4 ∨ i = 5 ∨ i = 6 ∨ i = 7 ∨ i = 8 ∨ i = 9 ∨ i = 10 ∨ i = 11 by omega) with rfl | rfl | rfl | rfl | rfl | rfl | rfl | rfl | rfl | rfl | rfl | rfl
    all_goals
      simp at ho
      subst ho
      simp only [putsOf, Act.put, List.setIfInBounds_toArray, List.set_cons_succ, List.set_cons_zero] at hQ ⊢
      have hQ' := hide hQ
      clear hQ
    · clear hd
      have hk := World.alloc_heap_new V (.cells #[.int .i64 0, .int .i64 0, .int .i64 1, .int .i64 1, .int .i64 2, .int .i64 3, .int .i64 4, .int .i64 5] 3)
      have zV := hRV.lt
      have zV2 := World.size_alloc V (.cells #[.int .i64 0, .int .i64 0, .int .i64 1, .int .i64 1, .int .i64 2, .int .i64 3, .int .i64 4, .int .i64 5] 3)
      gi_wp2
      have hr := hQ'.out
      refine hr _ _ q (by omega) (hRV.alloc _) (World.grownBy_alloc _ _ _) ⟨V.heap.size, rfl, by omega, by rw [World.size_alloc]; omega, fun j hj => ?_⟩
      rw [World.cell?_alloc_at _ _ _ _ rfl]
      rcases (show j = 0 ∨ j = 1 ∨ j = 2 ∨ j = 3 ∨ j = 4 ∨ j = 5 ∨ j = 6 ∨ j = 7 by omega) with rfl | rfl | rfl | rfl | rfl | rfl | rfl | rfl <;> rfl
    · clear hd
      gi_wp2
      have hr := hQ'.out
      exact hr _ _ q (by omega) hRV (grownBy_refl _ _) rfl
    · have e1 : s 1 = .pointer (some ⟨R, 0, none⟩) := hd 1 (by kernel_rfl)
      clear hd
      gi_wp2_with (refine ⟨trivial, ?_⟩; gi_at_call 24; go_loud (refine (callsIn_wide.2 (pick_in W0 R len cap q a 8 V hb hRV (by omega))).mono ?_; rintro e V9 ⟨x, rfl, hx0, _, hx1, hR9, hg9, _⟩))
      have hx := hx1 (by omega)
      obtain ⟨y, rfl⟩ : ∃ y : Nat, x = y := ⟨x.toNat, by omega⟩
      have hr := hQ'.out
      simp only [e1] at hr ⊢
      exact hr _ _ (q + 1) (by omega) hR9 hg9 ⟨y, by omega, rfl⟩
    · obtain ⟨g, e1, h2, h3, h4⟩ : ∃ g, s 0 = .slice (some ⟨g, 0, none⟩) 8 8 ∧ g ≠ R ∧ g < V.heap.size ∧ ∀ j, j < 8 → V.cell? ⟨g, j, none⟩ = some (.int .i64 (kindsL.getD j 0)) := hd 0 (by kernel_rfl)
      obtain ⟨y, hy, e2⟩ : ∃ x : Nat, x < 8 ∧ s 2 = .int .i64 x := hd 2 (by kernel_rfl)
      clear hd
      have hyi : (y : Int) < 8 := by omega
      have hc := h4 y hy
      have hkz := kinds_in y
      obtain ⟨z, hz⟩ : ∃ z, kindsL.getD y 0 = z := ⟨_, rfl⟩
      rw [hz] at hc hkz
      clear h4 hz
      gi_wp2
      have hr := hQ'.out
      simp only [e1, e2] at hr ⊢
      exact hr _ _ q (by omega) hRV (grownBy_refl _ _) ⟨g, _, rfl, h2, h3, z, hkz.1, hkz.2, by simpa using hc⟩
    · obtain ⟨g, j, e1, h2, h3, z, h4, h5, h6⟩ : ∃ g j, s 3 = .pointer (some ⟨g, j, none⟩) ∧ g ≠ R ∧ g < V.heap.size ∧ ∃ z : Int, 0 ≤ z ∧ z ≤ 5 ∧ V.cell? ⟨g, j, none⟩ = some (.int .i64 z) := hd 3 (by kernel_rfl)
      clear hd
      gi_wp2
      have hr := hQ'.out
      simp only [e1] at hr ⊢
      exact hr _ _ q (by omega) hRV (grownBy_refl _ _) ⟨z, h4, h5, rfl⟩
    · clear hd
      gi_wp2
      have hr := hQ'.out
      exact hr _ _ q (by omega) hRV (grownBy_refl _ _) rfl
    · have e1 : s 5 = .pointer (some ⟨R, 0, none⟩) := hd 5 (by kernel_rfl)
      clear hd
      gi_wp2_with (refine ⟨trivial, ?_⟩; gi_at_call 24; go_loud (refine (callsIn_wide.2 (pick_in W0 R len cap q a 60 V hb hRV (by omega))).mono ?_; rintro e V9 ⟨x, rfl, hx0, _, hx1, hR9, hg9, _⟩))
      have hx := hx1 (by omega)
      obtain ⟨y, rfl⟩ : ∃ y : Nat, x = y := ⟨x.toNat, by omega⟩
      have hr := hQ'.out
      simp only [e1] at hr ⊢
      exact hr _ _ (q + 1) (by omega) hR9 hg9 ⟨y, by omega, rfl⟩
    · obtain ⟨x, hx, e1⟩ : ∃ x : Nat, x < 60 ∧ s 6 = .int .i64 x := hd 6 (by kernel_rfl)
      clear hd
      obtain ⟨y, hy, hq⟩ := quo59 x hx
      have hw : IntKind.i64.wrap (y : Int) = y := IntWalk.i64_in _ (by omega)
      gi_wp2
      have hr := hQ'.out
      simp only [e1] at hr ⊢
      exact hr _ _ q (by omega) hRV (grownBy_refl _ _) ⟨y, hy, rfl⟩
    · obtain ⟨x, hx, e1⟩ : ∃ x : Nat, x ≤ 1 ∧ s 7 = .int .i64 x := hd 7 (by kernel_rfl)
      clear hd
      have hw : IntKind.i64.wrap ((x : Int) * 6) = (x : Int) * 6 := IntWalk.i64_in _ (by omega)
      gi_wp2
      have hr := hQ'.out
      simp only [e1] at hr ⊢
      exact hr _ _ q (by omega) hRV (grownBy_refl _ _) ⟨(x : Int) * 6, by omega, by omega, rfl⟩
    · obtain ⟨x, hx0, hx1, e1⟩ : ∃ z : Int, 0 ≤ z ∧ z ≤ 5 ∧ s 4 = .int .i64 z := hd 4 (by kernel_rfl)
      obtain ⟨y, hy0, hy1, e2⟩ : ∃ z : Int, 0 ≤ z ∧ z ≤ 6 ∧ s 8 = .int .i64 z := hd 8 (by kernel_rfl)
      clear hd
      have hw : IntKind.i64.wrap (x + y) = x + y := IntWalk.i64_in _ (by omega)
      gi_wp2
      have hr := hQ'.out
      simp only [e1, e2] at hr ⊢
      exact hr _ _ q (by omega) hRV (grownBy_refl _ _) ⟨x + y, by omega, by omega, rfl⟩
    · obtain ⟨x, hx0, hx1, e1⟩ : ∃ z : Int, 0 ≤ z ∧ z ≤ 11 ∧ s 9 = .int .i64 z := hd 9 (by kernel_rfl)
      clear hd
      gi_wp2
      have hr := hQ'.out
      simp only [e1] at hr ⊢
      exact hr _ _ q (by omega) hRV (grownBy_refl _ _) ⟨x, hx0, hx1, rfl⟩
    · clear hd
      have zg := hgV.size
      gi_wp2
      have hr := hQ'.out
      exact hr _ _ q (by omega) (hRV.alloc _) (World.grownBy_alloc _ _ _) ⟨V.heap.size, rfl, zg, World.alloc_heap_new V _⟩
  case tail =>
    rintro s V q hqb hRV hgV hd
    replace hqb : q ≤ p + 13 := hqb
    obtain ⟨k, hk0, hk1, f10⟩ : ∃ z : Int, 0 ≤ z ∧ z ≤ 11 ∧ s 10 = .agg #[.int .i64 z, .int .i64 0] := hd 10 (by omega)
    obtain ⟨b, f11, hb11, kb⟩ : ∃ b, s 11 = .pointer (some ⟨b, 0, none⟩) ∧ w1.heap.size ≤ b ∧ V.heap[b]? = some (.cells #[.int .i64 0, .int .i64 0] 36 (0, 0)) := hd 11 (by omega)
    clear hd
    have zb := (Array.getElem?_eq_some_iff.1 kb).1
    obtain ⟨e0, e1, g0, g1⟩ := row_atD kb
    have hgw := hg1.trans hgV
    have hr1 := (hgV.block _ (Array.getElem?_eq_some_iff.1 k1).1 (fun e => by injection e with e; omega)).trans k1
    have gs := grownBy_setAtD V b 0 (.int .i64 k)
    have gs2 := grownBy_setAtD (V.setCell ⟨b, 0, none⟩ (.int .i64 k)) b 1 (.int .i64 0)
    have hD : Dd W0 R len cap a w b k 0 ((V.setCell ⟨b, 0, none⟩ (.int .i64 k)).setCell ⟨b, 1, none⟩ (.int .i64 0)) q := ⟨(hRV.kept gs (fun e => by injection e with e; omega) (fun k e => by injection e with e; omega)).kept gs2 (fun e => by injection e with e; omega) (fun k e => by injection e with e; omega), (hgw.andThen gs (fun k e => .inl (by injection e with e; omega))).andThen gs2 (fun k e => .inl (by injection e with e; omega)), set_cells (set_cells kb 0 _) 1 _, (gs2.block _ (Nat.lt_of_lt_of_le (Array.getElem?_eq_some_iff.1 hr1).1 gs.size) (fun e => by injection e with e; omega)).trans ((gs.block _ (Array.getElem?_eq_some_iff.1 hr1).1 (fun e => by injection e with e; omega)).trans hr1), by omega, hRw⟩
    clear gs gs2 hr1 hgw hgV hRV kb k1 hg1 hR1 hw1
    simp only [putsOf, Act.put, List.setIfInBounds_toArray, List.set_cons_succ, List.set_cons_zero]
    simp only [List.drop_succ_cons, List.drop_zero]
    rcases (show k = 0 ∨ k = 1 ∨ 2 ≤ k by omega) with rfl | rfl | hk2
    · obtain ⟨c0, c1, f0, f1⟩ := row_atD hD.box
      obtain ⟨r0, r1, t0, t1⟩ := row_atD hD.res
      gi_wp2_with fail
      all_goals
        refine ⟨trivial, ?_⟩
        gi_at_call 24
        refine (callsIn_wide.2 (pickF_in W0 R len cap _ a _ _ hb hD.rd (by omega))).mono ?_
        rintro e V2 ⟨x, rfl, hx0, hx1, hR2, hg2⟩
        replace hx1 := hx1 (by omega)
        have h2' := hD.move hR2 hg2
        clear hR2 hg2
        obtain ⟨c0, c1, f0, f1⟩ := row_atD h2'.box
        obtain ⟨r0, r1, t0, t1⟩ := row_atD h2'.res
        have h4 := h2'.set1 x
        have hy : 0 ≤ x ∧ x ≤ 1000 := ⟨hx0, hx1⟩
        clear h2'
        have hO := odd_any W0 R len cap _ a 40 _ hb h4.rd (by omega) (by omega) (by omega)
        gi_wp2_with fail
        refine ⟨trivial, ?_⟩
        gi_at_call 12
        refine (callsIn_wide.2 hO).mono ?_
        rintro e V3 ⟨bo, rfl, hR3, hg3⟩
        have h3 := h4.move hR3 hg3
        clear hR3 hg3 hO
        obtain ⟨c0, c1, f0, f1⟩ := row_atD h3.box
        obtain ⟨r0, r1, t0, t1⟩ := row_atD h3.res
        have hd3 := hide h3.done
        cases bo with
        | false =>
          gi_wp2
          (try simp only [Exit.inBlock, Exit.then])
          exact bodyPost_ret (results_cell_row rfl _ _ w.heap.size _ #[.int .i64 0, .int .i64 x] (0, 0) _ rfl hd3.out.1 Tryd.underlying36 rfl (by kernel_rfl)) rfl ⟨⟨0, x, by unfold Fits; omega, by unfold Fits; omega, rfl⟩, _, by omega, hd3.out.2⟩
        | true =>
          clear hd3
          have hA4 := World.grownBy_alloc V3 (.cells #[.int .i64 (-1), .int .i64 2, .int .i64 12, .int .i64 100] 3) (some R)
          have h3a := h3.move (h3.rd.alloc _) hA4
          have z3 := h3.rd.lt
          have l4 := World.size_alloc V3 (.cells #[.int .i64 (-1), .int .i64 2, .int .i64 12, .int .i64 100] 3)
          have hlit : ∀ i : Nat, i < 4 → ∃ z : Int, -1 ≤ z ∧ z ≤ 100 ∧ (V3.alloc (.cells #[.int .i64 (-1), .int .i64 2, .int .i64 12, .int .i64 100] 3)).cell? ⟨V3.heap.size, i, none⟩ = some (.int .i64 z) := fun i hi => by
            rw [World.cell?_alloc_at _ _ _ _ rfl]
            rcases (show i = 0 ∨ i = 1 ∨ i = 2 ∨ i = 3 by omega) with rfl | rfl | rfl | rfl
            · exact ⟨-1, by omega, by omega, rfl⟩
            · exact ⟨2, by omega, by omega, rfl⟩
            · exact ⟨12, by omega, by omega, rfl⟩
            · exact ⟨100, by omega, by omega, rfl⟩
          have hlith := hide hlit
          clear hlit
          gi_wp2_with fail
          refine ⟨trivial, ?_⟩
          gi_at_call 24
          refine (callsIn_wide.2 (pick_in W0 R len cap _ a _ _ hb h3a.rd (by omega))).mono ?_
          rintro e V4 ⟨y, rfl, hy0, _, hy1, hR4, hg4, _⟩
          have hy2 := hy1 (by omega)
          obtain ⟨j, rfl⟩ : ∃ j : Nat, y = j := ⟨y.toNat, by omega⟩
          have hji : (j : Int) < 4 := by omega
          obtain ⟨z, hz0, hz1, hc⟩ := hlith.out j (by omega)
          have hc4 := (grown_cell12 hg4 (by omega) (by omega) j).trans hc
          have h5 := h3a.move hR4 hg4
          have h6 := h5.set1 z
          clear hc hlith hR4 hg4 hA4 l4 hy1
          obtain ⟨c0, c1, f0, f1⟩ := row_atD h5.box
          obtain ⟨r0, r1, t0, t1⟩ := row_atD h5.res
          have hd6 := hide h6.done
          obtain ⟨c0', c1', f0', f1'⟩ := row_atD h6.box
          obtain ⟨r0', r1', t0', t1'⟩ := row_atD h6.res
          gi_wp2
          (try simp only [Exit.inBlock, Exit.then])
          exact bodyPost_ret (results_cell_row rfl _ _ w.heap.size _ #[.int .i64 0, .int .i64 z] (0, 0) _ rfl hd6.out.1 Tryd.underlying36 rfl (by kernel_rfl)) rfl ⟨⟨0, z, by unfold Fits; omega, by unfold Fits; omega, rfl⟩, _, by omega, hd6.out.2⟩
    · obtain ⟨c0, c1, f0, f1⟩ := row_atD hD.box
      obtain ⟨r0, r1, t0, t1⟩ := row_atD hD.res
      gi_wp2_with fail
      all_goals
        refine ⟨trivial, ?_⟩
        gi_at_call 24
        refine (callsIn_wide.2 (pickF_in W0 R len cap _ a _ _ hb hD.rd (by omega))).mono ?_
        rintro e V2 ⟨x, rfl, hx0, hx1, hR2, hg2⟩
        replace hx1 := hx1 (by omega)
        have h2' := hD.move hR2 hg2
        clear hR2 hg2
        obtain ⟨c0, c1, f0, f1⟩ := row_atD h2'.box
        obtain ⟨r0, r1, t0, t1⟩ := row_atD h2'.res
        have h4 := h2'.set1 x
        have hy : 0 ≤ x ∧ x ≤ 1000 := ⟨hx0, hx1⟩
        clear h2'
        have hO := odd_any W0 R len cap _ a 40 _ hb h4.rd (by omega) (by omega) (by omega)
        gi_wp2_with fail
        refine ⟨trivial, ?_⟩
        gi_at_call 12
        refine (callsIn_wide.2 hO).mono ?_
        rintro e V3 ⟨bo, rfl, hR3, hg3⟩
        have h3 := h4.move hR3 hg3
        clear hR3 hg3 hO
        obtain ⟨c0, c1, f0, f1⟩ := row_atD h3.box
        obtain ⟨r0, r1, t0, t1⟩ := row_atD h3.res
        have hd3 := hide h3.done
        cases bo with
        | false =>
          gi_wp2
          (try simp only [Exit.inBlock, Exit.then])
          exact bodyPost_ret (results_cell_row rfl _ _ w.heap.size _ #[.int .i64 1, .int .i64 x] (0, 0) _ rfl hd3.out.1 Tryd.underlying36 rfl (by kernel_rfl)) rfl ⟨⟨1, x, by unfold Fits; omega, by unfold Fits; omega, rfl⟩, _, by omega, hd3.out.2⟩
        | true =>
          clear hd3
          have hA4 := World.grownBy_alloc V3 (.cells #[.int .i64 (-1), .int .i64 2, .int .i64 12, .int .i64 100] 3) (some R)
          have h3a := h3.move (h3.rd.alloc _) hA4
          have z3 := h3.rd.lt
          have l4 := World.size_alloc V3 (.cells #[.int .i64 (-1), .int .i64 2, .int .i64 12, .int .i64 100] 3)
          have hlit : ∀ i : Nat, i < 4 → ∃ z : Int, -1 ≤ z ∧ z ≤ 100 ∧ (V3.alloc (.cells #[.int .i64 (-1), .int .i64 2, .int .i64 12, .int .i64 100] 3)).cell? ⟨V3.heap.size, i, none⟩ = some (.int .i64 z) := fun i hi => by
            rw [World.cell?_alloc_at _ _ _ _ rfl]
            rcases (show i = 0 ∨ i = 1 ∨ i = 2 ∨ i = 3 by omega) with rfl | rfl | rfl | rfl
            · exact ⟨-1, by omega, by omega, rfl⟩
            · exact ⟨2, by omega, by omega, rfl⟩
            · exact ⟨12, by omega, by omega, rfl⟩
            · exact ⟨100, by omega, by omega, rfl⟩
          have hlith := hide hlit
          clear hlit
          gi_wp2_with fail
          refine ⟨trivial, ?_⟩
          gi_at_call 24
          refine (callsIn_wide.2 (pick_in W0 R len cap _ a _ _ hb h3a.rd (by omega))).mono ?_
          rintro e V4 ⟨y, rfl, hy0, _, hy1, hR4, hg4, _⟩
          have hy2 := hy1 (by omega)
          obtain ⟨j, rfl⟩ : ∃ j : Nat, y = j := ⟨y.toNat, by omega⟩
          have hji : (j : Int) < 4 := by omega
          obtain ⟨z, hz0, hz1, hc⟩ := hlith.out j (by omega)
          have hc4 := (grown_cell12 hg4 (by omega) (by omega) j).trans hc
          have h5 := h3a.move hR4 hg4
          have h6 := h5.set1 z
          clear hc hlith hR4 hg4 hA4 l4 hy1
          obtain ⟨c0, c1, f0, f1⟩ := row_atD h5.box
          obtain ⟨r0, r1, t0, t1⟩ := row_atD h5.res
          have hd6 := hide h6.done
          obtain ⟨c0', c1', f0', f1'⟩ := row_atD h6.box
          obtain ⟨r0', r1', t0', t1'⟩ := row_atD h6.res
          gi_wp2
          (try simp only [Exit.inBlock, Exit.then])
          exact bodyPost_ret (results_cell_row rfl _ _ w.heap.size _ #[.int .i64 1, .int .i64 z] (0, 0) _ rfl hd6.out.1 Tryd.underlying36 rfl (by kernel_rfl)) rfl ⟨⟨1, z, by unfold Fits; omega, by unfold Fits; omega, rfl⟩, _, by omega, hd6.out.2⟩
    · have hk0' : (k == 0) = false := by simp; omega
      have hk1' : (k == 1) = false := by simp; omega
      obtain ⟨c0, c1, f0, f1⟩ := row_atD hD.box
      obtain ⟨r0, r1, t0, t1⟩ := row_atD hD.res
      have hO := odd_any W0 R len cap _ a 40 _ hb hD.rd (by omega) (by omega) (by omega)
      gi_wp2_with fail
      refine ⟨trivial, ?_⟩
      gi_at_call 12
      refine (callsIn_wide.2 hO).mono ?_
      rintro e V3 ⟨bo, rfl, hR3, hg3⟩
      have h3 := hD.move hR3 hg3
      clear hR3 hg3 hO
      obtain ⟨c0, c1, f0, f1⟩ := row_atD h3.box
      obtain ⟨r0, r1, t0, t1⟩ := row_atD h3.res
      have hd3 := hide h3.done
      cases bo with
      | false =>
        gi_wp2
        (try simp only [Exit.inBlock, Exit.then])
        exact bodyPost_ret (results_cell_row rfl _ _ w.heap.size _ #[.int .i64 k, .int .i64 0] (0, 0) _ rfl hd3.out.1 Tryd.underlying36 rfl (by kernel_rfl)) rfl ⟨⟨k, 0, by unfold Fits; omega, by unfold Fits; omega, rfl⟩, _, by omega, hd3.out.2⟩
      | true =>
        clear hd3
        have hA4 := World.grownBy_alloc V3 (.cells #[.int .i64 (-1), .int .i64 2, .int .i64 12, .int .i64 100] 3) (some R)
        have h3a := h3.move (h3.rd.alloc _) hA4
        have z3 := h3.rd.lt
        have l4 := World.size_alloc V3 (.cells #[.int .i64 (-1), .int .i64 2, .int .i64 12, .int .i64 100] 3)
        have hlit : ∀ i : Nat, i < 4 → ∃ z : Int, -1 ≤ z ∧ z ≤ 100 ∧ (V3.alloc (.cells #[.int .i64 (-1), .int .i64 2, .int .i64 12, .int .i64 100] 3)).cell? ⟨V3.heap.size, i, none⟩ = some (.int .i64 z) := fun i hi => by
          rw [World.cell?_alloc_at _ _ _ _ rfl]
          rcases (show i = 0 ∨ i = 1 ∨ i = 2 ∨ i = 3 by omega) with rfl | rfl | rfl | rfl
          · exact ⟨-1, by omega, by omega, rfl⟩
          · exact ⟨2, by omega, by omega, rfl⟩
          · exact ⟨12, by omega, by omega, rfl⟩
          · exact ⟨100, by omega, by omega, rfl⟩
        have hlith := hide hlit
        clear hlit
        gi_wp2_with fail
        refine ⟨trivial, ?_⟩
        gi_at_call 24
        refine (callsIn_wide.2 (pick_in W0 R len cap _ a _ _ hb h3a.rd (by omega))).mono ?_
        rintro e V4 ⟨y, rfl, hy0, _, hy1, hR4, hg4, _⟩
        have hy2 := hy1 (by omega)
        obtain ⟨j, rfl⟩ : ∃ j : Nat, y = j := ⟨y.toNat, by omega⟩
        have hji : (j : Int) < 4 := by omega
        obtain ⟨z, hz0, hz1, hc⟩ := hlith.out j (by omega)
        have hc4 := (grown_cell12 hg4 (by omega) (by omega) j).trans hc
        have h5 := h3a.move hR4 hg4
        have h6 := h5.set1 z
        clear hc hlith hR4 hg4 hA4 l4 hy1
        obtain ⟨c0, c1, f0, f1⟩ := row_atD h5.box
        obtain ⟨r0, r1, t0, t1⟩ := row_atD h5.res
        have hd6 := hide h6.done
        obtain ⟨c0', c1', f0', f1'⟩ := row_atD h6.box
        obtain ⟨r0', r1', t0', t1'⟩ := row_atD h6.res
        gi_wp2
        (try simp only [Exit.inBlock, Exit.then])
        exact bodyPost_ret (results_cell_row rfl _ _ w.heap.size _ #[.int .i64 k, .int .i64 z] (0, 0) _ rfl hd6.out.1 Tryd.underlying36 rfl (by kernel_rfl)) rfl ⟨⟨k, z, by unfold Fits; omega, by unfold Fits; omega, rfl⟩, _, by omega, hd6.out.2⟩
end Go.Proofs.YtkcbfiglmjdaiaaDoor
