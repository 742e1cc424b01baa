/-
  The draws of chapter 12: a desk.
-/
import Derived.Test.YtimnhedjapakhaaDraw12a
import Derived.Test.YtimnhedjapakhaaMadeRd
import Derived.OwnWalkIn
import Derived.Test.YtimnhedjapakhaaS12Y
import Derived.Test.YtimnhedjapakhaaSpec12r
namespace Go.Proofs.Ytimnhedjapakhaa
open Go Go.RowKit
attribute [local go_sem] Oper.semAt_some

theorem ints_rd {W0 W W' : World} {R len cap q : Nat} {a : Option Addr} {v : Value} {xs : List Int} (h : Ints W v xs) (hR : Rd W0 R a len cap W q) (hg : W.grownBy W' (some R)) : Ints W' v xs := by
  rcases h with h | ⟨g, c, rfl, hg0, hc⟩
  · exact .inl h
  · by_cases h0 : 0 < xs.length
    · have hne : g ≠ R := fun e => by
        subst e
        have h1 := hc 0 h0
        unfold World.cell? at h1
        rw [hR.2.2] at h1
        simp at h1
      exact .inr ⟨g, c, rfl, Nat.lt_of_lt_of_le hg0 hg.size, fun i hi => (grown_cell12 hg hg0 hne i).trans (hc i hi)⟩
    · exact .inr ⟨g, c, rfl, Nat.lt_of_lt_of_le hg0 hg.size, fun i hi => absurd hi (by omega)⟩
/-- A desk whose rows of before are its own. -/
def YD (base : Nat) (D : Dk) (V : World) (y : Value) : Prop := ∃ x p, y = .agg #[x, p] ∧ Ints V x D.1 ∧ OwnSS V base p D.2
theorem YD.deskI {base : Nat} {D : Dk} {V : World} {y : Value} (h : YD base D V y) : DeskI V y D := by
  obtain ⟨x, p, rfl, h1, h2⟩ := h
  exact ⟨x, p, rfl, h1, h2.past⟩
theorem YD.below {base : Nat} {D : Dk} {V V' : World} {y : Value} (h : YD base D V y) (hB : Below V.heap.size V V') : YD base D V' y := by
  obtain ⟨x, p, rfl, h1, h2⟩ := h
  exact ⟨x, p, rfl, h1.below hB, h2.below hB⟩
theorem YD.down {base base' : Nat} {D : Dk} {V : World} {y : Value} (h : YD base D V y) (hb : base' ≤ base) : YD base' D V y := by
  obtain ⟨x, p, rfl, h1, h2⟩ := h
  exact ⟨x, p, rfl, h1, h2.down hb⟩
theorem YD.form {base : Nat} {D : Dk} {V : World} {y : Value} (h : YD base D V y) : ∃ a b c e, y = .agg #[.slice a D.1.length b, .slice c D.2.length e] := by
  obtain ⟨x, p, rfl, h1, h2⟩ := h
  obtain ⟨a, b, rfl⟩ := h1.shape
  obtain ⟨c, e, rfl⟩ := h2.form
  exact ⟨_, _, _, _, rfl⟩
theorem YD.rd {W0 : World} {R len cap q base : Nat} {a : Option Addr} {D : Dk} {V V' : World} {y : Value} (h : YD base D V y) (hR : Rd W0 R a len cap V q) (hb : R < base) (hg : V.grownBy V' (some R)) : YD base D V' y := by
  obtain ⟨x, p, rfl, h1, h2⟩ := h
  exact ⟨x, p, rfl, ints_rd h1 hR hg, h2.old hb hg⟩
theorem YD.set {base b n1 c1 n2 c2 i m e : Nat} {a1 a2 s : Option Addr} {D : Dk} {V : World} {y : Value} (h : YD base D V y) (kb : V.heap[b]? = some (.cells #[.slice a1 n1 c1, .slice a2 n2 c2] 26 (0, 0))) : YD base D (V.setCell ⟨b, i, none⟩ (.slice s m e)) y := by
  obtain ⟨x, p, rfl, h1, h2⟩ := h
  have g := grownBy_setAt V b i (.slice s m e)
  exact ⟨x, p, rfl, ints_grown h1 kb g, h2.kept kb (by decide) (by decide) g⟩
/-- The row lies above a mark, and apart from the rows of before. -/
def Apart (base : Nat) (y : Value) : Prop := ∀ x p, y = .agg #[x, p] → ∀ g, x.ownBlock = some g → base ≤ g ∧ p.ownBlock ≠ some g
theorem Apart.down {base base' : Nat} {y : Value} (h : Apart base y) (hb : base' ≤ base) : Apart base' y := fun x p e g e1 => ⟨Nat.le_trans hb (h x p e g e1).1, (h x p e g e1).2⟩
theorem YD.of {base : Nat} {D : Dk} {V : World} {y : Value} (h : DeskI V y D) (h2 : PastO V base y D.2) : YD base D V y ∧ Apart base y := by
  obtain ⟨x, p, rfl, h1, _⟩ := h
  obtain ⟨x', p', e, h3, h4⟩ := h2
  injection e with e
  simp at e
  obtain ⟨rfl, rfl⟩ := e
  refine ⟨⟨x, p, rfl, h1, h3⟩, fun x' p' e => ?_⟩
  injection e with e
  simp at e
  obtain ⟨rfl, rfl⟩ := e
  exact h4
theorem apart_none {base : Nat} {x : Value} (h : ∀ g, x.ownBlock = some g → base ≤ g) : Apart base (.agg #[x, .slice none 0 0]) := fun x' p' e g e1 => by
  injection e with e
  simp at e
  obtain ⟨rfl, rfl⟩ := e
  exact ⟨h g e1, by simp [Value.ownBlock]⟩
/-- The row lies above a mark. -/
def LoN (base : Nat) (y : Value) : Prop := ∀ x p, y = .agg #[x, p] → ∀ g, x.ownBlock = some g → base ≤ g
theorem Apart.loN {base : Nat} {y : Value} (h : Apart base y) : LoN base y := fun x p e g e1 => (h x p e g e1).1
theorem LoN.of {base : Nat} {x p : Value} (h : ∀ g, x.ownBlock = some g → base ≤ g) : LoN base (.agg #[x, p]) := fun x' p' e g e1 => by
  injection e with e
  simp at e
  obtain ⟨rfl, rfl⟩ := e
  exact h g e1
/-- What changes below the mark leaves the desk. -/
theorem YD.old {base b : Nat} {D : Dk} {V V' : World} {y : Value} (h : YD base D V y) (hl : LoN base y) (hb : b < base) (hg : V.grownBy V' (some b)) : YD base D V' y := by
  obtain ⟨x, p, rfl, h1, h2⟩ := h
  exact ⟨x, p, rfl, ints_apart h1 hg (fun g e1 e2 => by have := hl x p rfl g e1; injection e2 with e2; omega), h2.old hb hg⟩
theorem YD.capN {base : Nat} {D : Dk} {V : World} {y : Value} (h : YD base D V y) : CapN base y := by
  obtain ⟨x, p, rfl, _, us, hl, ho, _⟩ := h
  obtain ⟨a, c, rfl⟩ := own_form ho
  refine CapN.of (own_cap ho) fun g o t e => ?_
  subst e
  exact (ho.lt g rfl).1
/-- Sizes of a desk that was drawn. -/
def DkZ (d : Dk) : Prop := d.1.length ≤ 12 ∧ d.2.length ≤ 9 ∧ ∀ j, (d.2.getD j []).length ≤ 12
theorem DkZ.dkS {d : Dk} (h : DkZ d) : DkS d := ⟨by have := h.1; omega, by have := h.2.1; omega, fun j => by have := h.2.2 j; omega⟩
theorem RowsOk.at_ {D : Dk} (h : RowsOk D) (j : Nat) : (D.2.getD j []).length ≤ 12 := by
  by_cases hj : j < D.2.length
  · exact h.2.1 j hj
  · rw [List.getD, List.getElem?_eq_none (by omega)]; simp
theorem RowsOk.dkZ {D : Dk} (h : RowsOk D) : DkZ D := ⟨h.2.2.1, by have := h.2.2.2; omega, h.at_⟩
theorem newV_rows (xs : List Int) : RowsOk (newV xs) := by
  unfold newV
  split
  · rename_i h
    have := sideB_len h
    exact ⟨fun j hj => by simp at hj, fun j hj => by simp at hj, this.2, by simp⟩
  · exact rowsOk_none
theorem doV_past (d : Dk) (k n : Int) : (doV d k n).1.2.length ≤ d.2.length + 1 := by
  unfold doV pastV
  repeat' split
  all_goals simp
  all_goals omega

/-- A desk that is drawn: its variable is block b, the result's block that of w's size. -/
structure Dq (W0 : World) (R len cap : Nat) (a : Option Addr) (w : World) (b : Nat) (d : Dk) (x p : Value) (V : World) (q : Nat) : Prop where
  rd : Rd W0 R a len cap V q
  gr : w.grownBy V (some R)
  box : V.heap[b]? = some (.cells #[x, p] 26 (0, 0))
  res : V.heap[w.heap.size]? = some (.cells #[.slice none 0 0, .slice none 0 0] 26 (0, 0))
  lo : w.heap.size + 1 ≤ b
  rw_ : R < w.heap.size
  yd : YD (w.heap.size + 1) d V (.agg #[x, p])
  rows : DkZ d
theorem Dq.move {W0 : World} {R len cap : Nat} {a : Option Addr} {w : World} {b : Nat} {d : Dk} {x p : Value} {V V' : World} {q q' : Nat} (h : Dq W0 R len cap a w b d x p V q) (h1 : Rd W0 R a len cap V' q') (h2 : V.grownBy V' (some R)) : Dq W0 R len cap a w b d x p V' q' := by
  have h3 := h.lo
  have h4 := h.rw_
  exact ⟨h1, h.gr.trans h2, (h2.block b (Array.getElem?_eq_some_iff.1 h.box).1 (fun e => by injection e with e; omega)).trans h.box, (h2.block _ (Array.getElem?_eq_some_iff.1 h.res).1 (fun e => by injection e with e; omega)).trans h.res, h3, h4, h.yd.rd h.rd (by omega) h2, h.rows⟩

theorem Dq.set0 {W0 : World} {R len cap : Nat} {a : Option Addr} {w : World} {b : Nat} {d : Dk} {V : World} {q n1 c1 n2 c2 m e : Nat} {a1 a2 s : Option Addr} {xs : List Int} (h : Dq W0 R len cap a w b d (.slice a1 n1 c1) (.slice a2 n2 c2) V q) (hx : Ints V (.slice s m e) xs) (hl : xs.length ≤ 12) :
    Dq W0 R len cap a w b (xs, d.2) (.slice s m e) (.slice a2 n2 c2) (V.setCell ⟨b, 0, .none⟩ (.slice s m e)) q := by
  have h3 := h.lo
  have h4 := h.rw_
  have h5 := h.rd.2.1
  have g := grownBy_setAt V b 0 (.slice s m e)
  obtain ⟨x', p', e1, _, h7⟩ := h.yd
  injection e1 with e1
  simp at e1
  obtain ⟨rfl, rfl⟩ := e1
  exact ⟨h.rd.kept g (fun e => by injection e with e; omega) (fun k e => by injection e with e; omega), h.gr.andThen g (fun k e => .inl (by injection e with e; omega)), set_cells h.box 0 _,
    (g.block _ (Array.getElem?_eq_some_iff.1 h.res).1 (fun e => by injection e with e; omega)).trans h.res, h3, h4, ⟨_, _, rfl, ints_grown hx h.box g, h7.kept h.box (by decide) (by decide) g⟩, hl, h.rows.2.1, h.rows.2.2⟩
theorem Dq.set1 {W0 : World} {R len cap : Nat} {a : Option Addr} {w : World} {b : Nat} {d : Dk} {V : World} {q n1 c1 n2 c2 m e : Nat} {a1 a2 s : Option Addr} {rows : List (List Int)} (h : Dq W0 R len cap a w b d (.slice a1 n1 c1) (.slice a2 n2 c2) V q) (hx : OwnSS V (w.heap.size + 1) (.slice s m e) rows) (hl : DkZ (d.1, rows)) :
    Dq W0 R len cap a w b (d.1, rows) (.slice a1 n1 c1) (.slice s m e) (V.setCell ⟨b, 1, .none⟩ (.slice s m e)) q := by
  have h3 := h.lo
  have h4 := h.rw_
  have h5 := h.rd.2.1
  have g := grownBy_setAt V b 1 (.slice s m e)
  obtain ⟨x', p', e1, h6, _⟩ := h.yd
  injection e1 with e1
  simp at e1
  obtain ⟨rfl, rfl⟩ := e1
  exact ⟨h.rd.kept g (fun e => by injection e with e; omega) (fun k e => by injection e with e; omega), h.gr.andThen g (fun k e => .inl (by injection e with e; omega)), set_cells h.box 1 _,
    (g.block _ (Array.getElem?_eq_some_iff.1 h.res).1 (fun e => by injection e with e; omega)).trans h.res, h3, h4, ⟨_, _, rfl, ints_grown h6 h.box g, hx.kept h.box (by decide) (by decide) g⟩, hl⟩
/-- The desk is handed back. -/
theorem Dq.done {W0 : World} {R len cap : Nat} {a : Option Addr} {w : World} {b : Nat} {d : Dk} {V : World} {q n1 c1 n2 c2 : Nat} {a1 a2 : Option Addr} (h : Dq W0 R len cap a w b d (.slice a1 n1 c1) (.slice a2 n2 c2) V q) :
    ((V.setCell ⟨w.heap.size, 0, .none⟩ (.slice a1 n1 c1)).setCell ⟨w.heap.size, 1, .none⟩ (.slice a2 n2 c2)).heap[w.heap.size]? = some (.cells #[.slice a1 n1 c1, .slice a2 n2 c2] 26 (0, 0)) ∧
    YD w.heap.size d ((V.setCell ⟨w.heap.size, 0, .none⟩ (.slice a1 n1 c1)).setCell ⟨w.heap.size, 1, .none⟩ (.slice a2 n2 c2)) (.agg #[.slice a1 n1 c1, .slice a2 n2 c2]) ∧
    Rd W0 R a len cap ((V.setCell ⟨w.heap.size, 0, .none⟩ (.slice a1 n1 c1)).setCell ⟨w.heap.size, 1, .none⟩ (.slice a2 n2 c2)) q ∧ w.grownBy ((V.setCell ⟨w.heap.size, 0, .none⟩ (.slice a1 n1 c1)).setCell ⟨w.heap.size, 1, .none⟩ (.slice a2 n2 c2)) (some R) := by
  have h4 := h.rw_
  have h5 := h.rd.2.1
  have g := grownBy_setAt V w.heap.size 0 (.slice a1 n1 c1)
  have k := set_cells h.res 0 (.slice a1 n1 c1)
  have g2 := grownBy_setAt (V.setCell ⟨w.heap.size, 0, .none⟩ (.slice a1 n1 c1)) w.heap.size 1 (.slice a2 n2 c2)
  exact ⟨desk_set h.res _ _, ((h.yd.set h.res).set k).down (by omega), (h.rd.kept g (fun e => by injection e with e; omega) (fun k e => by injection e with e; omega)).kept g2 (fun e => by injection e with e; omega) (fun k e => by injection e with e; omega),
    (h.gr.andThen g (fun k e => .inl (by injection e with e; omega))).andThen g2 (fun k e => .inl (by injection e with e; omega))⟩
/-- A row more of before: what is handed back. -/
theorem Dq.grow {W0 : World} {R len cap : Nat} {a : Option Addr} {w : World} {b : Nat} {d : Dk} {V W : World} {q n1 c1 n2 c2 n3 c3 : Nat} {a1 a2 a3 : Option Addr} {u : Value} {us : List Value} (h : Dq W0 R len cap a w b d (.slice a1 n1 c1) (.slice a2 n2 c2) V q) (hap : Apart (w.heap.size + 1) (.agg #[.slice a1 n1 c1, .slice a2 n2 c2])) (hl : us.length = d.2.length)
    (huo : V.ownsRow (w.heap.size + 1) 23 1 (.slice a2 n2 c2) us.length us) (hur : ∀ j, j < d.2.length → V.ownsRow (w.heap.size + 1) 3 1 (us.getD j undef) (d.2.getD j []).length ((d.2.getD j []).map (Value.int .i64)))
    (hu : V.ownsRow (w.heap.size + 1) 3 1 u 0 []) (how : W.ownsRow (w.heap.size + 1) 23 1 (.slice a3 n3 c3) (us.length + 1) (us ++ [u])) (hg : V.grownBy W (Value.ownBlock (.slice a2 n2 c2))) (hd : d.2.length ≤ 8) :
    Dq W0 R len cap a w b (d.1, d.2 ++ [[]]) (.slice a1 n1 c1) (.slice a3 n3 c3) (W.setCell ⟨b, 1, .none⟩ (.slice a3 n3 c3)) q := by
  have h3 := h.lo
  have h4 := h.rw_
  have h5 := h.rd.2.1
  have hlo : ∀ k, Value.ownBlock (.slice a2 n2 c2) = some k → w.heap.size + 1 ≤ k := fun k e => (huo.lt k e).1
  have nR : (some R : Option Nat) ≠ Value.ownBlock (.slice a2 n2 c2) := fun e => by have := hlo R e.symm; omega
  have nb : (some b : Option Nat) ≠ Value.ownBlock (.slice a2 n2 c2) := fun e => own_not huo h.box (by decide) e.symm
  have nr : (some w.heap.size : Option Nat) ≠ Value.ownBlock (.slice a2 n2 c2) := fun e => by have := hlo _ e.symm; omega
  have hbox : W.heap[b]? = _ := (hg.block b (Array.getElem?_eq_some_iff.1 h.box).1 (fun e => nb e)).trans h.box
  have hres : W.heap[w.heap.size]? = _ := (hg.block _ (Array.getElem?_eq_some_iff.1 h.res).1 (fun e => nr e)).trans h.res
  have hrd := h.rd.kept hg nR (fun k e => by have := hlo k e; omega)
  have hgr := h.gr.andThen hg (fun k e => .inl (by have := hlo k e; omega))
  have hO : OwnSS W (w.heap.size + 1) (.slice a3 n3 c3) (d.2 ++ [[]]) := OwnSS.push hl huo hur (row := []) hu how hg
  obtain ⟨x', p', e1, h6, _⟩ := h.yd
  injection e1 with e1
  simp at e1
  obtain ⟨rfl, rfl⟩ := e1
  have hI := ints_apart h6 hg (fun g e1 e2 => (hap _ _ rfl g e1).2 e2)
  have g := grownBy_setAt W b 1 (.slice a3 n3 c3)
  refine ⟨hrd.kept g (fun e => by injection e with e; omega) (fun k e => by injection e with e; omega), hgr.andThen g (fun k e => .inl (by injection e with e; omega)), set_cells hbox 1 _,
    (g.block _ (Array.getElem?_eq_some_iff.1 hres).1 (fun e => by injection e with e; omega)).trans hres, h3, h4, ⟨_, _, rfl, ints_grown hI hbox g, hO.kept hbox (by decide) (by decide) g⟩, h.rows.1, by simp; omega, fun j => ?_⟩
  show ((d.2 ++ [[]]).getD j []).length ≤ 12
  have h7 := h.rows.2.2 j
  by_cases hj : j < d.2.length
  · rw [List.getD, List.getElem?_append_left hj]; exact h7
  · rw [List.getD, List.getElem?_append_right (by omega)]
    rcases Nat.eq_zero_or_pos (j - d.2.length) with e | e
    · rw [e]; simp
    · rw [List.getElem?_eq_none (by simp; omega)]; simp
theorem Dq.put {W0 : World} {R len cap : Nat} {a : Option Addr} {w : World} {b : Nat} {d D : Dk} {V : World} {q n1 c1 n2 c2 m1 e1 m2 e2 : Nat} {a1 a2 s1 s2 : Option Addr} (h : Dq W0 R len cap a w b d (.slice a1 n1 c1) (.slice a2 n2 c2) V q) (hY : YD (w.heap.size + 1) D V (.agg #[.slice s1 m1 e1, .slice s2 m2 e2])) (hr : DkZ D) :
    Dq W0 R len cap a w b D (.slice s1 m1 e1) (.slice s2 m2 e2) ((V.setCell ⟨b, 0, .none⟩ (.slice s1 m1 e1)).setCell ⟨b, 1, .none⟩ (.slice s2 m2 e2)) q := by
  have h3 := h.lo
  have h4 := h.rw_
  have h5 := h.rd.2.1
  have g := grownBy_setAt V b 0 (.slice s1 m1 e1)
  have k := set_cells h.box 0 (.slice s1 m1 e1)
  have g2 := grownBy_setAt (V.setCell ⟨b, 0, .none⟩ (.slice s1 m1 e1)) b 1 (.slice s2 m2 e2)
  exact ⟨(h.rd.kept g (fun e => by injection e with e; omega) (fun k e => by injection e with e; omega)).kept g2 (fun e => by injection e with e; omega) (fun k e => by injection e with e; omega),
    (h.gr.andThen g (fun k e => .inl (by injection e with e; omega))).andThen g2 (fun k e => .inl (by injection e with e; omega)), desk_set h.box _ _,
    (g2.block _ (Nat.lt_of_lt_of_le (Array.getElem?_eq_some_iff.1 h.res).1 g.size) (fun e => by injection e with e; omega)).trans ((g.block _ (Array.getElem?_eq_some_iff.1 h.res).1 (fun e => by injection e with e; omega)).trans h.res), h3, h4, (hY.set h.box).set k, hr⟩
set_option maxRecDepth 100000 in
set_option maxHeartbeats 4000000 in
theorem l20Desk_in (W0 : World) (R len cap p : Nat) (a : Option Addr) (n : Int) (hn : 0 < n) (hn2 : n ≤ 1000) (w : World) (hb : Bytes W0 a len) (h : Rd W0 R a len cap w p) (hp : p ≤ 600000) :
    Calls Try.prog 31 #[.pointer (some ⟨R, 0, none⟩), .int .i64 n] w fun e w' => ∃ y d, e = .returned y ∧ YD w.heap.size d w' y ∧ LoN w.heap.size y ∧ DkZ d ∧ ∃ p', p' ≤ p + 300 ∧ Rd W0 R a len cap w' p' ∧ w.grownBy w' (some R) := by
  have hRw := h.lt
  have hW0R := h.2.1
  refine (callsIn_wide (n := 9)).1 ?_
  refine callsIn_of_wp Try.func31 rfl trivial ?_ rfl
  simp only [Try.ntmps31, List.size_toArray, List.length_cons, List.length_nil, Nat.reduceAdd, Nat.reduceSub, Array.replicate_succ, Array.replicate_zero, List.push_toArray, List.append_toArray, List.nil_append, List.cons_append]
  have hg1 : w.grownBy (w.alloc (.cells #[.slice none 0 0, .slice none 0 0] 26)) (some R) := World.grownBy_alloc w _ _
  have k1 := World.alloc_heap_new w (.cells #[.slice none 0 0, .slice none 0 0] 26)
  have hR1 := h.alloc (.cells #[.slice none 0 0, .slice none 0 0] 26)
  have z1 := World.size_alloc w (.cells #[.slice none 0 0, .slice none 0 0] 26)
  obtain ⟨w1, hw1⟩ : ∃ w1, w.alloc (.cells #[.slice none 0 0, .slice none 0 0] 26) = w1 := ⟨_, rfl⟩
  rw [hw1] at hg1 k1 hR1 z1
  have z1' : w.heap.size + 1 ≤ w1.heap.size := by omega
  clear z1
  gi_wp2_with fail
  refine ⟨trivial, ?_⟩
  gi_at_call 62
  refine (callsIn_wide.2 (l20Side0_in W0 R len cap p a w1 hb hR1 (by omega))).mono ?_
  rintro e w2 ⟨v, xs, rfl, hv, hx1, hx2, q2, hq2, hR2, hg2⟩
  have hvi := Ints.of_owns hv
  have hnr := newV_rows xs
  gi_wp2_with fail
  refine ⟨trivial, ?_⟩
  gi_at_call 61
  refine (callsIn_wide.2 (specNew v xs w2 hvi (by omega))).mono ?_
  rintro e w3 ⟨x, rfl, hx, hB3⟩
  have hxi := Ints.of_owns hx
  have hxlo' := hide (show ∀ g, x.ownBlock = some g → w.heap.size + 1 ≤ g from fun g e => by have h9 := (hx.lt g e).1; have h8 := hg2.size; omega)
  have hn2' : (newV xs).2 = [] := by unfold newV; split <;> rfl
  obtain ⟨xa, xc, rfl⟩ := own_form hx
  have hR3 := hR2.kept (below_grownAt hB3 none) (by simp) (fun _ e => by cases e)
  have hg3 := (hg1.trans hg2).trans (below_grownAt hB3 (some R))
  have hres3 := (hB3.block _ (by have := (Array.getElem?_eq_some_iff.1 k1).1; have := hg2.size; omega)).trans ((hg2.block _ (Array.getElem?_eq_some_iff.1 k1).1 (fun e => by injection e with e; omega)).trans k1)
  have z3 : w1.heap.size ≤ w3.heap.size := Nat.le_trans hg2.size hB3.size
  obtain ⟨D, hD⟩ : ∃ D, newV xs = D := ⟨_, rfl⟩
  rw [hD] at hxi hnr hn2' ⊢
  have hxl0 := hxlo'.out
  rw [hD] at hxl0
  have hxloh := hide hxl0
  clear hxl0 hxlo'
  have hb0 := World.alloc_heap_new w3 (.cells #[.slice xa D.1.length xc, .slice none 0 0] 26)
  have hba := (Below.refl _ w3).alloc (Nat.le_refl _) (.cells #[.slice xa D.1.length xc, .slice none 0 0] 26)
  have hQ0 : Dq W0 R len cap a w w3.heap.size D (.slice xa D.1.length xc) (.slice none 0 0) (w3.alloc (.cells #[.slice xa D.1.length xc, .slice none 0 0] 26)) q2 :=
    ⟨hR3.alloc _, hg3.trans (World.grownBy_alloc _ _ _), hb0, (Below.heap_alloc _ _ _ (Array.getElem?_eq_some_iff.1 hres3).1).trans hres3, by omega, hRw, ⟨_, _, rfl, hxi.below hba, by rw [hn2']; exact ⟨[], rfl, World.ownsRow_nil _ _ _ _, fun j hj => by simp at hj⟩⟩, hnr.dkZ⟩
  gi_wp2_with fail
  obtain ⟨V0, hV0⟩ : ∃ V0, w3.alloc (.cells #[.slice xa D.1.length xc, .slice none 0 0] 26) = V0 := ⟨_, rfl⟩
  rw [hV0] at hQ0 ⊢
  obtain ⟨b, hbe⟩ : ∃ b, w3.heap.size = b := ⟨_, rfl⟩
  rw [hbe] at hQ0 ⊢
  clear hV0 hbe hb0 hba hres3 hR3 hg3 hxi hx hB3 hvi hv hR2 hg2 hR1 hg1 hw1 k1 z3 z1'
  refine ⟨trivial, ?_⟩
  gi_at_call 63
  refine (callsIn_wide.2 (pick_in W0 R len cap q2 a 6 V0 hb hQ0.rd (by omega))).mono ?_
  rintro e w4 ⟨x0, rfl, hx0, _, hx1', hR4, hg4, _⟩
  replace hx1' := hx1' (by omega)
  obtain ⟨N, rfl⟩ : ∃ N : Nat, x0 = N := ⟨x0.toNat, by omega⟩
  have hQ4 := hQ0.move hR4 hg4
  have hD0 : D.2.length ≤ 0 := by rw [hn2']; simp
  have hxlo := hxloh.out
  clear hQ0 hR4 hg4 hn2' hnr hD
  gi_wp2
  gi_loopw [7] (fun k wr => ∃ (j : Nat) (d : Dk) (x p1 : Value) (q : Nat), j ≤ N ∧ k = .int .i64 ((N : Int) - (j : Nat)) ∧ q ≤ p + 14 + 40 * j ∧ d.2.length ≤ j ∧ Dq W0 R len cap a w b d x p1 wr q ∧ Apart (w.heap.size + 1) (.agg #[x, p1])) (fun k _ => (intOf k).toNat)
  case atStart => exact ⟨0, D, _, _, _, by omega, by go_num, by omega, hD0, hQ4, apart_none (fun g e => hxlo g e)⟩
  case round =>
    clear hQ4 hD0
    obtain ⟨j, d, x, p1, q, hj, rfl, hq, hd2, hQ, hap⟩ := hrel
    obtain ⟨x1, x2, x3, x4, hform⟩ := hQ.yd.form
    injection hform with hform
    simp at hform
    obtain ⟨rfl, rfl⟩ := hform
    by_cases hjn : j < N
    · have hc : (0 : Int) < (N : Int) - (j : Int) := by omega
      have hw1 : IntKind.i64.wrap ((N : Int) - (j : Int) - 1) = (N : Int) - (j : Int) - 1 := IntWalk.i64_in _ (by omega)
      have hd12 := hQ.rows.1
      have lb := (Array.getElem?_eq_some_iff.1 hQ.box).1
      have hlo := hQ.lo
      have hszr := hQ.gr.size
      gi_wp2
      refine wpIn_region_madeR W0 R len cap q a 30 4 5 [(some 23, 0), (some 24, 1), (some 25, 2), (some 26, 3), (some 27, 4), (some 28, 5), (some 22, 6), (some 29, 7), (some 30, 8), (some 8, 9), (none, 10)] (fun z => ∃ bo, z = .bool bo) (fun V y => ∃ D', RowsOk D' ∧ D'.2.length ≤ d.2.length + 1 ∧ YD (w.heap.size + 1) D' V y ∧ Apart (w.heap.size + 1) y) (by kernel_rfl) (by kernel_rfl) (by kernel_rfl) (by decide) (by kernel_rfl) (by kernel_rfl) (by rfl) (by decide) (by decide) hQ.rd
        (fun i v V => match i with | 0 => v = .agg #[.slice x1 d.1.length x2, .slice x3 d.2.length x4] | 1 => v = .pointer (some ⟨R, 0, none⟩) | 2 => v = .pointer (some ⟨b, 0, none⟩) | 3 => v = .slice x1 d.1.length x2 | 4 => ∃ k n, Fits k ∧ Fits n ∧ v = dV k n | _ => True)
        (fun i v V V' h hg => match i, h with | 0, h => h | 1, h => h | 2, h => h | 3, h => h | 4, h => h | (_ + 5), _ => trivial)
        (fun V V' qv y ⟨D', h1, h2, h3, h4⟩ hq' hg => ⟨D', h1, h2, h3.rd hq' (by omega) hg, h4⟩)
        (fun V b' a1 n1 c1 a2 n2 c2 ⟨D', h1, h2, h3, h4⟩ _ hz => ⟨D', h1, h2, (h3.set hz).set (set_cells hz 0 _), h4⟩)
        ?step ?call ?move ?ext0 ?ext1 ?allo ?stor ?tail
      case step =>
        rintro i oo s V qv hi ho hRV hqj hgV hd Q' hQ'
        have hQV := hQ.move hRV hgV
        obtain ⟨m0, m1, _, _⟩ := row_at hQV.box
        rcases (show i = 0 ∨ i = 1 ∨ i = 2 ∨ i = 3 ∨ i = 4 by omega) with rfl | rfl | rfl | rfl | rfl
        all_goals
          simp at ho
          subst ho
          simp only [putsOf, Act.put, List.setIfInBounds_toArray, List.set_cons_succ, List.set_cons_zero] at hQ' ⊢
          have hQh := hide hQ'
          clear hQ'
        · clear hd
          gi_wp2
          have hr := hQh.out
          exact hr _ _ qv hRV (fun _ => rfl) (by omega) (grownBy_refl _ _) rfl
        · clear hd
          gi_wp2
          have hr := hQh.out
          exact hr _ _ qv hRV (fun _ => rfl) (by omega) (grownBy_refl _ _) rfl
        · clear hd
          gi_wp2
          have hr := hQh.out
          exact hr _ _ qv hRV (fun _ => rfl) (by omega) (grownBy_refl _ _) rfl
        · have e1 : s 2 = .pointer (some ⟨b, 0, none⟩) := hd 2 (by decide) (by kernel_rfl)
          clear hd
          gi_wp2
          have hr := hQh.out
          simp only [e1] at hr ⊢
          exact hr _ _ qv hRV (fun _ => rfl) (by omega) (grownBy_refl _ _) rfl
        · have e1 : s 1 = .pointer (some ⟨R, 0, none⟩) := hd 1 (by decide) (by kernel_rfl)
          have e2 : s 3 = .slice x1 d.1.length x2 := hd 3 (by decide) (by kernel_rfl)
          have hqv := hqj rfl
          have hC := l20Deed_in W0 R len cap qv a V hb hRV (by omega) x1 d.1.length x2 (by omega)
          clear hd
          gi_wp2_with (refine ⟨trivial, ?_⟩; gi_at_call 36; go_loud (refine (callsIn_wide.2 hC).mono ?_; rintro e W9 ⟨⟨dk, dn, hk, hn9, rfl⟩, q9, hq9, hR9, hg9⟩))
          have hr := hQh.out
          simp only [e1, e2] at hr ⊢
          exact hr _ _ q9 hR9 (fun h => absurd rfl h) hq9 hg9 ⟨dk, dn, hk, hn9, rfl⟩
      case call =>
        rintro oo s V qv ho hRV hgV hd Q' hQ'
        have hQV := hQ.move hRV hgV
        obtain ⟨m0, m1, _, _⟩ := row_at hQV.box
        simp at ho
        subst ho
        simp only [putsOf, Act.put, List.setIfInBounds_toArray, List.set_cons_succ, List.set_cons_zero] at hQ' ⊢
        have hQh := hide hQ'
        clear hQ'
        have e1 : s 0 = .agg #[.slice x1 d.1.length x2, .slice x3 d.2.length x4] := hd 0 (by decide) (by kernel_rfl)
        obtain ⟨dk, dn, hk, hn9, e2⟩ : ∃ k n, Fits k ∧ Fits n ∧ s 4 = dV k n := hd 4 (by decide) (by kernel_rfl)
        have hC := specDo _ d dk dn V hQV.yd.deskI hQV.rows.dkS hk hn9
        have hsv := hgV.size
        unfold dV at e2 hC
        clear hd
        gi_wp2_with (refine ⟨trivial, ?_⟩; gi_at_call 14; go_loud (refine (callsIn_wide.2 hC).mono ?_; rintro e W9 ⟨y9, rfl, hy9, hN9, hB9⟩))
        obtain ⟨hY9, hA9⟩ := YD.of hy9 (hN9.2 (by omega))
        replace hY9 := hY9.down (base' := w.heap.size + 1) (by omega)
        replace hA9 := hA9.down (base' := w.heap.size + 1) (by omega)
        obtain ⟨z1, z2, z3, z4, rfl⟩ := hY9.form
        have hr := hQh.out
        simp only [e1, e2] at hr ⊢
        exact hr _ _ _ _ _ _ _ _ hB9 ⟨_, rfl⟩ ⟨_, doV_rows _ _ _, doV_past _ _ _, hY9, hA9⟩
      case move =>
        rintro oo s V y Q' ho hs hQ'
        simp at ho
        subst ho
        simp only [putsOf, Act.put, List.setIfInBounds_toArray, List.set_cons_succ, List.set_cons_zero] at hQ' ⊢
        have hQh := hide hQ'
        clear hQ'
        gi_wp2
        have hr := hQh.out
        simp only [hs] at hr ⊢
        exact hr
      case ext0 =>
        rintro oo s V y z Q' ho hs hQ'
        simp at ho
        subst ho
        simp only [putsOf, Act.put, List.setIfInBounds_toArray, List.set_cons_succ, List.set_cons_zero] at hQ' ⊢
        have hQh := hide hQ'
        clear hQ'
        replace hs : s 6 = .tuple #[y, z] := hs
        gi_wp2
        have hr := hQh.out
        simp only [hs] at hr ⊢
        exact hr
      case ext1 =>
        rintro oo s V y z Q' ho hs hQ'
        simp at ho
        subst ho
        simp only [putsOf, Act.put, List.setIfInBounds_toArray, List.set_cons_succ, List.set_cons_zero] at hQ' ⊢
        have hQh := hide hQ'
        clear hQ'
        replace hs : s 6 = .tuple #[y, z] := hs
        gi_wp2
        have hr := hQh.out
        simp only [hs] at hr ⊢
        exact hr
      case allo =>
        rintro oo s V Q' ho hQ'
        simp at ho
        subst ho
        simp only [putsOf, Act.put, List.setIfInBounds_toArray, List.set_cons_succ, List.set_cons_zero] at hQ' ⊢
        have hQh := hide hQ'
        clear hQ'
        gi_wp2
        exact hQh.out
      case stor =>
        rintro oo s V b' a1 n1 c1 a2 n2 c2 Q' ho hs1 hs2 hz hQ'
        obtain ⟨z0, z1, z2, z3⟩ := row_at hz
        simp at ho
        subst ho
        simp only [putsOf, Act.put, List.setIfInBounds_toArray, List.set_cons_succ, List.set_cons_zero] at hQ' ⊢
        have hQh := hide hQ'
        clear hQ'
        replace hs1 : s 9 = .pointer (some ⟨b', 0, none⟩) := hs1
        replace hs2 : s 7 = .agg #[.slice a1 n1 c1, .slice a2 n2 c2] := hs2
        gi_wp2
        have hr := hQh.out
        simp only [hs1, hs2] at hr ⊢
        exact hr
      case tail =>
        rintro s V bx a1 n1 c1 a2 n2 c2 q9 z hq9 hRV hgV f9 hbx kx hY f8 hz
        replace f9 : s 9 = .pointer (some ⟨bx, 0, none⟩) := f9
        replace f8 : s 8 = z := f8
        obtain ⟨bo, rfl⟩ := hz
        obtain ⟨D', hDr, hDp, hDY, hDA⟩ := hY
        have hQV := hQ.move hRV hgV
        obtain ⟨y1, y2, y3, y4, hf⟩ := hDY.form
        injection hf with hf
        simp at hf
        obtain ⟨⟨rfl, rfl, rfl⟩, rfl, rfl, rfl⟩ := hf
        obtain ⟨k0, k1, _, _⟩ := row_at kx
        obtain ⟨m0, m1, f0, f1⟩ := row_at hQV.box
        have hP := hide (hQV.put hDY hDr.dkZ)
        have hQV' := hide hQV
        clear hQV hQ hDY kx hgV hRV
        simp only [putsOf, Act.put, List.setIfInBounds_toArray, List.set_cons_succ, List.set_cons_zero]
        simp only [List.drop_succ_cons, List.drop_zero]
        cases bo
        · simp only [f8, f9]
          gi_wp2
          go_roundw
          case rel => exact ⟨j + 1, d, _, _, q9, by omega, by go_num, by omega, by omega, hQV'.out, hap⟩
          case measure => simp [intOf]; omega
        · simp only [f8, f9]
          gi_wp2
          go_roundw
          case rel => exact ⟨j + 1, D', _, _, q9, by omega, by go_num, by omega, by omega, hP.out, hDA⟩
          case measure => simp [intOf]; omega
    · obtain rfl : j = N := by omega
      have hc : ¬ (0 : Int) < (j : Int) - (j : Int) := by omega
      obtain ⟨m0, m1, f0, f1⟩ := row_at hQ.box
      obtain ⟨r0, r1, t0, t1⟩ := row_at hQ.res
      gi_wp2_with fail
      refine ⟨trivial, ?_⟩
      gi_at_call 48
      refine (callsIn_wide.2 (odd_any W0 R len cap _ a n _ hb hQ.rd (by omega) hn hn2)).mono ?_
      rintro e V1 ⟨bo, rfl, hR1, hg1⟩
      have hQ1 := hQ.move hR1 hg1
      clear hQ hR1 hg1
      cases bo with
      | false =>
        obtain ⟨m0, m1, f0, f1⟩ := row_at hQ1.box
        obtain ⟨r0, r1, t0, t1⟩ := row_at hQ1.res
        have hd9 := hide hQ1.done
        have hcn := hide (show LoN w.heap.size _ from fun x p e g e1 => by have := (hap x p e g e1).1; omega)
        have hdz := hide hQ1.rows
        gi_wp2
        (try simp only [Exit.inBlock, Exit.then])
        exact bodyPost_ret (results_desk rfl _ _ w.heap.size _ _ rfl hd9.out.1) rfl ⟨_, d, rfl, hd9.out.2.1, hcn.out, hdz.out, _, by omega, hd9.out.2.2⟩
      | true =>
        obtain ⟨m0, m1, f0, f1⟩ := row_at hQ1.box
        obtain ⟨r0, r1, t0, t1⟩ := row_at hQ1.res
        gi_wp2_with fail
        refine ⟨trivial, ?_⟩
        gi_at_call 63
        refine (callsIn_wide.2 (pick_in W0 R len cap _ a 3 _ hb hQ1.rd (by omega))).mono ?_
        rintro e V2 ⟨y, rfl, hy0, _, hy1, hR2, hg2, _⟩
        replace hy1 := hy1 (by omega)
        have hQ2 := hQ1.move hR2 hg2
        clear hQ1 hR2 hg2
        rcases (show y = 0 ∨ y = 1 ∨ y = 2 by omega) with rfl | rfl | rfl
        · have hA := World.grownBy_alloc V2 (.cells #[.int .i64 2] 3) (some R)
          have hQ3 := hQ2.move (hQ2.rd.alloc _) hA
          have hI : Ints (V2.alloc (.cells #[.int .i64 2] 3)) (.slice (some ⟨V2.heap.size, 0, none⟩) 1 1) [2] := .inr ⟨V2.heap.size, 1, rfl, by rw [World.size_alloc]; omega, fun i hi => by
            obtain rfl : i = 0 := by simpa using hi
            rw [World.cell?_alloc_at _ _ _ _ rfl]
            rfl⟩
          have hQ4 := hQ3.set0 hI (by simp)
          have hszg := hQ2.gr.size
          clear hQ2 hA hI
          obtain ⟨m0, m1, f0, f1⟩ := row_at hQ3.box
          obtain ⟨r0, r1, t0, t1⟩ := row_at hQ3.res
          obtain ⟨m0, m1, f0, f1⟩ := row_at hQ4.box
          obtain ⟨r0, r1, t0, t1⟩ := row_at hQ4.res
          have hd9 := hide hQ4.done
          have hcn := hide (show LoN w.heap.size _ from LoN.of (x := .slice (some ⟨V2.heap.size, 0, none⟩) 1 1) (p := .slice x3 d.2.length x4) (fun g e => by have e2 : some V2.heap.size = some g := e; injection e2 with e2; omega))
          have hdz := hide hQ4.rows
          clear hQ3 hQ4
          gi_wp2
          (try simp only [Exit.inBlock, Exit.then])
          exact bodyPost_ret (results_desk rfl _ _ w.heap.size _ _ rfl hd9.out.1) rfl ⟨_, ([2], d.2), rfl, hd9.out.2.1, hcn.out, hdz.out, _, by omega, hd9.out.2.2⟩
        · have hA := World.grownBy_alloc V2 (.cells #[] 3) (some R)
          have hQ3 := hQ2.move (hQ2.rd.alloc _) hA
          have hmade : (V2.alloc (.cells #[] 3)).ownsRow V2.heap.size 3 1 (.slice (some ⟨V2.heap.size, 0, none⟩) 0 0) 0 [] := World.ownsRow_made _ _ _ (Nat.le_refl _) (by decide) rfl
          have zA := World.size_alloc V2 (.cells #[] 3)
          obtain ⟨V3, hV3⟩ : ∃ V3, V2.alloc (.cells #[] 3) = V3 := ⟨_, rfl⟩
          have hsz2 := (Array.getElem?_eq_some_iff.1 hQ2.res).1
          rw [hV3] at hQ3 hmade zA
          have hA4 := World.grownBy_alloc V3 (.cells #[.slice (some ⟨V2.heap.size, 0, none⟩) 0 0] 23) (some R)
          have hQ4 := hQ3.move (hQ3.rd.alloc _) hA4
          have hm4 := own_below hmade ((Below.refl _ V3).alloc (Nat.le_refl _) (.cells #[.slice (some ⟨V2.heap.size, 0, none⟩) 0 0] 23))
          have hq4 : (V3.alloc (.cells #[.slice (some ⟨V2.heap.size, 0, none⟩) 0 0] 23)).cell? ⟨V3.heap.size, 0, none⟩ = some (.slice (some ⟨V2.heap.size, 0, none⟩) 0 0) := by rw [World.cell?_alloc_at _ _ _ _ rfl]; rfl
          obtain ⟨xx, pp, ee, hxx, us, hul, huo, hur⟩ := id hQ4.yd
          injection ee with ee
          simp at ee
          obtain ⟨rfl, rfl⟩ := ee
          have hsl := hQ4.lo
          have hbw := hQ4.gr.size
          have hulh := hide hul
          have zA2 := Nat.le_of_eq zA.symm
          clear zA hul
          obtain ⟨m0x, m1x, f0x, f1x⟩ := row_at hQ2.box
          obtain ⟨r0x, r1x, t0x, t1x⟩ := row_at hQ2.res
          obtain ⟨m0, m1, f0, f1⟩ := row_at hQ4.box
          obtain ⟨r0, r1, t0, t1⟩ := row_at hQ4.res
          clear hQ2 hA hA4 hQ3 hxx
          have hmx := hide (own_from hm4 (show w.heap.size + 1 ≤ V2.heap.size by omega))
          have hurh := hide hur
          clear hm4 hmade hur
          gi_wp2_with (gi_at_builtin; refine append_slice_in rfl _ _ rfl rfl (w.heap.size + 1) _ us.length us rfl huo V3.heap.size rfl hq4 (by have := hulh.out; omega) (by have := World.size_alloc V3 (.cells #[.slice (some ⟨V2.heap.size, 0, none⟩) 0 0] 23); omega) ?_; intro v5 w5 ho5 hg5; go_loud (obtain ⟨g5, c5, rfl⟩ := own_some ho5 (Nat.succ_pos _); rw [hulh.out] at ho5 ⊢; have hQ5 := hQ4.grow hap hulh.out huo hurh.out hmx.out (by rw [hulh.out]; exact ho5) hg5 (by omega); have hb5 := (hg5.block b (Array.getElem?_eq_some_iff.1 hQ4.box).1 (fun e => own_not huo hQ4.box (by decide) e.symm)).trans hQ4.box; obtain ⟨m0y, m1y, f0y, f1y⟩ := row_at hb5; obtain ⟨m0, m1, f0, f1⟩ := row_at hQ5.box; obtain ⟨r0, r1, t0, t1⟩ := row_at hQ5.res; have hd9 := hide hQ5.done; have hcn := hide (show LoN w.heap.size _ from (LoN.of (p := .slice (some ⟨g5, 0, none⟩) (d.2.length + 1) c5) (fun g e => (by have := (hap _ _ rfl g e).1; omega)))); have hdz := hide hQ5.rows; clear hQ4 hQ5 hb5 ho5))
          (try simp only [Exit.inBlock, Exit.then])
          exact bodyPost_ret (results_desk rfl _ _ w.heap.size _ _ rfl hd9.out.1) rfl ⟨_, (d.1, d.2 ++ [[]]), rfl, hd9.out.2.1, hcn.out, hdz.out, _, by omega, hd9.out.2.2⟩
        · obtain ⟨m0, m1, f0, f1⟩ := row_at hQ2.box
          obtain ⟨r0, r1, t0, t1⟩ := row_at hQ2.res
          have hcn := hide (show LoN w.heap.size (.agg #[.slice none 0 0, .slice none 0 0]) from LoN.of (fun g e => by simp [Value.ownBlock] at e))
          have hdz := hide rowsOk_none.dkZ
          have hd9 := hide (desk_set hQ2.res (.slice none 0 0) (.slice none 0 0))
          have hg9 := grownBy_setAt V2 w.heap.size 0 (.slice none 0 0)
          have hg8 := grownBy_setAt (V2.setCell ⟨w.heap.size, 0, none⟩ (.slice none 0 0)) w.heap.size 1 (.slice none 0 0)
          have hfin := hide (show YD w.heap.size ([], []) ((V2.setCell ⟨w.heap.size, 0, none⟩ (.slice none 0 0)).setCell ⟨w.heap.size, 1, none⟩ (.slice none 0 0)) (.agg #[.slice none 0 0, .slice none 0 0]) ∧ Rd W0 R a len cap ((V2.setCell ⟨w.heap.size, 0, none⟩ (.slice none 0 0)).setCell ⟨w.heap.size, 1, none⟩ (.slice none 0 0)) _ ∧ w.grownBy ((V2.setCell ⟨w.heap.size, 0, none⟩ (.slice none 0 0)).setCell ⟨w.heap.size, 1, none⟩ (.slice none 0 0)) (some R) from ⟨⟨_, _, rfl, Ints.none _ _ _, [], rfl, World.ownsRow_nil _ _ _ _, fun j hj => by simp at hj⟩, (hQ2.rd.kept hg9 (fun e => by injection e with e; omega) (fun k e => by injection e with e; omega)).kept hg8 (fun e => by injection e with e; omega) (fun k e => by injection e with e; omega), (hQ2.gr.andThen hg9 (fun k e => .inl (by injection e with e; omega))).andThen hg8 (fun k e => .inl (by injection e with e; omega))⟩)
          clear hg9 hg8 hQ2
          gi_wp2
          (try simp only [Exit.inBlock, Exit.then])
          exact bodyPost_ret (results_desk rfl _ _ w.heap.size _ _ rfl hd9.out) rfl ⟨_, ([], []), rfl, hfin.out.1, hcn.out, hdz.out, _, by omega, hfin.out.2⟩
end Go.Proofs.Ytimnhedjapakhaa
