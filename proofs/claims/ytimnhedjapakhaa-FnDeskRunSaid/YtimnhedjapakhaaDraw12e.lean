/-
  The draws of chapter 12: deeds, and what the law on DeskRun draws.
-/
import Derived.Test.YtimnhedjapakhaaDraw12c
import Derived.Test.YtimnhedjapakhaaBaseZ
namespace Go.Proofs.Ytimnhedjapakhaa
open Go Go.RowKit
attribute [local go_sem] Oper.semAt_some

set_option maxHeartbeats 2000000 in
theorem l20Deeds_in (W0 : World) (R len cap p : Nat) (a : Option Addr) (w : World) (hb : Bytes W0 a len) (h : Rd W0 R a len cap w p) (hp : p ≤ 700000) (rv : Option Addr) (rn rc : Nat) (hrn : rn ≤ 13) :
    Calls Try.prog 49 #[.pointer (some ⟨R, 0, none⟩), .slice rv rn rc] w fun e w' => ∃ v, e = .returned v ∧ ∃ L : List (Int × Int), w'.ownsRow w.heap.size 32 2 v L.length (cellsD L) ∧ L.length ≤ 5 ∧ (∀ x ∈ L, Fits x.1 ∧ Fits x.2) ∧ ∃ p', p' ≤ p + 200 ∧ Rd W0 R a len cap w' p' ∧ w.grownBy w' (some R) := by
  have hRw : R < w.heap.size := h.lt
  have hW0R := h.2.1
  go_enter Try.func49, Try.ntmps49
  go_wp2_with fail
  go_at_call 63
  refine (pick_in W0 R len cap _ a _ _ hb (h.alloc _) (by omega)).mono ?_
  rintro e w2 ⟨x, rfl, hx0, _, hx1, hR2, hgr2, _⟩
  replace hx1 := hx1 (by omega)
  have hg0 : w.grownBy w2 (some R) := (World.grownBy_alloc w _ _).trans hgr2
  have hs2 := hgr2.size
  obtain ⟨N, rfl⟩ : ∃ N : Nat, x = N := ⟨x.toNat, by omega⟩
  have hmade : (w.alloc (.cells #[] 32)).ownsRow w.heap.size 32 2 (.slice (some ⟨w.heap.size, 0, none⟩) 0 0) 0 (cellsD []) := World.ownsRow_made _ _ _ (Nat.le_refl _) (by decide) rfl
  go_wp2
  go_loopw [5, 6] (fun out n wr => ∃ (j q : Nat) (L : List (Int × Int)), j ≤ N ∧ n = .int .i64 ((N : Int) - (j : Nat)) ∧ L.length = j ∧ (∀ x ∈ L, Fits x.1 ∧ Fits x.2) ∧ wr.ownsRow w.heap.size 32 2 out L.length (cellsD L) ∧ w.grownBy wr (some R) ∧ q ≤ p + 1 + 30 * j ∧ Rd W0 R a len cap wr q) (fun _ n _ => (intOf n).toNat)
  case atStart => exact ⟨0, _, [], by omega, by go_num, rfl, by simp, hmade.kept hgr2 (.inr (by simp [Value.ownBlock]; omega)), hg0, by omega, hR2⟩
  case round =>
    obtain ⟨j, q, L, hj, rfl, hz, hf, hown, hgr, hq, hR⟩ := hrel
    by_cases hjn : j < N
    · have hc : (0 : Int) < (N : Int) - (j : Int) := by omega
      have hw1 : IntKind.i64.wrap ((N : Int) - (j : Int) - 1) = (N : Int) - (j : Int) - 1 := IntWalk.i64_in _ (by omega)
      have hs := hgr.size
      have hC := l20Deed_in W0 R len cap q a _ hb hR (by omega) rv rn rc hrn
      unfold dV at hC
      have hzh := hide hz
      have hfh := hide hf
      clear hz hf
      go_wp2_with (first
        | (go_at_call 36; refine hC.mono ?_; clear hC; rintro e w3 ⟨⟨dk, dn, hk, hn, rfl⟩, q3, hq3, hR3, hgr3⟩; have hown3 := hown.kept hgr3 (.inr (fun e => by have := hown.lt R e; omega)); have hs3 := hgr3.size)
        | (at_builtin; refine append_deed (x := (dk, dn)) rfl _ _ rfl w.heap.size _ L rfl hown3 w3.heap.size rfl rfl (by have := hzh.out; omega) (by omega) ?_; intro v' w4 hown4 hgr4 _))
      all_goals
        have hgr4' : (w3.alloc (.cells #[.int .i64 dk, .int .i64 dn] 32)).grownBy w4 u5.ownBlock := hgr4
        go_roundw
        case rel =>
          have hbl : ∀ k, u5.ownBlock = some k → w.heap.size ≤ k := fun k e => (hown.lt k e).1
          refine ⟨j + 1, q3, L ++ [(dk, dn)], by omega, by go_num, by rw [List.length_append, hzh.out]; rfl, fun x hx => ?_, hown4, ?_, by omega, ?_⟩
          · rcases List.mem_append.1 hx with hx | hx
            · exact hfh.out x hx
            · obtain rfl : x = (dk, dn) := by simpa using hx
              exact ⟨hk, hn⟩
          · exact ((hgr.trans hgr3).andThen (World.grownBy_alloc _ _ none) (fun _ e => by cases e)).andThen hgr4' (fun k e => .inl (hbl k e))
          · exact (hR3.alloc _).kept hgr4' (fun e => by have := hbl R e.symm; omega) (fun k e => by have := hbl k e; omega)
        case measure => simp [intOf]; omega
    · obtain rfl : j = N := by omega
      have hc : ¬ (0 : Int) < (j : Int) - (j : Int) := by omega
      go_wp2
      go_ret
      exact ⟨_, rfl, L, hown, by omega, (fun a b hab => hf (a, b) hab), q, by omega, hR, hgr⟩

/-- 'make([]Deed, n)' inside a fence. -/
theorem make_deeds_in {F : Fence} {k : Nat} (w : World) {ops : Array Oper} {rest : List Oper} {o : Oper} {a : Act} {Q : Exit → Act → World → Prop}
    (hg : o.guard = none) (l c : Operand) (hop : o.op = Op.makeSlice 39 l c) (L C : Int) (N : Nat) (hl : a.eval l = .int .i64 L) (hc : a.eval c = .int .i64 C) (hL : L = (N : Int)) (hC : C = (N : Int)) (hN : N ≤ 10000000)
    (hK : ∀ w', BlkAt w' w.heap.size 32 (N * 2) (intsV (N * 2) fun _ => 0) → w.grownBy w' none → wpListIn F k Try.prog ops Q rest (a.put o.dst (.slice (some ⟨w.heap.size, 0, none⟩) N N)) w') :
    wpListIn F k Try.prog ops Q (o :: rest) a w := by
  obtain ⟨i0, hi, hz0, hz1, hz2⟩ := info_any Try.infoDeed
  refine wpListIn_plain hg fun K hK' => ?_
  obtain ⟨w', hrun, r1, r2⟩ := run_make_full (P := Try.prog) w w.heap.size 39 32 i0 (.agg #[.int .i64 0, .int .i64 0]) 2 Try.underlying39 hi hz0 hz1 .i64 .i64 N (by rw [hz2]; omega) (by unfold maxLen; omega) (Nat.le_refl _)
  subst hL
  subst hC
  have hblk : BlkAt w' w.heap.size 32 (N * 2) (intsV (N * 2) fun _ => 0) := by
    obtain ⟨hlen, hv⟩ := r1
    rcases hv with ⟨h, _⟩ | ⟨g, cap, cur, h, _, hgb, _, _, hs, ht⟩
    · cases h
    · cases h
      refine ⟨cur, hgb, by omega, fun i v hi' => ?_⟩
      have h1 : cur.toList.take (N * 2) = cur.toList := List.take_of_length_le (by simp; omega)
      unfold intsV at hi'
      split at hi'
      · rename_i hlt
        rw [h1] at ht
        rw [← Array.getElem?_toList, ht, Array.getElem?_toList]
        have : i % 2 = 0 ∨ i % 2 = 1 := by omega
        rcases this with e | e <;> simpa [madeCells, Value.cells, hlt, e] using hi'
      · cases hi'
  unfold Oper.wpIn
  refine ⟨?_, ?_⟩
  · simp [Oper.about, hop]
  · rw [Oper.semAt_plain F _ _ (by rw [hop]; intro c hc'; cases hc')]
    simp [execOp, hop, hl, hc, hrun, Result.andThen]
    exact hK' _ _ (hK w' hblk r2)
def noughts : List (Int × Int) := List.replicate 41 (0, 0)
theorem noughts_at : ∀ i, i < 82 → numD noughts i = 0 := by decide +kernel
theorem noughts_fits : ∀ x ∈ noughts, Fits x.1 ∧ Fits x.2 := by
  intro x hx
  obtain ⟨_, rfl⟩ := List.mem_replicate.1 hx
  constructor <;> (unfold Fits; omega)
/-- Deeds of one's own above a mark. -/
def DsO (base : Nat) (V : World) (v : Value) : Prop := ∃ L : List (Int × Int), L.length ≤ 41 ∧ (∀ x ∈ L, Fits x.1 ∧ Fits x.2) ∧ V.ownsRow base 32 2 v L.length (cellsD L)
theorem DsO.kept {base b : Nat} {V V' : World} {v : Value} (h : DsO base V v) (hg : V.grownBy V' (some b)) (hb : b < base) : DsO base V' v := by
  obtain ⟨L, h1, h2, h3⟩ := h
  exact ⟨L, h1, h2, h3.kept hg (.inr (fun e => by have := (h3.lt b e).1; omega))⟩
theorem DsO.below {base : Nat} {V V' : World} {v : Value} (h : DsO base V v) (hB : Below V.heap.size V V') : DsO base V' v := by
  obtain ⟨L, h1, h2, h3⟩ := h
  exact ⟨L, h1, h2, h3.kept (below_grownAt hB none) (by cases v.ownBlock <;> simp)⟩

/-- The desk lies in the result's block. -/
def FinD (w : World) (d : Dk) (y x p : Value) (V : World) : Prop := V.heap[w.heap.size]? = some (.cells #[x, p] 26 (0, 0)) ∧ DeskI V y d ∧ Below w.heap.size w V
theorem FinD.below {w : World} {d : Dk} {y x p : Value} {V V' : World} (h : FinD w d y x p V) (hB : Below V.heap.size V V') : FinD w d y x p V' :=
  ⟨(hB.block _ (Array.getElem?_eq_some_iff.1 h.1).1).trans h.1, h.2.1.below hB, h.2.2.trans (hB.mono h.2.2.size)⟩
theorem finD_of {w w1 V : World} {base n1 c1 n2 c2 : Nat} {a1 a2 : Option Addr} {d : Dk} (hB : Below w.heap.size w w1) (hBV : Below w1.heap.size w1 V) (hYV : YD base d V (.agg #[.slice a1 n1 c1, .slice a2 n2 c2])) (kr : V.heap[w.heap.size]? = some (.cells #[.slice none 0 0, .slice none 0 0] 26 (0, 0))) :
    FinD w d (.agg #[.slice a1 n1 c1, .slice a2 n2 c2]) (.slice a1 n1 c1) (.slice a2 n2 c2) ((V.setCell ⟨w.heap.size, 0, .none⟩ (.slice a1 n1 c1)).setCell ⟨w.heap.size, 1, .none⟩ (.slice a2 n2 c2)) :=
  ⟨desk_set kr _ _, ((hYV.set (i := 0) (s := a1) (m := n1) (e := c1) kr).set (i := 1) (s := a2) (m := n2) (e := c2) (set_cells kr 0 _)).deskI,
    ((hB.trans (hBV.mono hB.size)).setCell (p := ⟨w.heap.size, 0, .none⟩) (Nat.le_refl _) _).setCell (p := ⟨w.heap.size, 1, .none⟩) (Nat.le_refl _) _⟩
theorem own_fromN {w : World} {base base' n size : Nat} {e : TypeId} {v : Value} {xs : List Value} (h : w.ownsRow base e size v n xs) (hb : base' ≤ base) : w.ownsRow base' e size v n xs := by
  obtain ⟨h1, h2⟩ := h
  refine ⟨h1, ?_⟩
  rcases h2 with h2 | ⟨g, cap, cur, e1, hb2, h3⟩
  · exact .inl h2
  · exact .inr ⟨g, cap, cur, e1, Nat.le_trans hb hb2, h3⟩
theorem dsO_low {base base' : Nat} {V : World} {v : Value} (h : DsO (base + 1) V v) (hb : base' ≤ base) : DsO base' V v := by
  obtain ⟨L, h1, h2, h3⟩ := h
  exact ⟨L, h1, h2, own_fromN h3 (by omega)⟩
/-- What the draw of a desk and deeds leaves. -/
def FinR (w : World) (d : Dk) (y v : Value) (W : World) (x p : Value) : Prop :=
  W.heap[w.heap.size]? = some (.cells #[x, p] 26 (0, 0)) ∧ DeskI W y d ∧ ∃ L : List (Int × Int), L.length ≤ 41 ∧ (∀ a ∈ L, Fits a.1 ∧ Fits a.2) ∧ W.ownsRow w.heap.size 32 2 v L.length (cellsD L) ∧ Below w.heap.size w W

set_option maxRecDepth 100000 in
set_option maxHeartbeats 2000000 in
theorem drawDeskRun (w : World) (a0 : Option Addr) (len0 cap0 : Nat) (zs : List Int) (h : IsRow .u8 w a0 len0 cap0 zs) : Calls Try.prog 17 #[.slice a0 len0 cap0] w fun e w' =>
    ∃ y d v L, e = .returned (.tuple #[y, v]) ∧ DeskI w' y d ∧ CapP y ∧ DkZ d ∧ w'.ownsRow w.heap.size 32 2 v L.length (cellsD L) ∧ L.length ≤ 41 ∧ (∀ x ∈ L, Fits x.1 ∧ Fits x.2) ∧ Below w.heap.size w w' := by
  have hB := (Below.refl _ w).alloc (Nat.le_refl _) (.cells #[.slice none 0 0, .slice none 0 0] 26)
  have k0 := World.alloc_heap_new w (.cells #[.slice none 0 0, .slice none 0 0] 26)
  have hsz0 := World.size_alloc w (.cells #[.slice none 0 0, .slice none 0 0] 26)
  obtain ⟨w1, hw1⟩ : ∃ w1, w.alloc (.cells #[.slice none 0 0, .slice none 0 0] 26) = w1 := ⟨_, rfl⟩
  rw [hw1] at hB k0 hsz0
  have hsz : w.heap.size + 1 ≤ w1.heap.size := by omega
  clear hsz0
  have ho := open_in w1 a0 len0 cap0 zs (isRow_below h hB)
  refine (callsIn_wide (n := 9)).1 ?_
  refine callsIn_of_wp Try.func17 rfl trivial ?_ rfl
  simp only [Try.ntmps17, List.size_toArray, List.length_cons, List.length_nil, Nat.reduceAdd, Nat.reduceSub, Array.replicate_succ, Array.replicate_zero, List.push_toArray, List.append_toArray, List.nil_append, List.cons_append]
  gi_wp2_with fail
  refine ⟨trivial, ?_⟩
  gi_at_call 32
  refine (callsIn_wide.2 ho).mono ?_
  rintro e w2 ⟨R, len, cap, rfl, hb, hR⟩
  gi_wp2_with fail
  refine ⟨trivial, ?_⟩
  gi_at_call 31
  refine (callsIn_wide.2 (l20Desk_in w1 R len cap 0 a0 12 (by omega) (by omega) w2 hb hR (by omega))).mono ?_
  rintro e w3 ⟨y, d, rfl, hY, hlo, hdz, p, hp, hR3, hg3⟩
  obtain ⟨x1, x2, x3, x4, rfl⟩ := hY.form
  have z23 := hg3.size
  have z12 := hR.1.size
  have hR4 := hR3.alloc (.cells #[.slice x1 d.1.length x2, .slice x3 d.2.length x4] 26)
  have hY4 := hY.below ((Below.refl _ w3).alloc (Nat.le_refl _) (.cells #[.slice x1 d.1.length x2, .slice x3 d.2.length x4] 26))
  have kb := World.alloc_heap_new w3 (.cells #[.slice x1 d.1.length x2, .slice x3 d.2.length x4] 26)
  obtain ⟨b, hbe⟩ : ∃ b, w3.heap.size = b := ⟨_, rfl⟩
  have hRb := hR3.lt
  obtain ⟨w4, hw4⟩ : ∃ w4, w3.alloc (.cells #[.slice x1 d.1.length x2, .slice x3 d.2.length x4] 26) = w4 := ⟨_, rfl⟩
  rw [hw4] at hR4 hY4 kb
  rw [hbe] at kb hRb
  gi_wp2_with fail
  (try rw [hw4])
  (try rw [hbe])
  have hd12 := hdz.1
  have hRw2 := hR.lt
  clear hR3 hY hw4 hg3 hbe ho hR hw1
  refine ⟨trivial, ?_⟩
  gi_at_call 48
  refine (callsIn_wide.2 (odd_any w1 R len cap p a0 30 w4 hb hR4 (by omega) (by omega) (by omega))).mono ?_
  rintro e w5 ⟨bo, rfl, hR5, hg5⟩
  have hY5 := hY4.rd hR4 (by omega) hg5
  have kb5 := (hg5.block b (Array.getElem?_eq_some_iff.1 kb).1 (fun e => by injection e with e; omega)).trans kb
  have hR1 := hR5.2.1
  have z15 := hR5.1.size
  have hfin := hide (fun (V : World) (v : Value) (hBV : Below w1.heap.size w1 V) (hYV : YD w2.heap.size d V (.agg #[.slice x1 d.1.length x2, .slice x3 d.2.length x4])) (hDs : DsO w1.heap.size V v) => by
    have kr := (hBV.block _ (Array.getElem?_eq_some_iff.1 k0).1).trans k0
    have g := grownBy_setAt V w.heap.size 0 (.slice x1 d.1.length x2)
    have g2 := grownBy_setAt (V.setCell ⟨w.heap.size, 0, none⟩ (.slice x1 d.1.length x2)) w.heap.size 1 (.slice x3 d.2.length x4)
    obtain ⟨L, hl1, hl2, hl3⟩ := (hDs.kept g (by omega)).kept g2 (by omega)
    exact (⟨desk_set kr (.slice x1 d.1.length x2) (.slice x3 d.2.length x4), ((hYV.set (i := 0) (s := x1) (m := d.1.length) (e := x2) kr).set (i := 1) (s := x3) (m := d.2.length) (e := x4) (set_cells kr 0 _)).deskI, L, hl1, hl2, own_fromN hl3 (by omega),
      ((hB.trans (hBV.mono hB.size)).setCell (p := ⟨w.heap.size, 0, none⟩) (Nat.le_refl _) (.slice x1 d.1.length x2)).setCell (p := ⟨w.heap.size, 1, none⟩) (Nat.le_refl _) (.slice x3 d.2.length x4)⟩ : FinR w d (.agg #[.slice x1 d.1.length x2, .slice x3 d.2.length x4]) v ((V.setCell ⟨w.heap.size, 0, none⟩ (.slice x1 d.1.length x2)).setCell ⟨w.heap.size, 1, none⟩ (.slice x3 d.2.length x4)) (.slice x1 d.1.length x2) (.slice x3 d.2.length x4)))
  have hcp := hide hY5.capN.1
  cases bo with
  | true =>
    obtain ⟨m0, m1, _, _⟩ := row_at kb5
    gi_wp2
    refine wpIn_region_storeL 2 3 (by kernel_rfl) (by kernel_rfl) (by kernel_rfl) (by decide) (by decide) (putsOf [(some 12, 0), (some 13, 1), (none, 2)] _)
      (fun Ls V => (Ls 2 = false → Below w5.heap.size w5 V) ∧ (Ls 2 = true → FinD w d (.agg #[.slice x1 d.1.length x2, .slice x3 d.2.length x4]) (.slice x1 d.1.length x2) (.slice x3 d.2.length x4) V ∧ w1.heap.size ≤ V.heap.size))
      (fun V V' => Below V.heap.size V V')
      (fun _ i v V => match i with | 0 => v = .agg #[.slice x1 d.1.length x2, .slice x3 d.2.length x4] | 1 => DsO w1.heap.size V v | _ => True)
      (puts_self _ _ (by decide)) (puts_of (by rfl) (by decide)) ⟨fun _ => (Below.refl _ _).drew, fun h => by cases h⟩
      (fun c i v V V' h hb => match i, h with | 0, h => h | 1, h => h.below hb | (_ + 2), _ => trivial) ?step4 ?mid4 ?tail4
    case step4 =>
      rintro Ls i o s V hi hip hLi hnp ho ⟨hp1, hp2⟩ hd Q' hQ'
      have hL2 : (fun j => if j = i then true else Ls j) 2 = Ls 2 := if_neg (fun e => hip e.symm)
      have hq : ∀ v V', Below V.heap.size V V' → (match i with | 0 => v = .agg #[.slice x1 d.1.length x2, .slice x3 d.2.length x4] | 1 => DsO w1.heap.size V' v | _ => True) → Q' .normal ((putsOf [(some 12, 0), (some 13, 1), (none, 2)] _ s).put o.dst v) V' := fun v V' hb hv => hQ' v V' ⟨fun h => (hp1 (hL2.symm.trans h)).trans (hb.mono (hp1 (hL2.symm.trans h)).size), fun h => ⟨(hp2 (hL2.symm.trans h)).1.below hb, Nat.le_trans (hp2 (hL2.symm.trans h)).2 hb.size⟩⟩ hb hv
      have hQh := hide hq
      clear hQ' hq
      rcases (show i = 0 ∨ i = 1 by omega) with rfl | rfl
      · have hV := hp1 (by
          cases h : Ls 2 with
          | false => rfl
          | true => exact absurd ((hnp h).symm.trans (by kernel_rfl) : false = true) (by decide))
        obtain ⟨m0, m1, _, _⟩ := row_at ((hV.block _ (Array.getElem?_eq_some_iff.1 kb5).1).trans kb5)
        simp at ho
        subst ho
        simp only [putsOf, Act.put, List.setIfInBounds_toArray, List.set_cons_succ, List.set_cons_zero]
        clear hd hp1 hp2
        gi_wp2
        have hr := hQh.out
        simp only [putsOf, Act.put, List.setIfInBounds_toArray, List.set_cons_succ, List.set_cons_zero] at hr
        exact hr _ _ (Below.refl _ _) rfl
      · have zV : w1.heap.size ≤ V.heap.size := by
          cases h : Ls 2 with
          | false => exact Nat.le_trans z15 (hp1 h).size
          | true => exact (hp2 h).2
        simp at ho
        subst ho
        simp only [putsOf, Act.put, List.setIfInBounds_toArray, List.set_cons_succ, List.set_cons_zero]
        clear hd hp1 hp2
        refine make_deeds_in V rfl _ _ rfl 41 41 41 rfl rfl rfl rfl (by omega) ?_
        intro V2 hb2 hg2
        gi_wp2
        have hr := hQh.out
        simp only [putsOf, Act.put, List.setIfInBounds_toArray, List.set_cons_succ, List.set_cons_zero] at hr
        exact hr _ _ ⟨hg2.os, hg2.tape, hg2.output, hg2.size, fun k hk => hg2.block k hk (by simp)⟩ ⟨noughts, by simp [noughts], noughts_fits, BlkAt.deeds (L := noughts) (hb2.congrK (fun i hi => noughts_at i hi)) (by omega) (by simp [noughts])⟩
    case mid4 =>
      rintro Ls o s V hL2 ho ⟨hp1, _⟩ hd Q' hQ'
      have hV := hp1 hL2
      have e1 : s 0 = .agg #[.slice x1 d.1.length x2, .slice x3 d.2.length x4] := hd 0 (by kernel_rfl)
      have hBV := hR5.1.trans (hV.mono hR5.1.size)
      have kr := (hBV.block _ (Array.getElem?_eq_some_iff.1 k0).1).trans k0
      obtain ⟨r0, r1, t0, t1⟩ := row_at kr
      have hYV := hY5.below hV
      have hF := hide (finD_of hB hBV hYV kr)
      have g := grownBy_setAt V w.heap.size 0 (.slice x1 d.1.length x2)
      have g2 := grownBy_setAt (V.setCell ⟨w.heap.size, 0, none⟩ (.slice x1 d.1.length x2)) w.heap.size 1 (.slice x3 d.2.length x4)
      have hz := hide (Nat.le_trans hBV.size (Nat.le_trans g.size g2.size))
      have hk := hide (fun v (h : DsO w1.heap.size V v) => (h.kept g (by omega)).kept g2 (by omega))
      have hQh := hide hQ'
      clear hQ' hp1 hd hYV hBV g g2 hV
      simp at ho
      subst ho
      simp only [putsOf, Act.put, List.setIfInBounds_toArray, List.set_cons_succ, List.set_cons_zero]
      simp only [e1]
      gi_wp2
      have hr := hQh.out
      simp only [putsOf, Act.put, List.setIfInBounds_toArray, List.set_cons_succ, List.set_cons_zero] at hr
      simp only [e1] at hr
      exact hr undef _ ⟨fun h => (by simp at h), fun _ => ⟨hF.out, hz.out⟩⟩ (fun k hk2 h => match k, h with | 0, h => h | 1, h => hk.out _ h | (_ + 2), _ => trivial) trivial
    case tail4 =>
      rintro Ls s V ⟨_, hp2⟩ hLs hd
      obtain ⟨hF', _⟩ := hp2 (hLs 2 (by omega))
      obtain ⟨L, hL1, hL2, hL3'⟩ : DsO w1.heap.size V (s 1) := hd 1 (by omega)
      have hL3 := hide (own_fromN hL3' (show w.heap.size ≤ w1.heap.size by omega))
      have hF := hide hF'
      clear hd hL3' hF' hp2
      simp only [putsOf, Act.put, List.setIfInBounds_toArray, List.set_cons_succ, List.set_cons_zero]
      simp only [List.drop_succ_cons, List.drop_zero]
      gi_wp2
      (try simp only [Exit.inBlock, Exit.then])
      exact bodyPost_ret (results_desk2 (p := 2) (u := 3) rfl _ _ w.heap.size _ _ rfl hF.out.1) rfl ⟨_, d, _, L, rfl, hF.out.2.1, hcp.out, hdz, hL3.out, hL1, hL2, hF.out.2.2⟩
  | false =>
    gi_wp2
    refine wpIn_region_rd w1 R len cap (p + 1) a0 200 5 [(some 14, 0), (some 15, 1), (some 16, 2), (some 17, 3), (some 18, 4)] (by omega) (by kernel_rfl) (by kernel_rfl) (by kernel_rfl) (by decide) (by decide) (by rfl) (by decide) hR5
      (fun i v V => match i with | 0 => v = .agg #[.slice x1 d.1.length x2, .slice x3 d.2.length x4] | 1 => v = .pointer (some ⟨R, 0, none⟩) | 2 => v = .pointer (some ⟨b, 0, none⟩) | 3 => v = .slice x1 d.1.length x2 | 4 => DsO (R + 1) V v ∧ DsO w1.heap.size V v | _ => True)
      (fun i v V V' h hg => match i, h with | 0, h => h | 1, h => h | 2, h => h | 3, h => h | 4, h => ⟨h.1.kept hg (by omega), dsO_low (h.1.kept hg (by omega)) hR1⟩ | (_ + 5), _ => trivial)
      ?step ?tail
    case step =>
      rintro i oo s V q hi ho hqb hRV hgV hd Q' hQ
      obtain ⟨m0, m1, _, _⟩ := row_at ((hgV.block b (Array.getElem?_eq_some_iff.1 kb5).1 (fun e => by injection e with e; omega)).trans kb5)
      have zV := hgV.size
      have zR := hRV.2.1
      rcases (show i = 0 ∨ i = 1 ∨ i = 2 ∨ i = 3 ∨ i = 4 by omega) with rfl | rfl | rfl | rfl | rfl
      all_goals
        simp at ho
        subst ho
        simp only [putsOf, Act.put, List.setIfInBounds_toArray, List.set_cons_succ, List.set_cons_zero] at hQ ⊢
        have hQ' := hide hQ
        clear hQ
      · clear hd
        gi_wp2
        have hr := hQ'.out
        exact hr _ _ q (by omega) hRV (grownBy_refl _ _) rfl
      · clear hd
        gi_wp2
        have hr := hQ'.out
        exact hr _ _ q (by omega) hRV (grownBy_refl _ _) rfl
      · clear hd
        gi_wp2
        have hr := hQ'.out
        exact hr _ _ q (by omega) hRV (grownBy_refl _ _) rfl
      · have e1 : s 2 = .pointer (some ⟨b, 0, none⟩) := hd 2 (by kernel_rfl)
        clear hd
        gi_wp2
        have hr := hQ'.out
        simp only [e1] at hr ⊢
        exact hr _ _ q (by omega) hRV (grownBy_refl _ _) rfl
      · have e1 : s 1 = .pointer (some ⟨R, 0, none⟩) := hd 1 (by kernel_rfl)
        have e2 : s 3 = .slice x1 d.1.length x2 := hd 3 (by kernel_rfl)
        have hC := l20Deeds_in w1 R len cap q a0 V hb hRV (by omega) x1 d.1.length x2 (by omega)
        clear hd
        gi_wp2_with (refine ⟨trivial, ?_⟩; gi_at_call 49; go_loud (refine (callsIn_wide.2 hC).mono ?_; rintro e W9 ⟨u9, rfl, L9, ho9, hl9, hf9, q9, hq9, hR9, hg9⟩))
        have hr := hQ'.out
        simp only [e1, e2] at hr ⊢
        exact hr _ _ q9 hq9 hR9 hg9 ⟨⟨L9, by omega, hf9, own_fromN ho9 (by have := hRV.lt; omega)⟩, ⟨L9, by omega, hf9, own_fromN ho9 (by omega)⟩⟩
    case tail =>
      rintro s V q hqb hRV hgV hd
      have e1 : s 0 = .agg #[.slice x1 d.1.length x2, .slice x3 d.2.length x4] := hd 0 (by omega)
      have e2 : DsO (R + 1) V (s 4) ∧ DsO w1.heap.size V (s 4) := hd 4 (by omega)
      clear hd
      have hBV := hRV.1
      have hF := hide (hfin.out V _ hBV (hY5.rd hR5 (by omega) hgV) e2.2)
      obtain ⟨L, hL1, hL2, hL3'⟩ := hF.out.2.2
      have hL3 := hide hL3'
      clear hL3'
      have kr := (hBV.block _ (Array.getElem?_eq_some_iff.1 k0).1).trans k0
      obtain ⟨r0, r1, t0, t1⟩ := row_at kr
      simp only [putsOf, Act.put, List.setIfInBounds_toArray, List.set_cons_succ, List.set_cons_zero]
      simp only [List.drop_succ_cons, List.drop_zero]
      simp only [e1]
      clear hfin hY5
      gi_wp2
      (try simp only [Exit.inBlock, Exit.then])
      exact bodyPost_ret (results_desk2 (p := 2) (u := 3) rfl _ _ w.heap.size _ _ rfl hF.out.1) rfl ⟨_, d, _, _, rfl, hF.out.2.1, hcp.out, hdz, hL3.out.1, hL1, hL2, hL3.out.2⟩
end Go.Proofs.Ytimnhedjapakhaa
