/-
  The draws of chapter 12: deeds that have a text, and one more at times.
-/
import Derived.Test.YtkcbfiglmjdaiaaDoorDrawDeeds
import Derived.Test.YtkcbfiglmjdaiaaDoorDraw12h
namespace Go.Proofs.YtkcbfiglmjdaiaaDoor
open Go Go.RowKit
attribute [local go_sem] Oper.semAt_some

theorem own_keptO {w w' : World} {base n size : Nat} {e : TypeId} {v : Value} {xs : List Value} {row : Option Nat} (h : w.ownsRow base e size v n xs) (hg : w.grownBy w' row) (hne : ∀ k, row = some k → v.ownBlock ≠ some k) : w'.ownsRow base e size v n xs := by
  refine h.kept hg ?_
  cases hv : v.ownBlock with
  | none => exact .inl rfl
  | some k =>
    refine .inr fun e => ?_
    exact hne k e.symm hv

theorem own_fromW {w : World} {base base' n size : Nat} {e : TypeId} {v : Value} {xs : List Value} (h : w.ownsRow base e size v n xs) (hb : base' ≤ base) : w.ownsRow base' e size v n xs := by
  obtain ⟨h1, h2⟩ := h
  refine ⟨h1, ?_⟩
  rcases h2 with h2 | ⟨g, cap, cur, e1, hb2, h3⟩
  · exact .inl h2
  · exact .inr ⟨g, cap, cur, e1, Nat.le_trans hb hb2, h3⟩
theorem below_grownW {W V : World} (h : Below W.heap.size W V) : W.grownBy V none := ⟨h.os, h.tape, h.output, h.size, fun k hk _ => h.block k hk⟩
theorem Rd.keptO {W0 w w' : World} {R len cap p : Nat} {a : Option Addr} {row : Option Nat} (h : Rd W0 R a len cap w p) (hg : w.grownBy w' row) (hrow : ∀ k, row = some k → R < k) : Rd W0 R a len cap w' p :=
  h.kept hg (fun e => by have := hrow R e.symm; omega) (fun k e => by have := hrow k e; have := h.2.1; omega)

set_option maxRecDepth 100000 in
set_option maxHeartbeats 2000000 in
theorem l20Written_in (W0 : World) (R len cap p : Nat) (a : Option Addr) (w : World) (hb : Bytes W0 a len) (h : Rd W0 R a len cap w p) (hp : p ≤ 600000) :
    Calls Tryd.prog 11 #[.pointer (some ⟨R, 0, none⟩)] w fun e w' => ∃ v, e = .returned v ∧ ∃ L : List (Int × Int), w'.ownsRow w.heap.size 36 2 v L.length (cellsD L) ∧ L.length ≤ 5 ∧ (∀ x ∈ L, (Fits x.1 ∧ Fits x.2) ∧ deedT x.1 x.2 ≠ []) ∧ ∃ p', p' ≤ p + 300 ∧ Rd W0 R a len cap w' p' ∧ w.grownBy w' (some R) := by
  have hRw : R < w.heap.size := h.lt
  have hW0R := h.2.1
  have hmade : (w.alloc (.cells #[] 36)).ownsRow w.heap.size 36 2 (.slice (some ⟨w.heap.size, 0, none⟩) 0 0) 0 (cellsD []) := World.ownsRow_made _ _ _ (Nat.le_refl _) (by decide) rfl
  have h1 := h.alloc (.cells #[] 36)
  have hg1 : w.grownBy (w.alloc (.cells #[] 36)) (some R) := World.grownBy_alloc w _ _
  have z1 := World.size_alloc w (.cells #[] 36)
  obtain ⟨w1, hw1⟩ : ∃ w1, w.alloc (.cells #[] 36) = w1 := ⟨_, rfl⟩
  rw [hw1] at hmade h1 hg1 z1
  have z1' : w.heap.size + 1 ≤ w1.heap.size := by omega
  clear z1
  go_enter Tryd.func11, Tryd.ntmps11
  go_wp2_with fail
  go_at_call 23
  refine (l20Side0_in W0 R len cap _ a _ hb h1 (by omega)).mono ?_
  rintro e w2 ⟨v, xs, rfl, hown, hx1, hx2, p2, hp2, hR2, hg2⟩
  obtain ⟨ra, rc, rfl⟩ := own_shape hown
  go_wp2_with fail
  go_at_call 22
  refine (l20Deeds_in W0 R len cap _ a _ hb hR2 (by omega) ra xs.length rc (by omega)).mono ?_
  rintro e w3 ⟨u, rfl, LL, hownL, hLn, hLf, p3, hp3, hR3, hg3⟩
  have hs2 := hg2.size
  have hs3 := hg3.size
  have hg0 : w.grownBy w3 (some R) := (hg1.trans hg2).trans hg3
  have hmade3 := (hmade.kept hg2 (.inr (by simp [Value.ownBlock]; omega))).kept hg3 (.inr (by simp [Value.ownBlock]; omega))
  have hul : ∀ k, u.ownBlock = some k → w2.heap.size ≤ k ∧ k < w3.heap.size := fun k e => hownL.lt k e
  obtain ⟨ua, uc, rfl⟩ := own_shape hownL
  obtain ⟨N, hN⟩ : ∃ N, LL.length = N := ⟨_, rfl⟩
  rw [hN] at hownL hLn hul
  have hRw2 : R < w2.heap.size := hR2.lt
  clear hg1 hg2 hg3 hR2 hown hmade h1 hw1
  go_wp2
  go_loopw [3, 5] (fun out k wr => ∃ (j : Nat) (L : List (Int × Int)), j ≤ N ∧ k = .int .i64 (j : Nat) ∧ L.length ≤ j ∧ (∀ x ∈ L, (Fits x.1 ∧ Fits x.2) ∧ deedT x.1 x.2 ≠ []) ∧ wr.ownsRow w.heap.size 36 2 out L.length (cellsD L) ∧ (∀ k, out.ownBlock = some k → k = w.heap.size ∨ w3.heap.size ≤ k) ∧ wr.ownsRow w2.heap.size 36 2 (.slice ua N uc) N (cellsD LL) ∧ w.grownBy wr (some R) ∧ Rd W0 R a len cap wr p3 ∧ w3.heap.size ≤ wr.heap.size) (fun _ k _ => N - (intOf k).toNat)
  case atStart => exact ⟨0, [], by omega, rfl, by simp, by simp, hmade3, fun k e => by simp [Value.ownBlock] at e; omega, hownL, hg0, hR3, Nat.le_refl _⟩
  case round =>
    obtain ⟨j, L, hj, rfl, hLj, hLL, hown, hfar, hownU, hgr, hR, hsz⟩ := hrel
    by_cases hjn : j < N
    · have hc : (j : Int) < (N : Int) := by omega
      have hDI : DeedsI wr (.slice ua N uc) LL := DeedsI.of_owns (by rw [hN]; exact hownU)
      obtain ⟨a', c', heq, hcell⟩ := hDI
      obtain ⟨g, o, rfl, hg, hcs⟩ := hcell (by omega)
      simp only [Value.slice.injEq] at heq
      obtain ⟨heq1, -, heq2⟩ := heq
      subst heq1
      obtain ⟨c1, c2⟩ := hcs j (by omega)
      have hx : LL.getD j (0, 0) ∈ LL := by rw [List.getD, List.getElem?_eq_getElem (by omega)]; exact List.getElem_mem _
      have hfx := hLf _ hx
      obtain ⟨x, hxx⟩ : ∃ x, LL.getD j (0, 0) = x := ⟨_, rfl⟩
      rw [hxx] at c1 c2 hfx
      have hT := fun V => specDeedText x.1 x.2 hfx.1 hfx.2 V
      unfold dV at hT
      have hE : (str (deedT x.1 x.2)).toList.isEmpty = decide (deedT x.1 x.2 = []) := by
        rw [str_toList]
        cases deedT x.1 x.2 with
        | nil => rfl
        | cons c r => rfl
      obtain ⟨T, hTT⟩ : ∃ T, str (deedT x.1 x.2) = T := ⟨_, rfl⟩
      rw [hTT] at hT hE
      have hLjh := hide hLj
      have hLLh := hide hLL
      clear hcell hcs hx hxx hTT heq2 hN hmade3 hR3 hg0 hownL hLj hLL hLf
      by_cases he : deedT x.1 x.2 = []
      · rw [decide_eq_true he] at hE
        go_wp2_with (go_at_call 17; refine (hT _).mono ?_; rintro e w4 ⟨rfl, hB4⟩)
        have hs4 := hB4.size
        have hown4 := own_more hown hB4
        have hownU4 := own_more hownU hB4
        have hgr4 := hgr.andThen (below_grownW hB4) (fun k e => by cases e)
        have hR4 := rd_belowD hR hB4
        go_roundw
        case rel => exact ⟨j + 1, L, by omega, by go_num, by have := hLjh.out; omega, fun a ha => hLLh.out a ha, hown4, hfar, hownU4, hgr4, hR4, by omega⟩
        case measure => simp [intOf]; omega
      · rw [decide_eq_false he] at hE
        go_wp2_with (first
          | (go_at_call 17; refine (hT _).mono ?_; go_loud (rintro e w4 ⟨rfl, hB4⟩; have hs4 := hB4.size; have hown4 := own_more hown hB4; have hownU4 := own_more hownU hB4; have hgr4 := hgr.andThen (below_grownW hB4) (fun k e => by cases e); have hR4 := rd_belowD hR hB4; have d1 := (hB4.cell (p := ⟨g, o + j * 2, none⟩) hg).trans c1; have d2 := (hB4.cell (p := ⟨g, o + j * 2 + 1, none⟩) hg).trans c2))
          | (at_builtin; refine append_deed (x := x) rfl _ _ rfl w.heap.size _ L rfl hown4 w4.heap.size rfl rfl (by have := hLjh.out; omega) (by have := hgr4.size; omega) ?_; intro v' w5 hown5 hgr5 hv5))
        all_goals
          have hgr5' : (w4.alloc (.cells #[.int .i64 x.1, .int .i64 x.2] 36)).grownBy w5 u3.ownBlock := hgr5
          have hs5 := hgr5'.size
          rw [World.size_alloc] at hs5
          have hbl : ∀ k, u3.ownBlock = some k → w.heap.size ≤ k ∧ R < k := fun k e => by
            have := (hown4.lt k e).1
            exact ⟨this, by omega⟩
          go_roundw
          case rel =>
            refine ⟨j + 1, L ++ [x], by omega, by go_num, by rw [List.length_append]; have := hLjh.out; simp; omega, fun y hy => ?_, hown5, fun k e => ?_, ?_, ?_, ?_, by omega⟩
            · rcases List.mem_append.1 hy with hy | hy
              · exact hLLh.out y hy
              · obtain rfl : y = x := by simpa using hy
                exact ⟨hfx, he⟩
            · rcases hv5 with h | h
              · exact hfar k (h ▸ e)
              · rw [h] at e; injection e with e; right; omega
            · refine own_keptO (hownU4.alloc _) hgr5' (fun k e => ?_)
              have hk1 := hfar k e
              have hk2 := hul
              simp only [Value.ownBlock] at hk2 ⊢
              intro e2
              injection e2 with e2
              have := hk2 _ rfl
              omega
            · exact (hgr4.andThen (World.grownBy_alloc _ _ none) (fun _ e => by cases e)).andThen hgr5' (fun k e => .inl (hbl k e).1)
            · exact (hR4.alloc _).keptO hgr5' (fun k e => (hbl k e).2)
          case measure => simp [intOf]; omega
    · obtain rfl : j = N := by omega
      have hc : ¬ ((j : Nat) : Int) < (j : Int) := by omega
      have hLLh := hide hLL
      clear hLL hLf
      go_wp2
      go_ret
      exact ⟨_, rfl, L, hown, by omega, fun a b hab => hLLh.out (a, b) hab, p3, by omega, hR, hgr⟩

set_option maxRecDepth 100000 in
set_option maxHeartbeats 1000000 in
theorem drawJournalText (w : World) (a : Option Addr) (len cap : Nat) (zs : List Int) (h : IsRow .u8 w a len cap zs) : Calls Tryd.prog 4 #[.slice a len cap] w fun e w' =>
    ∃ (v : Value) (L : List (Int × Int)), e = .returned v ∧ w'.ownsRow w.heap.size 36 2 v L.length (cellsD L) ∧ L.length ≤ 6 ∧ (∀ x ∈ L, Fits x.1 ∧ Fits x.2) ∧ Below w.heap.size w w' := by
  have ho := open_in w a len cap zs h
  go_enter Tryd.func4, Tryd.ntmps4
  go_wp2_with fail
  go_at_call 10
  refine ho.mono ?_
  rintro e w2 ⟨R, n, c, rfl, hb, hR⟩
  have hRw := hR.2.1
  have hB2 := hR.1
  go_wp2_with fail
  go_at_call 11
  refine (l20Written_in w R n c _ a _ hb hR (by omega)).mono ?_
  rintro e w3 ⟨v, rfl, L, hown, hL5, hLf, p3, hp3, hR3, hg3⟩
  have hown0 := own_fromW hown hB2.size
  obtain ⟨va, vc, rfl⟩ := own_shape hown0
  have hLf' := hide hLf
  have hRlt := hR.lt
  have hown2 := hown
  clear hLf hown
  go_wp2_with fail
  go_at_call 12
  refine (odd_any w R n c _ a 12 _ hb hR3 (by omega) (by omega) (by omega)).mono ?_
  rintro e w4 ⟨bo, rfl, hR4, hg4⟩
  have hown4 := own_keptO hown0 hg4 (fun k e e2 => by injection e with e; subst e; have := hRlt; have := (hown2.lt _ e2).1; omega)
  have hB4 := hR4.1
  clear hR3 hg3 hR hown0
  cases bo with
  | true =>
    go_wp2_with (at_builtin; refine append_deed (x := (9, 0)) rfl _ _ rfl w.heap.size _ L rfl hown4 w4.heap.size rfl rfl (by omega) hB4.size ?_; intro v' w5 hown5 hgr5 hv5)
    have hB5 := (hB4.alloc hB4.size (.cells #[.int .i64 9, .int .i64 0] 36)).grown hgr5 (by rw [World.size_alloc]; have := hB4.size; omega) (fun k e => (hown4.lt k e).1)
    go_wp2
    go_ret
    refine ⟨_, rfl, L ++ [(9, 0)], hown5, by simp; omega, fun ya yb hy => ?_, hB5⟩
    rcases List.mem_append.1 hy with hy | hy
    · exact (hLf'.out _ hy).1
    · obtain ⟨rfl, rfl⟩ : ya = 9 ∧ yb = 0 := by simpa using hy
      exact ⟨by unfold Fits; omega, by unfold Fits; omega⟩
  | false =>
    go_wp2
    go_ret
    first
      | exact ⟨_, L, rfl, hown4, by omega, fun ya yb hy => (hLf'.out _ hy).1, hB4⟩
      | exact ⟨_, L, rfl, hown4, by omega, fun y hy => (hLf'.out y hy).1, hB4⟩
end Go.Proofs.YtkcbfiglmjdaiaaDoor
