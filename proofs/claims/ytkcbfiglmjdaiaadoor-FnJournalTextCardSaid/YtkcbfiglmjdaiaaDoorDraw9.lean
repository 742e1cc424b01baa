/-
  The draws of chapter 9: each hands back a row of at most thirteen numbers, and nothing that was there is written.
-/
import Derived.Test.YtkcbfiglmjdaiaaDoorSpecZ
namespace Go.Proofs.YtkcbfiglmjdaiaaDoor
open Go.RowKit

theorem odd_any (W0 : World) (R len cap p : Nat) (a : Option Addr) (n : Int) (w : World) (hb : Bytes W0 a len) (h : Rd W0 R a len cap w p) (hp : p ≤ 900000) (hn : 0 < n) (hn2 : n ≤ 1000) :
    Calls Tryd.prog 12 #[.pointer (some ⟨R, 0, none⟩), .int .i64 n] w fun e w' => ∃ b, e = .returned (.bool b) ∧ Rd W0 R a len cap w' (p + 1) ∧ w.grownBy w' (some R) := by
  have hw1 : IntKind.i64.wrap (n - 1) = n - 1 := IntWalk.i64_in _ (by omega)
  go_enter Tryd.func12, Tryd.ntmps12
  go_wp2_with fail
  go_at_call 24
  refine (pick_in W0 R len cap _ a _ _ hb h (by omega)).mono ?_
  rintro e w2 ⟨k, rfl, _, _, _, hR2, hgr, _⟩
  go_wp2
  go_ret
  exact ⟨_, rfl, hR2, hgr⟩

/-- A row that was drawn. -/
def Side (w' : World) (e : Ending) : Prop := ∃ v xs, e = .returned v ∧ Ints w' v xs ∧ Lies v ∧ xs.length ≤ 13

set_option maxHeartbeats 2000000 in
theorem l20Side_in (W0 : World) (R len cap p : Nat) (a : Option Addr) (q : Int) (hq : 0 < q) (hq2 : q ≤ 1000) (w : World) (hb : Bytes W0 a len) (h : Rd W0 R a len cap w p) (hp : p ≤ 800000) :
    Calls Tryd.prog 23 #[.pointer (some ⟨R, 0, none⟩), .int .i64 q] w fun e w' => Side w' e ∧ ∃ p', Rd W0 R a len cap w' p' := by
  have hRw : R < w.heap.size := (Array.getElem?_eq_some_iff.1 h.2.2).1
  have hW0R := h.2.1
  go_enter Tryd.func23, Tryd.ntmps23
  go_wp2_with fail
  go_at_call 24
  refine (pick_in W0 R len cap _ a _ _ hb (h.alloc _) (by omega)).mono ?_
  rintro e w2 ⟨x, rfl, hx0, _, hx1, hR2, hgr2, _⟩
  replace hx1 := hx1 (by omega)
  have hg0 : w.grownBy w2 (some R) := (World.grownBy_alloc w _ _).trans hgr2
  have hs2 := hgr2.size
  obtain ⟨N, rfl⟩ : ∃ N : Nat, x = N := ⟨x.toNat, by omega⟩
  have hmade : (w.alloc (.cells #[] 3)).ownsRow w.heap.size 3 1 (.slice (some ⟨w.heap.size, 0, none⟩) 0 0) 0 [] := World.ownsRow_made _ _ _ (Nat.le_refl _) (by decide) rfl
  go_wp2
  go_loopw [5, 6] (fun out n wr => ∃ (j : Nat) (zs : List Int), j ≤ N + 1 ∧ n = .int .i64 ((N : Int) + 1 - (j : Nat)) ∧ zs.length = j ∧ wr.ownsRow w.heap.size 3 1 out zs.length (zs.map (Value.int .i64)) ∧ w.grownBy wr (some R) ∧ Rd W0 R a len cap wr (p + 1 + j)) (fun _ n _ => (intOf n).toNat)
  case atStart => exact ⟨0, [], by omega, by go_num, rfl, hmade.kept hgr2 (.inr (by simp [Value.ownBlock]; omega)), hg0, hR2⟩
  case round =>
    obtain ⟨j, zs, hj, rfl, hz, hown, hgr, hR⟩ := hrel
    by_cases hjn : j ≤ N
    · have hc : (0 : Int) < (N : Int) + 1 - (j : Int) := by omega
      have hw1 : IntKind.i64.wrap ((N : Int) + 1 - (j : Int) - 1) = (N : Int) + 1 - (j : Int) - 1 := IntWalk.i64_in _ (by omega)
      have hs := hgr.size
      go_wp2_with (first
        | (go_at_call 24; refine (pick_in W0 R len cap _ a _ _ hb hR (by omega)).mono ?_; rintro e w3 ⟨x, rfl, _, _, _, hR3, hgr3, _⟩; have hown3 := hown.kept hgr3 (.inr (fun e => by have := hown.lt R e; omega)); have hs3 := hgr3.size)
        | (at_builtin; refine append_one rfl _ _ rfl w.heap.size _ _ _ rfl hown3 rfl (by omega) (by omega) ?_; intro v' w4 hown4 hgr4))
      all_goals
        have hgr4' : (w3.alloc (.cells #[.int .i64 x] 3)).grownBy w4 u5.ownBlock := hgr4
        go_roundw
        case rel =>
          have hbl : ∀ k, u5.ownBlock = some k → w.heap.size ≤ k := fun k e => (hown.lt k e).1
          refine ⟨j + 1, zs ++ [x], by omega, by go_num, by simp [hz], by simpa using hown4, ?_, ?_⟩
          · exact ((hgr.trans hgr3).andThen (World.grownBy_alloc _ _ none) (fun _ e => by cases e)).andThen hgr4' (fun k e => .inl (hbl k e))
          · rw [show p + 1 + (j + 1) = p + 1 + j + 1 by omega]
            exact (hR3.alloc _).kept hgr4' (fun e => by have := hbl R e.symm; omega) (fun k e => by have := hbl k e; omega)
        case measure => simp [intOf]; omega
    · obtain rfl : j = N + 1 := by omega
      have hbl : ∀ k, u5.ownBlock = some k → w.heap.size ≤ k := fun k e => (hown.lt k e).1
      have hnR : u5.ownBlock ≠ some R := fun e => by have := hbl R e; omega
      have hp0 : 0 < zs.length := by omega
      have hc : ¬ (0 : Int) < (N : Int) + 1 - (((N + 1 : Nat)) : Int) := by omega
      have hl13 : zs.length ≤ 13 := by omega
      clear hbl
      go_wp2_with fail
      go_at_call 12
      refine (odd_any W0 R len cap _ a q _ hb hR (by omega) hq hq2).mono ?_
      rintro e w3 ⟨b, rfl, hR3, hgr3⟩
      have hown3 := hown.kept hgr3 (.inr hnR)
      cases b with
      | false =>
        go_wp2
        go_ret
        exact ⟨⟨_, zs, rfl, Ints.of_owns hown3, Lies.of_owns hown3, hl13⟩, _, hR3⟩
      | true =>
        go_wp2_with fail
        go_at_call 24
        refine (pick_in W0 R len cap _ a _ _ hb hR3 (by omega)).mono ?_
        rintro e w4 ⟨y, rfl, hy0, _, hy1, hR4, hgr4, _⟩
        replace hy1 := hy1 (by omega)
        have hown4 := hown3.kept hgr4 (.inr hnR)
        obtain ⟨g, c, rfl, hbg, hg, _, hcells⟩ := owns_open hown4 hp0
        have hc0 := hcells 0 (.int .i64 (zs.getD 0 0)) (by rw [List.getElem?_map, List.getD, List.getElem?_eq_getElem hp0]; rfl)
        have hfz := hown4.frozenAt 0
        obtain ⟨hown5, hgr5⟩ := hown4.stored 0 (.int .i64 2)
        rw [← List.map_set, hz] at hown5
        have hpi : (0 : Int) < (zs.length : Int) := by omega
        clear hcells hown hown3
        rcases (show y = 0 ∨ y = 1 ∨ y = 2 by omega) with rfl | rfl | rfl
        · go_wp2
          go_ret
          exact ⟨⟨_, [], rfl, .inl ⟨_, _, rfl, rfl⟩, .inr ⟨_, _, _, rfl⟩, by simp⟩, _, hR4.alloc _⟩
        · go_wp2
          go_ret
          exact ⟨⟨_, zs.set 0 2, rfl, Ints.of_owns hown5, .inr ⟨_, _, _, rfl⟩, by simpa using hl13⟩, _, hR4.kept hgr5 (fun e => by injection e; omega) (fun k e => by injection e; omega)⟩
        · go_wp2_with (refine make_blk _ rfl _ _ rfl _ _ 13 rfl rfl rfl rfl (by omega) ?_; intro w5 hb5 hg5)
          go_ret
          refine ⟨⟨_, List.replicate 13 0, rfl, ?_, .inr ⟨_, _, _, rfl⟩, by simp⟩, _, hR4.kept hg5 (fun e => by cases e) (fun k e => by cases e)⟩
          exact .inr ⟨w4.heap.size, 13, by simp, hb5.lt, fun i hi => by
            have hi13 : i < 13 := by simpa using hi
            have h9 := hb5.cell (intsV_at hi13)
            have e : (List.replicate 13 (0 : Int)).getD i 0 = 0 := by rw [List.getD, List.getElem?_replicate, if_pos hi13]; rfl
            rw [e]
            exact h9⟩

end Go.Proofs.YtkcbfiglmjdaiaaDoor
