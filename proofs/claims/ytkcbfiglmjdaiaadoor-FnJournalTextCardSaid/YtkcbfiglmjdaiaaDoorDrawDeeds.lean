/-
  The draws of chapter 12: deeds.
-/
import Derived.Test.YtkcbfiglmjdaiaaDoorDraw12a
import Derived.Test.YtkcbfiglmjdaiaaDoorSpec12g
import Derived.Test.YtkcbfiglmjdaiaaDoorL12Z
namespace Go.Proofs.YtkcbfiglmjdaiaaDoor
open Go Go.RowKit
attribute [local go_sem] Oper.semAt_some

set_option maxHeartbeats 2000000 in
theorem l20Deeds_in (W0 : World) (R len cap p : Nat) (a : Option Addr) (w : World) (hb : Bytes W0 a len) (h : Rd W0 R a len cap w p) (hp : p ≤ 700000) (rv : Option Addr) (rn rc : Nat) (hrn : rn ≤ 13) :
    Calls Tryd.prog 22 #[.pointer (some ⟨R, 0, none⟩), .slice rv rn rc] w fun e w' => ∃ v, e = .returned v ∧ ∃ L : List (Int × Int), w'.ownsRow w.heap.size 36 2 v L.length (cellsD L) ∧ L.length ≤ 5 ∧ (∀ x ∈ L, Fits x.1 ∧ Fits x.2) ∧ ∃ p', p' ≤ p + 200 ∧ Rd W0 R a len cap w' p' ∧ w.grownBy w' (some R) := by
  have hRw : R < w.heap.size := h.lt
  have hW0R := h.2.1
  go_enter Tryd.func22, Tryd.ntmps22
  go_wp2_with fail
  go_at_call 24
  refine (pick_in W0 R len cap _ a _ _ hb (h.alloc _) (by omega)).mono ?_
  rintro e w2 ⟨x, rfl, hx0, _, hx1, hR2, hgr2, _⟩
  replace hx1 := hx1 (by omega)
  have hg0 : w.grownBy w2 (some R) := (World.grownBy_alloc w _ _).trans hgr2
  have hs2 := hgr2.size
  obtain ⟨N, rfl⟩ : ∃ N : Nat, x = N := ⟨x.toNat, by omega⟩
  have hmade : (w.alloc (.cells #[] 36)).ownsRow w.heap.size 36 2 (.slice (some ⟨w.heap.size, 0, none⟩) 0 0) 0 (cellsD []) := World.ownsRow_made _ _ _ (Nat.le_refl _) (by decide) rfl
  go_wp2
  go_loopw [5, 6] (fun out n wr => ∃ (j q : Nat) (L : List (Int × Int)), j ≤ N ∧ n = .int .i64 ((N : Int) - (j : Nat)) ∧ L.length = j ∧ (∀ x ∈ L, Fits x.1 ∧ Fits x.2) ∧ wr.ownsRow w.heap.size 36 2 out L.length (cellsD L) ∧ w.grownBy wr (some R) ∧ q ≤ p + 1 + 30 * j ∧ Rd W0 R a len cap wr q) (fun _ n _ => (intOf n).toNat)
  case atStart => exact ⟨0, _, [], by omega, by go_num, rfl, by simp, hmade.kept hgr2 (.inr (by simp [Value.ownBlock]; omega)), hg0, by omega, hR2⟩
  case round =>
    obtain ⟨j, q, L, hj, rfl, hz, hf, hown, hgr, hq, hR⟩ := hrel
    by_cases hjn : j < N
    · have hc : (0 : Int) < (N : Int) - (j : Int) := by omega
      have hw1 : IntKind.i64.wrap ((N : Int) - (j : Int) - 1) = (N : Int) - (j : Int) - 1 := IntWalk.i64_in _ (by omega)
      have hs := hgr.size
      have hC := l20Deed_in W0 R len cap q a _ hb hR (by omega) rv rn rc hrn
      unfold dV at hC
      have hzh := hide hz
      have hfh := hide hf
      clear hz hf
      go_wp2_with (first
        | (go_at_call 39; refine hC.mono ?_; clear hC; rintro e w3 ⟨⟨dk, dn, hk, hn, rfl⟩, q3, hq3, hR3, hgr3⟩; have hown3 := hown.kept hgr3 (.inr (fun e => by have := hown.lt R e; omega)); have hs3 := hgr3.size)
        | (at_builtin; refine append_deed (x := (dk, dn)) rfl _ _ rfl w.heap.size _ L rfl hown3 w3.heap.size rfl rfl (by have := hzh.out; omega) (by omega) ?_; intro v' w4 hown4 hgr4 _))
      all_goals
        have hgr4' : (w3.alloc (.cells #[.int .i64 dk, .int .i64 dn] 36)).grownBy w4 u5.ownBlock := hgr4
        go_roundw
        case rel =>
          have hbl : ∀ k, u5.ownBlock = some k → w.heap.size ≤ k := fun k e => (hown.lt k e).1
          refine ⟨j + 1, q3, L ++ [(dk, dn)], by omega, by go_num, by rw [List.length_append, hzh.out]; rfl, fun x hx => ?_, hown4, ?_, by omega, ?_⟩
          · rcases List.mem_append.1 hx with hx | hx
            · exact hfh.out x hx
            · obtain rfl : x = (dk, dn) := by simpa using hx
              exact ⟨hk, hn⟩
          · exact ((hgr.trans hgr3).andThen (World.grownBy_alloc _ _ none) (fun _ e => by cases e)).andThen hgr4' (fun k e => .inl (hbl k e))
          · exact (hR3.alloc _).kept hgr4' (fun e => by have := hbl R e.symm; omega) (fun k e => by have := hbl k e; omega)
        case measure => simp [intOf]; omega
    · obtain rfl : j = N := by omega
      have hc : ¬ (0 : Int) < (j : Int) - (j : Int) := by omega
      go_wp2
      go_ret
      exact ⟨_, rfl, L, hown, by omega, (fun a b hab => hf (a, b) hab), q, by omega, hR, hgr⟩
end Go.Proofs.YtkcbfiglmjdaiaaDoor
