/-
  The draw of the law on TimesLeft: two rows of numbers and a number, and nothing that was there is written.
-/
import Derived.Test.YtlkcdcmmcjkedaaDraw3
import Derived.Test.YtlkcdcmmcjkedaaLawKit
import Derived.Test.YtlkcdcmmcjkedaaSpec4b
import Derived.Test.YtlkcdcmmcjkedaaSpec3
import Derived.Laws.OwnMore
import Derived.Maps.Range
namespace Go.Proofs.Ytlkcdcmmcjkedaa
open Go.RowKit

set_option maxHeartbeats 400000 in
theorem odd_in (W0 : World) (R len cap p : Nat) (a : Option Addr) (w : World) (hb : Bytes W0 a len) (h : Rd W0 R a len cap w p) (hp : p ≤ 900000) :
    Calls Try.prog 76 #[.pointer (some ⟨R, 0, none⟩), .int .i64 30] w fun e w' => ∃ b, e = .returned (.bool b) ∧ Rd W0 R a len cap w' (p + 1) ∧ w.grownBy w' (some R) := by
  go_enter Try.func76, Try.ntmps76
  go_wp2_with fail
  go_at_call 54
  refine (pick_in W0 R len cap _ a _ _ hb h (by omega)).mono ?_
  rintro e w2 ⟨k, rfl, _, _, _, hR2, hgr, _⟩
  go_wp2
  go_ret
  exact ⟨_, rfl, hR2, hgr⟩

theorem Ints.kept {w w' : World} {v : Value} {xs : List Int} {row : Option Nat} (h : Ints w v xs) (hg : w.grownBy w' row) (hne : v.ownBlock = none ∨ v.ownBlock ≠ row) : Ints w' v xs := by
  rcases h with h | ⟨b, cap, rfl, hb, hc⟩
  · exact .inl h
  · have hbg : some b ≠ row := by
      rcases hne with hne | hne
      · simp [Value.ownBlock] at hne
      · exact hne
    exact .inr ⟨b, cap, rfl, Nat.lt_of_lt_of_le hb hg.size, fun i hi => hg.cell (hc i hi) (by exact hbg)⟩

/-- What l20Left leaves: some numbers in a row of its own. -/
def Drawn (R : Nat) (w' : World) (v : Value) (xs : List Int) : Prop := Ints w' v xs ∧ v.ownBlock ≠ some R ∧ xs.length ≤ 300

set_option maxHeartbeats 2000000 in
theorem l20Left_in (W0 : World) (R len cap p : Nat) (a : Option Addr) (q : Int) (w : World) (hb : Bytes W0 a len) (h : Rd W0 R a len cap w p) (hp : p ≤ 800000) :
    Calls Try.prog 57 #[.pointer (some ⟨R, 0, none⟩), .int .i64 q] w fun e w' => ∃ v xs, e = .returned v ∧ Drawn R w' v xs ∧ RdTo W0 R a len cap w' (p + 20) ∧ w.grownBy w' (some R) := by
  have hRw : R < w.heap.size := (Array.getElem?_eq_some_iff.1 h.2.2).1
  have hW0R := h.2.1
  go_enter Try.func57, Try.ntmps57
  go_wp2_with fail
  go_at_call 54
  refine (pick_in W0 R len cap _ a _ _ hb (h.alloc _) (by omega)).mono ?_
  rintro e w2 ⟨x, rfl, hx0, _, hx1, hR2, hgr2, _⟩
  replace hx1 := hx1 (by omega)
  have hg0 : w.grownBy w2 (some R) := (World.grownBy_alloc w _ _).trans hgr2
  have hs2 := hgr2.size
  obtain ⟨N, rfl⟩ : ∃ N : Nat, x = N := ⟨x.toNat, by omega⟩
  have hmade : (w.alloc (.cells #[] 3)).ownsRow w.heap.size 3 1 (.slice (some ⟨w.heap.size, 0, none⟩) 0 0) 0 [] := World.ownsRow_made _ _ _ (Nat.le_refl _) (by decide) rfl
  go_wp2
  go_loopw [5, 6] (fun out n wr => ∃ (j : Nat) (zs : List Int), j ≤ N + 1 ∧ n = .int .i64 ((N : Int) - (j : Nat)) ∧ zs.length = j ∧ wr.ownsRow w.heap.size 3 1 out zs.length (zs.map (Value.int .i64)) ∧ w.grownBy wr (some R) ∧ Rd W0 R a len cap wr (p + 1 + j)) (fun _ n _ => (intOf n + 1).toNat)
  case atStart => exact ⟨0, [], by omega, by go_num, rfl, hmade.kept hgr2 (.inr (by simp [Value.ownBlock]; omega)), hg0, hR2⟩
  case round =>
    obtain ⟨j, zs, hj, rfl, hz, hown, hgr, hR⟩ := hrel
    by_cases hjn : j ≤ N
    · have hc : (0 : Int) ≤ (N : Int) - (j : Int) := by omega
      have hw1 : IntKind.i64.wrap ((N : Int) - (j : Int) - 1) = (N : Int) - (j : Int) - 1 := IntWalk.i64_in _ (by omega)
      have hs := hgr.size
      go_wp2_with (first
        | (go_at_call 54; refine (pick_in W0 R len cap _ a _ _ hb hR (by omega)).mono ?_; rintro e w3 ⟨x, rfl, _, _, _, hR3, hgr3, _⟩; have hown3 := hown.kept hgr3 (.inr (fun e => by have := hown.lt R e; omega)); have hs3 := hgr3.size)
        | (at_builtin; refine append_one rfl _ _ rfl w.heap.size _ _ _ rfl hown3 rfl (by omega) (by omega) ?_; intro v' w4 hown4 hgr4))
      all_goals
        have hgr4' : (w3.alloc (.cells #[.int .i64 x] 3)).grownBy w4 u5.ownBlock := hgr4
        go_roundw
        case rel =>
          have hbl : ∀ k, u5.ownBlock = some k → w.heap.size ≤ k := fun k e => (hown.lt k e).1
          refine ⟨j + 1, zs ++ [x], by omega, by go_num, by simp [hz], by simpa using hown4, ?_, ?_⟩
          · exact ((hgr.trans hgr3).andThen (World.grownBy_alloc _ _ none) (fun _ e => by cases e)).andThen hgr4' (fun k e => .inl (hbl k e))
          · exact ((hR3.alloc _).kept hgr4' (fun e => by have := hbl R e.symm; omega) (fun k e => by have := hbl k e; omega)).up (by omega)
        case measure => simp [intOf]; omega
    · obtain rfl : j = N + 1 := by omega
      have hbl : ∀ k, u5.ownBlock = some k → w.heap.size ≤ k := fun k e => (hown.lt k e).1
      have hnR : u5.ownBlock ≠ some R := fun e => by have := hbl R e; omega
      have hp0 : 0 < zs.length := by omega
      have hl300 : zs.length ≤ 300 := by omega
      clear hbl
      go_wp2_with fail
      go_at_call 76
      refine (odd_in W0 R len cap _ a _ hb hR (by omega)).mono ?_
      rintro e w3 ⟨b, rfl, hR3, hgr3⟩
      have hown3 := hown.kept hgr3 (.inr hnR)
      cases b with
      | false =>
        go_wp2
        go_ret
        exact ⟨_, zs, rfl, ⟨Ints.of_owns hown3, hnR, hl300⟩, ⟨_, by omega, hR3⟩, hgr.trans hgr3⟩
      | true =>
        obtain ⟨g, c, rfl, hbg, hg, _, hcells⟩ := owns_open hown3 hp0
        have hc0 := hcells 0 (.int .i64 (zs.getD 0 0)) (by rw [List.getElem?_map, List.getD, List.getElem?_eq_getElem hp0]; rfl)
        have hfz := hown3.frozenAt 0
        obtain ⟨hown4, hgr4⟩ := hown3.stored 0 (.int .i64 q)
        rw [← List.map_set, hz] at hown4
        have hpi : (0 : Int) < (zs.length : Int) := by omega
        clear hcells hown hown3
        go_wp2
        go_ret
        exact ⟨_, zs.set 0 q, rfl, ⟨Ints.of_owns hown4, hnR, by simpa using hl300⟩, ⟨_, by omega, hR3.kept hgr4 (fun e => by injection e; omega) (fun k e => by injection e; omega)⟩, (hgr.trans hgr3).andThen hgr4 (fun k e => .inl (by injection e; omega))⟩

theorem Rd.below {W0 w w' : World} {R len cap p : Nat} {a : Option Addr} (h : Rd W0 R a len cap w p) (hB : Below w.heap.size w w') : Rd W0 R a len cap w' p :=
  ⟨h.1.trans (hB.mono h.1.size), h.2.1, (hB.block R (Array.getElem?_eq_some_iff.1 h.2.2).1).trans h.2.2⟩

/-- Two rows of numbers and a number. -/
def Rows2 (e : Ending) (w' : World) : Prop := ∃ v u q xs ys, e = .returned (.tuple #[v, u, .int .i64 q]) ∧ Ints w' v xs ∧ Ints w' u ys ∧ xs.length ≤ 301 ∧ ys.length ≤ 301 ∧ Fits q

set_option maxHeartbeats 2000000 in
theorem drawTimesLeft (w : World) (a : Option Addr) (len cap : Nat) (zs : List Int) (h : IsRow .u8 w a len cap zs) : Calls Try.prog 17 #[.slice a len cap] w fun e w' => Rows2 e w' ∧ Below w.heap.size w w' := by
  go_enter Try.func17, Try.ntmps17
  go_wp2_with fail
  go_at_call 52
  refine (open_in w a len cap zs h).mono ?_
  rintro e w1 ⟨R, n, c, rfl, hb, hR⟩
  go_wp2_with fail
  go_at_call 53
  refine (l20Prime_in w R n c _ a _ hb hR (by omega)).mono ?_
  rintro e w2 ⟨⟨z, hz, rfl⟩, hR2, _⟩
  go_wp2_with fail
  go_at_call 54
  refine (pick_in w R n c _ a _ _ hb hR2 (by omega)).mono ?_
  rintro e w3 ⟨x, rfl, hx0, _, hx1, hR3, _⟩
  replace hx1 := hx1 (by omega)
  have hw1 : IntKind.i64.wrap (2 + x) = 2 + x := IntWalk.i64_in _ (by omega)
  have hne := hR3.ne
  go_wp2_with fail
  go_at_call 54
  refine (pick_in w R n c _ a _ _ hb (hR3.alloc _) (by omega)).mono ?_
  rintro e w4 ⟨k, rfl, hk0, _, hk1, hR4, hg4, _⟩
  replace hk1 := hk1 (by omega)
  obtain ⟨k, rfl⟩ : ∃ m : Nat, k = m := ⟨k.toNat, by omega⟩
  obtain ⟨y, hy, hcy⟩ : ∃ y, Fits y ∧ w4.cell? ⟨w3.heap.size, k, none⟩ = some (.int .i64 y) := by
    have hcell : ∀ v, (#[.int .i64 z, .int .i64 (2 + x)] : Array Value)[k]? = some v → w4.cell? ⟨w3.heap.size, k, none⟩ = some v := fun v hv =>
      hg4.cell ((cell_of_row _ _ _ _ _ _ (heap_alloc_new w3 _)).trans hv) (fun e => by rw [← hne]; injection e)
    rcases (show k = 0 ∨ k = 1 by omega) with rfl | rfl
    · exact ⟨z, hz, hcell _ rfl⟩
    · exact ⟨2 + x, by unfold Fits; omega, hcell _ rfl⟩
  clear hne hg4 hz hx0 hx1 hw1 hk0 hR2 hR3
  have hk2 : (k : Int) < 2 := by omega
  go_wp2_with fail
  go_at_call 54
  refine (pick_in w R n c _ a _ _ hb hR4 (by omega)).mono ?_
  rintro e w5 ⟨m, rfl, hm0, _, hm1, hR5, _⟩
  clear hcy hR4 hk1 hk2 hm1
  by_cases hm : m = 0
  · subst hm
    clear hm0
    cases hpr : prmI y with
    | true =>
      go_wp2_with fail
      go_at_call 55
      refine (specPrime_is hpr _).mono ?_
      rintro e w' ⟨rfl, rfl⟩
      go_wp2_with fail
      go_at_call 54
      refine (pick_in w R n c _ a _ _ hb hR5 (by omega)).mono ?_
      rintro e w6 ⟨r1, rfl, _, _, _, hR6, _⟩
      go_wp2_with fail
      go_at_call 56
      refine (specRowLeft r1 y _).mono ?_
      rintro e w7 ⟨v, rfl, hown7, hB7⟩
      have hR7 := hR6.below hB7
      have hv7 := Ints.of_owns hown7
      have hnR : v.ownBlock ≠ some R := fun e => by
        have h1 := (hown7.lt R e).1
        have h2 := (Array.getElem?_eq_some_iff.1 hR6.2.2).1
        omega
      go_wp2_with fail
      go_at_call 54
      refine (pick_in w R n c _ a _ _ hb hR7 (by omega)).mono ?_
      rintro e w8 ⟨r2, rfl, _, _, _, hR8, hg8, _⟩
      have hv8 := hv7.kept hg8 (.inr hnR)
      go_wp2_with fail
      go_at_call 56
      refine (specRowLeft r2 y _).mono ?_
      rintro e w9 ⟨u, rfl, hown9, hB9⟩
      have hv9 := hv8.below hB9
      have hu9 := Ints.of_owns hown9
      have hR9 := hR8.below hB9
      clear hR5 hR6 hR7 hR8 hown7 hown9 hv7 hv8
      go_wp2
      go_ret3
      exact ⟨⟨_, _, _, _, _, rfl, hv9, hu9, rowLV_len _ _, rowLV_len _ _, hy⟩, hR9.1⟩
    | false =>
      go_wp2_with fail
      go_at_call 55
      refine (specPrime_is hpr _).mono ?_
      rintro e w' ⟨rfl, rfl⟩
      go_wp2_with fail
      go_at_call 57
      refine (l20Left_in w R n c _ a y _ hb hR5 (by omega)).mono ?_
      rintro e w6 ⟨v, xs, rfl, ⟨hv, hnR, hxl⟩, ⟨p6, hp6, hR6⟩, _⟩
      go_wp2_with fail
      go_at_call 57
      refine (l20Left_in w R n c _ a y _ hb hR6 (by omega)).mono ?_
      rintro e w7 ⟨u, ys, rfl, ⟨hu, _, hyl⟩, ⟨p7, _, hR7⟩, hg7⟩
      replace hv := hv.kept hg7 (.inr hnR)
      clear hR5 hR6
      go_wp2
      go_ret3
      exact ⟨⟨_, _, _, _, _, rfl, hv, hu, by omega, by omega, hy⟩, hR7.1⟩
  · have hm2 : (m == 0) = false := by simpa using hm
    clear hm hm0
    go_wp2_with fail
    go_at_call 57
    refine (l20Left_in w R n c _ a y _ hb hR5 (by omega)).mono ?_
    rintro e w6 ⟨v, xs, rfl, ⟨hv, hnR, hxl⟩, ⟨p6, hp6, hR6⟩, _⟩
    go_wp2_with fail
    go_at_call 57
    refine (l20Left_in w R n c _ a y _ hb hR6 (by omega)).mono ?_
    rintro e w7 ⟨u, ys, rfl, ⟨hu, _, hyl⟩, ⟨p7, _, hR7⟩, hg7⟩
    replace hv := hv.kept hg7 (.inr hnR)
    clear hR5 hR6
    go_wp2
    go_ret3
    exact ⟨⟨_, _, _, _, _, rfl, hv, hu, by omega, by omega, hy⟩, hR7.1⟩
end Go.Proofs.Ytlkcdcmmcjkedaa
