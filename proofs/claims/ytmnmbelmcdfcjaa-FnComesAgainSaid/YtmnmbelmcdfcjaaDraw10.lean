/-
  The draws of chapter 10: each hands back a ring of at most nine numbers, and nothing that was there is written.
-/
import Derived.Test.YtmnmbelmcdfcjaaDraw9
import Derived.Test.YtmnmbelmcdfcjaaBlk
import Derived.Test.YtmnmbelmcdfcjaaSel2
namespace Go.Proofs.Ytmnmbelmcdfcjaa
open Go.RowKit

def sel9 (i : Nat) (a b c d e f g h k : Int) : Int := if i = 0 then a else if i = 1 then b else if i = 2 then c else if i = 3 then d else if i = 4 then e else if i = 5 then f else if i = 6 then g else if i = 7 then h else k
theorem sel9_cell {i : Nat} (hi : i < 9) (W : World) (a b c d e f g h k : Int) : (W.alloc (.cells #[.int .i64 a, .int .i64 b, .int .i64 c, .int .i64 d, .int .i64 e, .int .i64 f, .int .i64 g, .int .i64 h, .int .i64 k] 3)).cell? ⟨W.heap.size, i, none⟩ = some (.int .i64 (sel9 i a b c d e f g h k)) := by
  rw [World.cell?_alloc_at _ _ _ _ rfl]
  match i, hi with
  | 0, _ => rfl
  | 1, _ => rfl
  | 2, _ => rfl
  | 3, _ => rfl
  | 4, _ => rfl
  | 5, _ => rfl
  | 6, _ => rfl
  | 7, _ => rfl
  | 8, _ => rfl

/-- A ring that was drawn, apart from the reader. -/
def SideR (R : Nat) (w' : World) (e : Ending) : Prop := ∃ v xs, e = .returned v ∧ Ints w' v xs ∧ Lies v ∧ xs.length ≤ 13 ∧ v.ownBlock ≠ some R
theorem SideR.side {R : Nat} {w' : World} {e : Ending} (h : SideR R w' e) : Side w' e := by
  obtain ⟨v, xs, h1, h2, h3, h4, _⟩ := h
  exact ⟨v, xs, h1, h2, h3, h4⟩
set_option maxRecDepth 100000 in
set_option maxHeartbeats 4000000 in
theorem l20Ring_in (W0 : World) (R len cap p : Nat) (a : Option Addr) (q : Int) (hq : 0 < q) (hq2 : q ≤ 1000) (w : World) (hb : Bytes W0 a len) (h : Rd W0 R a len cap w p) (hp : p ≤ 800000) :
    Calls Try.prog 39 #[.pointer (some ⟨R, 0, none⟩), .int .i64 q] w fun e w' => SideR R w' e ∧ ∃ p', p' ≤ p + 40 ∧ Rd W0 R a len cap w' p' := by
  have hRw : R < w.heap.size := (Array.getElem?_eq_some_iff.1 h.2.2).1
  have hW0R := h.2.1
  go_enter Try.func39, Try.ntmps39
  go_wp2_with fail
  go_at_call 47
  refine (pick_in W0 R len cap _ a _ _ hb (h.alloc _) (by omega)).mono ?_
  rintro e w2 ⟨x, rfl, hx0, _, hx1, hR2, hgr2, hon⟩
  replace hx1 := hx1 (by omega)
  obtain ⟨i, hi3, rfl⟩ : ∃ i : Nat, i < 3 ∧ x = i := ⟨x.toNat, by omega, by omega⟩
  have hkc := (only_cells hon w.heap.size i (by omega)).trans (sel_cell hi3 w 2 10 101)
  have hi4 : (i : Int) < 3 := by omega
  obtain ⟨H, hH⟩ : ∃ H : Nat, sel i 2 10 101 = (H : Int) ∧ 1 ≤ H ∧ H ≤ 101 := by
    unfold sel; split
    · exact ⟨2, rfl, by omega, by omega⟩
    · split
      · exact ⟨10, rfl, by omega, by omega⟩
      · exact ⟨101, rfl, by omega, by omega⟩
  rw [hH.1] at hkc
  have hg2 : w.grownBy w2 (some R) := (World.grownBy_alloc w _ _).trans hgr2
  have hs2 := hg2.size
  clear hx0 hx1 hon hgr2
  go_wp2_with fail
  clear hkc
  go_at_call 47
  refine (pick_in W0 R len cap _ a _ _ hb ((hR2.alloc _).alloc _) (by omega)).mono ?_
  rintro e w3 ⟨x, rfl, hx0, _, hx1, hR3, hgr3, hon⟩
  replace hx1 := hx1 (by omega)
  obtain ⟨j, hj9, rfl⟩ : ∃ i : Nat, i < 9 ∧ x = i := ⟨x.toNat, by omega, by omega⟩
  have hkc := (only_cells hon (w2.alloc (.cells #[] 3)).heap.size j (by simp; omega)).trans (sel9_cell hj9 (w2.alloc (.cells #[] 3)) 4 8 2 3 4 5 6 7 1)
  rw [World.size_alloc] at hkc
  have hj4 : (j : Int) < 9 := by omega
  obtain ⟨N, hN⟩ : ∃ N : Nat, sel9 j 4 8 2 3 4 5 6 7 1 = (N : Int) ∧ 1 ≤ N ∧ N ≤ 8 := by
    unfold sel9
    split
    · exact ⟨4, rfl, by omega, by omega⟩
    split
    · exact ⟨8, rfl, by omega, by omega⟩
    split
    · exact ⟨2, rfl, by omega, by omega⟩
    split
    · exact ⟨3, rfl, by omega, by omega⟩
    split
    · exact ⟨4, rfl, by omega, by omega⟩
    split
    · exact ⟨5, rfl, by omega, by omega⟩
    split
    · exact ⟨6, rfl, by omega, by omega⟩
    split
    · exact ⟨7, rfl, by omega, by omega⟩
    · exact ⟨1, rfl, by omega, by omega⟩
  rw [hN.1] at hkc
  have hmade : (w2.alloc (.cells #[] 3)).ownsRow w2.heap.size 3 1 (.slice (some ⟨w2.heap.size, 0, none⟩) 0 0) 0 [] := World.ownsRow_made _ _ _ (Nat.le_refl _) (by decide) rfl
  have hm3 := (hmade.alloc (.cells #[.int .i64 4, .int .i64 8, .int .i64 2, .int .i64 3, .int .i64 4, .int .i64 5, .int .i64 6, .int .i64 7, .int .i64 1] 3)).kept hgr3 (.inr (by simp [Value.ownBlock]; omega))
  have hs3 := hgr3.size
  simp only [World.size_alloc] at hs3
  obtain ⟨_, hH1, hH2⟩ := hH
  obtain ⟨_, hN1, hN2⟩ := hN
  clear hx0 hx1 hon hgr3 hmade hg2
  go_wp2
  clear hkc
  go_loopw [6, 7] (fun out n wr => ∃ (j : Nat) (zs : List Int), j ≤ N ∧ n = .int .i64 ((N : Int) - (j : Nat)) ∧ zs.length = j ∧ wr.ownsRow w2.heap.size 3 1 out zs.length (zs.map (Value.int .i64)) ∧ w3.heap.size ≤ wr.heap.size ∧ Rd W0 R a len cap wr (p + 2 + j)) (fun _ n _ => (intOf n).toNat)
  case atStart => exact ⟨0, [], by omega, by go_num, rfl, hm3, Nat.le_refl _, hR3⟩
  case round =>
    clear hm3 hR3
    obtain ⟨j, zs, hj, rfl, hz, hown, hsz, hR⟩ := hrel
    by_cases hjn : j < N
    · have hc : (0 : Int) < (N : Int) - (j : Int) := by omega
      have hw1 : IntKind.i64.wrap ((N : Int) - (j : Int) - 1) = (N : Int) - (j : Int) - 1 := IntWalk.i64_in _ (by omega)
      go_wp2_with (first
        | (go_at_call 47; refine (pick_in W0 R len cap _ a _ _ hb hR (by omega)).mono ?_; rintro e w4 ⟨x, rfl, _, _, _, hR4, hgr4, _⟩; have hown4 := hown.kept hgr4 (.inr (fun e => by have := hown.lt R e; omega)); have hs4 := hgr4.size)
        | (at_builtin; refine append_one rfl _ _ rfl w2.heap.size _ _ _ rfl hown4 rfl (by omega) (by omega) ?_; intro v' w5 hown5 hgr5))
      all_goals
        have hgr5' : (w4.alloc (.cells #[.int .i64 x] 3)).grownBy w5 u6.ownBlock := hgr5
        have hs5 := hgr5'.size
        rw [World.size_alloc] at hs5
        have hbl : ∀ k, u6.ownBlock = some k → w2.heap.size ≤ k := fun k e => (hown.lt k e).1
        go_roundw
        case rel =>
          refine ⟨j + 1, zs ++ [x], by omega, by go_num, by simp [hz], by simpa using hown5, by omega, ?_⟩
          rw [show p + 2 + (j + 1) = p + 2 + j + 1 by omega]
          exact (hR4.alloc _).kept hgr5' (fun e => by have := hbl R e.symm; omega) (fun k e => by have := hbl k e; omega)
        case measure => simp [intOf]; omega
    · obtain rfl : j = N := by omega
      have hbl : ∀ k, u6.ownBlock = some k → w2.heap.size ≤ k := fun k e => (hown.lt k e).1
      have hnR : u6.ownBlock ≠ some R := fun e => by have := hbl R e; omega
      have hp0 : 0 < zs.length := by omega
      have hc : ¬ (0 : Int) < (j : Int) - ((j : Nat) : Int) := by omega
      have hl13 : zs.length ≤ 13 := by omega
      clear hbl
      go_wp2_with fail
      go_at_call 51
      refine (odd_any W0 R len cap _ a q _ hb hR (by omega) hq hq2).mono ?_
      rintro e w4 ⟨b, rfl, hR4, hgr4⟩
      have hown4 := hown.kept hgr4 (.inr hnR)
      cases b with
      | false =>
        go_wp2
        go_ret
        exact ⟨⟨_, zs, rfl, Ints.of_owns hown4, Lies.of_owns hown4, hl13, hnR⟩, _, by omega, hR4⟩
      | true =>
        go_wp2_with fail
        go_at_call 47
        refine (pick_in W0 R len cap _ a _ _ hb hR4 (by omega)).mono ?_
        rintro e w5 ⟨y, rfl, hy0, _, hy1, hR5, hgr5, _⟩
        replace hy1 := hy1 (by omega)
        have hown5 := hown4.kept hgr5 (.inr hnR)
        have hs5 := Nat.le_trans hgr4.size hgr5.size
        clear hown hown4 hR4 hgr4 hgr5
        rcases (show y = 0 ∨ y = 1 ∨ y = 2 by omega) with rfl | rfl | rfl
        · go_wp2
          go_ret
          exact ⟨⟨_, [], rfl, .inl ⟨_, _, rfl, rfl⟩, .inr ⟨_, _, _, rfl⟩, by simp, by simp [Value.ownBlock]; omega⟩, _, by omega, hR5.alloc _⟩
        · go_wp2_with fail
          go_at_call 47
          refine (pick_in W0 R len cap _ a _ _ hb (hR5.alloc _) (by omega)).mono ?_
          rintro e w6 ⟨y, rfl, hy0, _, hy1, hR6, hgr6, hon⟩
          replace hy1 := hy1 (by omega)
          obtain ⟨i2, hi2, rfl⟩ : ∃ i : Nat, i < 2 ∧ y = i := ⟨y.toNat, by omega, by omega⟩
          have hkc := (only_cells hon w5.heap.size i2 (by omega)).trans (two_cell hi2 w5 (-1) 101)
          have hi4 : (i2 : Int) < 2 := by omega
          generalize two i2 (-1) 101 = T at *
          have hown6 := (hown5.alloc (.cells #[.int .i64 (-1), .int .i64 101] 3)).kept hgr6 (.inr hnR)
          obtain ⟨g, c, rfl, hbg, hg, _, hcells⟩ := owns_open hown6 hp0
          have hc0 := hcells 0 (.int .i64 (zs.getD 0 0)) (by rw [List.getElem?_map, List.getD, List.getElem?_eq_getElem hp0]; rfl)
          have hfz := hown6.frozenAt 0
          obtain ⟨hown7, hgr7⟩ := hown6.stored 0 (.int .i64 T)
          rw [← List.map_set, hz] at hown7
          have hpi : (0 : Int) < (zs.length : Int) := by omega
          clear hcells hon hown5
          go_wp2
          go_ret
          exact ⟨⟨_, zs.set 0 T, rfl, Ints.of_owns hown7, .inr ⟨_, _, _, rfl⟩, by simpa using hl13, hnR⟩, _, by omega, hR6.kept hgr7 (fun e => by injection e; omega) (fun k e => by injection e; omega)⟩
        · go_wp2_with (refine make_blk _ rfl _ _ rfl _ _ 9 rfl rfl rfl rfl (by omega) ?_; intro w6 hb6 hg6)
          go_ret
          refine ⟨⟨_, List.replicate 9 0, rfl, ?_, .inr ⟨_, _, _, rfl⟩, by simp, by simp [Value.ownBlock]; omega⟩, _, by omega, hR5.kept hg6 (fun e => by cases e) (fun k e => by cases e)⟩
          exact .inr ⟨w5.heap.size, 9, by simp, hb6.lt, fun i hi => by
            have hi13 : i < 9 := by simpa using hi
            have h9 := hb6.cell (intsV_at hi13)
            have e : (List.replicate 9 (0 : Int)).getD i 0 = 0 := by rw [List.getD, List.getElem?_replicate, if_pos hi13]; rfl
            rw [e]
            exact h9⟩
theorem drawRing (w : World) (a : Option Addr) (len cap : Nat) (zs : List Int) (h : IsRow .u8 w a len cap zs) : Calls Try.prog 15 #[.slice a len cap] w fun e w' => Side w' e ∧ Below w.heap.size w w' := by
  go_enter Try.func15, Try.ntmps15
  go_wp2_with fail
  go_at_call 40
  refine (open_in w a len cap zs h).mono ?_
  rintro e w1 ⟨R, n, c, rfl, hb, hR⟩
  go_wp2_with fail
  go_at_call 39
  refine (l20Ring_in w R n c _ a 2 (by omega) (by omega) _ hb hR (by omega)).mono ?_
  rintro e w2 ⟨⟨v, xs, rfl, hi, hl, hlen, _⟩, p', _, hR2⟩
  go_wp2
  go_ret
  exact ⟨⟨_, _, rfl, hi, hl, hlen⟩, hR2.1⟩

theorem drawRound (w : World) (a : Option Addr) (len cap : Nat) (zs : List Int) (h : IsRow .u8 w a len cap zs) : Calls Try.prog 19 #[.slice a len cap] w fun e w' => Side w' e ∧ Below w.heap.size w w' := by
  go_enter Try.func19, Try.ntmps19
  go_wp2_with fail
  go_at_call 40
  refine (open_in w a len cap zs h).mono ?_
  rintro e w1 ⟨R, n, c, rfl, hb, hR⟩
  go_wp2_with fail
  go_at_call 39
  refine (l20Ring_in w R n c _ a 9 (by omega) (by omega) _ hb hR (by omega)).mono ?_
  rintro e w2 ⟨⟨v, xs, rfl, hi, hl, hlen, _⟩, p', _, hR2⟩
  go_wp2
  go_ret
  exact ⟨⟨_, _, rfl, hi, hl, hlen⟩, hR2.1⟩

theorem drawEnd (w : World) (a : Option Addr) (len cap : Nat) (zs : List Int) (h : IsRow .u8 w a len cap zs) : Calls Try.prog 26 #[.slice a len cap] w fun e w' => Side w' e ∧ Below w.heap.size w w' := by
  go_enter Try.func26, Try.ntmps26
  go_wp2_with fail
  go_at_call 40
  refine (open_in w a len cap zs h).mono ?_
  rintro e w1 ⟨R, n, c, rfl, hb, hR⟩
  go_wp2_with fail
  go_at_call 39
  refine (l20Ring_in w R n c _ a 9 (by omega) (by omega) _ hb hR (by omega)).mono ?_
  rintro e w2 ⟨⟨v, xs, rfl, hi, hl, hlen, _⟩, p', _, hR2⟩
  go_wp2
  go_ret
  exact ⟨⟨_, _, rfl, hi, hl, hlen⟩, hR2.1⟩

theorem drawAgain (w : World) (a : Option Addr) (len cap : Nat) (zs : List Int) (h : IsRow .u8 w a len cap zs) : Calls Try.prog 32 #[.slice a len cap] w fun e w' => Side w' e ∧ Below w.heap.size w w' := by
  go_enter Try.func32, Try.ntmps32
  go_wp2_with fail
  go_at_call 40
  refine (open_in w a len cap zs h).mono ?_
  rintro e w1 ⟨R, n, c, rfl, hb, hR⟩
  go_wp2_with fail
  go_at_call 39
  refine (l20Ring_in w R n c _ a 9 (by omega) (by omega) _ hb hR (by omega)).mono ?_
  rintro e w2 ⟨⟨v, xs, rfl, hi, hl, hlen, _⟩, p', _, hR2⟩
  go_wp2
  go_ret
  exact ⟨⟨_, _, rfl, hi, hl, hlen⟩, hR2.1⟩

/-- A ring and a number. -/
def Side2 (w' : World) (e : Ending) : Prop := ∃ v xs x, e = .returned (.tuple #[v, .int .i64 x]) ∧ Ints w' v xs ∧ Lies v ∧ xs.length ≤ 13 ∧ Fits x
theorem drawRounds (w : World) (a : Option Addr) (len cap : Nat) (zs : List Int) (h : IsRow .u8 w a len cap zs) : Calls Try.prog 23 #[.slice a len cap] w fun e w' => Side2 w' e ∧ Below w.heap.size w w' := by
  go_enter Try.func23, Try.ntmps23
  go_wp2_with fail
  go_at_call 40
  refine (open_in w a len cap zs h).mono ?_
  rintro e w1 ⟨R, n, c, rfl, hb, hR⟩
  go_wp2_with fail
  go_at_call 39
  refine (l20Ring_in w R n c _ a 12 (by omega) (by omega) _ hb hR (by omega)).mono ?_
  rintro e w2 ⟨⟨v, xs, rfl, hi, hl, hlen, hne⟩, p', hp', hR2⟩
  go_wp2_with fail
  go_at_call 47
  refine (pick_in w R n c _ a _ _ hb hR2 (by omega)).mono ?_
  rintro e w3 ⟨x, rfl, hx0, _, hx1, hR3, hg3, _⟩
  replace hx1 := hx1 (by omega)
  go_wp2_with fail
  go_at_call 47
  refine (pick_in w R n c _ a _ _ hb hR3 (by omega)).mono ?_
  rintro e w4 ⟨y, rfl, hy0, _, hy1, hR4, hg4, _⟩
  replace hy1 := hy1 (by omega)
  go_wp2_with fail
  go_at_call 47
  refine (pick_in w R n c _ a _ _ hb hR4 (by omega)).mono ?_
  rintro e w5 ⟨z, rfl, hz0, _, hz1, hR5, hg5, _⟩
  replace hz1 := hz1 (by omega)
  have hi5 := ((hi.grown hg3 hne).grown hg4 hne).grown hg5 hne
  go_wp2
  go_ret2
  exact ⟨⟨_, _, _, rfl, hi5, hl, hlen, by first | exact wrap_fits _ | exact wrap64_fits _ | (unfold Fits; omega)⟩, hR5.1⟩
end Go.Proofs.Ytmnmbelmcdfcjaa
