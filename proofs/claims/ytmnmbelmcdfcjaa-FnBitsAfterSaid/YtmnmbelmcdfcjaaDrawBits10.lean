/-
  The draw of BitsAfter: a ring of noughts and ones, or one with a two, and a number.
-/
import Derived.Test.YtmnmbelmcdfcjaaDraw10
import Derived.Test.YtmnmbelmcdfcjaaReader2
namespace Go.Proofs.Ytmnmbelmcdfcjaa
open Go.RowKit

theorem sel_fits {i : Nat} {a b c : Int} (ha : Fits a) (hb : Fits b) (hc : Fits c) : Fits (sel i a b c) := by
  unfold sel
  split
  · exact ha
  · split
    · exact hb
    · exact hc

set_option maxHeartbeats 4000000 in
set_option maxRecDepth 100000 in
theorem drawBits (w : World) (a : Option Addr) (len cap : Nat) (zs : List Int) (h : IsRow .u8 w a len cap zs) : Calls Try.prog 29 #[.slice a len cap] w fun e w' => Side2 w' e ∧ Below w.heap.size w w' := by
  go_enter Try.func29, Try.ntmps29
  go_wp2_with fail
  go_at_call 40
  refine (open_in w a len cap zs h).mono ?_
  rintro e w1 ⟨R, m, c, rfl, hb, hR⟩
  have hRw : R < w1.heap.size := (Array.getElem?_eq_some_iff.1 hR.2.2).1
  have hW0R := hR.2.1
  go_wp2_with fail
  go_at_call 47
  refine (pick_in w R m c _ a _ _ hb (hR.alloc _) (by omega)).mono ?_
  rintro e w3 ⟨x, rfl, hx0, _, hx1, hR3, hgr3, _⟩
  replace hx1 := hx1 (by omega)
  obtain ⟨N, hN, hN8⟩ : ∃ N : Nat, 1 + x = (N : Int) ∧ 1 ≤ N ∧ N ≤ 8 := ⟨(1 + x).toNat, by omega, by omega, by omega⟩
  obtain ⟨hN1, hN2⟩ := hN8
  have hxw : IntKind.i64.wrap (1 + x) = (N : Int) := by rw [← hN]; exact IntWalk.i64_in _ (by omega)
  have hmade : (w1.alloc (.cells #[] 3)).ownsRow w1.heap.size 3 1 (.slice (some ⟨w1.heap.size, 0, none⟩) 0 0) 0 [] := World.ownsRow_made _ _ _ (Nat.le_refl _) (by decide) rfl
  have hm3 := hmade.kept hgr3 (.inr (by simp [Value.ownBlock]; omega))
  have hs3 := hgr3.size
  simp only [World.size_alloc] at hs3
  clear hx0 hx1 hgr3 hmade hN
  go_wp2
  go_loopw [5, 6] (fun out n wr => ∃ (j : Nat) (zs : List Int), j ≤ N ∧ n = .int .i64 ((N : Int) - (j : Nat)) ∧ zs.length = j ∧ wr.ownsRow w1.heap.size 3 1 out zs.length (zs.map (Value.int .i64)) ∧ w3.heap.size ≤ wr.heap.size ∧ Rd w R a m c wr (1 + j)) (fun _ n _ => (intOf n).toNat)
  case atStart => exact ⟨0, [], by omega, by go_num, rfl, hm3, Nat.le_refl _, hR3⟩
  case round =>
    clear hm3 hR3
    obtain ⟨j, zs, hj, rfl, hz, hown, hsz, hR⟩ := hrel
    by_cases hjn : j < N
    · have hc : (0 : Int) < (N : Int) - (j : Int) := by omega
      have hw1 : IntKind.i64.wrap ((N : Int) - (j : Int) - 1) = (N : Int) - (j : Int) - 1 := IntWalk.i64_in _ (by omega)
      go_wp2_with (first
        | (go_at_call 47; refine (pick_in w R m c _ a _ _ hb hR (by omega)).mono ?_; rintro e w4 ⟨x, rfl, _, _, _, hR4, hgr4, _⟩; have hown4 := hown.kept hgr4 (.inr (fun e => by have := hown.lt R e; omega)); have hs4 := hgr4.size)
        | (at_builtin; refine append_one rfl _ _ rfl w1.heap.size _ _ _ rfl hown4 rfl (by omega) (by omega) ?_; intro v' w5 hown5 hgr5))
      all_goals
        have hgr5' : (w4.alloc (.cells #[.int .i64 x] 3)).grownBy w5 u5.ownBlock := hgr5
        have hs5 := hgr5'.size
        rw [World.size_alloc] at hs5
        have hbl : ∀ k, u5.ownBlock = some k → w1.heap.size ≤ k := fun k e => (hown.lt k e).1
        go_roundw
        case rel =>
          refine ⟨j + 1, zs ++ [x], by omega, by go_num, by simp [hz], by simpa using hown5, by omega, ?_⟩
          rw [show 1 + (j + 1) = 1 + j + 1 by omega]
          exact (hR4.alloc _).kept hgr5' (fun e => by have := hbl R e.symm; omega) (fun k e => by have := hbl k e; omega)
        case measure => simp [intOf]; omega
    · obtain rfl : j = N := by omega
      have hbl : ∀ k, u5.ownBlock = some k → w1.heap.size ≤ k := fun k e => (hown.lt k e).1
      have hnR : u5.ownBlock ≠ some R := fun e => by have := hbl R e; omega
      have hp0 : 0 < zs.length := by omega
      have hc : ¬ (0 : Int) < (j : Int) - ((j : Nat) : Int) := by omega
      have hl13 : zs.length ≤ 13 := by omega
      clear hbl
      go_wp2_with fail
      go_at_call 51
      refine (odd_any w R m c _ a 12 _ hb hR (by omega) (by omega) (by omega)).mono ?_
      rintro e w4 ⟨b, rfl, hR4, hgr4⟩
      have hown4 := hown.kept hgr4 (.inr hnR)
      cases b with
      | false =>
        go_upto_region 9 with fail
        refine wp_region_reader2 w R m c (1 + j + 1) a 40 (by decide) (by kernel_rfl) (by kernel_rfl) (by decide) hR4
          (fun s => { tmps := #[.slice a len cap, undef, s 13, s 14, .pointer (some ⟨R, 0, none⟩), u5, .int .i64 0, .slice a len cap, .pointer (some ⟨R, 0, none⟩), .slice (some ⟨w1.heap.size, 0, none⟩) 0 0, .pointer (some ⟨R, 0, none⟩), .int .i64 x, .int .i64 (j : Nat), .int .i64 0, .bool false, u15, u16, u17, u18, u19, u20, u21, .pointer (some ⟨R, 0, none⟩), .bool false, undef, undef, s 0, s 1, s 2, s 3, s 4, s 5, s 6, s 7, s 8, s 9, s 10, s 11, s 12], defers := [] })
          [.val (u5), .rd, .fit, .rd, .rng 8, .fit, .rd, .fit, .lit 3, .rd, .rng 3, .adr, .fit, .val (u5), .fit] ?h0 ?put ?step ?fin
        case h0 => exact ⟨fun k => if k = 13 then .slice none 0 0 else if k = 14 then .int .i64 0 else undef, by simp⟩
        case put =>
          intro i o s v ho
          have hi : i < 15 := (Array.getElem?_eq_some_iff.1 ho).1
          rcases (show i = 0 ∨ i = 1 ∨ i = 2 ∨ i = 3 ∨ i = 4 ∨ i = 5 ∨ i = 6 ∨ i = 7 ∨ i = 8 ∨ i = 9 ∨ i = 10 ∨ i = 11 ∨ i = 12 ∨ i = 13 ∨ i = 14 by omega) with rfl | rfl | rfl | rfl | rfl | rfl | rfl | rfl | rfl | rfl | rfl | rfl | rfl | rfl | rfl
          all_goals
            simp at ho
            subst ho
            simp [Act.put]
        case step =>
          intro i o s W q hq ho hRW hd Q' hQ'
          have hi : i < 15 := (Array.getElem?_eq_some_iff.1 ho).1
          rcases (show i = 0 ∨ i = 1 ∨ i = 2 ∨ i = 3 ∨ i = 4 ∨ i = 5 ∨ i = 6 ∨ i = 7 ∨ i = 8 ∨ i = 9 ∨ i = 10 ∨ i = 11 ∨ i = 12 ∨ i = 13 ∨ i = 14 by omega) with rfl | rfl | rfl | rfl | rfl | rfl | rfl | rfl | rfl | rfl | rfl | rfl | rfl | rfl | rfl
          all_goals
            simp at ho
            subst ho
            simp [Act.put] at hQ'
            have hQ := hide hQ'
            clear hQ' 
          case inl =>
            gi_wp2
            exact hQ.out _ W q (by omega) hRW (grownBy_refl _ _) rfl
          case inr.inl =>
            gi_wp2
            exact hQ.out _ W q (by omega) hRW (grownBy_refl _ _) rfl
          case inr.inr.inl =>
            have e1 : s 1 = .pointer (some ⟨R, 0, none⟩) := hd 1 (by kernel_rfl)
            gi_wp2_with (refine ⟨trivial, ?_⟩; gi_at_call 47; refine (callsIn_wide.2 (pick_in w R m c _ a (20) _ hb hRW (by omega))).mono ?_; rintro e W' ⟨x, rfl, hx0, hx2, hx1, hrd, hgr, _⟩)
            have hr := hQ.out
            try simp only [e1] at hr
            exact hr _ W' _ (by omega) hrd hgr ⟨x, by unfold Fits; omega, rfl⟩
          case inr.inr.inr.inl =>
            gi_wp2
            exact hQ.out _ W q (by omega) hRW (grownBy_refl _ _) rfl
          case inr.inr.inr.inr.inl =>
            have e1 : s 3 = .pointer (some ⟨R, 0, none⟩) := hd 3 (by kernel_rfl)
            gi_wp2_with (refine ⟨trivial, ?_⟩; gi_at_call 47; refine (callsIn_wide.2 (pick_in w R m c _ a (8) _ hb hRW (by omega))).mono ?_; rintro e W' ⟨x, rfl, hx0, hx2, hx1, hrd, hgr, _⟩)
            replace hx1 := hx1 (by omega)
            obtain ⟨y, rfl⟩ : ∃ y : Nat, x = y := ⟨x.toNat, by omega⟩
            have hr := hQ.out
            try simp only [e1] at hr
            exact hr _ W' _ (by omega) hrd hgr ⟨y, by omega, rfl⟩
          case inr.inr.inr.inr.inr.inl =>
            obtain ⟨y, hy, ey⟩ : ∃ x : Nat, x < 8 ∧ s 4 = .int .i64 x := hd 4 (by kernel_rfl)
            have hyi : (0 : Int) ≤ (y : Int) := by omega
            gi_wp2
            have hr := hQ.out
            try simp only [ey] at hr
            exact hr _ W q (by omega) hRW (grownBy_refl _ _) ⟨_, (by first | exact wrap_fits _ | exact wrap64_fits _ | exact bits_fits2 _ _ _ | (unfold Fits; omega)), rfl⟩
          case inr.inr.inr.inr.inr.inr.inl =>
            gi_wp2
            exact hQ.out _ W q (by omega) hRW (grownBy_refl _ _) rfl
          case inr.inr.inr.inr.inr.inr.inr.inl =>
            have e1 : s 6 = .pointer (some ⟨R, 0, none⟩) := hd 6 (by kernel_rfl)
            gi_wp2_with (refine ⟨trivial, ?_⟩; gi_at_call 47; refine (callsIn_wide.2 (pick_in w R m c _ a (302) _ hb hRW (by omega))).mono ?_; rintro e W' ⟨x, rfl, hx0, hx2, hx1, hrd, hgr, _⟩)
            have hr := hQ.out
            try simp only [e1] at hr
            exact hr _ W' _ (by omega) hrd hgr ⟨x, by unfold Fits; omega, rfl⟩
          case inr.inr.inr.inr.inr.inr.inr.inr.inl =>
            obtain ⟨x0, hx0, ex0⟩ : ∃ x : Int, Fits x ∧ s 2 = .int .i64 x := hd 2 (by kernel_rfl)
            obtain ⟨x1, hx1, ex1⟩ : ∃ x : Int, Fits x ∧ s 5 = .int .i64 x := hd 5 (by kernel_rfl)
            obtain ⟨x2, hx2, ex2⟩ : ∃ x : Int, Fits x ∧ s 7 = .int .i64 x := hd 7 (by kernel_rfl)
            have hne := hRW.ne
            gi_wp2
            have hr := hQ.out
            try simp only [ex0, ex1, ex2] at hr
            exact hr _ _ q (by omega) (hRW.alloc _) (World.grownBy_alloc _ _ _) ⟨W.heap.size, rfl, fun e => by rw [hne] at e; exact e, by simp, fun i hi => ⟨_, sel_fits hx0 hx1 hx2, sel_cell hi W x0 x1 x2⟩⟩
          case inr.inr.inr.inr.inr.inr.inr.inr.inr.inl =>
            gi_wp2
            exact hQ.out _ W q (by omega) hRW (grownBy_refl _ _) rfl
          case inr.inr.inr.inr.inr.inr.inr.inr.inr.inr.inl =>
            have e1 : s 9 = .pointer (some ⟨R, 0, none⟩) := hd 9 (by kernel_rfl)
            gi_wp2_with (refine ⟨trivial, ?_⟩; gi_at_call 47; refine (callsIn_wide.2 (pick_in w R m c _ a (3) _ hb hRW (by omega))).mono ?_; rintro e W' ⟨x, rfl, hx0, hx2, hx1, hrd, hgr, _⟩)
            replace hx1 := hx1 (by omega)
            obtain ⟨y, rfl⟩ : ∃ y : Nat, x = y := ⟨x.toNat, by omega⟩
            have hr := hQ.out
            try simp only [e1] at hr
            exact hr _ W' _ (by omega) hrd hgr ⟨y, by omega, rfl⟩
          case inr.inr.inr.inr.inr.inr.inr.inr.inr.inr.inr.inl =>
            obtain ⟨g, e1, g1, g2, g3⟩ : ∃ g, s 8 = .slice (some ⟨g, 0, none⟩) 3 3 ∧ g ≠ R ∧ g < W.heap.size ∧ ∀ i, i < 3 → ∃ x : Int, Fits x ∧ W.cell? ⟨g, i, none⟩ = some (.int .i64 x) := hd 8 (by kernel_rfl)
            obtain ⟨y, hy, e2⟩ : ∃ x : Nat, x < 3 ∧ s 10 = .int .i64 x := hd 10 (by kernel_rfl)
            have hg := g3 y (by omega)
            clear g3
            have hyi : (y : Int) < 3 := by omega
            gi_wp2
            have hr := hQ.out
            try simp only [e1, e2] at hr
            exact hr _ W q (by omega) hRW (grownBy_refl _ _) ⟨g, y, rfl, g1, g2, hg⟩
          case inr.inr.inr.inr.inr.inr.inr.inr.inr.inr.inr.inr.inl =>
            obtain ⟨g, y, e1, _, _, x, hx, hc⟩ : ∃ g i, s 11 = .pointer (some ⟨g, i, none⟩) ∧ g ≠ R ∧ g < W.heap.size ∧ ∃ x : Int, Fits x ∧ W.cell? ⟨g, i, none⟩ = some (.int .i64 x) := hd 11 (by kernel_rfl)
            gi_wp2
            have hr := hQ.out
            try simp only [e1] at hr
            exact hr _ W q (by omega) hRW (grownBy_refl _ _) ⟨x, hx, rfl⟩
          case inr.inr.inr.inr.inr.inr.inr.inr.inr.inr.inr.inr.inr.inl =>
            have e1 : s 0 = u5 := hd 0 (by kernel_rfl)
            gi_wp2
            have hr := hQ.out
            try simp only [e1] at hr
            exact hr _ W q (by omega) hRW (grownBy_refl _ _) rfl
          case inr.inr.inr.inr.inr.inr.inr.inr.inr.inr.inr.inr.inr.inr =>
            obtain ⟨x, hx, ex⟩ : ∃ x : Int, Fits x ∧ s 12 = .int .i64 x := hd 12 (by kernel_rfl)
            gi_wp2
            have hr := hQ.out
            try simp only [ex] at hr
            exact hr _ W q (by omega) hRW (grownBy_refl _ _) ⟨_, hx, rfl⟩
        case fin =>
          rintro s W q hq hRW hgW hall
          have e2 : s 13 = u5 := hall 13 (by decide)
          obtain ⟨y, hy, ey⟩ : ∃ x : Int, Fits x ∧ s 14 = .int .i64 x := hall 14 (by decide)
          clear hq
          rw [e2, ey]
          go_wp2
          go_ret2
          exact ⟨⟨_, zs, _, rfl, (Ints.of_owns hown4).grown hgW hnR, Lies.of_owns hown4, hl13, hy⟩, hRW.1⟩
      | true =>
        obtain ⟨g, c2, rfl, hbg, hg, _, hcells⟩ := owns_open hown4 hp0
        have hc0 := hcells 0 (.int .i64 (zs.getD 0 0)) (by rw [List.getElem?_map, List.getD, List.getElem?_eq_getElem hp0]; rfl)
        have hfz := hown4.frozenAt 0
        have hpi : (0 : Int) < (zs.length : Int) := by omega
        obtain ⟨hown7, hgr7⟩ := hown4.stored 0 (.int .i64 2)
        rw [← List.map_set] at hown7
        have hR7 := hR4.kept hgr7 (fun e => by injection e; omega) (fun k e => by injection e; omega)
        go_upto_region 9 with fail
        refine wp_region_reader2 w R m c (1 + j + 1) a 40 (by decide) (by kernel_rfl) (by kernel_rfl) (by decide) hR7
          (fun s => { tmps := #[.slice a len cap, undef, s 13, s 14, .pointer (some ⟨R, 0, none⟩), .slice (some ⟨g, 0, none⟩) j c2, .int .i64 0, .slice a len cap, .pointer (some ⟨R, 0, none⟩), .slice (some ⟨w1.heap.size, 0, none⟩) 0 0, .pointer (some ⟨R, 0, none⟩), .int .i64 x, .int .i64 (j : Nat), .int .i64 0, .bool false, u15, u16, u17, u18, u19, u20, u21, .pointer (some ⟨R, 0, none⟩), .bool true, .slice (some ⟨g, 0, none⟩) j c2, .pointer (some ⟨g, 0, none⟩), s 0, s 1, s 2, s 3, s 4, s 5, s 6, s 7, s 8, s 9, s 10, s 11, s 12], defers := [] })
          [.val (.slice (some ⟨g, 0, none⟩) j c2), .rd, .fit, .rd, .rng 8, .fit, .rd, .fit, .lit 3, .rd, .rng 3, .adr, .fit, .val (.slice (some ⟨g, 0, none⟩) j c2), .fit] ?h0 ?put ?step ?fin
        case h0 => exact ⟨fun k => if k = 13 then .slice none 0 0 else if k = 14 then .int .i64 0 else undef, by simp⟩
        case put =>
          intro i o s v ho
          have hi : i < 15 := (Array.getElem?_eq_some_iff.1 ho).1
          rcases (show i = 0 ∨ i = 1 ∨ i = 2 ∨ i = 3 ∨ i = 4 ∨ i = 5 ∨ i = 6 ∨ i = 7 ∨ i = 8 ∨ i = 9 ∨ i = 10 ∨ i = 11 ∨ i = 12 ∨ i = 13 ∨ i = 14 by omega) with rfl | rfl | rfl | rfl | rfl | rfl | rfl | rfl | rfl | rfl | rfl | rfl | rfl | rfl | rfl
          all_goals
            simp at ho
            subst ho
            simp [Act.put]
        case step =>
          intro i o s W q hq ho hRW hd Q' hQ'
          have hi : i < 15 := (Array.getElem?_eq_some_iff.1 ho).1
          rcases (show i = 0 ∨ i = 1 ∨ i = 2 ∨ i = 3 ∨ i = 4 ∨ i = 5 ∨ i = 6 ∨ i = 7 ∨ i = 8 ∨ i = 9 ∨ i = 10 ∨ i = 11 ∨ i = 12 ∨ i = 13 ∨ i = 14 by omega) with rfl | rfl | rfl | rfl | rfl | rfl | rfl | rfl | rfl | rfl | rfl | rfl | rfl | rfl | rfl
          all_goals
            simp at ho
            subst ho
            simp [Act.put] at hQ'
            have hQ := hide hQ'
            clear hQ' 
          case inl =>
            gi_wp2
            exact hQ.out _ W q (by omega) hRW (grownBy_refl _ _) rfl
          case inr.inl =>
            gi_wp2
            exact hQ.out _ W q (by omega) hRW (grownBy_refl _ _) rfl
          case inr.inr.inl =>
            have e1 : s 1 = .pointer (some ⟨R, 0, none⟩) := hd 1 (by kernel_rfl)
            gi_wp2_with (refine ⟨trivial, ?_⟩; gi_at_call 47; refine (callsIn_wide.2 (pick_in w R m c _ a (20) _ hb hRW (by omega))).mono ?_; rintro e W' ⟨x, rfl, hx0, hx2, hx1, hrd, hgr, _⟩)
            have hr := hQ.out
            try simp only [e1] at hr
            exact hr _ W' _ (by omega) hrd hgr ⟨x, by unfold Fits; omega, rfl⟩
          case inr.inr.inr.inl =>
            gi_wp2
            exact hQ.out _ W q (by omega) hRW (grownBy_refl _ _) rfl
          case inr.inr.inr.inr.inl =>
            have e1 : s 3 = .pointer (some ⟨R, 0, none⟩) := hd 3 (by kernel_rfl)
            gi_wp2_with (refine ⟨trivial, ?_⟩; gi_at_call 47; refine (callsIn_wide.2 (pick_in w R m c _ a (8) _ hb hRW (by omega))).mono ?_; rintro e W' ⟨x, rfl, hx0, hx2, hx1, hrd, hgr, _⟩)
            replace hx1 := hx1 (by omega)
            obtain ⟨y, rfl⟩ : ∃ y : Nat, x = y := ⟨x.toNat, by omega⟩
            have hr := hQ.out
            try simp only [e1] at hr
            exact hr _ W' _ (by omega) hrd hgr ⟨y, by omega, rfl⟩
          case inr.inr.inr.inr.inr.inl =>
            obtain ⟨y, hy, ey⟩ : ∃ x : Nat, x < 8 ∧ s 4 = .int .i64 x := hd 4 (by kernel_rfl)
            have hyi : (0 : Int) ≤ (y : Int) := by omega
            gi_wp2
            have hr := hQ.out
            try simp only [ey] at hr
            exact hr _ W q (by omega) hRW (grownBy_refl _ _) ⟨_, (by first | exact wrap_fits _ | exact wrap64_fits _ | exact bits_fits2 _ _ _ | (unfold Fits; omega)), rfl⟩
          case inr.inr.inr.inr.inr.inr.inl =>
            gi_wp2
            exact hQ.out _ W q (by omega) hRW (grownBy_refl _ _) rfl
          case inr.inr.inr.inr.inr.inr.inr.inl =>
            have e1 : s 6 = .pointer (some ⟨R, 0, none⟩) := hd 6 (by kernel_rfl)
            gi_wp2_with (refine ⟨trivial, ?_⟩; gi_at_call 47; refine (callsIn_wide.2 (pick_in w R m c _ a (302) _ hb hRW (by omega))).mono ?_; rintro e W' ⟨x, rfl, hx0, hx2, hx1, hrd, hgr, _⟩)
            have hr := hQ.out
            try simp only [e1] at hr
            exact hr _ W' _ (by omega) hrd hgr ⟨x, by unfold Fits; omega, rfl⟩
          case inr.inr.inr.inr.inr.inr.inr.inr.inl =>
            obtain ⟨x0, hx0, ex0⟩ : ∃ x : Int, Fits x ∧ s 2 = .int .i64 x := hd 2 (by kernel_rfl)
            obtain ⟨x1, hx1, ex1⟩ : ∃ x : Int, Fits x ∧ s 5 = .int .i64 x := hd 5 (by kernel_rfl)
            obtain ⟨x2, hx2, ex2⟩ : ∃ x : Int, Fits x ∧ s 7 = .int .i64 x := hd 7 (by kernel_rfl)
            have hne := hRW.ne
            gi_wp2
            have hr := hQ.out
            try simp only [ex0, ex1, ex2] at hr
            exact hr _ _ q (by omega) (hRW.alloc _) (World.grownBy_alloc _ _ _) ⟨W.heap.size, rfl, fun e => by rw [hne] at e; exact e, by simp, fun i hi => ⟨_, sel_fits hx0 hx1 hx2, sel_cell hi W x0 x1 x2⟩⟩
          case inr.inr.inr.inr.inr.inr.inr.inr.inr.inl =>
            gi_wp2
            exact hQ.out _ W q (by omega) hRW (grownBy_refl _ _) rfl
          case inr.inr.inr.inr.inr.inr.inr.inr.inr.inr.inl =>
            have e1 : s 9 = .pointer (some ⟨R, 0, none⟩) := hd 9 (by kernel_rfl)
            gi_wp2_with (refine ⟨trivial, ?_⟩; gi_at_call 47; refine (callsIn_wide.2 (pick_in w R m c _ a (3) _ hb hRW (by omega))).mono ?_; rintro e W' ⟨x, rfl, hx0, hx2, hx1, hrd, hgr, _⟩)
            replace hx1 := hx1 (by omega)
            obtain ⟨y, rfl⟩ : ∃ y : Nat, x = y := ⟨x.toNat, by omega⟩
            have hr := hQ.out
            try simp only [e1] at hr
            exact hr _ W' _ (by omega) hrd hgr ⟨y, by omega, rfl⟩
          case inr.inr.inr.inr.inr.inr.inr.inr.inr.inr.inr.inl =>
            obtain ⟨g, e1, g1, g2, g3⟩ : ∃ g, s 8 = .slice (some ⟨g, 0, none⟩) 3 3 ∧ g ≠ R ∧ g < W.heap.size ∧ ∀ i, i < 3 → ∃ x : Int, Fits x ∧ W.cell? ⟨g, i, none⟩ = some (.int .i64 x) := hd 8 (by kernel_rfl)
            obtain ⟨y, hy, e2⟩ : ∃ x : Nat, x < 3 ∧ s 10 = .int .i64 x := hd 10 (by kernel_rfl)
            have hg := g3 y (by omega)
            clear g3
            have hyi : (y : Int) < 3 := by omega
            gi_wp2
            have hr := hQ.out
            try simp only [e1, e2] at hr
            exact hr _ W q (by omega) hRW (grownBy_refl _ _) ⟨g, y, rfl, g1, g2, hg⟩
          case inr.inr.inr.inr.inr.inr.inr.inr.inr.inr.inr.inr.inl =>
            obtain ⟨g, y, e1, _, _, x, hx, hc⟩ : ∃ g i, s 11 = .pointer (some ⟨g, i, none⟩) ∧ g ≠ R ∧ g < W.heap.size ∧ ∃ x : Int, Fits x ∧ W.cell? ⟨g, i, none⟩ = some (.int .i64 x) := hd 11 (by kernel_rfl)
            gi_wp2
            have hr := hQ.out
            try simp only [e1] at hr
            exact hr _ W q (by omega) hRW (grownBy_refl _ _) ⟨x, hx, rfl⟩
          case inr.inr.inr.inr.inr.inr.inr.inr.inr.inr.inr.inr.inr.inl =>
            have e1 : s 0 = .slice (some ⟨g, 0, none⟩) j c2 := hd 0 (by kernel_rfl)
            gi_wp2
            have hr := hQ.out
            try simp only [e1] at hr
            exact hr _ W q (by omega) hRW (grownBy_refl _ _) rfl
          case inr.inr.inr.inr.inr.inr.inr.inr.inr.inr.inr.inr.inr.inr =>
            obtain ⟨x, hx, ex⟩ : ∃ x : Int, Fits x ∧ s 12 = .int .i64 x := hd 12 (by kernel_rfl)
            gi_wp2
            have hr := hQ.out
            try simp only [ex] at hr
            exact hr _ W q (by omega) hRW (grownBy_refl _ _) ⟨_, hx, rfl⟩
        case fin =>
          rintro s W q hq hRW hgW hall
          have e2 : s 13 = .slice (some ⟨g, 0, none⟩) j c2 := hall 13 (by decide)
          obtain ⟨y, hy, ey⟩ : ∃ x : Int, Fits x ∧ s 14 = .int .i64 x := hall 14 (by decide)
          clear hq
          rw [e2, ey]
          go_wp2
          go_ret2
          have hi7 := (Ints.of_owns hown7).grown hgW hnR
          have hl7 := Lies.of_owns hown7
          rw [hz] at hi7 hl7
          exact ⟨⟨_, zs.set 0 2, _, rfl, hi7, hl7, by simpa using hl13, hy⟩, hRW.1⟩
end Go.Proofs.Ytmnmbelmcdfcjaa
