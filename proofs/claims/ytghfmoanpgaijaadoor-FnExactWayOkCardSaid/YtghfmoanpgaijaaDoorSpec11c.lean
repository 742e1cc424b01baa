/-
  The model's l11Ways and WaysTold: all texts of ways, in order, in a row of one's own.
-/
import Derived.Test.YtghfmoanpgaijaaDoorSpec11
import Derived.Test.YtghfmoanpgaijaaDoorStrKit
namespace Go.Proofs.YtghfmoanpgaijaaDoor
open Go.RowKit

set_option maxRecDepth 100000 in
theorem wl_small : (List.range 8).all (fun d => (List.range (d + 1)).all fun u => decide (1 ≤ (wl u d).length) && decide ((wl u d).length ≤ 1000) && (wl u d).all fun s => s.length == u + d && s.all fun x => decide (x < 256)) = true := by decide +kernel
theorem wl_facts {u d : Nat} (hd : d ≤ 7) (hu : u ≤ d) : 1 ≤ (wl u d).length ∧ (wl u d).length ≤ 1000 ∧ ∀ s ∈ wl u d, s.length = u + d ∧ ∀ x ∈ s, x < 256 := by
  have h1 := List.all_eq_true.1 (List.all_eq_true.1 wl_small d (List.mem_range.2 (by omega))) u (List.mem_range.2 (by omega))
  rw [Bool.and_eq_true, Bool.and_eq_true, decide_eq_true_eq, decide_eq_true_eq] at h1
  refine ⟨h1.1.1, h1.1.2, fun s hs => ?_⟩
  have h2 := List.all_eq_true.1 h1.2 s hs
  rw [Bool.and_eq_true, beq_iff_eq] at h2
  exact ⟨h2.1, fun x hx => by have := List.all_eq_true.1 h2.2 x hx; simpa using this⟩
/-- What has been put into the row so far. -/
def outL (pre L : List (List Nat)) (c k : Nat) : List (List Nat) := pre ++ (L.take k).map (c :: ·)
theorem outL_len (pre L : List (List Nat)) (c k : Nat) (h : k ≤ L.length) : (outL pre L c k).length = pre.length + k := by unfold outL; rw [List.length_append, List.length_map, List.length_take]; omega
theorem outL_next (pre L : List (List Nat)) (c k : Nat) (h : k < L.length) : (outL pre L c k).map txt ++ [.string (str (c :: L.getD k []))] = (outL pre L c (k + 1)).map txt := by
  unfold outL
  rw [List.take_add_one, List.getElem?_eq_getElem h, List.map_append, List.map_append, List.map_append, List.map_append, ← List.append_assoc]
  simp [txt, List.getD, List.getElem?_eq_getElem h]
theorem outL_all (pre L : List (List Nat)) (c : Nat) : outL pre L c L.length = pre ++ L.map (c :: ·) := by unfold outL; rw [List.take_length]
theorem outL_none (pre L : List (List Nat)) (c : Nat) : outL pre L c 0 = pre := by unfold outL; simp
theorem str_up (l : List Nat) : (⟨#[40]⟩ : ByteArray) ++ str l = str (40 :: l) := str_app [40] l
theorem str_down (l : List Nat) : (⟨#[41]⟩ : ByteArray) ++ str l = str (41 :: l) := str_app [41] l
theorem get_mem (L : List (List Nat)) (k : Nat) (h : k < L.length) : L.getD k [] ∈ L := by
  rw [List.getD, List.getElem?_eq_getElem h]; exact List.getElem_mem h
theorem cells_of {w : World} {g : Nat} {L : List (List Nat)} (h : ∀ j u, (L.map txt)[j]? = some u → w.cell? ⟨g, j, none⟩ = some u) : ∀ j, j < L.length → w.cell? ⟨g, j, none⟩ = some (txt (L.getD j [])) := fun j hj => h j _ (by
  rw [List.getElem?_map, List.getElem?_eq_getElem hj, List.getD, List.getElem?_eq_getElem hj]; rfl)

set_option maxHeartbeats 2000000 in
set_option maxRecDepth 100000 in
theorem ends_in : ∀ (n u d : Nat), u ≤ d → d ≤ 7 → u + d = n → ∀ w : World, Calls Tryd.prog 35 #[.int .i64 u, .int .i64 d] w fun e w' =>
    ∃ v, e = .returned v ∧ w'.ownsRow w.heap.size 9 1 v (wl u d).length ((wl u d).map txt) ∧ Below w.heap.size w w' := by
  intro n
  induction n with
  | zero =>
    intro u d hu hd hn w
    obtain rfl : u = 0 := by omega
    obtain rfl : d = 0 := by omega
    go_enter Tryd.func35, Tryd.ntmps35
    go_wp2
    go_ret
    exact ⟨_, rfl, World.ownsRow_lit _ #[.string ⟨#[]⟩] 1 (Nat.le_refl _) (by decide) rfl, (Below.refl _ _).alloc (Nat.le_refl _) _⟩
  | succ n ih =>
    intro u d hu hd hn w
    have hd0 : ((d : Int) == 0) = false := by simp; omega
    have hmade : ∀ w : World, (w.alloc (.cells #[] 9)).ownsRow w.heap.size 9 1 (.slice (some ⟨w.heap.size, 0, none⟩) 0 0) 0 [] := fun w => World.ownsRow_made _ _ _ (Nat.le_refl _) (by decide) rfl
    have hB0 : Below w.heap.size w (w.alloc (.cells #[] 9)) := (Below.refl _ _).alloc (Nat.le_refl _) _
    have hfin := wl_step u d (by omega)
    by_cases hu0 : 0 < u
    · have hui : (0 : Int) < (u : Int) := by omega
      have huz : ((u : Int) == 0) = false := by simp; omega
      rw [if_pos hu0] at hfin
      have ih1 : ∀ w : World, Calls Tryd.prog 35 #[.int .i64 ((u : Int) - 1), .int .i64 d] w fun e w' => ∃ v, e = .returned v ∧ w'.ownsRow w.heap.size 9 1 v (wl (u - 1) d).length ((wl (u - 1) d).map txt) ∧ Below w.heap.size w w' := fun w => by
        have h := ih (u - 1) d (by omega) hd (by omega) w
        rwa [show ((u - 1 : Nat) : Int) = (u : Int) - 1 by omega] at h
      have hf1 := wl_facts (u := u - 1) hd (by omega)
      obtain ⟨L1, hL1⟩ : ∃ L1, wl (u - 1) d = L1 := ⟨_, rfl⟩
      rw [hL1] at ih1 hf1 hfin
      have hlen1 : True := trivial
      by_cases hlt2 : u < d
      · have hui2 : (u : Int) < (d : Int) := by omega
        rw [if_pos hlt2] at hfin
        have ih2 : ∀ w : World, Calls Tryd.prog 35 #[.int .i64 u, .int .i64 ((d : Int) - 1)] w fun e w' => ∃ v, e = .returned v ∧ w'.ownsRow w.heap.size 9 1 v (wl u (d - 1)).length ((wl u (d - 1)).map txt) ∧ Below w.heap.size w w' := fun w => by
          have h := ih u (d - 1) (by omega) (by omega) (by omega) w
          rwa [show ((d - 1 : Nat) : Int) = (d : Int) - 1 by omega] at h
        have hf2 := wl_facts (u := u) (d := d - 1) (by omega) (by omega)
        obtain ⟨L2, hL2⟩ : ∃ L2, wl u (d - 1) = L2 := ⟨_, rfl⟩
        rw [hL2] at ih2 hf2 hfin
        have hlen2 : True := trivial
        have hfin' := hide hfin
        clear hfin hL1 hL2 ih
        go_enter Tryd.func35, Tryd.ntmps35
        go_wp2_with fail
        go_at_call 35
        refine (ih1 _).mono ?_
        rintro e wl1 ⟨u1, rfl, ho1, hBl1⟩
        obtain ⟨g1, cap1, rfl, hgb1, hgl1, hcc1⟩ := texts_open ho1 hf1.1
        have hcl1 := cells_of hcc1
        have hne1 : (Value.slice (some ⟨w.heap.size, 0, none⟩) 0 0).ownBlock ≠ some g1 := fun e => by have := ((hmade w).lt _ e).2; omega
        have hov1 := World.ownsRow.kept (hmade w) (row := none) ⟨hBl1.os, hBl1.tape, hBl1.output, hBl1.size, fun k hk _ => hBl1.block k hk⟩ (by cases (Value.slice (some ⟨w.heap.size, 0, none⟩) 0 0).ownBlock <;> simp)
        have hBa1 := hB0.trans (hBl1.mono hB0.size)
        have hln1 := hide hlen1
        clear ho1 hcc1 hlen1
        go_wp2
        go_loopw [5, 7] (fun t i wr => ∃ k : Nat, k ≤ (L1).length ∧ i = .int .i64 k ∧ wr.ownsRow w.heap.size 9 1 t (([] : List (List Nat)).length + k) ((outL ([] : List (List Nat)) (L1) 40 k).map txt) ∧ t.ownBlock ≠ some g1 ∧ g1 < wr.heap.size ∧ (∀ j, j < (L1).length → wr.cell? ⟨g1, j, none⟩ = some (txt ((L1).getD j []))) ∧ Below w.heap.size w wr) (fun _ i _ => (L1).length - (intOf i).toNat)
        case atStart => exact ⟨0, by omega, rfl, by rw [outL_none]; exact hov1, hne1, hgl1, hcl1, hBa1⟩
        case round =>
          clear hcl1 hov1 hne1 hBa1 hgl1 hBl1
          obtain ⟨k, hk, rfl, hown, hne, hgl, hcl, hB⟩ := hrel
          by_cases hlt : k < (L1).length
          · have hck := hcl k hlt
            have hnx := outL_next ([] : List (List Nat)) (L1) 40 k hlt
            have hsl := (hf1.2.2 _ (get_mem (L1) k hlt)).1
            unfold txt at hck
            have hclh := hide hcl
            obtain ⟨Z, hZ⟩ : ∃ Z, str ((L1).getD k []) = Z := ⟨_, rfl⟩
            have hZs : Z.size ≤ 100 := by rw [← hZ, str_size, hsl]; omega
            obtain ⟨Y, hY⟩ : ∃ Y, str (40 :: (L1).getD k []) = Y := ⟨_, rfl⟩
            have hadd : (⟨#[40]⟩ : ByteArray) ++ Z = Y := by rw [← hZ, ← hY]; exact str_up _
            have hL1 := hf1.2.1
            have hpl0 : (([] : List (List Nat))).length ≤ 1000 := by first | exact hPs | exact Nat.zero_le _
            rw [hZ] at hck
            rw [hY] at hnx
            have hnx' := hide hnx
            have hki : (k : Int) < ((L1).length : Int) := by omega
            clear hZ hY hnx hsl hcl
            go_wp2_with (at_builtin; refine append_text rfl _ _ rfl w.heap.size _ _ _ rfl hown rfl (by omega) hB.size ?_; intro v' w3 hown' hgr hbk)
            rw [hnx'.out] at hown'
            have hcl' : ∀ j, j < (L1).length → w3.cell? ⟨g1, j, none⟩ = some (txt ((L1).getD j [])) := fun j hj => by
              have h1 : (wr.alloc (Obj.cells #[Value.string Y] 9)).cell? ⟨g1, j, none⟩ = some (txt ((L1).getD j [])) := (Below.cell ((Below.refl wr.heap.size wr).alloc (Nat.le_refl _) _) (p := ⟨g1, j, none⟩) hgl).trans (hclh.out j hj)
              exact hgr.cell h1 (fun e => hne e.symm)
            have hgl' : g1 < w3.heap.size := by have := hgr.size; rw [World.size_alloc] at this; omega
            have hne' : v'.ownBlock ≠ some g1 := by
              rcases hbk with h | h
              · rw [h]; exact hne
              · rw [h]; intro e; cases e; omega
            have hB3 : Below w.heap.size w w3 := (hB.alloc hB.size _).grown hgr (by rw [World.size_alloc]; have := hB.size; omega) (fun k hk => (hown.lt k hk).1)
            go_wp2
            go_roundw
            case rel => exact ⟨k + 1, by omega, by go_num, hown', hne', hgl', hcl', hB3⟩
            case measure => simp [intOf]; omega
          · obtain rfl : k = (L1).length := by omega
            rw [outL_all] at hown
            have hki : ¬ (((L1).length : Nat) : Int) < (((L1).length : Nat) : Int) := by omega
            clear hcl hgl hne
            obtain ⟨P, hP⟩ : ∃ P, [] ++ L1.map (40 :: ·) = P := ⟨_, rfl⟩
            have hPl : P.length = ([] : List (List Nat)).length + L1.length := by rw [← hP]; simp
            rw [hP, ← hPl] at hown
            have hPs : P.length ≤ 1000 := by rw [hPl]; have := hf1.2.1; simp; omega
            have hP' := hide hP
            clear hP hPl hki hlt
            go_wp2_with fail
            go_at_call 35
            refine (ih2 _).mono ?_
            rintro e wl2 ⟨u2, rfl, ho2, hBl2⟩
            obtain ⟨g2, cap2, rfl, hgb2, hgl2, hcc2⟩ := texts_open ho2 hf2.1
            have hcl2 := cells_of hcc2
            have hne2 : (u5).ownBlock ≠ some g2 := fun e => by have := (hown.lt _ e).2; omega
            have hov2 := World.ownsRow.kept hown (row := none) ⟨hBl2.os, hBl2.tape, hBl2.output, hBl2.size, fun k hk _ => hBl2.block k hk⟩ (by cases (u5).ownBlock <;> simp)
            have hBa2 := hB.trans (hBl2.mono hB.size)
            have hln2 := hide hlen2
            clear ho2 hcc2 hlen2
            go_wp2
            go_loopw [5, 9] (fun t i wr => ∃ k : Nat, k ≤ (L2).length ∧ i = .int .i64 k ∧ wr.ownsRow w.heap.size 9 1 t (P.length + k) ((outL P (L2) 41 k).map txt) ∧ t.ownBlock ≠ some g2 ∧ g2 < wr.heap.size ∧ (∀ j, j < (L2).length → wr.cell? ⟨g2, j, none⟩ = some (txt ((L2).getD j []))) ∧ Below w.heap.size w wr) (fun _ i _ => (L2).length - (intOf i).toNat)
            case atStart => exact ⟨0, by omega, rfl, by rw [outL_none]; exact hov2, hne2, hgl2, hcl2, hBa2⟩
            case round =>
              clear hcl2 hov2 hne2 hBa2 hgl2 hBl2
              obtain ⟨k, hk, rfl, hown, hne, hgl, hcl, hB⟩ := hrel
              by_cases hlt : k < (L2).length
              · have hck := hcl k hlt
                have hnx := outL_next P (L2) 41 k hlt
                have hsl := (hf2.2.2 _ (get_mem (L2) k hlt)).1
                unfold txt at hck
                have hclh := hide hcl
                obtain ⟨Z, hZ⟩ : ∃ Z, str ((L2).getD k []) = Z := ⟨_, rfl⟩
                have hZs : Z.size ≤ 100 := by rw [← hZ, str_size, hsl]; omega
                obtain ⟨Y, hY⟩ : ∃ Y, str (41 :: (L2).getD k []) = Y := ⟨_, rfl⟩
                have hadd : (⟨#[41]⟩ : ByteArray) ++ Z = Y := by rw [← hZ, ← hY]; exact str_down _
                have hL1 := hf2.2.1
                have hpl0 : (P).length ≤ 1000 := by first | exact hPs | exact Nat.zero_le _
                rw [hZ] at hck
                rw [hY] at hnx
                have hnx' := hide hnx
                have hki : (k : Int) < ((L2).length : Int) := by omega
                clear hZ hY hnx hsl hcl
                go_wp2_with (at_builtin; refine append_text rfl _ _ rfl w.heap.size _ _ _ rfl hown rfl (by omega) hB.size ?_; intro v' w3 hown' hgr hbk)
                rw [hnx'.out] at hown'
                have hcl' : ∀ j, j < (L2).length → w3.cell? ⟨g2, j, none⟩ = some (txt ((L2).getD j [])) := fun j hj => by
                  have h1 : (wr.alloc (Obj.cells #[Value.string Y] 9)).cell? ⟨g2, j, none⟩ = some (txt ((L2).getD j [])) := (Below.cell ((Below.refl wr.heap.size wr).alloc (Nat.le_refl _) _) (p := ⟨g2, j, none⟩) hgl).trans (hclh.out j hj)
                  exact hgr.cell h1 (fun e => hne e.symm)
                have hgl' : g2 < w3.heap.size := by have := hgr.size; rw [World.size_alloc] at this; omega
                have hne' : v'.ownBlock ≠ some g2 := by
                  rcases hbk with h | h
                  · rw [h]; exact hne
                  · rw [h]; intro e; cases e; omega
                have hB3 : Below w.heap.size w w3 := (hB.alloc hB.size _).grown hgr (by rw [World.size_alloc]; have := hB.size; omega) (fun k hk => (hown.lt k hk).1)
                go_wp2
                go_roundw
                case rel => exact ⟨k + 1, by omega, by go_num, hown', hne', hgl', hcl', hB3⟩
                case measure => simp [intOf]; omega
              · obtain rfl : k = (L2).length := by omega
                rw [outL_all] at hown
                have hki : ¬ (((L2).length : Nat) : Int) < (((L2).length : Nat) : Int) := by omega
                clear hcl hgl hne
                go_wp2
                go_ret
                have hfin := hfin'.out
                exact ⟨_, rfl, by rw [hfin]; have hP2 := hP'.out; rw [List.nil_append] at hP2; rw [hP2, List.length_append, List.length_map]; exact hown, hB⟩
      · have hui2 : ¬ (u : Int) < (d : Int) := by omega
        rw [if_neg hlt2] at hfin
        have hfin' := hide hfin
        clear hfin hL1 ih
        go_enter Tryd.func35, Tryd.ntmps35
        go_wp2_with fail
        go_at_call 35
        refine (ih1 _).mono ?_
        rintro e wl1 ⟨u1, rfl, ho1, hBl1⟩
        obtain ⟨g1, cap1, rfl, hgb1, hgl1, hcc1⟩ := texts_open ho1 hf1.1
        have hcl1 := cells_of hcc1
        have hne1 : (Value.slice (some ⟨w.heap.size, 0, none⟩) 0 0).ownBlock ≠ some g1 := fun e => by have := ((hmade w).lt _ e).2; omega
        have hov1 := World.ownsRow.kept (hmade w) (row := none) ⟨hBl1.os, hBl1.tape, hBl1.output, hBl1.size, fun k hk _ => hBl1.block k hk⟩ (by cases (Value.slice (some ⟨w.heap.size, 0, none⟩) 0 0).ownBlock <;> simp)
        have hBa1 := hB0.trans (hBl1.mono hB0.size)
        have hln1 := hide hlen1
        clear ho1 hcc1 hlen1
        go_wp2
        go_loopw [5, 7] (fun t i wr => ∃ k : Nat, k ≤ (L1).length ∧ i = .int .i64 k ∧ wr.ownsRow w.heap.size 9 1 t (([] : List (List Nat)).length + k) ((outL ([] : List (List Nat)) (L1) 40 k).map txt) ∧ t.ownBlock ≠ some g1 ∧ g1 < wr.heap.size ∧ (∀ j, j < (L1).length → wr.cell? ⟨g1, j, none⟩ = some (txt ((L1).getD j []))) ∧ Below w.heap.size w wr) (fun _ i _ => (L1).length - (intOf i).toNat)
        case atStart => exact ⟨0, by omega, rfl, by rw [outL_none]; exact hov1, hne1, hgl1, hcl1, hBa1⟩
        case round =>
          clear hcl1 hov1 hne1 hBa1 hgl1 hBl1
          obtain ⟨k, hk, rfl, hown, hne, hgl, hcl, hB⟩ := hrel
          by_cases hlt : k < (L1).length
          · have hck := hcl k hlt
            have hnx := outL_next ([] : List (List Nat)) (L1) 40 k hlt
            have hsl := (hf1.2.2 _ (get_mem (L1) k hlt)).1
            unfold txt at hck
            have hclh := hide hcl
            obtain ⟨Z, hZ⟩ : ∃ Z, str ((L1).getD k []) = Z := ⟨_, rfl⟩
            have hZs : Z.size ≤ 100 := by rw [← hZ, str_size, hsl]; omega
            obtain ⟨Y, hY⟩ : ∃ Y, str (40 :: (L1).getD k []) = Y := ⟨_, rfl⟩
            have hadd : (⟨#[40]⟩ : ByteArray) ++ Z = Y := by rw [← hZ, ← hY]; exact str_up _
            have hL1 := hf1.2.1
            have hpl0 : (([] : List (List Nat))).length ≤ 1000 := by first | exact hPs | exact Nat.zero_le _
            rw [hZ] at hck
            rw [hY] at hnx
            have hnx' := hide hnx
            have hki : (k : Int) < ((L1).length : Int) := by omega
            clear hZ hY hnx hsl hcl
            go_wp2_with (at_builtin; refine append_text rfl _ _ rfl w.heap.size _ _ _ rfl hown rfl (by omega) hB.size ?_; intro v' w3 hown' hgr hbk)
            rw [hnx'.out] at hown'
            have hcl' : ∀ j, j < (L1).length → w3.cell? ⟨g1, j, none⟩ = some (txt ((L1).getD j [])) := fun j hj => by
              have h1 : (wr.alloc (Obj.cells #[Value.string Y] 9)).cell? ⟨g1, j, none⟩ = some (txt ((L1).getD j [])) := (Below.cell ((Below.refl wr.heap.size wr).alloc (Nat.le_refl _) _) (p := ⟨g1, j, none⟩) hgl).trans (hclh.out j hj)
              exact hgr.cell h1 (fun e => hne e.symm)
            have hgl' : g1 < w3.heap.size := by have := hgr.size; rw [World.size_alloc] at this; omega
            have hne' : v'.ownBlock ≠ some g1 := by
              rcases hbk with h | h
              · rw [h]; exact hne
              · rw [h]; intro e; cases e; omega
            have hB3 : Below w.heap.size w w3 := (hB.alloc hB.size _).grown hgr (by rw [World.size_alloc]; have := hB.size; omega) (fun k hk => (hown.lt k hk).1)
            go_wp2
            go_roundw
            case rel => exact ⟨k + 1, by omega, by go_num, hown', hne', hgl', hcl', hB3⟩
            case measure => simp [intOf]; omega
          · obtain rfl : k = (L1).length := by omega
            rw [outL_all] at hown
            have hki : ¬ (((L1).length : Nat) : Int) < (((L1).length : Nat) : Int) := by omega
            clear hcl hgl hne
            go_wp2
            go_ret
            have hfin := hfin'.out
            exact ⟨_, rfl, by rw [hfin]; rw [List.append_nil, List.length_map]; rw [List.nil_append, List.length_nil, Nat.zero_add] at hown; exact hown, hB⟩
    · obtain rfl : u = 0 := by omega
      have hui2 : (0 : Int) < (d : Int) := by omega
      rw [if_neg hu0, if_pos (by omega)] at hfin
      have ih2 : ∀ w : World, Calls Tryd.prog 35 #[.int .i64 0, .int .i64 ((d : Int) - 1)] w fun e w' => ∃ v, e = .returned v ∧ w'.ownsRow w.heap.size 9 1 v (wl 0 (d - 1)).length ((wl 0 (d - 1)).map txt) ∧ Below w.heap.size w w' := fun w => by
        have h := ih 0 (d - 1) (by omega) (by omega) (by omega) w
        rwa [show ((d - 1 : Nat) : Int) = (d : Int) - 1 by omega] at h
      have hf2 := wl_facts (u := 0) (d := d - 1) (by omega) (by omega)
      obtain ⟨L2, hL2⟩ : ∃ L2, wl 0 (d - 1) = L2 := ⟨_, rfl⟩
      rw [hL2] at ih2 hf2 hfin
      have hlen2 : True := trivial
      have hfin' := hide hfin
      clear hfin hL2 ih
      go_enter Tryd.func35, Tryd.ntmps35
      go_wp2_with fail
      go_at_call 35
      refine (ih2 _).mono ?_
      rintro e wl2 ⟨u2, rfl, ho2, hBl2⟩
      obtain ⟨g2, cap2, rfl, hgb2, hgl2, hcc2⟩ := texts_open ho2 hf2.1
      have hcl2 := cells_of hcc2
      have hne2 : (Value.slice (some ⟨w.heap.size, 0, none⟩) 0 0).ownBlock ≠ some g2 := fun e => by have := ((hmade w).lt _ e).2; omega
      have hov2 := World.ownsRow.kept (hmade w) (row := none) ⟨hBl2.os, hBl2.tape, hBl2.output, hBl2.size, fun k hk _ => hBl2.block k hk⟩ (by cases (Value.slice (some ⟨w.heap.size, 0, none⟩) 0 0).ownBlock <;> simp)
      have hBa2 := hB0.trans (hBl2.mono hB0.size)
      have hln2 := hide hlen2
      clear ho2 hcc2 hlen2
      go_wp2
      go_loopw [5, 9] (fun t i wr => ∃ k : Nat, k ≤ (L2).length ∧ i = .int .i64 k ∧ wr.ownsRow w.heap.size 9 1 t (([] : List (List Nat)).length + k) ((outL ([] : List (List Nat)) (L2) 41 k).map txt) ∧ t.ownBlock ≠ some g2 ∧ g2 < wr.heap.size ∧ (∀ j, j < (L2).length → wr.cell? ⟨g2, j, none⟩ = some (txt ((L2).getD j []))) ∧ Below w.heap.size w wr) (fun _ i _ => (L2).length - (intOf i).toNat)
      case atStart => exact ⟨0, by omega, rfl, by rw [outL_none]; exact hov2, hne2, hgl2, hcl2, hBa2⟩
      case round =>
        clear hcl2 hov2 hne2 hBa2 hgl2 hBl2
        obtain ⟨k, hk, rfl, hown, hne, hgl, hcl, hB⟩ := hrel
        by_cases hlt : k < (L2).length
        · have hck := hcl k hlt
          have hnx := outL_next ([] : List (List Nat)) (L2) 41 k hlt
          have hsl := (hf2.2.2 _ (get_mem (L2) k hlt)).1
          unfold txt at hck
          have hclh := hide hcl
          obtain ⟨Z, hZ⟩ : ∃ Z, str ((L2).getD k []) = Z := ⟨_, rfl⟩
          have hZs : Z.size ≤ 100 := by rw [← hZ, str_size, hsl]; omega
          obtain ⟨Y, hY⟩ : ∃ Y, str (41 :: (L2).getD k []) = Y := ⟨_, rfl⟩
          have hadd : (⟨#[41]⟩ : ByteArray) ++ Z = Y := by rw [← hZ, ← hY]; exact str_down _
          have hL1 := hf2.2.1
          have hpl0 : (([] : List (List Nat))).length ≤ 1000 := by first | exact hPs | exact Nat.zero_le _
          rw [hZ] at hck
          rw [hY] at hnx
          have hnx' := hide hnx
          have hki : (k : Int) < ((L2).length : Int) := by omega
          clear hZ hY hnx hsl hcl
          go_wp2_with (at_builtin; refine append_text rfl _ _ rfl w.heap.size _ _ _ rfl hown rfl (by omega) hB.size ?_; intro v' w3 hown' hgr hbk)
          rw [hnx'.out] at hown'
          have hcl' : ∀ j, j < (L2).length → w3.cell? ⟨g2, j, none⟩ = some (txt ((L2).getD j [])) := fun j hj => by
            have h1 : (wr.alloc (Obj.cells #[Value.string Y] 9)).cell? ⟨g2, j, none⟩ = some (txt ((L2).getD j [])) := (Below.cell ((Below.refl wr.heap.size wr).alloc (Nat.le_refl _) _) (p := ⟨g2, j, none⟩) hgl).trans (hclh.out j hj)
            exact hgr.cell h1 (fun e => hne e.symm)
          have hgl' : g2 < w3.heap.size := by have := hgr.size; rw [World.size_alloc] at this; omega
          have hne' : v'.ownBlock ≠ some g2 := by
            rcases hbk with h | h
            · rw [h]; exact hne
            · rw [h]; intro e; cases e; omega
          have hB3 : Below w.heap.size w w3 := (hB.alloc hB.size _).grown hgr (by rw [World.size_alloc]; have := hB.size; omega) (fun k hk => (hown.lt k hk).1)
          go_wp2
          go_roundw
          case rel => exact ⟨k + 1, by omega, by go_num, hown', hne', hgl', hcl', hB3⟩
          case measure => simp [intOf]; omega
        · obtain rfl : k = (L2).length := by omega
          rw [outL_all] at hown
          have hki : ¬ (((L2).length : Nat) : Int) < (((L2).length : Nat) : Int) := by omega
          clear hcl hgl hne
          go_wp2
          go_ret
          have hfin := hfin'.out
          exact ⟨_, rfl, by rw [hfin]; rw [List.nil_append, List.length_map]; rw [List.nil_append, List.length_nil, Nat.zero_add] at hown; exact hown, hB⟩

theorem specTold (up : Int) (w : World) : Calls Tryd.prog 17 #[.int .i64 up] w fun e w' =>
    ∃ v, e = .returned v ∧ w'.ownsRow w.heap.size 9 1 v (toldV up).length ((toldV up).map txt) ∧ Below w.heap.size w w' := by
  by_cases hbad : up < 0 ∨ 7 < up
  · rw [toldV_bad hbad]
    go_enter Tryd.func17, Tryd.ntmps17
    go_wp2_with (go_at_call 34; refine (l1In_f _ _ _ _ (by omega)).mono ?_; rintro e w' ⟨rfl, rfl⟩)
    go_ret
    exact ⟨_, rfl, World.ownsRow_made _ _ _ (Nat.le_refl _) (by decide) rfl, (Below.refl _ _).alloc (Nat.le_refl _) _⟩
  · obtain ⟨u, rfl⟩ : ∃ u : Nat, up = u := ⟨up.toNat, by omega⟩
    rw [toldV_nat (by omega)]
    have hE := fun w => ends_in (u + u) u u (Nat.le_refl _) (by omega) rfl w
    go_enter Tryd.func17, Tryd.ntmps17
    go_wp2_with (first | (go_at_call 34; refine (l1In_t _ _ _ _ (by omega) (by omega)).mono ?_; rintro e w' ⟨rfl, rfl⟩) | (go_at_call 35; refine (hE _).mono ?_; rintro e w1 ⟨v, rfl, hown, hB⟩))
    go_ret
    exact ⟨_, rfl, hown, hB⟩
end Go.Proofs.YtghfmoanpgaijaaDoor
