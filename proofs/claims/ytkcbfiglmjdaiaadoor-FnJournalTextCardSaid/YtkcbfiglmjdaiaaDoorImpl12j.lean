/-
  The program's JournalText at every list of deeds.
-/
import Derived.Test.YtkcbfiglmjdaiaaDoorImpl12t
import Derived.Test.YtkcbfiglmjdaiaaDoorSpecZ
import Derived.Test.YtkcbfiglmjdaiaaDoorBuild12
namespace Go.Proofs.YtkcbfiglmjdaiaaDoor
open Go.RowKit

set_option maxRecDepth 100000 in
set_option maxHeartbeats 2000000 in
theorem implJournal (v : Value) (L : List (Int × Int)) (w : World) (hv : DeedsI w v L) (hf : ∀ a ∈ L, Fits a.1 ∧ Fits a.2) (hn : L.length ≤ 2000000) : Calls Tryd.prog 5 #[v] w fun e w' => e = .returned (.string (str (jtT L))) ∧ Below w.heap.size w w' := by
  obtain ⟨a, c, rfl, hcell⟩ := hv
  obtain ⟨N, hN⟩ : ∃ N, L.length = N := ⟨_, rfl⟩
  rw [hN] at hcell hn ⊢
  have hB0 : Below w.heap.size w (w.alloc (.cells #[.pointer none, .slice none 0 0] 39)) := (Below.refl _ _).alloc (Nat.le_refl _) _
  have hbl0 : BldJ (w.alloc (.cells #[.pointer none, .slice none 0 0] 39)) w.heap.size [] := Lib.IsBuilderF.of (Lib.fresh_isBuilder _ _ w)
  obtain ⟨W0, hW0⟩ : ∃ W0, w.alloc (.cells #[.pointer none, .slice none 0 0] 39) = W0 := ⟨_, rfl⟩
  rw [hW0] at hB0 hbl0
  obtain ⟨J, hJ⟩ : ∃ J, jtT L = J := ⟨_, rfl⟩
  rw [hJ]
  go_enter Tryd.func5, Tryd.ntmps5
  go_wp2
  go_loopw [9] (fun p wr => ∃ k : Nat, k ≤ N ∧ p = .int .i64 k ∧ BldJ wr w.heap.size (jtL (L.take k)) ∧ Hid (∀ x ∈ L.take k, deedT x.1 x.2 ≠ []) ∧ Below w.heap.size w wr) (fun p _ => N - (intOf p).toNat)
  case atStart => exact ⟨0, by omega, rfl, hbl0, hide (by simp), hB0⟩
  case round =>
    clear hB0 hbl0 hW0
    obtain ⟨k, hk, rfl, hbl, hne, hB⟩ := hrel
    by_cases hlt : k < N
    · obtain ⟨g, o, rfl, hg, hc⟩ := hcell (by omega)
      have hki : (k : Int) < (N : Int) := by omega
      obtain ⟨c1, c2⟩ := hc k hlt
      have hx : L.getD k (0, 0) ∈ L := by rw [List.getD, List.getElem?_eq_getElem (by omega)]; exact List.getElem_mem _
      have hfx := hf _ hx
      have htk := hide (take_deed (L := L) (k := k) (by omega))
      obtain ⟨x, hxx⟩ : ∃ x, L.getD k (0, 0) = x := ⟨_, rfl⟩
      rw [hxx] at c1 c2 hfx hx htk
      have d1 := (hB.cell (p := ⟨g, o + k * 2, none⟩) hg).trans c1
      have d2 := (hB.cell (p := ⟨g, o + k * 2 + 1, none⟩) hg).trans c2
      have hT := fun V => implDeedText x.1 x.2 hfx.1 hfx.2 V
      unfold dV at hT
      have hsn := jtL_snoc (L.take k) x
      rw [← htk.out] at hsn
      have hl1 := jtL_len (L.take k)
      rw [List.length_take] at hl1
      have hl2 := deed_len x.1 x.2
      have hE : (str (deedT x.1 x.2)).toList.isEmpty = decide (deedT x.1 x.2 = []) := by
        rw [str_toList]
        cases deedT x.1 x.2 with
        | nil => rfl
        | cons c r => rfl
      have hne' := hne.out
      clear c1 c2 hcell hc hxx hne
      go_wp2_with (go_at_call 13; refine (hT _).mono ?_)
      rintro e w2 ⟨rfl, hB2⟩
      have hal := (Below.refl wr.heap.size wr).alloc (Nat.le_refl _) (.cells #[.int .i64 x.1, .int .i64 x.2] 36)
      have hB2' := hal.trans (hB2.mono hal.size)
      have hbl2 := hbl.below hB2'
      have hBw := hB.trans (hB2'.mono hB.size)
      clear hB2 hal hB2' hbl hT
      by_cases he : deedT x.1 x.2 = []
      · rw [decide_eq_true he] at hE
        have hJ' : J = [] := by
          rw [← hJ]
          unfold jtT
          rw [if_neg (fun h => h x hx he)]
        subst hJ'
        have hz : str [] = ⟨#[]⟩ := str_nil
        generalize str (deedT x.1 x.2) = S at *
        go_wp2
        go_ret
        rw [hz]
        exact ⟨rfl, hBw⟩
      · rw [decide_eq_false he] at hE
        have hW := hbl2.str (deedT x.1 x.2) (by omega) (by omega) hBw.size
        have hfin : Hid (∀ y ∈ L.take (k + 1), deedT y.1 y.2 ≠ []) := hide (by
          rw [htk.out]
          intro y hy
          rcases List.mem_append.1 hy with h | h
          · exact hne' y h
          · simp at h; subst h; exact he)
        obtain ⟨tl, htl⟩ : ∃ tl, (deedT x.1 x.2).length = tl := ⟨_, rfl⟩
        rw [htl] at hW hl2
        have hjl : (jtL (L.take k) ++ deedT x.1 x.2).length ≤ 100000000 := by rw [List.length_append]; omega
        have hsn' : jtL (L.take k) ++ deedT x.1 x.2 ++ [10] = jtL (L.take (k + 1)) := by rw [hsn, List.append_assoc]
        replace hsn' := hide hsn'
        obtain ⟨S, hS⟩ : ∃ S, str (deedT x.1 x.2) = S := ⟨_, rfl⟩
        rw [hS] at hW hE ⊢
        obtain ⟨X, hX⟩ : ∃ X, jtL (L.take k) ++ deedT x.1 x.2 = X := ⟨_, rfl⟩
        rw [hX] at hW hjl hsn'
        clear hX hS hsn hl1 htl hne' hbl2
        go_wp2_with (go_at_call 14; refine hW.mono ?_; clear hW)
        rintro e w3 ⟨rfl, hbl3, hB3⟩
        have hB3' := hBw.trans hB3
        have hW2 := hbl3.byte (c := 10) (by omega) hjl hB3'.size
        rw [hsn'.out] at hW2
        clear hsn' hbl3 hB3 hBw
        go_wp2_with (go_at_call 15; refine hW2.mono ?_; clear hW2)
        rintro e w4 ⟨rfl, hbl4, hB4⟩
        go_wp2
        go_roundw
        case rel => exact ⟨k + 1, by omega, by go_num, hbl4, hfin, hB3'.trans hB4⟩
        case measure => simp [intOf]; omega
    · obtain rfl : k = N := by omega
      have hki : ¬ ((k : Nat) : Int) < (k : Int) := by omega
      have hne' := hne.out
      rw [List.take_of_length_le (by omega)] at hne' hbl
      have hJ' : J = jtL L := by
        rw [← hJ]
        unfold jtT
        rw [if_pos hne']
      have hW := hbl.text hB.size
      rw [← hJ'] at hW
      clear hne hne' hbl hJ'
      go_wp2_with (go_at_call 16; refine hW.mono ?_; clear hW; rintro e w3 ⟨rfl, hB3⟩)
      go_ret
      exact ⟨rfl, hB.trans hB3⟩
end Go.Proofs.YtkcbfiglmjdaiaaDoor
