/-
  Parts of the proofs, laid together: Answer12, Ask12, Draw12b, LineI12, LineS12, LineT12, Read12b, Read12c, Reader2, Said12, Shaped12.
-/
import Derived.WalkKit
import Derived.Laws.Concat
import Derived.Laws.Strings2
import Derived.OrdersIn
import Derived.TacticsIn
import Derived.Test.YtiaaefapbcjgmaaGreatDoorProg
import Derived.OwnWalkIn
import Derived.Deep.RegionLaw
import Derived.RangeFuncBox
import Derived.Laws.DeepStrings4
import Derived.Laws.Cover1
import Derived.Maps.AppendAt
import Derived.WalkSpells
import Derived.RangeFuncNested
import Derived.RangeFuncBound
import Derived.RangeFuncCalls
import Derived.RangeFuncLeaves
import Derived.BigRegion
import Derived.Shelf.Abstract
import Derived.Shelf.RegionOpen
import Derived.TacticsInMore
import Derived.LoopNIn
import Derived.LoopIn
import Derived.Deep.QuietTactic
import Derived.BigQuiet
import Derived.Below
import Derived.Laws.BytesString
import Derived.Deep.RegionWith
import Derived.DeepKeys5
import Derived.Maps.Keyed
import Derived.Deep.DeepCutAuto
import Derived.Laws.AppendOwnNone
import Derived.Laws.CopyOwn
import Derived.StillTailTactics
import Derived.Maps.OwnSet
import Derived.Laws.Bits64
import Derived.Laws.Bits64b
import Derived.Lib.AppendZeros
import Derived.Lib.AppendZerosOnto
import Derived.ControlIn
import Derived.Lib.AtoiAll
import Derived.Lib.AtoiAllCases
import Derived.Lib.ItoaNum
import Derived.Lib.ItoaMem
import Derived.Lib.SplitLaws
import Derived.Lib.AppendIntMem
import Derived.WideLaws
import Derived.Lib.SlicesS
import Derived.BigCall
import Derived.Maps.Own
import Derived.Maps.OwnOps
import Derived.StringKeys
import Derived.Shelf.Strings.BuilderK
import Derived.Lib.FrozenHead
import Derived.Tactics
import Derived.Tactics2
import Derived.Defers
import Derived.Laws.Pointers
import Derived.Laws.LoneSync
import Derived.RegionTactic
import Derived.RegionCalls
import Derived.ChangeAlike
import Derived.Laws.EntriesVeiled
import Derived.Test.YtiaaefapbcjgmaaGreatDoorRows
import Derived.HandedShaped
import Derived.Stop.LaidErr
import Derived.Lib.LaidTab
import Derived.LaidLaws
import Derived.Test.YtiaaefapbcjgmaaGreatDoorLay12
import Derived.Test.YtiaaefapbcjgmaaGreatDoorLay6
import Derived.Test.YtiaaefapbcjgmaaGreatDoorPa0
import Derived.Test.YtiaaefapbcjgmaaGreatDoorPa1
import Derived.Test.YtiaaefapbcjgmaaGreatDoorPa2
import Derived.Test.YtiaaefapbcjgmaaGreatDoorPa3
namespace Go.Proofs.YtiaaefapbcjgmaaGreatDoor
open Go.RowKit Go.BigFrame

theorem said_balanced : SaidBy 129 0 (fun row ns => qA row ns 4) := by
  intro x p v row ns w hx hs hv hn hns hE
  have hl := sideB_len hs
  have hB0 := (Below.refl _ w).alloc (Nat.le_refl _) (.cells #[x, p] 31)
  obtain ⟨c0, c1⟩ := desk_box (w := w) (x := x) (p := p) (t := 31)
  have hO := fun V (hV : Below w.heap.size w V) => implOnes x row V (hx.below hV) (lies_intsQ hx hl.1) (by omega)
  have hU := fun V => upSum_in row.length hl.2 V
  have h0 := ones_nn hs
  have h1 := onesV_big hs
  have hx2 := half_two row.length
  show Calls Tryz.prog _ _ w fun e w' => e = .returned (.string (str (if 4 * onesV row = (row.length : Int) * ((row.length : Int) + 1) then [121, 101, 115] else [110, 111]))) ∧ Below w.heap.size w w'
  obtain ⟨xa, xc, rfl⟩ := hx.shape
  obtain ⟨N, hN⟩ : ∃ N, onesV row = N := ⟨_, rfl⟩
  obtain ⟨M, hM⟩ : ∃ M, row.length * (row.length + 1) / 2 = M := ⟨_, rfl⟩
  have hMl : M ≤ 78 := by
    have : row.length * (row.length + 1) ≤ 12 * 13 := Nat.mul_le_mul hl.2 (by omega)
    omega
  have hiff : (4 * N = (row.length : Int) * ((row.length : Int) + 1)) ↔ 2 * N = (M : Int) := by
    have : ((row.length * (row.length + 1) : Nat) : Int) = (row.length : Int) * ((row.length : Int) + 1) := by simp
    rw [← this, ← hx2, hM]
    omega
  rw [hN] at hO h0 h1 ⊢
  rw [hM] at hU
  obtain ⟨L, hL⟩ : ∃ L, row.length = L := ⟨_, rfl⟩
  rw [hL] at hO hU hiff ⊢
  obtain ⟨W1, hW1⟩ : ∃ W1, w.alloc (.cells #[.slice xa L xc, p] 31) = W1 := ⟨_, rfl⟩
  rw [hL, hW1] at hB0 c0 c1
  have d0 : ∀ m : After W1, m.now.cell? ⟨w.heap.size, 0, none⟩ = some (.slice xa L xc) := fun m => (m.ok.cell (p := ⟨w.heap.size, 0, none⟩) (World.block_lt_of_cell? _ _ c0)).trans c0
  have hOq := fun m : After W1 => hO m.now (hB0.trans (m.ok.mono hB0.size))
  have hUq := fun m : After W1 => hU m.now
  have hw : IntKind.i64.wrap (2 * N) = 2 * N := IntWalk.i64_in _ (by omega)
  have hhy := hide hiff
  have hB0h := hB0
  clear hx hv hE hN hO hU hM hL hs hl hx2 hiff hns hMl c0 c1
  by_cases he : 2 * N = (M : Int)
  · have hif : (if 4 * N = (L : Int) * ((L : Int) + 1) then ([121, 101, 115] : List Nat) else [110, 111]) = [121, 101, 115] := if_pos (hhy.out.2 he)
    rw [hif]
    clear hhy hif
    go_enter Tryz.func129, Tryz.ntmps129
    go_wp2
    refine wp_region_below W1 (by kernel_rfl) (by kernel_rfl) (Below.refl _ _) ?_
    repeat (go_big_quiet_step (first | (go_at_call 159; exact after_of (hOq _)) | (go_at_call 162; exact after_of_same (hUq _))))
    refine wpQuiet_nil ?_
    rintro _ ⟨nq, rfl⟩
    go_wp2
    go_ret
    exact ⟨rfl, hB0h.trans (nq.ok.mono hB0h.size)⟩
  · have hif : (if 4 * N = (L : Int) * ((L : Int) + 1) then ([121, 101, 115] : List Nat) else [110, 111]) = [110, 111] := if_neg (fun h => he (hhy.out.1 h))
    rw [hif]
    clear hhy hif
    go_enter Tryz.func129, Tryz.ntmps129
    go_wp2
    refine wp_region_below W1 (by kernel_rfl) (by kernel_rfl) (Below.refl _ _) ?_
    repeat (go_big_quiet_step (first | (go_at_call 159; exact after_of (hOq _)) | (go_at_call 162; exact after_of_same (hUq _))))
    refine wpQuiet_nil ?_
    rintro _ ⟨nq, rfl⟩
    go_wp2
    go_ret
    exact ⟨rfl, hB0h.trans (nq.ok.mono hB0h.size)⟩

theorem said_shared : SaidBy 130 1 (fun row ns => qA row ns 5) := by
  intro x p v row ns w hx hs hv hn hns hE
  obtain ⟨a, rfl⟩ : ∃ a, ns = [a] := by
    match ns, hn with
    | [a], _ => exact ⟨a, rfl⟩
  have ha := hns a (by simp)
  have hB0 := (Below.refl _ w).alloc (Nat.le_refl _) (.cells #[x, p] 31)
  obtain ⟨W1, hW1⟩ : ∃ W1, w.alloc (.cells #[x, p] 31) = W1 := ⟨_, rfl⟩
  rw [hW1] at hB0
  have hE1 := hE.below hB0
  obtain ⟨g, cap, rfl, hg, hc⟩ : ∃ g cap, v = .slice (some ⟨g, 0, none⟩) 1 cap ∧ g < w.heap.size ∧ ∀ i, i < 1 → w.cell? ⟨g, i, none⟩ = some (.int .i64 ([a].getD i 0)) := by
    rcases hv with ⟨_, _, _, h⟩ | ⟨g, cap, rfl, h1, h2⟩
    · cases h
    · exact ⟨g, cap, rfl, h1, h2⟩
  have q0 : ∀ m : After W1, m.now.cell? ⟨g, 0, none⟩ = some (.int .i64 a) := fun m => ((hB0.trans (m.ok.mono hB0.size)).cell (p := ⟨g, 0, none⟩) hg).trans (hc 0 (by omega))
  have hO := fun m : After W1 => implSharedS a m.now
  have hT := fun m : After W1 => implTold (sharedV a) (sharedV_big a) m.now (hE1.below m.ok)
  show Calls Tryz.prog _ _ w fun e w' => e = .returned (.string (str (toldI (sharedV a)))) ∧ Below w.heap.size w w'
  obtain ⟨N, hN⟩ : ∃ N, sharedV a = N := ⟨_, rfl⟩
  rw [hN] at hT ⊢
  simp only [hN] at hO
  obtain ⟨S, hS⟩ : ∃ S, str (toldI N) = S := ⟨_, rfl⟩
  rw [hS] at hT ⊢
  clear hx hv hE hN hS hc hg hns hs hE1
  have r0 := q0 ⟨W1, Below.refl _ _⟩
  have hO1 := hO ⟨W1, Below.refl _ _⟩
  simp only at r0 hO1
  go_enter Tryz.func130, Tryz.ntmps130
  go_wp2_with fail
  go_at_call 163
  refine hO1.mono ?_
  rintro e W2 ⟨rfl, hB2⟩
  have hT2 := hT ⟨W2, hB2⟩
  simp only at hT2
  go_wp2_with fail
  go_at_call 158
  refine hT2.mono ?_
  rintro e W3 ⟨rfl, hB3⟩
  go_wp2
  go_ret
  exact ⟨rfl, (hB0.trans (hB2.mono hB0.size)).trans (hB3.mono (Nat.le_trans hB0.size hB2.size))⟩

theorem said_ways : SaidBy 131 1 (fun row ns => qA row ns 6) := by
  intro x p v row ns w hx hs hv hn hns hE
  obtain ⟨a, rfl⟩ : ∃ a, ns = [a] := by
    match ns, hn with
    | [a], _ => exact ⟨a, rfl⟩
  have ha := hns a (by simp)
  have hB0 := (Below.refl _ w).alloc (Nat.le_refl _) (.cells #[x, p] 31)
  obtain ⟨W1, hW1⟩ : ∃ W1, w.alloc (.cells #[x, p] 31) = W1 := ⟨_, rfl⟩
  rw [hW1] at hB0
  have hE1 := hE.below hB0
  obtain ⟨g, cap, rfl, hg, hc⟩ : ∃ g cap, v = .slice (some ⟨g, 0, none⟩) 1 cap ∧ g < w.heap.size ∧ ∀ i, i < 1 → w.cell? ⟨g, i, none⟩ = some (.int .i64 ([a].getD i 0)) := by
    rcases hv with ⟨_, _, _, h⟩ | ⟨g, cap, rfl, h1, h2⟩
    · cases h
    · exact ⟨g, cap, rfl, h1, h2⟩
  have q0 : ∀ m : After W1, m.now.cell? ⟨g, 0, none⟩ = some (.int .i64 a) := fun m => ((hB0.trans (m.ok.mono hB0.size)).cell (p := ⟨g, 0, none⟩) hg).trans (hc 0 (by omega))
  have hO := fun m : After W1 => implWaysOf a m.now
  have hT := fun m : After W1 => implTold (waysV a) (waysV_big a) m.now (hE1.below m.ok)
  show Calls Tryz.prog _ _ w fun e w' => e = .returned (.string (str (toldI (waysV a)))) ∧ Below w.heap.size w w'
  obtain ⟨N, hN⟩ : ∃ N, waysV a = N := ⟨_, rfl⟩
  rw [hN] at hT ⊢
  simp only [hN] at hO
  obtain ⟨S, hS⟩ : ∃ S, str (toldI N) = S := ⟨_, rfl⟩
  rw [hS] at hT ⊢
  clear hx hv hE hN hS hc hg hns hs hE1
  have r0 := q0 ⟨W1, Below.refl _ _⟩
  have hO1 := hO ⟨W1, Below.refl _ _⟩
  simp only at r0 hO1
  go_enter Tryz.func131, Tryz.ntmps131
  go_wp2_with fail
  go_at_call 164
  refine hO1.mono ?_
  rintro e W2 ⟨rfl, hB2⟩
  have hT2 := hT ⟨W2, hB2⟩
  simp only at hT2
  go_wp2_with fail
  go_at_call 158
  refine hT2.mono ?_
  rintro e W3 ⟨rfl, hB3⟩
  go_wp2
  go_ret
  exact ⟨rfl, (hB0.trans (hB2.mono hB0.size)).trans (hB3.mono (Nat.le_trans hB0.size hB2.size))⟩

theorem said_cell : SaidBy 132 2 (fun row ns => qA row ns 7) := by
  intro x p v row ns w hx hs hv hn hns hE
  obtain ⟨a, b, rfl⟩ : ∃ a b, ns = [a, b] := by
    match ns, hn with
    | [a, b], _ => exact ⟨a, b, rfl⟩
  have ha := hns a (by simp)
  have hb := hns b (by simp)
  have hB0 := (Below.refl _ w).alloc (Nat.le_refl _) (.cells #[x, p] 31)
  obtain ⟨W1, hW1⟩ : ∃ W1, w.alloc (.cells #[x, p] 31) = W1 := ⟨_, rfl⟩
  rw [hW1] at hB0
  have hE1 := hE.below hB0
  obtain ⟨g, cap, rfl, hg, hc⟩ : ∃ g cap, v = .slice (some ⟨g, 0, none⟩) 2 cap ∧ g < w.heap.size ∧ ∀ i, i < 2 → w.cell? ⟨g, i, none⟩ = some (.int .i64 ([a, b].getD i 0)) := by
    rcases hv with ⟨_, _, _, h⟩ | ⟨g, cap, rfl, h1, h2⟩
    · cases h
    · exact ⟨g, cap, rfl, h1, h2⟩
  have q0 : ∀ m : After W1, m.now.cell? ⟨g, 0, none⟩ = some (.int .i64 a) := fun m => ((hB0.trans (m.ok.mono hB0.size)).cell (p := ⟨g, 0, none⟩) hg).trans (hc 0 (by omega))
  have q1 : ∀ m : After W1, m.now.cell? ⟨g, 1, none⟩ = some (.int .i64 b) := fun m => ((hB0.trans (m.ok.mono hB0.size)).cell (p := ⟨g, 1, none⟩) hg).trans (hc 1 (by omega))
  have hO := fun m : After W1 => implCell a b m.now
  have hT := fun m : After W1 => implTold (cellV a b) (cellV_big a b) m.now (hE1.below m.ok)
  show Calls Tryz.prog _ _ w fun e w' => e = .returned (.string (str (toldI (cellV a b)))) ∧ Below w.heap.size w w'
  obtain ⟨N, hN⟩ : ∃ N, cellV a b = N := ⟨_, rfl⟩
  rw [hN] at hT ⊢
  simp only [hN] at hO
  obtain ⟨S, hS⟩ : ∃ S, str (toldI N) = S := ⟨_, rfl⟩
  rw [hS] at hT ⊢
  clear hx hv hE hN hS hc hg hns hs hE1
  go_enter Tryz.func132, Tryz.ntmps132
  go_wp2
  refine wp_region_below W1 (by kernel_rfl) (by kernel_rfl) (Below.refl _ _) ?_
  repeat (go_big_quiet_step (first | (go_at_call 63; exact after_of (hO _)) | (go_at_call 158; exact after_of (hT _))))
  refine wpQuiet_nil ?_
  rintro _ ⟨nq, rfl⟩
  go_wp2
  go_ret
  exact ⟨rfl, hB0.trans (nq.ok.mono hB0.size)⟩

theorem said_kept : SaidBy 133 2 (fun row ns => qA row ns 8) := by
  intro x p v row ns w hx hs hv hn hns hE
  obtain ⟨a, b, rfl⟩ : ∃ a b, ns = [a, b] := by
    match ns, hn with
    | [a, b], _ => exact ⟨a, b, rfl⟩
  have ha := hns a (by simp)
  have hb := hns b (by simp)
  have hB0 := (Below.refl _ w).alloc (Nat.le_refl _) (.cells #[x, p] 31)
  obtain ⟨W1, hW1⟩ : ∃ W1, w.alloc (.cells #[x, p] 31) = W1 := ⟨_, rfl⟩
  rw [hW1] at hB0
  have hE1 := hE.below hB0
  obtain ⟨g, cap, rfl, hg, hc⟩ : ∃ g cap, v = .slice (some ⟨g, 0, none⟩) 2 cap ∧ g < w.heap.size ∧ ∀ i, i < 2 → w.cell? ⟨g, i, none⟩ = some (.int .i64 ([a, b].getD i 0)) := by
    rcases hv with ⟨_, _, _, h⟩ | ⟨g, cap, rfl, h1, h2⟩
    · cases h
    · exact ⟨g, cap, rfl, h1, h2⟩
  have q0 : ∀ m : After W1, m.now.cell? ⟨g, 0, none⟩ = some (.int .i64 a) := fun m => ((hB0.trans (m.ok.mono hB0.size)).cell (p := ⟨g, 0, none⟩) hg).trans (hc 0 (by omega))
  have q1 : ∀ m : After W1, m.now.cell? ⟨g, 1, none⟩ = some (.int .i64 b) := fun m => ((hB0.trans (m.ok.mono hB0.size)).cell (p := ⟨g, 1, none⟩) hg).trans (hc 1 (by omega))
  have hO := fun m : After W1 => implLeftIn a b (by unfold Fits; omega) m.now
  have hT := fun m : After W1 => implTold (keepV a b) (keepV_big a b) m.now (hE1.below m.ok)
  show Calls Tryz.prog _ _ w fun e w' => e = .returned (.string (str (toldI (keepV a b)))) ∧ Below w.heap.size w w'
  obtain ⟨N, hN⟩ : ∃ N, keepV a b = N := ⟨_, rfl⟩
  rw [hN] at hT ⊢
  simp only [hN] at hO
  obtain ⟨S, hS⟩ : ∃ S, str (toldI N) = S := ⟨_, rfl⟩
  rw [hS] at hT ⊢
  clear hx hv hE hN hS hc hg hns hs hE1
  go_enter Tryz.func133, Tryz.ntmps133
  go_wp2
  refine wp_region_below W1 (by kernel_rfl) (by kernel_rfl) (Below.refl _ _) ?_
  repeat (go_big_quiet_step (first | (go_at_call 165; exact after_of (hO _)) | (go_at_call 158; exact after_of (hT _))))
  refine wpQuiet_nil ?_
  rintro _ ⟨nq, rfl⟩
  go_wp2
  go_ret
  exact ⟨rfl, hB0.trans (nq.ok.mono hB0.size)⟩

theorem said_left : SaidBy 134 3 (fun row ns => qA row ns 9) := by
  intro x p v row ns w hx hs hv hn hns hE
  obtain ⟨a, b, c, rfl⟩ : ∃ a b c, ns = [a, b, c] := by
    match ns, hn with
    | [a, b, c], _ => exact ⟨a, b, c, rfl⟩
  have ha := hns a (by simp)
  have hb := hns b (by simp)
  have hc := hns c (by simp)
  have hB0 := (Below.refl _ w).alloc (Nat.le_refl _) (.cells #[x, p] 31)
  obtain ⟨W1, hW1⟩ : ∃ W1, w.alloc (.cells #[x, p] 31) = W1 := ⟨_, rfl⟩
  rw [hW1] at hB0
  have hE1 := hE.below hB0
  obtain ⟨g, cap, rfl, hg, hc⟩ : ∃ g cap, v = .slice (some ⟨g, 0, none⟩) 3 cap ∧ g < w.heap.size ∧ ∀ i, i < 3 → w.cell? ⟨g, i, none⟩ = some (.int .i64 ([a, b, c].getD i 0)) := by
    rcases hv with ⟨_, _, _, h⟩ | ⟨g, cap, rfl, h1, h2⟩
    · cases h
    · exact ⟨g, cap, rfl, h1, h2⟩
  have q0 : ∀ m : After W1, m.now.cell? ⟨g, 0, none⟩ = some (.int .i64 a) := fun m => ((hB0.trans (m.ok.mono hB0.size)).cell (p := ⟨g, 0, none⟩) hg).trans (hc 0 (by omega))
  have q1 : ∀ m : After W1, m.now.cell? ⟨g, 1, none⟩ = some (.int .i64 b) := fun m => ((hB0.trans (m.ok.mono hB0.size)).cell (p := ⟨g, 1, none⟩) hg).trans (hc 1 (by omega))
  have q2 : ∀ m : After W1, m.now.cell? ⟨g, 2, none⟩ = some (.int .i64 c) := fun m => ((hB0.trans (m.ok.mono hB0.size)).cell (p := ⟨g, 2, none⟩) hg).trans (hc 2 (by omega))
  have hO := fun m : After W1 => implLeft a b c (by unfold Fits; omega) m.now
  have hT := fun m : After W1 => implTold (leftV a b c) (leftV_big a b c) m.now (hE1.below m.ok)
  show Calls Tryz.prog _ _ w fun e w' => e = .returned (.string (str (toldI (leftV a b c)))) ∧ Below w.heap.size w w'
  obtain ⟨N, hN⟩ : ∃ N, leftV a b c = N := ⟨_, rfl⟩
  rw [hN] at hT ⊢
  simp only [hN] at hO
  obtain ⟨S, hS⟩ : ∃ S, str (toldI N) = S := ⟨_, rfl⟩
  rw [hS] at hT ⊢
  clear hx hv hE hN hS hc hg hns hs hE1
  go_enter Tryz.func134, Tryz.ntmps134
  go_wp2
  refine wp_region_below W1 (by kernel_rfl) (by kernel_rfl) (Below.refl _ _) ?_
  repeat (go_big_quiet_step (first | (go_at_call 166; exact after_of (hO _)) | (go_at_call 158; exact after_of (hT _))))
  refine wpQuiet_nil ?_
  rintro _ ⟨nq, rfl⟩
  go_wp2
  go_ret
  exact ⟨rfl, hB0.trans (nq.ok.mono hB0.size)⟩

theorem said_often : SaidBy 135 3 (fun row ns => qA row ns 10) := by
  intro x p v row ns w hx hs hv hn hns hE
  obtain ⟨a, b, c, rfl⟩ : ∃ a b c, ns = [a, b, c] := by
    match ns, hn with
    | [a, b, c], _ => exact ⟨a, b, c, rfl⟩
  have ha := hns a (by simp)
  have hb := hns b (by simp)
  have hc := hns c (by simp)
  have hB0 := (Below.refl _ w).alloc (Nat.le_refl _) (.cells #[x, p] 31)
  obtain ⟨W1, hW1⟩ : ∃ W1, w.alloc (.cells #[x, p] 31) = W1 := ⟨_, rfl⟩
  rw [hW1] at hB0
  have hE1 := hE.below hB0
  obtain ⟨g, cap, rfl, hg, hc⟩ : ∃ g cap, v = .slice (some ⟨g, 0, none⟩) 3 cap ∧ g < w.heap.size ∧ ∀ i, i < 3 → w.cell? ⟨g, i, none⟩ = some (.int .i64 ([a, b, c].getD i 0)) := by
    rcases hv with ⟨_, _, _, h⟩ | ⟨g, cap, rfl, h1, h2⟩
    · cases h
    · exact ⟨g, cap, rfl, h1, h2⟩
  have q0 : ∀ m : After W1, m.now.cell? ⟨g, 0, none⟩ = some (.int .i64 a) := fun m => ((hB0.trans (m.ok.mono hB0.size)).cell (p := ⟨g, 0, none⟩) hg).trans (hc 0 (by omega))
  have q1 : ∀ m : After W1, m.now.cell? ⟨g, 1, none⟩ = some (.int .i64 b) := fun m => ((hB0.trans (m.ok.mono hB0.size)).cell (p := ⟨g, 1, none⟩) hg).trans (hc 1 (by omega))
  have q2 : ∀ m : After W1, m.now.cell? ⟨g, 2, none⟩ = some (.int .i64 c) := fun m => ((hB0.trans (m.ok.mono hB0.size)).cell (p := ⟨g, 2, none⟩) hg).trans (hc 2 (by omega))
  have hO := fun m : After W1 => implCellT a b c (by unfold Fits; omega) m.now
  have hT := fun m : After W1 => implTold (cellTV a b c) (cellTV_big a b c) m.now (hE1.below m.ok)
  show Calls Tryz.prog _ _ w fun e w' => e = .returned (.string (str (toldI (cellTV a b c)))) ∧ Below w.heap.size w w'
  obtain ⟨N, hN⟩ : ∃ N, cellTV a b c = N := ⟨_, rfl⟩
  rw [hN] at hT ⊢
  simp only [hN] at hO
  obtain ⟨S, hS⟩ : ∃ S, str (toldI N) = S := ⟨_, rfl⟩
  rw [hS] at hT ⊢
  clear hx hv hE hN hS hc hg hns hs hE1
  go_enter Tryz.func135, Tryz.ntmps135
  go_wp2
  refine wp_region_below W1 (by kernel_rfl) (by kernel_rfl) (Below.refl _ _) ?_
  repeat (go_big_quiet_step (first | (go_at_call 167; exact after_of (hO _)) | (go_at_call 158; exact after_of (hT _))))
  refine wpQuiet_nil ?_
  rintro _ ⟨nq, rfl⟩
  go_wp2
  go_ret
  exact ⟨rfl, hB0.trans (nq.ok.mono hB0.size)⟩

theorem said_carries : SaidBy 136 3 (fun row ns => qA row ns 11) := by
  intro x p v row ns w hx hs hv hn hns hE
  obtain ⟨a, b, c, rfl⟩ : ∃ a b c, ns = [a, b, c] := by
    match ns, hn with
    | [a, b, c], _ => exact ⟨a, b, c, rfl⟩
  have ha := hns a (by simp)
  have hb := hns b (by simp)
  have hc := hns c (by simp)
  have hB0 := (Below.refl _ w).alloc (Nat.le_refl _) (.cells #[x, p] 31)
  obtain ⟨W1, hW1⟩ : ∃ W1, w.alloc (.cells #[x, p] 31) = W1 := ⟨_, rfl⟩
  rw [hW1] at hB0
  have hE1 := hE.below hB0
  obtain ⟨g, cap, rfl, hg, hc⟩ : ∃ g cap, v = .slice (some ⟨g, 0, none⟩) 3 cap ∧ g < w.heap.size ∧ ∀ i, i < 3 → w.cell? ⟨g, i, none⟩ = some (.int .i64 ([a, b, c].getD i 0)) := by
    rcases hv with ⟨_, _, _, h⟩ | ⟨g, cap, rfl, h1, h2⟩
    · cases h
    · exact ⟨g, cap, rfl, h1, h2⟩
  have q0 : ∀ m : After W1, m.now.cell? ⟨g, 0, none⟩ = some (.int .i64 a) := fun m => ((hB0.trans (m.ok.mono hB0.size)).cell (p := ⟨g, 0, none⟩) hg).trans (hc 0 (by omega))
  have q1 : ∀ m : After W1, m.now.cell? ⟨g, 1, none⟩ = some (.int .i64 b) := fun m => ((hB0.trans (m.ok.mono hB0.size)).cell (p := ⟨g, 1, none⟩) hg).trans (hc 1 (by omega))
  have q2 : ∀ m : After W1, m.now.cell? ⟨g, 2, none⟩ = some (.int .i64 c) := fun m => ((hB0.trans (m.ok.mono hB0.size)).cell (p := ⟨g, 2, none⟩) hg).trans (hc 2 (by omega))
  have hO := fun m : After W1 => implCarries a b c m.now
  have hT := fun m : After W1 => implTold (carriesV a b c) (carriesV_big a b c) m.now (hE1.below m.ok)
  show Calls Tryz.prog _ _ w fun e w' => e = .returned (.string (str (toldI (carriesV a b c)))) ∧ Below w.heap.size w w'
  obtain ⟨N, hN⟩ : ∃ N, carriesV a b c = N := ⟨_, rfl⟩
  rw [hN] at hT ⊢
  simp only [hN] at hO
  obtain ⟨S, hS⟩ : ∃ S, str (toldI N) = S := ⟨_, rfl⟩
  rw [hS] at hT ⊢
  clear hx hv hE hN hS hc hg hns hs hE1
  go_enter Tryz.func136, Tryz.ntmps136
  go_wp2
  refine wp_region_below W1 (by kernel_rfl) (by kernel_rfl) (Below.refl _ _) ?_
  repeat (go_big_quiet_step (first | (go_at_call 168; exact after_of (hO _)) | (go_at_call 158; exact after_of (hT _))))
  refine wpQuiet_nil ?_
  rintro _ ⟨nq, rfl⟩
  go_wp2
  go_ret
  exact ⟨rfl, hB0.trans (nq.ok.mono hB0.size)⟩

set_option maxRecDepth 100000 in
set_option maxHeartbeats 1000000 in
theorem said_row : SaidBy 125 0 (fun row ns => qA row ns 0) := by
  intro x p v row ns w hx hs hv hn hns hE
  have hl := sideB_len hs
  have hbit := fun i (hi : i < row.length) => sideB_at hs hi
  show Calls Tryz.prog _ _ w fun e w' => e = .returned (.string (str (rowTx row))) ∧ Below w.heap.size w w'
  have hB0 := (Below.refl _ w).alloc (Nat.le_refl _) (.cells #[x, p] 31)
  obtain ⟨c0, c1⟩ := desk_box (w := w) (x := x) (p := p) (t := 31)
  have z0 := World.size_alloc w (.cells #[x, p] 31)
  obtain ⟨g, cap, rfl, hg, hc⟩ : ∃ g cap, x = .slice (some ⟨g, 0, none⟩) row.length cap ∧ g < w.heap.size ∧ ∀ i, i < row.length → w.cell? ⟨g, i, none⟩ = some (.int .i64 (row.getD i 0)) := by
    rcases hx with ⟨_, _, _, h⟩ | ⟨g, cap, rfl, h1, h2⟩
    · rw [h] at hl; simp at hl
    · exact ⟨g, cap, rfl, h1, h2⟩
  obtain ⟨N, hN⟩ : ∃ N, row.length = N := ⟨_, rfl⟩
  rw [hN] at hB0 c0 c1 z0 hc hl hbit ⊢
  obtain ⟨W1, hW1⟩ : ∃ W1, w.alloc (.cells #[.slice (some ⟨g, 0, none⟩) N cap, p] 31) = W1 := ⟨_, rfl⟩
  rw [hW1] at hB0 c0 c1 z0
  have l0 := World.block_lt_of_cell? _ _ c0
  have hB1 : Below w.heap.size w (W1.alloc (.cells #[.pointer none, .slice none 0 0] 87)) := hB0.alloc hB0.size _
  have d0 : (W1.alloc (.cells #[.pointer none, .slice none 0 0] 87)).cell? ⟨w.heap.size, 0, none⟩ = some (.slice (some ⟨g, 0, none⟩) N cap) := (((Below.refl _ W1).alloc (Nat.le_refl _) _).cell (p := ⟨w.heap.size, 0, none⟩) l0).trans c0
  have hbl0 : BldJ (W1.alloc (.cells #[.pointer none, .slice none 0 0] 87)) W1.heap.size [] := Lib.IsBuilderF.of (Lib.fresh_isBuilder _ _ W1)
  have hz1 : w.heap.size ≤ W1.heap.size := hB0.size
  obtain ⟨W2, hW2⟩ : ∃ W2, W1.alloc (.cells #[.pointer none, .slice none 0 0] 87) = W2 := ⟨_, rfl⟩
  rw [hW2] at hB1 hbl0 d0
  rw [z0] at hbl0 hz1
  have hz2 : w.heap.size + 1 ≤ W2.heap.size := by rw [← hW2, World.size_alloc]; omega
  have hall : ∀ k, k < N → rowTx (row.take (k + 1)) = rowTx (row.take k) ++ decI (row.getD k 0) := fun k hk => by
    have : row.take (k + 1) = row.take k ++ [row.getD k 0] := by
      rw [List.take_add_one, List.getElem?_eq_getElem (by omega), List.getD, List.getElem?_eq_getElem (by omega)]; rfl
    unfold rowTx
    rw [this, List.flatMap_append]
    simp
  have hlen : ∀ k, k ≤ N → (rowTx (row.take k)).length ≤ 12 := fun k hk => by
    have h1 : ∀ m, m ≤ N → (rowTx (row.take m)).length = m := fun m => by
      induction m with
      | zero => intro _; simp [rowTx]
      | succ m ih =>
        intro hm
        rw [hall m (by omega), List.length_append, ih (by omega)]
        have := hbit m (by omega)
        rcases (show row.getD m 0 = 0 ∨ row.getD m 0 = 1 by omega) with e | e <;> rw [e] <;> rfl
    rw [h1 k hk]; omega
  replace hall := hide hall
  replace hlen := hide hlen
  have hfin : rowTx (row.take N) = rowTx row := by rw [← hN, List.take_length]
  replace hfin := hide hfin
  obtain ⟨R, hR⟩ : ∃ R, rowTx row = R := ⟨_, rfl⟩
  rw [hR] at hfin ⊢
  clear hx hv c0 c1 hB0 hs hns hR hN l0
  go_enter Tryz.func125, Tryz.ntmps125
  go_wp2
  go_loopw [11] (fun p wr => ∃ k : Nat, k ≤ N ∧ p = .int .i64 k ∧ BldJ wr (w.heap.size + 1) (rowTx (row.take k)) ∧ Below w.heap.size w wr ∧ w.heap.size + 1 ≤ wr.heap.size) (fun p _ => N - (intOf p).toNat)
  case atStart => exact ⟨0, by omega, rfl, hbl0, hB1, hz2⟩
  case round =>
    clear hB1 hbl0
    obtain ⟨k, hk, rfl, hbl, hB, hBz⟩ := hrel
    by_cases hlt : k < N
    · have hki : (k : Int) < (N : Int) := by omega
      have d1 := (hB.cell (p := ⟨g, k, none⟩) hg).trans (hc k hlt)
      have hb01 := hbit k hlt
      have hst := hide (hall.out k hlt)
      have hl1 := hide (hlen.out k hk)
      obtain ⟨y, hy⟩ : ∃ y, row.getD k 0 = y := ⟨_, rfl⟩
      rw [hy] at d1 hb01 hst
      have hI := itoaBig_in y (by omega) (by omega) wr (hE.below hB)
      have hdl : (decI y).length ≤ 1 := by
        rcases (show y = 0 ∨ y = 1 by omega) with e | e <;> rw [e] <;> decide
      have hl2 : (rowTx (row.take k)).length ≤ 12 := hl1.out
      obtain ⟨X, hX⟩ : ∃ X, rowTx (row.take k) = X := ⟨_, rfl⟩
      rw [hX] at hbl hst hl2
      clear hc hall hlen hbit hy hl1
      go_wp2_with fail
      go_at_call 58
      refine hI.mono ?_
      rintro e w2 ⟨rfl, hB2⟩
      have hbl2 := hbl.below hB2
      have hBw := hB.trans (hB2.mono hB.size)
      have hz2 := hB2.size
      have hW := hbl2.str (decI y) (by omega) (by omega) (by omega)
      rw [← hst.out] at hW
      obtain ⟨S, hS⟩ : ∃ S, str (decI y) = S := ⟨_, rfl⟩
      rw [hS] at hW ⊢
      clear hI hS hdl hbl hX
      go_wp2_with fail
      go_at_call 59
      refine hW.mono ?_
      rintro e w3 ⟨rfl, hbl3, hB3⟩
      have hz3 := hB3.size
      have hBw3 := hBw.trans (hB3.mono hz1)
      go_wp2
      go_roundw
      case rel => exact ⟨k + 1, by omega, by go_num, hbl3, hBw3, by omega⟩
      case measure => simp [intOf]; omega
    · obtain rfl : k = N := by omega
      have hki : ¬ ((k : Nat) : Int) < (k : Int) := by omega
      have hW := hbl.text hBz
      rw [hfin.out] at hW
      clear hbl hc hall hlen hbit hfin
      go_wp2_with (go_at_call 61; refine hW.mono ?_; clear hW; rintro e w3 ⟨rfl, hB3⟩)
      go_ret
      exact ⟨rfl, hB.trans (hB3.mono hz1)⟩
end Go.Proofs.YtiaaefapbcjgmaaGreatDoor
namespace Go.Proofs.YtiaaefapbcjgmaaGreatDoor
open Go.RowKit

def wL (i : Nat) : List Nat := match i with
  | 0 => [102, 108, 105, 112]
  | 1 => [112, 117, 116]
  | 2 => [117, 110, 100, 101, 114]
  | 3 => [116, 117, 114, 110]
  | 4 => [114, 111, 117, 110, 100]
  | 5 => [98, 97, 99, 107]
  | _ => []

def ixL (p : List Nat) : Int := if p = wL 0 then 0 else if p = wL 1 then 1 else if p = wL 2 then 2 else if p = wL 3 then 3 else if p = wL 4 then 4 else if p = wL 5 then 5 else -1

theorem wL_byte : ((List.range 6).all fun i => (wL i).all fun c => decide (c < 256)) = true := by decide

theorem ixL_at : ((List.range 6).all fun i => decide (ixL (wL i) = i)) = true := by decide

theorem words_str : ∀ i, i < 6 → wordsA[i]? = some (.string (str (wL i)))
  | 0, _ => by kernel_rfl
  | 1, _ => by kernel_rfl
  | 2, _ => by kernel_rfl
  | 3, _ => by kernel_rfl
  | 4, _ => by kernel_rfl
  | 5, _ => by kernel_rfl
  | _ + 6, h => by omega

theorem index_in (p : List Nat) (hp : ∀ x ∈ p, x < 256) (g : Nat) (W : World) (hc : ∀ k v, wordsA[k]? = some v → W.cell? ⟨g, k, none⟩ = some v) :
    Calls Tryz.prog 92 #[.slice (some ⟨g, 0, none⟩) 6 6, .string (str p)] W fun e w' => e = .returned (.int .i64 (ixL p)) ∧ W = w' := by
  have hcw : ∀ i, i < 6 → W.cell? ⟨g, i, none⟩ = some (.string (str (wL i))) := fun i hi => hc i _ (words_str i hi)
  have hit : ∀ i, i < 6 → str p = str (wL i) → ixL p = i := fun i hi e => by
    have hb := List.all_eq_true.1 wL_byte i (List.mem_range.2 hi)
    have hx := List.all_eq_true.1 ixL_at i (List.mem_range.2 hi)
    have e2 : p = wL i := str_inj hp (fun x hx => by have := List.all_eq_true.1 hb x hx; simpa using this) (congrArg (fun b : ByteArray => b.data.toList) e)
    subst e2
    simpa using hx
  have miss : (∀ j, j < 6 → ¬ str p = str (wL j)) → ixL p = -1 := fun h => by
    have h' : ∀ j, j < 6 → ¬ p = wL j := fun j hj e => h j hj (by rw [e])
    unfold ixL
    rw [if_neg (h' 0 (by omega)), if_neg (h' 1 (by omega)), if_neg (h' 2 (by omega)), if_neg (h' 3 (by omega)), if_neg (h' 4 (by omega)), if_neg (h' 5 (by omega))]
  replace hcw := hide hcw
  replace hit := hide hit
  replace miss := hide miss
  obtain ⟨X, hX⟩ : ∃ X, str p = X := ⟨_, rfl⟩
  rw [hX] at hit miss ⊢
  obtain ⟨R, hR⟩ : ∃ R, ixL p = R := ⟨_, rfl⟩
  rw [hR] at hit miss ⊢
  clear hc hX hR hp
  go_enter Tryz.func92, Tryz.ntmps92
  go_wp2
  go_loopw [8] (fun a wr => ∃ i : Nat, i ≤ 6 ∧ a = .int .i64 i ∧ wr = W ∧ Hid (∀ j, j < i → ¬ X = str (wL j))) (fun a _ => 6 - (intOf a).toNat)
  case atStart => exact ⟨0, by omega, rfl, rfl, hide fun j hj => absurd hj (Nat.not_lt_zero j)⟩
  case round =>
    obtain ⟨i, hi, rfl, rfl, hno⟩ := hrel
    by_cases hlt : i < 6
    · have hlti : (i : Int) < 6 := by omega
      have hcell := hcw.out i hlt
      obtain ⟨Y, hY⟩ : ∃ Y, str (wL i) = Y := ⟨_, rfl⟩
      rw [hY] at hcell
      by_cases e : X = Y
      · have hr := hit.out i hlt (e.trans hY.symm)
        subst e
        subst hr
        go_wp2
        go_ret
        exact ⟨rfl, rfl⟩
      · have hne := (Lib.bytes_beq_false_iff X Y).2 e
        have hno' := hide (show ∀ j, j < i + 1 → ¬ X = str (wL j) from fun j hj => by
          rcases Nat.lt_or_ge j i with h | h
          · exact hno.out j h
          · obtain rfl : j = i := by omega
            rw [hY]; exact e)
        clear hno
        go_wp2
        go_roundw
        case rel => exact ⟨i + 1, by omega, by go_num, trivial, hno'⟩
        case measure => simp [intOf]; omega
    · obtain rfl : i = 6 := by omega
      have hr := miss.out hno.out
      subst hr
      go_wp2
      go_ret
      exact ⟨rfl, rfl⟩

/-- What ReadDeed finds of a text: the kind by the word, the number behind it. -/
def okR (i : Nat) : Bool :=
  let a := nthD i
  let r := rlV (deedT a.1 a.2)
  decide (ixL r.1 = a.1 ∧ r.2.headD 0 = a.2)

set_option maxRecDepth 100000 in
theorem okR_all : ((List.range 114).all okR) = true := by decide +kernel

theorem okR_of {l : List Nat} {a : Int × Int} (h : readD l = some a) : ixL (rlV l).1 = a.1 ∧ (rlV l).2.headD 0 = a.2 := by
  obtain ⟨h1, h2⟩ := readD_text h
  subst h2
  obtain ⟨i, hi, he⟩ := isD_nth (deedT_is h1)
  have h3 := List.all_eq_true.1 okR_all i (List.mem_range.2 hi)
  unfold okR at h3
  rw [he] at h3
  simpa using h3

theorem rdv_none {l : List Nat} (h : ixL (rlV l).1 < 0) : rdV l = ((0, 0), false) := by
  unfold rdV
  cases hr : readD l with
  | none => rfl
  | some a =>
    have := (okR_of hr).1
    obtain ⟨h3, h4⟩ := readD_text hr
    rw [← h4] at h3
    have h5 := deedT_is h3
    unfold isD at h5
    omega

theorem rdv_other {l : List Nat} (h : ¬ deedT (ixL (rlV l).1) ((rlV l).2.headD 0) = l) : rdV l = ((0, 0), false) := by
  unfold rdV
  cases hr : readD l with
  | none => rfl
  | some a =>
    obtain ⟨h1, h2⟩ := okR_of hr
    rw [h1, h2] at h
    exact absurd (readD_text hr).2 h

theorem rdv_this {l : List Nat} (h0 : 0 ≤ ixL (rlV l).1) (h : deedT (ixL (rlV l).1) ((rlV l).2.headD 0) = l) : rdV l = ((ixL (rlV l).1, (rlV l).2.headD 0), true) := by
  unfold rdV
  have hne : l ≠ [] := fun e => by
    subst e
    revert h0
    decide
  have h2 := read_of_text (k := ixL (rlV l).1) (n := (rlV l).2.headD 0) (by rw [h]; exact hne)
  rw [h] at h2
  rw [h2]

theorem numsL_le : ∀ (ps : List (List Nat)) (ns : List Int), numsL ps = some ns → ∀ x ∈ ns, 0 ≤ x ∧ x ≤ 999999999
  | [], ns, h, x, hx => by
    rw [numsL] at h
    injection h with h
    subst h
    cases hx
  | p :: r, ns, h, x, hx => by
    rw [numsL_cons] at h
    cases hd : digT p with
    | none => rw [hd] at h; cases h
    | some m =>
      rw [hd] at h
      simp only at h
      cases hr : numsL r with
      | none => rw [hr] at h; cases h
      | some ms =>
        rw [hr] at h
        injection h with h
        subst h
        rcases List.mem_cons.1 hx with rfl | hx
        · have := (dig_is hd).1; omega
        · exact numsL_le r ms hr x hx

theorem rl_le (l : List Nat) : ∀ x ∈ (rlV l).2, 0 ≤ x ∧ x ≤ 999999999 := by
  unfold rlV
  cases h : numsL (cutT 32 l).tail with
  | none => intro x hx; cases hx
  | some ns => exact numsL_le _ ns h

theorem rl_byte (l : List Nat) (hl : ∀ x ∈ l, x < 256) : ∀ x ∈ (rlV l).1, x < 256 := by
  unfold rlV
  cases h : numsL (cutT 32 l).tail with
  | none => intro x hx; cases hx
  | some ns =>
    intro x hx
    have := cutL_mem 32 l [] ((cutT 32 l).getD 0 []) (word_mem _ 0 (cutL_pos 32 l []))
    exact hl x ((this.1 x hx).resolve_left (by simp))

theorem ixL_le (p : List Nat) : -1 ≤ ixL p ∧ ixL p ≤ 5 := by
  unfold ixL
  repeat' split
  all_goals omega
end Go.Proofs.YtiaaefapbcjgmaaGreatDoor
namespace Go.Proofs.YtiaaefapbcjgmaaGreatDoor
open Go.RowKit

theorem ints_first {w : World} {base : Nat} {v : Value} {xs : List Int} (h : w.ownsRow base 3 1 v xs.length (xs.map (Value.int .i64))) :
    (xs = [] ∧ ∃ a c, v = .slice a 0 c) ∨ (∃ g c n, xs ≠ [] ∧ v = .slice (some ⟨g, 0, none⟩) (n + 1) c ∧ xs.length = n + 1 ∧ base ≤ g ∧ w.cell? ⟨g, 0, none⟩ = some (.int .i64 (xs.headD 0))) := by
  cases xs with
  | nil =>
    rcases h.2 with ⟨rfl, _⟩ | ⟨g, cap, cur, rfl, _⟩
    · exact .inl ⟨rfl, _, _, rfl⟩
    · exact .inl ⟨rfl, _, _, rfl⟩
  | cons x xs =>
    rcases h.2 with ⟨_, h0⟩ | ⟨g, cap, cur, rfl, hb, hk, hn, hm, hs, hx⟩
    · simp at h0
    · refine .inr ⟨g, cap, xs.length, by simp, rfl, by simp, hb, ?_⟩
      have h0 := congrArg (fun q : List Value => q[0]?) hx
      simp at h0
      simp [World.cell?, hk, h0]

theorem cr_blockD {W : World} {b : Nat} {cur : Array Value} {t : TypeId} (h : W.heap[b]? = some (.cells cur t (0, 0))) (p : Nat) (v : Value) : (W.setCell ⟨b, p, none⟩ v).heap[b]? = some (.cells (cur.setIfInBounds p v) t (0, 0)) := by
  obtain ⟨hlt, hk⟩ := Array.getElem?_eq_some_iff.1 h
  show (W.heap.modify b _)[b]? = _
  rw [Array.getElem?_eq_getElem (by rw [Array.size_modify]; exact hlt), Array.getElem_modify_self, hk]; rfl

set_option maxRecDepth 100000 in
set_option maxHeartbeats 2000000 in
theorem implReadDeed (l : List Nat) (hl : ∀ x ∈ l, x < 256) (hn : l.length ≤ 1100000) (w : World) (hE : Env w) : Calls Tryz.prog 46 #[.string (str l)] w fun e w' => e = .returned (.tuple #[dV (rdV l).1.1 (rdV l).1.2, .bool (rdV l).2]) ∧ Below w.heap.size w w' := by
  have hR := fun V hV => readLine_in l hl hn V hV
  have hI := fun g W hc => index_in (rlV l).1 (rl_byte l hl) g W hc
  have h1 := rdv_none (l := l)
  have h2 := rdv_other (l := l)
  have h3 := rdv_this (l := l)
  have hle := ixL_le (rlV l).1
  have hns := rl_le l
  obtain ⟨⟨p, xs⟩, hr⟩ : ∃ r, rlV l = r := ⟨_, rfl⟩
  rw [hr] at hR hI h1 h2 h3 hle hns
  simp only at hR hI h1 h2 h3 hle hns
  obtain ⟨K, hK⟩ : ∃ K, ixL p = K := ⟨_, rfl⟩
  rw [hK] at hI h1 h2 h3 hle
  have hNb : 0 ≤ xs.headD 0 ∧ xs.headD 0 ≤ 999999999 := by
    cases xs with
    | nil => exact ⟨by decide, by decide⟩
    | cons x xs => exact hns x (by simp)
  have hT := fun V => implDeedText K (xs.headD 0) ⟨by omega, by omega⟩ ⟨by omega, by omega⟩ V
  have hcmp : ((str (deedT K (xs.headD 0))).toList == (str l).toList) = decide (deedT K (xs.headD 0) = l) := by
    rw [Bool.eq_iff_iff, beq_iff_eq, decide_eq_true_eq, str_toList, str_toList]
    exact ⟨fun e => str_inj (fun x hx => (deed_byte _ _ x hx).1) hl e, fun e => by rw [e]⟩
  obtain ⟨P, hP⟩ : ∃ P, str p = P := ⟨_, rfl⟩
  obtain ⟨S, hS⟩ : ∃ S, str l = S := ⟨_, rfl⟩
  rw [hS] at hR hcmp ⊢
  rw [hP] at hR hI
  clear hr hK hP hS hns hl hn
  have hB0 : Below w.heap.size w (w.alloc (.cells #[.int .i64 0, .int .i64 0] 39)) := (Below.refl _ w).alloc (Nat.le_refl _) _
  have hres0 := World.alloc_heap_new w (.cells #[.int .i64 0, .int .i64 0] 39)
  have hsz0 := World.size_alloc w (.cells #[.int .i64 0, .int .i64 0] 39)
  have hE0 := hE.below hB0
  obtain ⟨W0, hW0⟩ : ∃ W0, w.alloc (.cells #[.int .i64 0, .int .i64 0] 39) = W0 := ⟨_, rfl⟩
  rw [hW0] at hB0 hres0 hsz0 hE0
  have hres : ∀ W, Below W0.heap.size W0 W → W.heap[w.heap.size]? = some (.cells #[.int .i64 0, .int .i64 0] 39 (0, 0)) := fun W hW => (hW.block _ (by omega)).trans hres0
  replace hres := hide hres
  have hk : K < 0 ∨ 0 ≤ K := by omega
  rcases hk with hk | hk
  · have hrd := hide (h1 hk)
    clear h1 h2 h3 hT hcmp hNb
    go_enter Tryz.func46, Tryz.ntmps46
    go_wp2_with (first
      | (go_at_call 91; refine (hR _ hE0).mono ?_; clear hR; rintro e w1 ⟨v, rfl, hown, hB1⟩)
      | (go_at_call 57; refine (words_at _).mono ?_; go_loud (rintro e w2 ⟨rfl, hwk, hB2⟩; have hB12 := hB1.trans (hB2.mono hB1.size); have hI2 := hI _ _ hwk; have hr8 := hres.out _ hB12; have d0 : w2.cell? ⟨w.heap.size, 0, none⟩ = some (.int .i64 0) := (by simp [World.cell?, hr8]); have d1 : w2.cell? ⟨w.heap.size, 1, none⟩ = some (.int .i64 0) := (by simp [World.cell?, hr8]); have f0 : w2.frozen? ⟨w.heap.size, 0, none⟩ = false := (by simp [World.frozen?, hr8]); have f1 : w2.frozen? ⟨w.heap.size, 1, none⟩ = false := (by simp [World.frozen?, hr8]); clear hI hwk))
      | (go_at_call 92; refine hI2.mono ?_; clear hI2; rintro e w3 ⟨rfl, rfl⟩))
    have hset := deed_set hr8 0 0
    refine bodyPost_ret (results_deed rfl _ _ w.heap.size 0 0 rfl hset) rfl ⟨by rw [hrd.out]; rfl, ?_⟩
    exact (((hB0.trans (hB12.mono hB0.size)).setCell (p := ⟨w.heap.size, 0, none⟩) (Nat.le_refl _) _).setCell (p := ⟨w.heap.size, 1, none⟩) (Nat.le_refl _) _)
  · obtain ⟨DT, hDT⟩ : ∃ DT, str (deedT K (xs.headD 0)) = DT := ⟨_, rfl⟩
    obtain ⟨N, hN⟩ : ∃ N, xs.headD 0 = N := ⟨_, rfl⟩
    rw [hN] at h2 h3 hT hcmp hDT
    rw [hDT] at hT hcmp
    unfold dV at hT
    have hk1 : ¬ K < 0 := by omega
    have hfin : Hid (rdV l = if deedT K N = l then ((K, N), true) else ((0, 0), false)) := by
      by_cases e : deedT K N = l
      · rw [if_pos e]; exact hide (h3 hk e)
      · rw [if_neg e]; exact hide (h2 e)
    have hfirst := fun (W : World) (v : Value) (h : W.ownsRow W0.heap.size 3 1 v xs.length (xs.map (Value.int .i64))) => ints_first h
    rw [hN] at hfirst
    have hNx : xs = [] → N = 0 := fun e => by rw [← hN, e]; rfl
    clear h1 h2 h3 hDT hNb hN
    go_enter Tryz.func46, Tryz.ntmps46
    go_wp2_with (go_at_call 91; refine (hR _ hE0).mono ?_; clear hR)
    intro e w1 v he hown hB1
    subst he
    rw [← hsz0] at hown hB1
    have hf := hfirst _ _ hown
    clear hfirst hown
    rcases hf with ⟨hx0, a0, c0, rfl⟩ | ⟨g, c0, n0, hx0, rfl, hx1, hg, hcell⟩
    · have hN0 := hNx hx0
      subst hx0
      subst hN0
      go_wp2_with (first
        | (go_at_call 57; refine (words_at _).mono ?_; go_loud (rintro e w2 ⟨rfl, hwk, hB2⟩; have hB12 := hB1.trans (hB2.mono hB1.size); have hI2 := hI _ _ hwk; clear hI hwk))
        | (go_at_call 92; refine hI2.mono ?_; clear hI2; rintro e w3 ⟨rfl, rfl⟩)
        | (go_at_call 15; refine (hT _).mono ?_; clear hT))
      rintro e w4 ⟨rfl, hB4⟩
      have hbx := World.alloc_heap_new w2 (.cells #[.int .i64 K, .int .i64 0] 39)
      have hbs := World.size_alloc w2 (.cells #[.int .i64 K, .int .i64 0] 39)
      have hBb : Below W0.heap.size W0 (w2.alloc (.cells #[.int .i64 K, .int .i64 0] 39)) := hB12.alloc hB12.size _
      have hBb4 := hBb.trans (hB4.mono hBb.size)
      have hbx4 := (hB4.block _ (by omega)).trans hbx
      obtain ⟨b, hb⟩ : ∃ b, w2.heap.size = b := ⟨_, rfl⟩
      rw [hb] at hbx4 ⊢
      clear hbx hbs hBb hB4 hb
      have hr8 := hres.out _ hBb4
      have d0 : w4.cell? ⟨w.heap.size, 0, none⟩ = some (.int .i64 0) := (by simp [World.cell?, hr8])
      have d1 : w4.cell? ⟨w.heap.size, 1, none⟩ = some (.int .i64 0) := (by simp [World.cell?, hr8])
      have f0 : w4.frozen? ⟨w.heap.size, 0, none⟩ = false := (by simp [World.frozen?, hr8])
      have f1 : w4.frozen? ⟨w.heap.size, 1, none⟩ = false := (by simp [World.frozen?, hr8])
      have b0 : w4.cell? ⟨b, 0, none⟩ = some (.int .i64 K) := (by simp [World.cell?, hbx4])
      have b1 : w4.cell? ⟨b, 1, none⟩ = some (.int .i64 0) := (by simp [World.cell?, hbx4])
      by_cases he : deedT K 0 = l
      · have hfin' := hfin.out
        rw [if_pos he] at hfin'
        rw [decide_eq_true he] at hcmp
        replace hfin' := hide hfin'
        clear hfin
        go_wp2
        have hset := deed_set hr8 K 0
        refine bodyPost_ret (results_deed rfl _ _ w.heap.size K 0 rfl hset) rfl ⟨by rw [hfin'.out]; rfl, ?_⟩
        exact (((hB0.trans (hBb4.mono hB0.size)).setCell (p := ⟨w.heap.size, 0, none⟩) (Nat.le_refl _) _).setCell (p := ⟨w.heap.size, 1, none⟩) (Nat.le_refl _) _)
      · have hfin' := hfin.out
        rw [if_neg he] at hfin'
        rw [decide_eq_false he] at hcmp
        replace hfin' := hide hfin'
        clear hfin
        go_wp2
        have hset := deed_set hr8 0 0
        refine bodyPost_ret (results_deed rfl _ _ w.heap.size 0 0 rfl hset) rfl ⟨by rw [hfin'.out]; rfl, ?_⟩
        exact (((hB0.trans (hBb4.mono hB0.size)).setCell (p := ⟨w.heap.size, 0, none⟩) (Nat.le_refl _) _).setCell (p := ⟨w.heap.size, 1, none⟩) (Nat.le_refl _) _)
    · go_wp2_with (first
        | (go_at_call 57; refine (words_at _).mono ?_)
        | (go_at_call 92; refine hI2.mono ?_; clear hI2; rintro e w3 ⟨rfl, rfl⟩)
        | (go_at_call 15; refine (hT _).mono ?_; clear hT))
      rintro e w2 ⟨rfl, hwk, hB2⟩
      have hB12 := hB1.trans (hB2.mono hB1.size)
      have hI2 := hI _ _ hwk
      have hg2 := World.block_lt_of_cell? w1 _ hcell
      have hcell2 := (hB2.cell (p := ⟨g, 0, none⟩) hg2).trans hcell
      have hsz2 := hB2.size
      have hbx := World.alloc_heap_new w2 (.cells #[.int .i64 K, .int .i64 0] 39)
      have hbs := World.size_alloc w2 (.cells #[.int .i64 K, .int .i64 0] 39)
      have hBb : Below W0.heap.size W0 (w2.alloc (.cells #[.int .i64 K, .int .i64 0] 39)) := hB12.alloc hB12.size _
      have hcell3 : (w2.alloc (.cells #[.int .i64 K, .int .i64 0] 39)).cell? ⟨g, 0, none⟩ = some (.int .i64 N) := (((Below.refl w2.heap.size w2).alloc (Nat.le_refl _) _).cell (p := ⟨g, 0, none⟩) (Nat.lt_of_lt_of_le hg2 hsz2)).trans hcell2
      have hbsz := hB12.size
      obtain ⟨b, hb⟩ : ∃ b, w2.heap.size = b := ⟨_, rfl⟩
      obtain ⟨W3, hW3⟩ : ∃ W3, w2.alloc (.cells #[.int .i64 K, .int .i64 0] 39) = W3 := ⟨_, rfl⟩
      rw [hW3] at hbx hbs hBb hcell3
      rw [hb] at hbx hbs hbsz hsz2
      have e0 : W3.cell? ⟨b, 0, none⟩ = some (.int .i64 K) := (by simp [World.cell?, hbx])
      have e1 : W3.cell? ⟨b, 1, none⟩ = some (.int .i64 0) := (by simp [World.cell?, hbx])
      have g0 : W3.frozen? ⟨b, 0, none⟩ = false := (by simp [World.frozen?, hbx])
      have g1 : W3.frozen? ⟨b, 1, none⟩ = false := (by simp [World.frozen?, hbx])
      have hbx6 : (W3.setCell ⟨b, 1, none⟩ (.int .i64 0)).heap[b]? = some (.cells #[.int .i64 K, .int .i64 0] 39 (0, 0)) := cr_blockD hbx 1 _
      have hBb6 : Below W0.heap.size W0 (W3.setCell ⟨b, 1, none⟩ (.int .i64 0)) := hBb.setCell (p := ⟨b, 1, none⟩) hbsz _
      obtain ⟨W6, hW6⟩ : ∃ W6, W3.setCell ⟨b, 1, none⟩ (.int .i64 0) = W6 := ⟨_, rfl⟩
      rw [hW6] at hbx6 hBb6
      have j0 : W6.cell? ⟨b, 0, none⟩ = some (.int .i64 K) := (by simp [World.cell?, hbx6])
      have j1 : W6.cell? ⟨b, 1, none⟩ = some (.int .i64 0) := (by simp [World.cell?, hbx6])
      have k0 : W6.frozen? ⟨b, 0, none⟩ = false := (by simp [World.frozen?, hbx6])
      have k1 : W6.frozen? ⟨b, 1, none⟩ = false := (by simp [World.frozen?, hbx6])
      have hgb : g ≠ b := by have : g < w1.heap.size := hg2; omega
      have hcell6 : W6.cell? ⟨g, 0, none⟩ = some (.int .i64 N) := by
        rw [← hW6]
        exact (World.cell?_of_block (Below.heap_setCell W3 ⟨b, 1, none⟩ _ g hgb)).trans hcell3
      have hbx5 : (W6.setCell ⟨b, 1, none⟩ (.int .i64 N)).heap[b]? = some (.cells #[.int .i64 K, .int .i64 N] 39 (0, 0)) := cr_blockD hbx6 1 _
      have hB5 : Below W0.heap.size W0 (W6.setCell ⟨b, 1, none⟩ (.int .i64 N)) := hBb6.setCell (p := ⟨b, 1, none⟩) hbsz _
      obtain ⟨W5, hW5⟩ : ∃ W5, W6.setCell ⟨b, 1, none⟩ (.int .i64 N) = W5 := ⟨_, rfl⟩
      rw [hW5] at hbx5 hB5
      have i0 : W5.cell? ⟨b, 0, none⟩ = some (.int .i64 K) := (by simp [World.cell?, hbx5])
      have i1 : W5.cell? ⟨b, 1, none⟩ = some (.int .i64 N) := (by simp [World.cell?, hbx5])
      clear hwk hI hcell hcell2 hg2 hsz2 hbs hBb hBb6
      go_wp2_with (first
        | (go_at_call 92; refine hI2.mono ?_; clear hI2; rintro e w3 ⟨rfl, rfl⟩)
        | (go_at_call 15; refine (hT _).mono ?_; clear hT))
      rintro e w4 ⟨rfl, hB4⟩
      have hb5 := (Array.getElem?_eq_some_iff.1 hbx5).1
      have hBb4 := hB5.trans (hB4.mono hB5.size)
      have hbx4 := (hB4.block _ hb5).trans hbx5
      clear hbx hB5 hB4 e0 e1 g0 g1 i0 i1 hcell3 hbx5 j0 j1 k0 k1 hcell6 hbx6
      have hr8 := hres.out _ hBb4
      have d0 : w4.cell? ⟨w.heap.size, 0, none⟩ = some (.int .i64 0) := (by simp [World.cell?, hr8])
      have d1 : w4.cell? ⟨w.heap.size, 1, none⟩ = some (.int .i64 0) := (by simp [World.cell?, hr8])
      have f0 : w4.frozen? ⟨w.heap.size, 0, none⟩ = false := (by simp [World.frozen?, hr8])
      have f1 : w4.frozen? ⟨w.heap.size, 1, none⟩ = false := (by simp [World.frozen?, hr8])
      have b0 : w4.cell? ⟨b, 0, none⟩ = some (.int .i64 K) := (by simp [World.cell?, hbx4])
      have b1 : w4.cell? ⟨b, 1, none⟩ = some (.int .i64 N) := (by simp [World.cell?, hbx4])
      by_cases he : deedT K N = l
      · have hfin' := hfin.out
        rw [if_pos he] at hfin'
        rw [decide_eq_true he] at hcmp
        replace hfin' := hide hfin'
        clear hfin
        go_wp2
        have hset := deed_set hr8 K N
        refine bodyPost_ret (results_deed rfl _ _ w.heap.size K N rfl hset) rfl ⟨by rw [hfin'.out]; rfl, ?_⟩
        exact (((hB0.trans (hBb4.mono hB0.size)).setCell (p := ⟨w.heap.size, 0, none⟩) (Nat.le_refl _) _).setCell (p := ⟨w.heap.size, 1, none⟩) (Nat.le_refl _) _)
      · have hfin' := hfin.out
        rw [if_neg he] at hfin'
        rw [decide_eq_false he] at hcmp
        replace hfin' := hide hfin'
        clear hfin
        go_wp2
        have hset := deed_set hr8 0 0
        refine bodyPost_ret (results_deed rfl _ _ w.heap.size 0 0 rfl hset) rfl ⟨by rw [hfin'.out]; rfl, ?_⟩
        exact (((hB0.trans (hBb4.mono hB0.size)).setCell (p := ⟨w.heap.size, 0, none⟩) (Nat.le_refl _) _).setCell (p := ⟨w.heap.size, 1, none⟩) (Nat.le_refl _) _)
end Go.Proofs.YtiaaefapbcjgmaaGreatDoor
namespace Go.Proofs.YtiaaefapbcjgmaaGreatDoor
open Go.RowKit

theorem rl_len (l : List Nat) : (rlV l).1.length ≤ l.length := by
  unfold rlV
  split
  · simp
  · have hpos := cutL_pos 32 l []
    have := cutL_mem 32 l [] ((cutT 32 l).getD 0 []) (word_mem _ 0 hpos)
    exact Nat.le_trans this.2 (by simp)

theorem nums_le : ∀ {p : List (List Nat)} {ns : List Int}, numsL p = some ns → ∀ n ∈ ns, 0 ≤ n ∧ n ≤ 999999999
  | [], ns, h, n, hn => by cases h; simp at hn
  | w :: r, ns, h, n, hn => by
    rw [numsL] at h
    split at h
    · cases h
    · rename_i m hm
      split at h
      · cases h
      · rename_i ms h2
        cases h
        rcases List.mem_cons.1 hn with rfl | hn
        · have := (dig_is hm).1; omega
        · exact nums_le h2 n hn

theorem rl_nums (l : List Nat) : ∀ n ∈ (rlV l).2, 0 ≤ n ∧ n ≤ 999999999 := by
  unfold rlV
  split
  · simp
  · rename_i ns h
    exact nums_le h

theorem said_all : ∀ i, i < 12 → SaidBy (qF i) (qC i) (fun row ns => qA row ns i)
  | 0, _ => said_row
  | 1, _ => said_ones
  | 2, _ => said_last
  | 3, _ => said_end
  | 4, _ => said_balanced
  | 5, _ => said_shared
  | 6, _ => said_ways
  | 7, _ => said_cell
  | 8, _ => said_kept
  | 9, _ => said_left
  | 10, _ => said_often
  | 11, _ => said_carries
  | _ + 12, h => by omega

set_option maxRecDepth 100000 in
set_option maxHeartbeats 4000000 in
theorem answered_in (x p : Value) (row : List Int) (l : List Nat) (w : World) (hx : Ints w x row) (hs : sideB row = true) (hl : ∀ c ∈ l, c < 256) (hn : l.length ≤ 1100000) (hE : Env w) :
    Calls Tryz.prog 53 #[.agg #[x, p], .string (str l)] w fun e w' => e = .returned (.string (str (ansV row l))) ∧ Below w.heap.size w w' := by
  have hB0 := (Below.refl _ w).alloc (Nat.le_refl _) (.cells #[x, p] 31)
  obtain ⟨c0, c1⟩ := desk_box (w := w) (x := x) (p := p) (t := 31)
  obtain ⟨W1, hW1⟩ : ∃ W1, w.alloc (.cells #[x, p] 31) = W1 := ⟨_, rfl⟩
  rw [hW1] at hB0 c0 c1
  have hb0 : w.heap.size < W1.heap.size := World.block_lt_of_cell? _ _ c0
  have hE1 := hE.below hB0
  have hx1 := hx.below hB0
  have hRl := readLine_in l hl hn W1 hE1
  have hwb := rl_byte l hl
  have hwl := rl_len l
  have hns := rl_nums l
  unfold ansV
  obtain ⟨⟨Wd, ns⟩, hr⟩ : ∃ r, rlV l = r := ⟨_, rfl⟩
  rw [hr] at hRl hwb hwl hns ⊢
  simp only at hRl hwb hwl hns ⊢
  obtain ⟨LS, hLS⟩ : ∃ LS, str l = LS := ⟨_, rfl⟩
  rw [hLS] at hRl ⊢
  obtain ⟨OUT, hO⟩ : ∃ O, (if qI Wd < 12 ∧ ns.length = qC (qI Wd) then qA row ns (qI Wd) else whatT) = O := ⟨_, rfl⟩
  rw [hO]
  replace hO := hide hO
  clear hx hr hLS hE
  go_enter Tryz.func53, Tryz.ntmps53
  go_wp2_with fail
  go_at_call 91
  refine hRl.mono ?_
  rintro e W2 ⟨v, rfl, hown, hB2⟩
  have hI2 := Ints.of_owns hown
  obtain ⟨va, vc, rfl⟩ := own_form hown
  clear hRl hown
  go_wp2_with fail
  go_at_call 97
  refine (questions_in _).mono ?_
  rintro e W3 ⟨rfl, hQ, hB3⟩
  obtain ⟨qv, hlook, hv1, hv2⟩ := qLook hQ Wd hwb (by omega)
  have hB13 := hB2.trans (hB3.mono hB2.size)
  have hI3 := hI2.below hB3
  clear hQ hwb hwl hI2
  obtain ⟨XW, hXW⟩ : ∃ XW, str Wd = XW := ⟨_, rfl⟩
  rw [hXW] at hlook ⊢
  by_cases hq : qI Wd < 12
  · obtain rfl := hv1 hq
    rw [decide_eq_true hq] at hlook
    obtain ⟨i, hi⟩ : ∃ i, qI Wd = i := ⟨_, rfl⟩
    rw [hi] at hq hlook
    have hO1 : ns.length = qC i → OUT = qA row ns i := fun h => by rw [← hO.out, hi, if_pos ⟨hq, h⟩]
    have hO2 : ¬ ns.length = qC i → OUT = whatT := fun h => by rw [← hO.out, hi, if_neg (fun e => h e.2)]
    replace hO1 := hide hO1
    replace hO2 := hide hO2
    clear hv1 hv2 hi hXW hO
    have hB14 := hB13.alloc hB13.size (.cells #[.int .i64 (qC i : Nat), .func (.func (qF i)) #[] #[]] 121)
    have kq := World.alloc_heap_new W3 (.cells #[.int .i64 (qC i : Nat), .func (.func (qF i)) #[] #[]] 121)
    have hB34 := (Below.refl _ W3).alloc (Nat.le_refl _) (.cells #[.int .i64 (qC i : Nat), .func (.func (qF i)) #[] #[]] 121)
    by_cases hc : ns.length = qC i
    · have hS := said_all i hq x p (.slice va ns.length vc) row ns (W3.alloc (.cells #[.int .i64 (qC i : Nat), .func (.func (qF i)) #[] #[]] 121)) (hx1.below hB14) hs (hI3.below hB34) hc hns (hE1.below hB14)
      have hOe := hide (hO1.out hc)
      rw [hc] at hS ⊢
      rcases (show i = 0 ∨ i = 1 ∨ i = 2 ∨ i = 3 ∨ i = 4 ∨ i = 5 ∨ i = 6 ∨ i = 7 ∨ i = 8 ∨ i = 9 ∨ i = 10 ∨ i = 11 by omega) with rfl | rfl | rfl | rfl | rfl | rfl | rfl | rfl | rfl | rfl | rfl | rfl
      · have e1 : qV 0 = .agg #[.int .i64 0, .func (.func 125) #[] #[]] := rfl
        have e2 : (((qC 0 : Nat) : Int)) = 0 := rfl
        have e3 : qF 0 = 125 := rfl
        have e4 : qC 0 = 0 := rfl
        rw [e1] at hlook
        simp only [e2, e3] at hS kq hB14 hB34
        rw [e4] at hS ⊢
        obtain ⟨W4, hW4⟩ : ∃ W4, W3.alloc (.cells #[.int .i64 0, .func (.func 125) #[] #[]] 121) = W4 := ⟨_, rfl⟩
        rw [hW4] at hS kq hB14 hB34
        have d0 := (hB14.cell (p := ⟨w.heap.size, 0, none⟩) hb0).trans c0
        have d1 := (hB14.cell (p := ⟨w.heap.size, 1, none⟩) hb0).trans c1
        obtain ⟨m0, m1, _, _⟩ := row_at kq
        have hBf := hB0.trans (hB14.mono hB0.size)
        obtain ⟨R, hR⟩ : ∃ R, str (qA row ns 0) = R := ⟨_, rfl⟩
        rw [hR] at hS
        have hRe := hide (show str OUT = R by rw [hOe.out, hR])
        clear hO1 hO2 hOe hB0 hx1 hE1 hB2 hB3 hB13 hB14 hB34 hI3 c0 c1 kq hR e1 e2 e3 e4 hs hns hc
        go_wp2_with (go_at_call 125; refine hS.mono ?_; clear hS; rintro e W5 ⟨rfl, hB5⟩)
        go_ret
        exact ⟨by rw [hRe.out]; rfl, hBf.trans (hB5.mono hBf.size)⟩
      · have e1 : qV 1 = .agg #[.int .i64 0, .func (.func 126) #[] #[]] := rfl
        have e2 : (((qC 1 : Nat) : Int)) = 0 := rfl
        have e3 : qF 1 = 126 := rfl
        have e4 : qC 1 = 0 := rfl
        rw [e1] at hlook
        simp only [e2, e3] at hS kq hB14 hB34
        rw [e4] at hS ⊢
        obtain ⟨W4, hW4⟩ : ∃ W4, W3.alloc (.cells #[.int .i64 0, .func (.func 126) #[] #[]] 121) = W4 := ⟨_, rfl⟩
        rw [hW4] at hS kq hB14 hB34
        have d0 := (hB14.cell (p := ⟨w.heap.size, 0, none⟩) hb0).trans c0
        have d1 := (hB14.cell (p := ⟨w.heap.size, 1, none⟩) hb0).trans c1
        obtain ⟨m0, m1, _, _⟩ := row_at kq
        have hBf := hB0.trans (hB14.mono hB0.size)
        obtain ⟨R, hR⟩ : ∃ R, str (qA row ns 1) = R := ⟨_, rfl⟩
        rw [hR] at hS
        have hRe := hide (show str OUT = R by rw [hOe.out, hR])
        clear hO1 hO2 hOe hB0 hx1 hE1 hB2 hB3 hB13 hB14 hB34 hI3 c0 c1 kq hR e1 e2 e3 e4 hs hns hc
        go_wp2_with (go_at_call 126; refine hS.mono ?_; clear hS; rintro e W5 ⟨rfl, hB5⟩)
        go_ret
        exact ⟨by rw [hRe.out]; rfl, hBf.trans (hB5.mono hBf.size)⟩
      · have e1 : qV 2 = .agg #[.int .i64 0, .func (.func 127) #[] #[]] := rfl
        have e2 : (((qC 2 : Nat) : Int)) = 0 := rfl
        have e3 : qF 2 = 127 := rfl
        have e4 : qC 2 = 0 := rfl
        rw [e1] at hlook
        simp only [e2, e3] at hS kq hB14 hB34
        rw [e4] at hS ⊢
        obtain ⟨W4, hW4⟩ : ∃ W4, W3.alloc (.cells #[.int .i64 0, .func (.func 127) #[] #[]] 121) = W4 := ⟨_, rfl⟩
        rw [hW4] at hS kq hB14 hB34
        have d0 := (hB14.cell (p := ⟨w.heap.size, 0, none⟩) hb0).trans c0
        have d1 := (hB14.cell (p := ⟨w.heap.size, 1, none⟩) hb0).trans c1
        obtain ⟨m0, m1, _, _⟩ := row_at kq
        have hBf := hB0.trans (hB14.mono hB0.size)
        obtain ⟨R, hR⟩ : ∃ R, str (qA row ns 2) = R := ⟨_, rfl⟩
        rw [hR] at hS
        have hRe := hide (show str OUT = R by rw [hOe.out, hR])
        clear hO1 hO2 hOe hB0 hx1 hE1 hB2 hB3 hB13 hB14 hB34 hI3 c0 c1 kq hR e1 e2 e3 e4 hs hns hc
        go_wp2_with (go_at_call 127; refine hS.mono ?_; clear hS; rintro e W5 ⟨rfl, hB5⟩)
        go_ret
        exact ⟨by rw [hRe.out]; rfl, hBf.trans (hB5.mono hBf.size)⟩
      · have e1 : qV 3 = .agg #[.int .i64 0, .func (.func 128) #[] #[]] := rfl
        have e2 : (((qC 3 : Nat) : Int)) = 0 := rfl
        have e3 : qF 3 = 128 := rfl
        have e4 : qC 3 = 0 := rfl
        rw [e1] at hlook
        simp only [e2, e3] at hS kq hB14 hB34
        rw [e4] at hS ⊢
        obtain ⟨W4, hW4⟩ : ∃ W4, W3.alloc (.cells #[.int .i64 0, .func (.func 128) #[] #[]] 121) = W4 := ⟨_, rfl⟩
        rw [hW4] at hS kq hB14 hB34
        have d0 := (hB14.cell (p := ⟨w.heap.size, 0, none⟩) hb0).trans c0
        have d1 := (hB14.cell (p := ⟨w.heap.size, 1, none⟩) hb0).trans c1
        obtain ⟨m0, m1, _, _⟩ := row_at kq
        have hBf := hB0.trans (hB14.mono hB0.size)
        obtain ⟨R, hR⟩ : ∃ R, str (qA row ns 3) = R := ⟨_, rfl⟩
        rw [hR] at hS
        have hRe := hide (show str OUT = R by rw [hOe.out, hR])
        clear hO1 hO2 hOe hB0 hx1 hE1 hB2 hB3 hB13 hB14 hB34 hI3 c0 c1 kq hR e1 e2 e3 e4 hs hns hc
        go_wp2_with (go_at_call 128; refine hS.mono ?_; clear hS; rintro e W5 ⟨rfl, hB5⟩)
        go_ret
        exact ⟨by rw [hRe.out]; rfl, hBf.trans (hB5.mono hBf.size)⟩
      · have e1 : qV 4 = .agg #[.int .i64 0, .func (.func 129) #[] #[]] := rfl
        have e2 : (((qC 4 : Nat) : Int)) = 0 := rfl
        have e3 : qF 4 = 129 := rfl
        have e4 : qC 4 = 0 := rfl
        rw [e1] at hlook
        simp only [e2, e3] at hS kq hB14 hB34
        rw [e4] at hS ⊢
        obtain ⟨W4, hW4⟩ : ∃ W4, W3.alloc (.cells #[.int .i64 0, .func (.func 129) #[] #[]] 121) = W4 := ⟨_, rfl⟩
        rw [hW4] at hS kq hB14 hB34
        have d0 := (hB14.cell (p := ⟨w.heap.size, 0, none⟩) hb0).trans c0
        have d1 := (hB14.cell (p := ⟨w.heap.size, 1, none⟩) hb0).trans c1
        obtain ⟨m0, m1, _, _⟩ := row_at kq
        have hBf := hB0.trans (hB14.mono hB0.size)
        obtain ⟨R, hR⟩ : ∃ R, str (qA row ns 4) = R := ⟨_, rfl⟩
        rw [hR] at hS
        have hRe := hide (show str OUT = R by rw [hOe.out, hR])
        clear hO1 hO2 hOe hB0 hx1 hE1 hB2 hB3 hB13 hB14 hB34 hI3 c0 c1 kq hR e1 e2 e3 e4 hs hns hc
        go_wp2_with (go_at_call 129; refine hS.mono ?_; clear hS; rintro e W5 ⟨rfl, hB5⟩)
        go_ret
        exact ⟨by rw [hRe.out]; rfl, hBf.trans (hB5.mono hBf.size)⟩
      · have e1 : qV 5 = .agg #[.int .i64 1, .func (.func 130) #[] #[]] := rfl
        have e2 : (((qC 5 : Nat) : Int)) = 1 := rfl
        have e3 : qF 5 = 130 := rfl
        have e4 : qC 5 = 1 := rfl
        rw [e1] at hlook
        simp only [e2, e3] at hS kq hB14 hB34
        rw [e4] at hS ⊢
        obtain ⟨W4, hW4⟩ : ∃ W4, W3.alloc (.cells #[.int .i64 1, .func (.func 130) #[] #[]] 121) = W4 := ⟨_, rfl⟩
        rw [hW4] at hS kq hB14 hB34
        have d0 := (hB14.cell (p := ⟨w.heap.size, 0, none⟩) hb0).trans c0
        have d1 := (hB14.cell (p := ⟨w.heap.size, 1, none⟩) hb0).trans c1
        obtain ⟨m0, m1, _, _⟩ := row_at kq
        have hBf := hB0.trans (hB14.mono hB0.size)
        obtain ⟨R, hR⟩ : ∃ R, str (qA row ns 5) = R := ⟨_, rfl⟩
        rw [hR] at hS
        have hRe := hide (show str OUT = R by rw [hOe.out, hR])
        clear hO1 hO2 hOe hB0 hx1 hE1 hB2 hB3 hB13 hB14 hB34 hI3 c0 c1 kq hR e1 e2 e3 e4 hs hns hc
        go_wp2_with (go_at_call 130; refine hS.mono ?_; clear hS; rintro e W5 ⟨rfl, hB5⟩)
        go_ret
        exact ⟨by rw [hRe.out]; rfl, hBf.trans (hB5.mono hBf.size)⟩
      · have e1 : qV 6 = .agg #[.int .i64 1, .func (.func 131) #[] #[]] := rfl
        have e2 : (((qC 6 : Nat) : Int)) = 1 := rfl
        have e3 : qF 6 = 131 := rfl
        have e4 : qC 6 = 1 := rfl
        rw [e1] at hlook
        simp only [e2, e3] at hS kq hB14 hB34
        rw [e4] at hS ⊢
        obtain ⟨W4, hW4⟩ : ∃ W4, W3.alloc (.cells #[.int .i64 1, .func (.func 131) #[] #[]] 121) = W4 := ⟨_, rfl⟩
        rw [hW4] at hS kq hB14 hB34
        have d0 := (hB14.cell (p := ⟨w.heap.size, 0, none⟩) hb0).trans c0
        have d1 := (hB14.cell (p := ⟨w.heap.size, 1, none⟩) hb0).trans c1
        obtain ⟨m0, m1, _, _⟩ := row_at kq
        have hBf := hB0.trans (hB14.mono hB0.size)
        obtain ⟨R, hR⟩ : ∃ R, str (qA row ns 6) = R := ⟨_, rfl⟩
        rw [hR] at hS
        have hRe := hide (show str OUT = R by rw [hOe.out, hR])
        clear hO1 hO2 hOe hB0 hx1 hE1 hB2 hB3 hB13 hB14 hB34 hI3 c0 c1 kq hR e1 e2 e3 e4 hs hns hc
        go_wp2_with (go_at_call 131; refine hS.mono ?_; clear hS; rintro e W5 ⟨rfl, hB5⟩)
        go_ret
        exact ⟨by rw [hRe.out]; rfl, hBf.trans (hB5.mono hBf.size)⟩
      · have e1 : qV 7 = .agg #[.int .i64 2, .func (.func 132) #[] #[]] := rfl
        have e2 : (((qC 7 : Nat) : Int)) = 2 := rfl
        have e3 : qF 7 = 132 := rfl
        have e4 : qC 7 = 2 := rfl
        rw [e1] at hlook
        simp only [e2, e3] at hS kq hB14 hB34
        rw [e4] at hS ⊢
        obtain ⟨W4, hW4⟩ : ∃ W4, W3.alloc (.cells #[.int .i64 2, .func (.func 132) #[] #[]] 121) = W4 := ⟨_, rfl⟩
        rw [hW4] at hS kq hB14 hB34
        have d0 := (hB14.cell (p := ⟨w.heap.size, 0, none⟩) hb0).trans c0
        have d1 := (hB14.cell (p := ⟨w.heap.size, 1, none⟩) hb0).trans c1
        obtain ⟨m0, m1, _, _⟩ := row_at kq
        have hBf := hB0.trans (hB14.mono hB0.size)
        obtain ⟨R, hR⟩ : ∃ R, str (qA row ns 7) = R := ⟨_, rfl⟩
        rw [hR] at hS
        have hRe := hide (show str OUT = R by rw [hOe.out, hR])
        clear hO1 hO2 hOe hB0 hx1 hE1 hB2 hB3 hB13 hB14 hB34 hI3 c0 c1 kq hR e1 e2 e3 e4 hs hns hc
        go_wp2_with (go_at_call 132; refine hS.mono ?_; clear hS; rintro e W5 ⟨rfl, hB5⟩)
        go_ret
        exact ⟨by rw [hRe.out]; rfl, hBf.trans (hB5.mono hBf.size)⟩
      · have e1 : qV 8 = .agg #[.int .i64 2, .func (.func 133) #[] #[]] := rfl
        have e2 : (((qC 8 : Nat) : Int)) = 2 := rfl
        have e3 : qF 8 = 133 := rfl
        have e4 : qC 8 = 2 := rfl
        rw [e1] at hlook
        simp only [e2, e3] at hS kq hB14 hB34
        rw [e4] at hS ⊢
        obtain ⟨W4, hW4⟩ : ∃ W4, W3.alloc (.cells #[.int .i64 2, .func (.func 133) #[] #[]] 121) = W4 := ⟨_, rfl⟩
        rw [hW4] at hS kq hB14 hB34
        have d0 := (hB14.cell (p := ⟨w.heap.size, 0, none⟩) hb0).trans c0
        have d1 := (hB14.cell (p := ⟨w.heap.size, 1, none⟩) hb0).trans c1
        obtain ⟨m0, m1, _, _⟩ := row_at kq
        have hBf := hB0.trans (hB14.mono hB0.size)
        obtain ⟨R, hR⟩ : ∃ R, str (qA row ns 8) = R := ⟨_, rfl⟩
        rw [hR] at hS
        have hRe := hide (show str OUT = R by rw [hOe.out, hR])
        clear hO1 hO2 hOe hB0 hx1 hE1 hB2 hB3 hB13 hB14 hB34 hI3 c0 c1 kq hR e1 e2 e3 e4 hs hns hc
        go_wp2_with (go_at_call 133; refine hS.mono ?_; clear hS; rintro e W5 ⟨rfl, hB5⟩)
        go_ret
        exact ⟨by rw [hRe.out]; rfl, hBf.trans (hB5.mono hBf.size)⟩
      · have e1 : qV 9 = .agg #[.int .i64 3, .func (.func 134) #[] #[]] := rfl
        have e2 : (((qC 9 : Nat) : Int)) = 3 := rfl
        have e3 : qF 9 = 134 := rfl
        have e4 : qC 9 = 3 := rfl
        rw [e1] at hlook
        simp only [e2, e3] at hS kq hB14 hB34
        rw [e4] at hS ⊢
        obtain ⟨W4, hW4⟩ : ∃ W4, W3.alloc (.cells #[.int .i64 3, .func (.func 134) #[] #[]] 121) = W4 := ⟨_, rfl⟩
        rw [hW4] at hS kq hB14 hB34
        have d0 := (hB14.cell (p := ⟨w.heap.size, 0, none⟩) hb0).trans c0
        have d1 := (hB14.cell (p := ⟨w.heap.size, 1, none⟩) hb0).trans c1
        obtain ⟨m0, m1, _, _⟩ := row_at kq
        have hBf := hB0.trans (hB14.mono hB0.size)
        obtain ⟨R, hR⟩ : ∃ R, str (qA row ns 9) = R := ⟨_, rfl⟩
        rw [hR] at hS
        have hRe := hide (show str OUT = R by rw [hOe.out, hR])
        clear hO1 hO2 hOe hB0 hx1 hE1 hB2 hB3 hB13 hB14 hB34 hI3 c0 c1 kq hR e1 e2 e3 e4 hs hns hc
        go_wp2_with (go_at_call 134; refine hS.mono ?_; clear hS; rintro e W5 ⟨rfl, hB5⟩)
        go_ret
        exact ⟨by rw [hRe.out]; rfl, hBf.trans (hB5.mono hBf.size)⟩
      · have e1 : qV 10 = .agg #[.int .i64 3, .func (.func 135) #[] #[]] := rfl
        have e2 : (((qC 10 : Nat) : Int)) = 3 := rfl
        have e3 : qF 10 = 135 := rfl
        have e4 : qC 10 = 3 := rfl
        rw [e1] at hlook
        simp only [e2, e3] at hS kq hB14 hB34
        rw [e4] at hS ⊢
        obtain ⟨W4, hW4⟩ : ∃ W4, W3.alloc (.cells #[.int .i64 3, .func (.func 135) #[] #[]] 121) = W4 := ⟨_, rfl⟩
        rw [hW4] at hS kq hB14 hB34
        have d0 := (hB14.cell (p := ⟨w.heap.size, 0, none⟩) hb0).trans c0
        have d1 := (hB14.cell (p := ⟨w.heap.size, 1, none⟩) hb0).trans c1
        obtain ⟨m0, m1, _, _⟩ := row_at kq
        have hBf := hB0.trans (hB14.mono hB0.size)
        obtain ⟨R, hR⟩ : ∃ R, str (qA row ns 10) = R := ⟨_, rfl⟩
        rw [hR] at hS
        have hRe := hide (show str OUT = R by rw [hOe.out, hR])
        clear hO1 hO2 hOe hB0 hx1 hE1 hB2 hB3 hB13 hB14 hB34 hI3 c0 c1 kq hR e1 e2 e3 e4 hs hns hc
        go_wp2_with (go_at_call 135; refine hS.mono ?_; clear hS; rintro e W5 ⟨rfl, hB5⟩)
        go_ret
        exact ⟨by rw [hRe.out]; rfl, hBf.trans (hB5.mono hBf.size)⟩
      · have e1 : qV 11 = .agg #[.int .i64 3, .func (.func 136) #[] #[]] := rfl
        have e2 : (((qC 11 : Nat) : Int)) = 3 := rfl
        have e3 : qF 11 = 136 := rfl
        have e4 : qC 11 = 3 := rfl
        rw [e1] at hlook
        simp only [e2, e3] at hS kq hB14 hB34
        rw [e4] at hS ⊢
        obtain ⟨W4, hW4⟩ : ∃ W4, W3.alloc (.cells #[.int .i64 3, .func (.func 136) #[] #[]] 121) = W4 := ⟨_, rfl⟩
        rw [hW4] at hS kq hB14 hB34
        have d0 := (hB14.cell (p := ⟨w.heap.size, 0, none⟩) hb0).trans c0
        have d1 := (hB14.cell (p := ⟨w.heap.size, 1, none⟩) hb0).trans c1
        obtain ⟨m0, m1, _, _⟩ := row_at kq
        have hBf := hB0.trans (hB14.mono hB0.size)
        obtain ⟨R, hR⟩ : ∃ R, str (qA row ns 11) = R := ⟨_, rfl⟩
        rw [hR] at hS
        have hRe := hide (show str OUT = R by rw [hOe.out, hR])
        clear hO1 hO2 hOe hB0 hx1 hE1 hB2 hB3 hB13 hB14 hB34 hI3 c0 c1 kq hR e1 e2 e3 e4 hs hns hc
        go_wp2_with (go_at_call 136; refine hS.mono ?_; clear hS; rintro e W5 ⟨rfl, hB5⟩)
        go_ret
        exact ⟨by rw [hRe.out]; rfl, hBf.trans (hB5.mono hBf.size)⟩
    · have hWe := hide (show str OUT = ⟨#[119, 104, 97, 116]⟩ by rw [hO2.out hc]; kernel_rfl)
      have hci : ¬ ((ns.length : Nat) : Int) = ((qC i : Nat) : Int) := by omega
      unfold qV at hlook
      obtain ⟨m0, m1, _, _⟩ := row_at kq
      have hBf := hB0.trans (hB14.mono hB0.size)
      obtain ⟨N, hN⟩ : ∃ N, ns.length = N := ⟨_, rfl⟩
      obtain ⟨K, hK⟩ : ∃ K, qC i = K := ⟨_, rfl⟩
      obtain ⟨F, hF⟩ : ∃ F, qF i = F := ⟨_, rfl⟩
      rw [hN, hK] at hci
      rw [hN]
      rw [hK, hF] at hlook m0 m1 hBf
      have hne : ((N : Int) == (K : Int)) = false := by rw [beq_eq_false_iff_ne]; exact hci
      clear hO1 hO2 hB0 hx1 hE1 hB2 hB3 hB13 hB14 hB34 hI3 c0 c1 kq hN hK hF hs hns hc
      go_wp2
      go_ret
      exact ⟨by rw [hWe.out]; rfl, hBf⟩
  · obtain rfl := hv2 hq
    rw [decide_eq_false hq] at hlook
    have hWe := hide (show str OUT = ⟨#[119, 104, 97, 116]⟩ by rw [← hO.out, if_neg (fun h => hq h.1)]; kernel_rfl)
    have hB14 := hB13.alloc hB13.size (.cells #[.int .i64 0, .nilFunc] 121)
    have hBf := hB0.trans (hB14.mono hB0.size)
    clear hO hB0 hx1 hE1 hB2 hB3 hB13 hB14 hI3 c0 c1 hs hns hv1 hv2 hXW
    go_wp2
    go_ret
    exact ⟨by rw [hWe.out]; rfl, hBf⟩
end Go.Proofs.YtiaaefapbcjgmaaGreatDoor
namespace Go.Proofs.YtiaaefapbcjgmaaGreatDoor
open Go Go.RowKit Go.Shelf
attribute [local go_sem] Oper.semAt_some

theorem rdV_some {l : List Nat} {k n : Int} (h : rdV l = ((k, n), true)) : readD l = some (k, n) ∧ Fits k ∧ Fits n := by
  unfold rdV at h
  cases hr : readD l with
  | none => rw [hr] at h; cases h
  | some a =>
    rw [hr] at h
    obtain ⟨h1, h2⟩ := readD_text hr
    have h3 := deedT_is (k := a.1) (n := a.2) (by rw [h2]; exact h1)
    simp only [Prod.mk.injEq, and_true] at h
    subst h
    refine ⟨rfl, ?_⟩
    unfold isD at h3
    simp only at h3
    exact ⟨by constructor <;> omega, by constructor <;> omega⟩

theorem rdV_none' {l : List Nat} {k n : Int} (h : rdV l = ((k, n), false)) : readD l = none := by
  unfold rdV at h
  cases hr : readD l with
  | none => rfl
  | some a => rw [hr] at h; cases h

set_option maxRecDepth 100000 in
set_option maxHeartbeats 4000000 in
theorem implLine_deed (x p : Value) (d : Dk) (l : List Nat) (w : World) (hx : Ints w x d.1) (hp : PastI w p d.2) (hcap : CapP (.agg #[x, p])) (hb : deskB d = true) (hl : ∀ c ∈ l, c < 256) (hn : l.length ≤ 1100000) (hE : Env w) (k n : Int) (hr : rdV l = ((k, n), true)) :
    Calls Tryz.prog 14 #[.agg #[x, p], .string (str l)] w fun e w' => ∃ y, e = .returned (.tuple #[y, .string (str (lineV d l).2)]) ∧ OwnDk w' w.heap.size y (lineV d l).1 ∧ Below w.heap.size w w' := by
  obtain ⟨hrd, hk, hm⟩ := rdV_some hr
  rw [lineV_deed hb hrd]
  simp only
  obtain ⟨hd1, hd2, hd3⟩ := deskB_is.1 hb
  have hl1 := sideB_len hd2
  have hB : Below w.heap.size w ((w.alloc (.cells #[x, p] 31)).alloc (.cells #[.slice none 0 0, .slice none 0 0] 31)) := ((Below.refl _ w).alloc (Nat.le_refl _) _).alloc (by rw [World.size_alloc]; omega) _
  have k0 : ((w.alloc (.cells #[x, p] 31)).alloc (.cells #[.slice none 0 0, .slice none 0 0] 31)).heap[w.heap.size]? = some (.cells #[x, p] 31 (0, 0)) := (Below.heap_alloc _ _ _ (by rw [World.size_alloc]; omega)).trans (World.alloc_heap_new w _)
  have k1 := World.alloc_heap_new (w.alloc (.cells #[x, p] 31)) (.cells #[.slice none 0 0, .slice none 0 0] 31)
  rw [World.size_alloc] at k1
  have hsz : w.heap.size + 2 ≤ ((w.alloc (.cells #[x, p] 31)).alloc (.cells #[.slice none 0 0, .slice none 0 0] 31)).heap.size := by simp
  obtain ⟨W1, hW1⟩ : ∃ W1, (w.alloc (.cells #[x, p] 31)).alloc (.cells #[.slice none 0 0, .slice none 0 0] 31) = W1 := ⟨_, rfl⟩
  rw [hW1] at hB k0 k1 hsz
  have hOK := implDeskOk (.agg #[x, p]) d W1 ⟨x, p, rfl, hx.below hB, hp.below hB⟩ (deskB_size hb)
  rw [hb] at hOK
  have hKp := fun V (hV : Below w.heap.size w V) => deskOf_in x p d.1 d.2 V (hx.below hV) hl1.1 hl1.2 (hp.below hV) hd3 (fun j hj => sideB_len (hd1 _ (by rw [List.getD, List.getElem?_eq_getElem hj]; exact List.getElem_mem hj)))
  have hRd := fun V hV => implReadDeed l hl hn V hV
  have hAn := fun V (hV : Below w.heap.size w V) => answered_in x p d.1 l V (hx.below hV) hd2 hl hn (hE.below hV)
  rw [ans_qa hd2] at hAn
  have hDo := fun k n (hk : Fits k) (hn : Fits n) V (hV : Below w.heap.size w V) => implDo (.agg #[x, p]) d k n V ⟨x, p, rfl, hx.below hV, hp.below hV⟩ hcap (deskB_size hb) hk hn
  have hDo' := hDo k n hk hm
  clear hDo
  obtain ⟨D, hD⟩ : ∃ D, (doV d k n).1 = D := ⟨_, rfl⟩
  obtain ⟨bb, hbb⟩ : ∃ bb, (doV d k n).2 = bb := ⟨_, rfl⟩
  rw [hD, hbb] at hDo' ⊢
  have hEw := fun V (hV : Below w.heap.size w V) => hE.below hV
  rw [hr] at hRd
  simp only at hRd
  unfold dV at hRd
  obtain ⟨xa, xc, rfl⟩ := hx.shape
  obtain ⟨pa, pc, rfl, _⟩ := id hp
  obtain ⟨LS, hLS⟩ : ∃ LS, str l = LS := ⟨_, rfl⟩
  rw [hLS] at hRd hAn ⊢
  obtain ⟨c0, c1, _, _⟩ := row_at k0
  have l0 := (Array.getElem?_eq_some_iff.1 k0).1
  have l1 := (Array.getElem?_eq_some_iff.1 k1).1
  clear hx hp hd1 hcap hE hLS hD hbb
  refine (callsIn_wide (n := 9)).1 ?_
  refine callsIn_of_wp Tryz.func14 rfl trivial ?_ rfl
  simp only [Tryz.ntmps14, List.size_toArray, List.length_cons, List.length_nil, Nat.reduceAdd, Nat.reduceSub, Array.replicate_succ, Array.replicate_zero, List.push_toArray, List.append_toArray, List.nil_append, List.cons_append]
  gi_wp2_with fail
  refine ⟨trivial, ?_⟩
  gi_at_call 23
  refine (callsIn_wide.2 hOK).mono ?_
  rintro e W2 ⟨rfl, hB2⟩
  have hB02 := hB.trans (hB2.mono hB.size)
  have k02 := (hB2.block _ l0).trans k0
  have k12 := (hB2.block _ l1).trans k1
  have hsz2 := Nat.le_trans hsz hB2.size
  clear hOK hB2 k0 k1 l0 l1 hB hsz c0 c1
  gi_wp2_with fail
  refine ⟨trivial, ?_⟩
  gi_at_call 46
  refine (callsIn_wide.2 (hRd _ (hEw _ hB02))).mono ?_
  rintro e W3 ⟨rfl, hB3⟩
  have hB03 := hB02.trans (hB3.mono hB02.size)
  have k03 := (hB3.block _ (Array.getElem?_eq_some_iff.1 k02).1).trans k02
  have k13 := (hB3.block _ (Array.getElem?_eq_some_iff.1 k12).1).trans k12
  have hsz3 := Nat.le_trans hsz2 hB3.size
  clear hRd hEw hB3 hB02 k02 k12 hsz2
  have hB04 := hB03.alloc hB03.size (.cells #[.int .i64 k, .int .i64 n] 39)
  have hB34 := (Below.refl _ W3).alloc (Nat.le_refl _) (.cells #[.int .i64 k, .int .i64 n] 39)
  have kd := World.alloc_heap_new W3 (.cells #[.int .i64 k, .int .i64 n] 39)
  have hsz4 := Nat.le_trans hsz3 hB34.size
  have k04 := (hB34.block _ (Array.getElem?_eq_some_iff.1 k03).1).trans k03
  have k14 := (hB34.block _ (Array.getElem?_eq_some_iff.1 k13).1).trans k13
  obtain ⟨c0, c1, _, _⟩ := row_at k04
  obtain ⟨r0, r1, f0, f1⟩ := row_at k14
  obtain ⟨e0, e1, _, _⟩ := row_at kd
  have hDo4 := hDo' _ hB04
  unfold dV at hDo4
  obtain ⟨W4, hW4⟩ : ∃ W4, W3.alloc (.cells #[.int .i64 k, .int .i64 n] 39) = W4 := ⟨_, rfl⟩
  rw [hW4] at hB04 hB34 kd hsz4 k04 k14 c0 c1 r0 r1 f0 f1 e0 e1 hDo4
  clear hDo' hAn hKp hrd hk hm hr hB03 k03 k13 hsz3 hB34
  gi_wp2_with fail
  refine ⟨trivial, ?_⟩
  gi_at_call 54
  refine (callsIn_wide.2 hDo4).mono ?_
  rintro e W5 ⟨y, rfl, hy, hB5⟩
  obtain ⟨y1, y2, y3, y4, rfl⟩ := hy.form
  obtain ⟨m1, hm1⟩ : ∃ m1, D.1.length = m1 := ⟨_, rfl⟩
  obtain ⟨m2, hm2⟩ : ∃ m2, D.2.length = m2 := ⟨_, rfl⟩
  rw [hm1, hm2] at hy ⊢
  have hB05 := hB04.trans (hB5.mono hB04.size)
  have k15 := (hB5.block _ (Array.getElem?_eq_some_iff.1 k14).1).trans k14
  have hsz5 := Nat.le_trans hsz4 hB5.size
  have hB56 := (Below.refl _ W5).alloc (Nat.le_refl _) (.cells #[.slice y1 m1 y2, .slice y3 m2 y4] 31)
  have hB06 := hB05.alloc hB05.size (.cells #[.slice y1 m1 y2, .slice y3 m2 y4] 31)
  have ky := World.alloc_heap_new W5 (.cells #[.slice y1 m1 y2, .slice y3 m2 y4] 31)
  have k16 := (hB56.block _ (Array.getElem?_eq_some_iff.1 k15).1).trans k15
  have hy6 := (hy.down (base' := w.heap.size + 2) hsz4).below hB56
  obtain ⟨W6, hW6⟩ : ∃ W6, W5.alloc (.cells #[.slice y1 m1 y2, .slice y3 m2 y4] 31) = W6 := ⟨_, rfl⟩
  rw [hW6] at hB06 ky k16 hy6
  obtain ⟨g0, g1, _, _⟩ := row_at ky
  obtain ⟨r0, r1, f0, f1⟩ := row_at k16
  have hrs := hide (desk_set k16 (.slice y1 m1 y2) (.slice y3 m2 y4))
  have hown := hide (hy6.result (b := w.heap.size + 1) (base' := w.heap.size) (by omega) (by omega))
  have hBl := hide ((hB06.setCell (p := ⟨w.heap.size + 1, 0, none⟩) (Nat.le_succ _) (.slice y1 m1 y2)).setCell (p := ⟨w.heap.size + 1, 1, none⟩) (Nat.le_succ _) (.slice y3 m2 y4))
  clear hDo4 hB04 kd hsz4 k04 k14 c0 c1 e0 e1 hy hB5 hB05 k15 hsz5 hB56 hB06 ky k16 hy6 hm1 hm2
  cases bb
  all_goals
    gi_wp2
    (try simp only [Exit.inBlock, Exit.then])
    exact bodyPost_ret (results_desk2 rfl _ _ (w.heap.size + 1) _ _ rfl hrs.out) rfl ⟨_, rfl, hown.out, hBl.out⟩

set_option maxRecDepth 100000 in
set_option maxHeartbeats 4000000 in
theorem implLine_ask (x p : Value) (d : Dk) (l : List Nat) (w : World) (hx : Ints w x d.1) (hp : PastI w p d.2) (hcap : CapP (.agg #[x, p])) (hb : deskB d = true) (hl : ∀ c ∈ l, c < 256) (hn : l.length ≤ 1100000) (hE : Env w) (k n : Int) (hr : rdV l = ((k, n), false)) :
    Calls Tryz.prog 14 #[.agg #[x, p], .string (str l)] w fun e w' => ∃ y, e = .returned (.tuple #[y, .string (str (lineV d l).2)]) ∧ OwnDk w' w.heap.size y (lineV d l).1 ∧ Below w.heap.size w w' := by
  have hrd := rdV_none' hr
  rw [lineV_ask hb hrd]
  simp only
  obtain ⟨hd1, hd2, hd3⟩ := deskB_is.1 hb
  have hl1 := sideB_len hd2
  have hB : Below w.heap.size w ((w.alloc (.cells #[x, p] 31)).alloc (.cells #[.slice none 0 0, .slice none 0 0] 31)) := ((Below.refl _ w).alloc (Nat.le_refl _) _).alloc (by rw [World.size_alloc]; omega) _
  have k0 : ((w.alloc (.cells #[x, p] 31)).alloc (.cells #[.slice none 0 0, .slice none 0 0] 31)).heap[w.heap.size]? = some (.cells #[x, p] 31 (0, 0)) := (Below.heap_alloc _ _ _ (by rw [World.size_alloc]; omega)).trans (World.alloc_heap_new w _)
  have k1 := World.alloc_heap_new (w.alloc (.cells #[x, p] 31)) (.cells #[.slice none 0 0, .slice none 0 0] 31)
  rw [World.size_alloc] at k1
  have hsz : w.heap.size + 2 ≤ ((w.alloc (.cells #[x, p] 31)).alloc (.cells #[.slice none 0 0, .slice none 0 0] 31)).heap.size := by simp
  obtain ⟨W1, hW1⟩ : ∃ W1, (w.alloc (.cells #[x, p] 31)).alloc (.cells #[.slice none 0 0, .slice none 0 0] 31) = W1 := ⟨_, rfl⟩
  rw [hW1] at hB k0 k1 hsz
  have hOK := implDeskOk (.agg #[x, p]) d W1 ⟨x, p, rfl, hx.below hB, hp.below hB⟩ (deskB_size hb)
  rw [hb] at hOK
  have hKp := fun V (hV : Below w.heap.size w V) => deskOf_in x p d.1 d.2 V (hx.below hV) hl1.1 hl1.2 (hp.below hV) hd3 (fun j hj => sideB_len (hd1 _ (by rw [List.getD, List.getElem?_eq_getElem hj]; exact List.getElem_mem hj)))
  have hRd := fun V hV => implReadDeed l hl hn V hV
  have hAn := fun V (hV : Below w.heap.size w V) => answered_in x p d.1 l V (hx.below hV) hd2 hl hn (hE.below hV)
  rw [ans_qa hd2] at hAn
  have hDo := fun k n (hk : Fits k) (hn : Fits n) V (hV : Below w.heap.size w V) => implDo (.agg #[x, p]) d k n V ⟨x, p, rfl, hx.below hV, hp.below hV⟩ hcap (deskB_size hb) hk hn
  obtain ⟨RS, hRS⟩ : ∃ RS, str (qaV d.1 l) = RS := ⟨_, rfl⟩
  rw [hRS] at hAn ⊢
  have hEw := fun V (hV : Below w.heap.size w V) => hE.below hV
  rw [hr] at hRd
  simp only at hRd
  unfold dV at hRd
  obtain ⟨xa, xc, rfl⟩ := hx.shape
  obtain ⟨pa, pc, rfl, _⟩ := id hp
  obtain ⟨LS, hLS⟩ : ∃ LS, str l = LS := ⟨_, rfl⟩
  rw [hLS] at hRd hAn ⊢
  obtain ⟨c0, c1, _, _⟩ := row_at k0
  have l0 := (Array.getElem?_eq_some_iff.1 k0).1
  have l1 := (Array.getElem?_eq_some_iff.1 k1).1
  clear hx hp hd1 hcap hE hLS hRS
  refine (callsIn_wide (n := 9)).1 ?_
  refine callsIn_of_wp Tryz.func14 rfl trivial ?_ rfl
  simp only [Tryz.ntmps14, List.size_toArray, List.length_cons, List.length_nil, Nat.reduceAdd, Nat.reduceSub, Array.replicate_succ, Array.replicate_zero, List.push_toArray, List.append_toArray, List.nil_append, List.cons_append]
  gi_wp2_with fail
  refine ⟨trivial, ?_⟩
  gi_at_call 23
  refine (callsIn_wide.2 hOK).mono ?_
  rintro e W2 ⟨rfl, hB2⟩
  have hB02 := hB.trans (hB2.mono hB.size)
  have k02 := (hB2.block _ l0).trans k0
  have k12 := (hB2.block _ l1).trans k1
  have hsz2 := Nat.le_trans hsz hB2.size
  clear hOK hB2 k0 k1 l0 l1 hB hsz c0 c1
  gi_wp2_with fail
  refine ⟨trivial, ?_⟩
  gi_at_call 46
  refine (callsIn_wide.2 (hRd _ (hEw _ hB02))).mono ?_
  rintro e W3 ⟨rfl, hB3⟩
  have hB03 := hB02.trans (hB3.mono hB02.size)
  have k03 := (hB3.block _ (Array.getElem?_eq_some_iff.1 k02).1).trans k02
  have k13 := (hB3.block _ (Array.getElem?_eq_some_iff.1 k12).1).trans k12
  have hsz3 := Nat.le_trans hsz2 hB3.size
  clear hRd hEw hB3 hB02 k02 k12 hsz2
  have hB04 := hB03.alloc hB03.size (.cells #[.int .i64 k, .int .i64 n] 39)
  have hB34 := (Below.refl _ W3).alloc (Nat.le_refl _) (.cells #[.int .i64 k, .int .i64 n] 39)
  have kd := World.alloc_heap_new W3 (.cells #[.int .i64 k, .int .i64 n] 39)
  have hsz4 := Nat.le_trans hsz3 hB34.size
  have k04 := (hB34.block _ (Array.getElem?_eq_some_iff.1 k03).1).trans k03
  have k14 := (hB34.block _ (Array.getElem?_eq_some_iff.1 k13).1).trans k13
  obtain ⟨c0, c1, _, _⟩ := row_at k04
  obtain ⟨r0, r1, f0, f1⟩ := row_at k14
  obtain ⟨e0, e1, _, _⟩ := row_at kd
  obtain ⟨W4, hW4⟩ : ∃ W4, W3.alloc (.cells #[.int .i64 k, .int .i64 n] 39) = W4 := ⟨_, rfl⟩
  rw [hW4] at hB04 hB34 kd hsz4 k04 k14 c0 c1 r0 r1 f0 f1 e0 e1
  clear hDo hrd hr hB03 k03 k13 hsz3 hB34
  gi_wp2
  refine wpIn_region_put 8 [(some 21, 0), (some 22, 1), (some 23, 2), (some 24, 3), (some 25, 4), (some 26, 5), (some 27, 6), (some 28, 7)] (by kernel_rfl) (by kernel_rfl) (by kernel_rfl) (by decide) (by rfl) (by decide)
    (fun j v V => match j with | 0 => v = .pointer (some ⟨w.heap.size, 0, none⟩) | 1 => v = .slice xa d.1.length xc | 2 => v = .pointer (some ⟨w.heap.size, 1, none⟩) | 3 => v = .slice pa d.2.length pc | 4 => OwnDk V (w.heap.size + 2) v d | 5 => v = .agg #[.slice xa d.1.length xc, .slice pa d.2.length pc] | 6 => v = .string LS | 7 => v = .string RS | _ => True)
    (fun j v V V' h hB => match j, h with | 0, h => h | 1, h => h | 2, h => h | 3, h => h | 4, h => OwnDk.below h hB | 5, h => h | 6, h => h | 7, h => h | (_ + 8), _ => trivial)
    ?_ ?_
  · rintro j oo s V hj ho hBV hd Q' hQ
    have hB0V := hB04.trans (hBV.mono hB04.size)
    obtain ⟨c0, c1, _, _⟩ := row_at ((hBV.block _ (Array.getElem?_eq_some_iff.1 k04).1).trans k04)
    have zV := hBV.size
    rcases (show j = 0 ∨ j = 1 ∨ j = 2 ∨ j = 3 ∨ j = 4 ∨ j = 5 ∨ j = 6 ∨ j = 7 by omega) with rfl | rfl | rfl | rfl | rfl | rfl | rfl | rfl
    all_goals
      simp at ho
      subst ho
      simp only [putsOf, Act.put, List.setIfInBounds_toArray, List.set_cons_succ, List.set_cons_zero] at hQ ⊢
      have hQ' := hide hQ
      clear hQ
    · clear hd
      gi_wp2
      exact hQ'.out _ _ (Below.refl _ _) rfl
    · have q1 : s 0 = .pointer (some ⟨w.heap.size, 0, none⟩) := hd 0 (by kernel_rfl)
      clear hd
      gi_wp2
      have hr := hQ'.out
      simp only [q1] at hr ⊢
      exact hr _ _ (Below.refl _ _) rfl
    · clear hd
      gi_wp2
      exact hQ'.out _ _ (Below.refl _ _) rfl
    · have q1 : s 2 = .pointer (some ⟨w.heap.size, 1, none⟩) := hd 2 (by kernel_rfl)
      clear hd
      gi_wp2
      have hr := hQ'.out
      simp only [q1] at hr ⊢
      exact hr _ _ (Below.refl _ _) rfl
    · have q1 : s 1 = .slice xa d.1.length xc := hd 1 (by kernel_rfl)
      have q2 : s 3 = .slice pa d.2.length pc := hd 3 (by kernel_rfl)
      have hK := hKp V hB0V
      clear hd
      gi_wp2_with (refine ⟨trivial, ?_⟩; gi_at_call 52; go_loud (refine (callsIn_wide.2 hK).mono ?_; rintro e W9 ⟨u9, rfl, ho9, hB9⟩))
      have hr := hQ'.out
      simp only [q1, q2] at hr ⊢
      exact hr _ _ hB9 (ho9.down (by omega))
    · clear hd
      gi_wp2
      exact hQ'.out _ _ (Below.refl _ _) rfl
    · clear hd
      gi_wp2
      exact hQ'.out _ _ (Below.refl _ _) rfl
    · have q1 : s 5 = .agg #[.slice xa d.1.length xc, .slice pa d.2.length pc] := hd 5 (by kernel_rfl)
      have q2 : s 6 = .string LS := hd 6 (by kernel_rfl)
      have hA := hAn V hB0V
      clear hd
      gi_wp2_with (refine ⟨trivial, ?_⟩; gi_at_call 53; go_loud (refine (callsIn_wide.2 hA).mono ?_; rintro e W9 ⟨rfl, hB9⟩))
      have hr := hQ'.out
      simp only [q1, q2] at hr ⊢
      exact hr _ _ hB9 rfl
  · rintro s V hBV hd
    have q4 : OwnDk V (w.heap.size + 2) (s 4) d := hd 4 (by omega)
    have q7 : s 7 = .string RS := hd 7 (by omega)
    clear hd
    obtain ⟨y1, y2, y3, y4, hy4⟩ := q4.form
    rw [hy4] at q4
    have k1V := (hBV.block _ (Array.getElem?_eq_some_iff.1 k14).1).trans k14
    obtain ⟨r0, r1, f0, f1⟩ := row_at k1V
    have hB0V := hB04.trans (hBV.mono hB04.size)
    have hrs := hide (desk_set k1V (.slice y1 d.1.length y2) (.slice y3 d.2.length y4))
    have hown := hide (q4.result (b := w.heap.size + 1) (base' := w.heap.size) (by omega) (by omega))
    have hBl := hide ((hB0V.setCell (p := ⟨w.heap.size + 1, 0, none⟩) (Nat.le_succ _) (.slice y1 d.1.length y2)).setCell (p := ⟨w.heap.size + 1, 1, none⟩) (Nat.le_succ _) (.slice y3 d.2.length y4))
    clear q4 k1V hB0V hKp hAn
    simp only [putsOf, Act.put, List.setIfInBounds_toArray, List.set_cons_succ, List.set_cons_zero]
    simp only [List.drop_succ_cons, List.drop_zero]
    simp only [hy4, q7]
    gi_wp2
    (try simp only [Exit.inBlock, Exit.then])
    exact bodyPost_ret (results_desk2 rfl _ _ (w.heap.size + 1) _ _ rfl hrs.out) rfl ⟨_, rfl, hown.out, hBl.out⟩

theorem implLine_in (x p : Value) (d : Dk) (l : List Nat) (w : World) (hx : Ints w x d.1) (hp : PastI w p d.2) (hcap : CapP (.agg #[x, p])) (hb : deskB d = true) (hl : ∀ c ∈ l, c < 256) (hn : l.length ≤ 1100000) (hE : Env w) :
    Calls Tryz.prog 14 #[.agg #[x, p], .string (str l)] w fun e w' => ∃ y, e = .returned (.tuple #[y, .string (str (lineV d l).2)]) ∧ OwnDk w' w.heap.size y (lineV d l).1 ∧ Below w.heap.size w w' := by
  obtain ⟨⟨⟨k, n⟩, b⟩, hr⟩ : ∃ r, rdV l = r := ⟨_, rfl⟩
  cases b with
  | true => exact implLine_deed x p d l w hx hp hcap hb hl hn hE k n hr
  | false => exact implLine_ask x p d l w hx hp hcap hb hl hn hE k n hr

set_option maxRecDepth 100000 in
set_option maxHeartbeats 1000000 in
theorem implLine_no (x p : Value) (d : Dk) (l : List Nat) (w : World) (hx : Ints w x d.1) (hp : PastI w p d.2) (hs : DkS d) (hb : deskB d = false) :
    Calls Tryz.prog 14 #[.agg #[x, p], .string (str l)] w fun e w' => ∃ y, e = .returned (.tuple #[y, .string (str (lineV d l).2)]) ∧ OwnDk w' w.heap.size y (lineV d l).1 ∧ Below w.heap.size w w' := by
  rw [lineV_no hb]
  simp only
  rw [str_nil]
  have hB : Below w.heap.size w ((w.alloc (.cells #[x, p] 31)).alloc (.cells #[.slice none 0 0, .slice none 0 0] 31)) := ((Below.refl _ w).alloc (Nat.le_refl _) _).alloc (by rw [World.size_alloc]; omega) _
  have k0 : ((w.alloc (.cells #[x, p] 31)).alloc (.cells #[.slice none 0 0, .slice none 0 0] 31)).heap[w.heap.size]? = some (.cells #[x, p] 31 (0, 0)) := (Below.heap_alloc _ _ _ (by rw [World.size_alloc]; omega)).trans (World.alloc_heap_new w _)
  have k1 := World.alloc_heap_new (w.alloc (.cells #[x, p] 31)) (.cells #[.slice none 0 0, .slice none 0 0] 31)
  rw [World.size_alloc] at k1
  have hsz : w.heap.size + 2 ≤ ((w.alloc (.cells #[x, p] 31)).alloc (.cells #[.slice none 0 0, .slice none 0 0] 31)).heap.size := by simp
  obtain ⟨W1, hW1⟩ : ∃ W1, (w.alloc (.cells #[x, p] 31)).alloc (.cells #[.slice none 0 0, .slice none 0 0] 31) = W1 := ⟨_, rfl⟩
  rw [hW1] at hB k0 k1 hsz
  have hOK := implDeskOk (.agg #[x, p]) d W1 ⟨x, p, rfl, hx.below hB, hp.below hB⟩ hs
  rw [hb] at hOK
  obtain ⟨xa, xc, rfl⟩ := hx.shape
  obtain ⟨pa, pc, rfl, _⟩ := id hp
  obtain ⟨LS, hLS⟩ : ∃ LS, str l = LS := ⟨_, rfl⟩
  rw [hLS]
  obtain ⟨c0, c1, _, _⟩ := row_at k0
  have l0 := (Array.getElem?_eq_some_iff.1 k0).1
  have l1 := (Array.getElem?_eq_some_iff.1 k1).1
  clear hx hp hs hLS
  go_enter Tryz.func14, Tryz.ntmps14
  go_wp2_with (go_at_call 23; go_loud (refine hOK.mono ?_; clear hOK; rintro e W2 ⟨rfl, hB2⟩; have zres := (hB2.block _ l1).trans k1; obtain ⟨c0, c1, _, _⟩ := row_at ((hB2.block _ l0).trans k0); obtain ⟨r0, r1, f0, f1⟩ := row_at zres))
  (try simp only [Exit.inBlock, Exit.then])
  have hB3 := hB.trans (hB2.mono hB.size)
  have hz := hB2.size
  exact bodyPost_ret (results_desk2 rfl _ _ (w.heap.size + 1) _ _ rfl (desk_set zres (.slice none 0 0) (.slice none 0 0))) rfl ⟨_, rfl, (OwnDk.none W2 (w.heap.size + 2) (by omega)).result (b := w.heap.size + 1) (base' := w.heap.size) (by omega) (by omega), (hB3.setCell (p := ⟨w.heap.size + 1, 0, none⟩) (Nat.le_succ _) _).setCell (p := ⟨w.heap.size + 1, 1, none⟩) (Nat.le_succ _) _⟩

theorem implLine (v : Value) (d : Dk) (l : List Nat) (w : World) (hv : DeskI w v d) (hcap : CapP v) (hs : DkS d) (hl : ∀ c ∈ l, c < 256) (hn : l.length ≤ 1100000) (hE : Env w) :
    Calls Tryz.prog 14 #[v, .string (str l)] w fun e w' => ∃ y, e = .returned (.tuple #[y, .string (str (lineV d l).2)]) ∧ OwnDk w' w.heap.size y (lineV d l).1 ∧ Below w.heap.size w w' := by
  obtain ⟨x, p, rfl, hx, hp⟩ := hv
  cases hb : deskB d with
  | true => exact implLine_in x p d l w hx hp hcap hb hl hn hE
  | false => exact implLine_no x p d l w hx hp hs hb
end Go.Proofs.YtiaaefapbcjgmaaGreatDoor
namespace Go.Proofs.YtiaaefapbcjgmaaGreatDoor
open Go.RowKit Go.BigFrame

theorem specNum (n : Int) (h0 : 0 ≤ n) (h1 : n ≤ 1000000000000000000) (w : World) : Calls Tryz.prog 67 #[.int .i64 n] w fun e w' => e = .returned (.string (str (decI n))) ∧ Below w.heap.size w w' := by
  obtain ⟨u, rfl⟩ : ∃ u : Nat, n = u := ⟨n.toNat, by omega⟩
  exact specNumber 20 u (Nat.lt_of_le_of_lt (show u ≤ 1000000000000000000 by omega) (by decide)) (by omega) (by omega) w

theorem specTold (n : Int) (h1 : n ≤ 1000000000000000000) (w : World) : Calls Tryz.prog 112 #[.int .i64 n] w fun e w' => e = .returned (.string (str (toldI n))) ∧ Below w.heap.size w w' := by
  by_cases h0 : n < 0
  · have e : toldI n = [110, 111, 110, 101] := by unfold toldI; rw [if_pos h0]
    rw [e]
    go_enter Tryz.func112, Tryz.ntmps112
    go_wp2
    go_ret
    exact ⟨rfl, Below.refl _ _⟩
  · rw [toldI_dec (by omega)]
    have hI := specNum n (by omega) h1 w
    obtain ⟨X, hX⟩ : ∃ X, str (decI n) = X := ⟨_, rfl⟩
    rw [hX] at hI ⊢
    go_enter Tryz.func112, Tryz.ntmps112
    go_wp2_with (go_at_call 67; refine hI.mono ?_; rintro e w1 ⟨rfl, hB⟩)
    go_ret
    exact ⟨rfl, hB⟩

set_option maxHeartbeats 1000000 in
theorem ask_cell (a b : Int) (v : Value) (w : World) (hv : Ints w v [a, b]) : Calls Tryz.prog 73 #[.string ⟨#[99, 101, 108, 108]⟩, v] w fun e w' => e = .returned (.string (str (toldI (cellV a b)))) ∧ Below w.heap.size w w' := by
  obtain ⟨g, cap, rfl, hg, hc⟩ : ∃ g cap, v = .slice (some ⟨g, 0, none⟩) 2 cap ∧ g < w.heap.size ∧ ∀ i, i < 2 → w.cell? ⟨g, i, none⟩ = some (.int .i64 ([a, b].getD i 0)) := by
    rcases hv with ⟨_, _, _, h⟩ | ⟨g, cap, rfl, h1, h2⟩
    · cases h
    · exact ⟨g, cap, rfl, h1, h2⟩
  have q0 : ∀ m : After w, m.now.cell? ⟨g, 0, none⟩ = some (.int .i64 a) := fun m => (m.ok.cell (p := ⟨g, 0, none⟩) hg).trans (hc 0 (by omega))
  have q1 : ∀ m : After w, m.now.cell? ⟨g, 1, none⟩ = some (.int .i64 b) := fun m => (m.ok.cell (p := ⟨g, 1, none⟩) hg).trans (hc 1 (by omega))
  have hO := fun m : After w => specCell a b m.now
  have hT := fun m : After w => specTold (cellV a b) (cellV_big a b) m.now
  obtain ⟨N, hN⟩ : ∃ N, cellV a b = N := ⟨_, rfl⟩
  rw [hN] at hT ⊢
  simp only [hN] at hO
  obtain ⟨S, hS⟩ : ∃ S, str (toldI N) = S := ⟨_, rfl⟩
  rw [hS] at hT ⊢
  clear hv hN hS hc hg
  go_enter Tryz.func73, Tryz.ntmps73
  go_wp2
  refine wp_region_below w (by kernel_rfl) (by kernel_rfl) (Below.refl _ _) ?_
  repeat (go_big_quiet_step (first | (go_at_call 113; exact after_of (hO _)) | (go_at_call 112; exact after_of (hT _))))
  refine wpQuiet_nil ?_
  rintro _ ⟨nq, rfl⟩
  go_wp2
  go_ret
  exact ⟨rfl, nq.ok⟩

theorem ask_cell_not (p : Option Addr) (n c : Nat) (hn : ¬ n = 2) (w : World) : Calls Tryz.prog 73 #[.string ⟨#[99, 101, 108, 108]⟩, .slice p n c] w fun e w' => e = .returned (.string (str whatT)) ∧ Below w.heap.size w w' := by
  have hni : ((n : Int) == 2) = false := by rw [beq_eq_false_iff_ne]; omega
  have hni2 : ¬ (n : Int) = 2 := by omega
  have hs : str whatT = ⟨#[119, 104, 97, 116]⟩ := by kernel_rfl
  rw [hs]
  go_enter Tryz.func73, Tryz.ntmps73
  go_wp2
  go_ret
  exact ⟨rfl, Below.refl _ _⟩

set_option maxHeartbeats 1000000 in
theorem ask_shared (a : Int) (v : Value) (w : World) (hv : Ints w v [a]) : Calls Tryz.prog 73 #[.string ⟨#[115, 104, 97, 114, 101, 100]⟩, v] w fun e w' => e = .returned (.string (str (toldI (sharedV a)))) ∧ Below w.heap.size w w' := by
  obtain ⟨g, cap, rfl, hg, hc⟩ : ∃ g cap, v = .slice (some ⟨g, 0, none⟩) 1 cap ∧ g < w.heap.size ∧ ∀ i, i < 1 → w.cell? ⟨g, i, none⟩ = some (.int .i64 ([a].getD i 0)) := by
    rcases hv with ⟨_, _, _, h⟩ | ⟨g, cap, rfl, h1, h2⟩
    · cases h
    · exact ⟨g, cap, rfl, h1, h2⟩
  have q0 : ∀ m : After w, m.now.cell? ⟨g, 0, none⟩ = some (.int .i64 a) := fun m => (m.ok.cell (p := ⟨g, 0, none⟩) hg).trans (hc 0 (by omega))
  have hO := fun m : After w => specShared a m.now
  have hT := fun m : After w => specTold (sharedV a) (sharedV_big a) m.now
  obtain ⟨N, hN⟩ : ∃ N, sharedV a = N := ⟨_, rfl⟩
  rw [hN] at hT ⊢
  simp only [hN] at hO
  obtain ⟨S, hS⟩ : ∃ S, str (toldI N) = S := ⟨_, rfl⟩
  rw [hS] at hT ⊢
  clear hv hN hS hc hg
  have r0 := q0 ⟨w, Below.refl _ _⟩
  have hO1 := hO ⟨w, Below.refl _ _⟩
  simp only at r0 hO1
  go_enter Tryz.func73, Tryz.ntmps73
  go_wp2_with fail
  go_at_call 114
  refine hO1.mono ?_
  rintro e W2 ⟨rfl, hB2⟩
  have hT2 := hT ⟨W2, hB2⟩
  simp only at hT2
  go_wp2_with fail
  go_at_call 112
  refine hT2.mono ?_
  rintro e W3 ⟨rfl, hB3⟩
  go_wp2
  go_ret
  exact ⟨rfl, hB2.trans (hB3.mono hB2.size)⟩

theorem ask_shared_not (p : Option Addr) (n c : Nat) (hn : ¬ n = 1) (w : World) : Calls Tryz.prog 73 #[.string ⟨#[115, 104, 97, 114, 101, 100]⟩, .slice p n c] w fun e w' => e = .returned (.string (str whatT)) ∧ Below w.heap.size w w' := by
  have hni : ((n : Int) == 1) = false := by rw [beq_eq_false_iff_ne]; omega
  have hni2 : ¬ (n : Int) = 1 := by omega
  have hs : str whatT = ⟨#[119, 104, 97, 116]⟩ := by kernel_rfl
  rw [hs]
  go_enter Tryz.func73, Tryz.ntmps73
  go_wp2
  go_ret
  exact ⟨rfl, Below.refl _ _⟩

set_option maxHeartbeats 1000000 in
theorem ask_ways (a : Int) (v : Value) (w : World) (hv : Ints w v [a]) : Calls Tryz.prog 73 #[.string ⟨#[119, 97, 121, 115]⟩, v] w fun e w' => e = .returned (.string (str (toldI (waysV a)))) ∧ Below w.heap.size w w' := by
  obtain ⟨g, cap, rfl, hg, hc⟩ : ∃ g cap, v = .slice (some ⟨g, 0, none⟩) 1 cap ∧ g < w.heap.size ∧ ∀ i, i < 1 → w.cell? ⟨g, i, none⟩ = some (.int .i64 ([a].getD i 0)) := by
    rcases hv with ⟨_, _, _, h⟩ | ⟨g, cap, rfl, h1, h2⟩
    · cases h
    · exact ⟨g, cap, rfl, h1, h2⟩
  have q0 : ∀ m : After w, m.now.cell? ⟨g, 0, none⟩ = some (.int .i64 a) := fun m => (m.ok.cell (p := ⟨g, 0, none⟩) hg).trans (hc 0 (by omega))
  have hO := fun m : After w => specWaysOf a m.now
  have hT := fun m : After w => specTold (waysV a) (waysV_big a) m.now
  obtain ⟨N, hN⟩ : ∃ N, waysV a = N := ⟨_, rfl⟩
  rw [hN] at hT ⊢
  simp only [hN] at hO
  obtain ⟨S, hS⟩ : ∃ S, str (toldI N) = S := ⟨_, rfl⟩
  rw [hS] at hT ⊢
  clear hv hN hS hc hg
  have r0 := q0 ⟨w, Below.refl _ _⟩
  have hO1 := hO ⟨w, Below.refl _ _⟩
  simp only at r0 hO1
  go_enter Tryz.func73, Tryz.ntmps73
  go_wp2_with fail
  go_at_call 115
  refine hO1.mono ?_
  rintro e W2 ⟨rfl, hB2⟩
  have hT2 := hT ⟨W2, hB2⟩
  simp only at hT2
  go_wp2_with fail
  go_at_call 112
  refine hT2.mono ?_
  rintro e W3 ⟨rfl, hB3⟩
  go_wp2
  go_ret
  exact ⟨rfl, hB2.trans (hB3.mono hB2.size)⟩

theorem ask_ways_not (p : Option Addr) (n c : Nat) (hn : ¬ n = 1) (w : World) : Calls Tryz.prog 73 #[.string ⟨#[119, 97, 121, 115]⟩, .slice p n c] w fun e w' => e = .returned (.string (str whatT)) ∧ Below w.heap.size w w' := by
  have hni : ((n : Int) == 1) = false := by rw [beq_eq_false_iff_ne]; omega
  have hni2 : ¬ (n : Int) = 1 := by omega
  have hs : str whatT = ⟨#[119, 104, 97, 116]⟩ := by kernel_rfl
  rw [hs]
  go_enter Tryz.func73, Tryz.ntmps73
  go_wp2
  go_ret
  exact ⟨rfl, Below.refl _ _⟩

set_option maxHeartbeats 1000000 in
theorem ask_kept (a b : Int) (v : Value) (w : World) (hv : Ints w v [a, b]) : Calls Tryz.prog 73 #[.string ⟨#[107, 101, 112, 116]⟩, v] w fun e w' => e = .returned (.string (str (toldI (keepV a b)))) ∧ Below w.heap.size w w' := by
  obtain ⟨g, cap, rfl, hg, hc⟩ : ∃ g cap, v = .slice (some ⟨g, 0, none⟩) 2 cap ∧ g < w.heap.size ∧ ∀ i, i < 2 → w.cell? ⟨g, i, none⟩ = some (.int .i64 ([a, b].getD i 0)) := by
    rcases hv with ⟨_, _, _, h⟩ | ⟨g, cap, rfl, h1, h2⟩
    · cases h
    · exact ⟨g, cap, rfl, h1, h2⟩
  have q0 : ∀ m : After w, m.now.cell? ⟨g, 0, none⟩ = some (.int .i64 a) := fun m => (m.ok.cell (p := ⟨g, 0, none⟩) hg).trans (hc 0 (by omega))
  have q1 : ∀ m : After w, m.now.cell? ⟨g, 1, none⟩ = some (.int .i64 b) := fun m => (m.ok.cell (p := ⟨g, 1, none⟩) hg).trans (hc 1 (by omega))
  have hO := fun m : After w => specLeftIn a b m.now
  have hT := fun m : After w => specTold (keepV a b) (keepV_big a b) m.now
  obtain ⟨N, hN⟩ : ∃ N, keepV a b = N := ⟨_, rfl⟩
  rw [hN] at hT ⊢
  simp only [hN] at hO
  obtain ⟨S, hS⟩ : ∃ S, str (toldI N) = S := ⟨_, rfl⟩
  rw [hS] at hT ⊢
  clear hv hN hS hc hg
  go_enter Tryz.func73, Tryz.ntmps73
  go_wp2
  refine wp_region_below w (by kernel_rfl) (by kernel_rfl) (Below.refl _ _) ?_
  repeat (go_big_quiet_step (first | (go_at_call 116; exact after_of_same (hO _)) | (go_at_call 112; exact after_of (hT _))))
  refine wpQuiet_nil ?_
  rintro _ ⟨nq, rfl⟩
  go_wp2
  go_ret
  exact ⟨rfl, nq.ok⟩

theorem ask_kept_not (p : Option Addr) (n c : Nat) (hn : ¬ n = 2) (w : World) : Calls Tryz.prog 73 #[.string ⟨#[107, 101, 112, 116]⟩, .slice p n c] w fun e w' => e = .returned (.string (str whatT)) ∧ Below w.heap.size w w' := by
  have hni : ((n : Int) == 2) = false := by rw [beq_eq_false_iff_ne]; omega
  have hni2 : ¬ (n : Int) = 2 := by omega
  have hs : str whatT = ⟨#[119, 104, 97, 116]⟩ := by kernel_rfl
  rw [hs]
  go_enter Tryz.func73, Tryz.ntmps73
  go_wp2
  go_ret
  exact ⟨rfl, Below.refl _ _⟩

set_option maxHeartbeats 1000000 in
theorem ask_left (a b c : Int) (v : Value) (w : World) (hv : Ints w v [a, b, c]) : Calls Tryz.prog 73 #[.string ⟨#[108, 101, 102, 116]⟩, v] w fun e w' => e = .returned (.string (str (toldI (leftV a b c)))) ∧ Below w.heap.size w w' := by
  obtain ⟨g, cap, rfl, hg, hc⟩ : ∃ g cap, v = .slice (some ⟨g, 0, none⟩) 3 cap ∧ g < w.heap.size ∧ ∀ i, i < 3 → w.cell? ⟨g, i, none⟩ = some (.int .i64 ([a, b, c].getD i 0)) := by
    rcases hv with ⟨_, _, _, h⟩ | ⟨g, cap, rfl, h1, h2⟩
    · cases h
    · exact ⟨g, cap, rfl, h1, h2⟩
  have q0 : ∀ m : After w, m.now.cell? ⟨g, 0, none⟩ = some (.int .i64 a) := fun m => (m.ok.cell (p := ⟨g, 0, none⟩) hg).trans (hc 0 (by omega))
  have q1 : ∀ m : After w, m.now.cell? ⟨g, 1, none⟩ = some (.int .i64 b) := fun m => (m.ok.cell (p := ⟨g, 1, none⟩) hg).trans (hc 1 (by omega))
  have q2 : ∀ m : After w, m.now.cell? ⟨g, 2, none⟩ = some (.int .i64 c) := fun m => (m.ok.cell (p := ⟨g, 2, none⟩) hg).trans (hc 2 (by omega))
  have hO := fun m : After w => specLeft a b c m.now
  have hT := fun m : After w => specTold (leftV a b c) (leftV_big a b c) m.now
  obtain ⟨N, hN⟩ : ∃ N, leftV a b c = N := ⟨_, rfl⟩
  rw [hN] at hT ⊢
  simp only [hN] at hO
  obtain ⟨S, hS⟩ : ∃ S, str (toldI N) = S := ⟨_, rfl⟩
  rw [hS] at hT ⊢
  clear hv hN hS hc hg
  go_enter Tryz.func73, Tryz.ntmps73
  go_wp2
  refine wp_region_below w (by kernel_rfl) (by kernel_rfl) (Below.refl _ _) ?_
  repeat (go_big_quiet_step (first | (go_at_call 117; exact after_of (hO _)) | (go_at_call 112; exact after_of (hT _))))
  refine wpQuiet_nil ?_
  rintro _ ⟨nq, rfl⟩
  go_wp2
  go_ret
  exact ⟨rfl, nq.ok⟩

theorem ask_left_not (p : Option Addr) (n c : Nat) (hn : ¬ n = 3) (w : World) : Calls Tryz.prog 73 #[.string ⟨#[108, 101, 102, 116]⟩, .slice p n c] w fun e w' => e = .returned (.string (str whatT)) ∧ Below w.heap.size w w' := by
  have hni : ((n : Int) == 3) = false := by rw [beq_eq_false_iff_ne]; omega
  have hni2 : ¬ (n : Int) = 3 := by omega
  have hs : str whatT = ⟨#[119, 104, 97, 116]⟩ := by kernel_rfl
  rw [hs]
  go_enter Tryz.func73, Tryz.ntmps73
  go_wp2
  go_ret
  exact ⟨rfl, Below.refl _ _⟩

set_option maxHeartbeats 1000000 in
theorem ask_often (a b c : Int) (v : Value) (w : World) (hv : Ints w v [a, b, c]) : Calls Tryz.prog 73 #[.string ⟨#[111, 102, 116, 101, 110]⟩, v] w fun e w' => e = .returned (.string (str (toldI (cellTV a b c)))) ∧ Below w.heap.size w w' := by
  obtain ⟨g, cap, rfl, hg, hc⟩ : ∃ g cap, v = .slice (some ⟨g, 0, none⟩) 3 cap ∧ g < w.heap.size ∧ ∀ i, i < 3 → w.cell? ⟨g, i, none⟩ = some (.int .i64 ([a, b, c].getD i 0)) := by
    rcases hv with ⟨_, _, _, h⟩ | ⟨g, cap, rfl, h1, h2⟩
    · cases h
    · exact ⟨g, cap, rfl, h1, h2⟩
  have q0 : ∀ m : After w, m.now.cell? ⟨g, 0, none⟩ = some (.int .i64 a) := fun m => (m.ok.cell (p := ⟨g, 0, none⟩) hg).trans (hc 0 (by omega))
  have q1 : ∀ m : After w, m.now.cell? ⟨g, 1, none⟩ = some (.int .i64 b) := fun m => (m.ok.cell (p := ⟨g, 1, none⟩) hg).trans (hc 1 (by omega))
  have q2 : ∀ m : After w, m.now.cell? ⟨g, 2, none⟩ = some (.int .i64 c) := fun m => (m.ok.cell (p := ⟨g, 2, none⟩) hg).trans (hc 2 (by omega))
  have hO := fun m : After w => specCellT a b c m.now
  have hT := fun m : After w => specTold (cellTV a b c) (cellTV_big a b c) m.now
  obtain ⟨N, hN⟩ : ∃ N, cellTV a b c = N := ⟨_, rfl⟩
  rw [hN] at hT ⊢
  simp only [hN] at hO
  obtain ⟨S, hS⟩ : ∃ S, str (toldI N) = S := ⟨_, rfl⟩
  rw [hS] at hT ⊢
  clear hv hN hS hc hg
  go_enter Tryz.func73, Tryz.ntmps73
  go_wp2
  refine wp_region_below w (by kernel_rfl) (by kernel_rfl) (Below.refl _ _) ?_
  repeat (go_big_quiet_step (first | (go_at_call 118; exact after_of_same (hO _)) | (go_at_call 112; exact after_of (hT _))))
  refine wpQuiet_nil ?_
  rintro _ ⟨nq, rfl⟩
  go_wp2
  go_ret
  exact ⟨rfl, nq.ok⟩

theorem ask_often_not (p : Option Addr) (n c : Nat) (hn : ¬ n = 3) (w : World) : Calls Tryz.prog 73 #[.string ⟨#[111, 102, 116, 101, 110]⟩, .slice p n c] w fun e w' => e = .returned (.string (str whatT)) ∧ Below w.heap.size w w' := by
  have hni : ((n : Int) == 3) = false := by rw [beq_eq_false_iff_ne]; omega
  have hni2 : ¬ (n : Int) = 3 := by omega
  have hs : str whatT = ⟨#[119, 104, 97, 116]⟩ := by kernel_rfl
  rw [hs]
  go_enter Tryz.func73, Tryz.ntmps73
  go_wp2
  go_ret
  exact ⟨rfl, Below.refl _ _⟩

set_option maxHeartbeats 1000000 in
theorem ask_carries (a b c : Int) (v : Value) (w : World) (hv : Ints w v [a, b, c]) : Calls Tryz.prog 73 #[.string ⟨#[99, 97, 114, 114, 105, 101, 115]⟩, v] w fun e w' => e = .returned (.string (str (toldI (carriesV a b c)))) ∧ Below w.heap.size w w' := by
  obtain ⟨g, cap, rfl, hg, hc⟩ : ∃ g cap, v = .slice (some ⟨g, 0, none⟩) 3 cap ∧ g < w.heap.size ∧ ∀ i, i < 3 → w.cell? ⟨g, i, none⟩ = some (.int .i64 ([a, b, c].getD i 0)) := by
    rcases hv with ⟨_, _, _, h⟩ | ⟨g, cap, rfl, h1, h2⟩
    · cases h
    · exact ⟨g, cap, rfl, h1, h2⟩
  have q0 : ∀ m : After w, m.now.cell? ⟨g, 0, none⟩ = some (.int .i64 a) := fun m => (m.ok.cell (p := ⟨g, 0, none⟩) hg).trans (hc 0 (by omega))
  have q1 : ∀ m : After w, m.now.cell? ⟨g, 1, none⟩ = some (.int .i64 b) := fun m => (m.ok.cell (p := ⟨g, 1, none⟩) hg).trans (hc 1 (by omega))
  have q2 : ∀ m : After w, m.now.cell? ⟨g, 2, none⟩ = some (.int .i64 c) := fun m => (m.ok.cell (p := ⟨g, 2, none⟩) hg).trans (hc 2 (by omega))
  have hO := fun m : After w => specCarries a b c m.now
  have hT := fun m : After w => specTold (carriesV a b c) (carriesV_big a b c) m.now
  obtain ⟨N, hN⟩ : ∃ N, carriesV a b c = N := ⟨_, rfl⟩
  rw [hN] at hT ⊢
  simp only [hN] at hO
  obtain ⟨S, hS⟩ : ∃ S, str (toldI N) = S := ⟨_, rfl⟩
  rw [hS] at hT ⊢
  clear hv hN hS hc hg
  go_enter Tryz.func73, Tryz.ntmps73
  go_wp2
  refine wp_region_below w (by kernel_rfl) (by kernel_rfl) (Below.refl _ _) ?_
  repeat (go_big_quiet_step (first | (go_at_call 119; exact after_of (hO _)) | (go_at_call 112; exact after_of (hT _))))
  refine wpQuiet_nil ?_
  rintro _ ⟨nq, rfl⟩
  go_wp2
  go_ret
  exact ⟨rfl, nq.ok⟩

theorem ask_carries_not (p : Option Addr) (n c : Nat) (hn : ¬ n = 3) (w : World) : Calls Tryz.prog 73 #[.string ⟨#[99, 97, 114, 114, 105, 101, 115]⟩, .slice p n c] w fun e w' => e = .returned (.string (str whatT)) ∧ Below w.heap.size w w' := by
  have hni : ((n : Int) == 3) = false := by rw [beq_eq_false_iff_ne]; omega
  have hni2 : ¬ (n : Int) = 3 := by omega
  have hs : str whatT = ⟨#[119, 104, 97, 116]⟩ := by kernel_rfl
  rw [hs]
  go_enter Tryz.func73, Tryz.ntmps73
  go_wp2
  go_ret
  exact ⟨rfl, Below.refl _ _⟩

set_option maxRecDepth 100000 in
set_option maxHeartbeats 1000000 in
theorem ask_none (S : ByteArray) (p : Option Addr) (n c : Nat) (w : World)
    (h7 : ¬ S = ⟨#[99, 101, 108, 108]⟩)
    (h5 : ¬ S = ⟨#[115, 104, 97, 114, 101, 100]⟩)
    (h6 : ¬ S = ⟨#[119, 97, 121, 115]⟩)
    (h8 : ¬ S = ⟨#[107, 101, 112, 116]⟩)
    (h9 : ¬ S = ⟨#[108, 101, 102, 116]⟩)
    (h10 : ¬ S = ⟨#[111, 102, 116, 101, 110]⟩)
    (h11 : ¬ S = ⟨#[99, 97, 114, 114, 105, 101, 115]⟩)
    : Calls Tryz.prog 73 #[.string S, .slice p n c] w fun e w' => e = .returned (.string (str whatT)) ∧ Below w.heap.size w w' := by
  have hs : str whatT = ⟨#[119, 104, 97, 116]⟩ := by kernel_rfl
  rw [hs]
  have e7 : ¬ S.toList = [99, 101, 108, 108] := by simpa using (Lib.bytes_beq_false_iff S ⟨#[99, 101, 108, 108]⟩).2 h7
  have e5 : ¬ S.toList = [115, 104, 97, 114, 101, 100] := by simpa using (Lib.bytes_beq_false_iff S ⟨#[115, 104, 97, 114, 101, 100]⟩).2 h5
  have e6 : ¬ S.toList = [119, 97, 121, 115] := by simpa using (Lib.bytes_beq_false_iff S ⟨#[119, 97, 121, 115]⟩).2 h6
  have e8 : ¬ S.toList = [107, 101, 112, 116] := by simpa using (Lib.bytes_beq_false_iff S ⟨#[107, 101, 112, 116]⟩).2 h8
  have e9 : ¬ S.toList = [108, 101, 102, 116] := by simpa using (Lib.bytes_beq_false_iff S ⟨#[108, 101, 102, 116]⟩).2 h9
  have e10 : ¬ S.toList = [111, 102, 116, 101, 110] := by simpa using (Lib.bytes_beq_false_iff S ⟨#[111, 102, 116, 101, 110]⟩).2 h10
  have e11 : ¬ S.toList = [99, 97, 114, 114, 105, 101, 115] := by simpa using (Lib.bytes_beq_false_iff S ⟨#[99, 97, 114, 114, 105, 101, 115]⟩).2 h11
  clear h5 h6 h7 h8 h9 h10 h11
  go_enter Tryz.func73, Tryz.ntmps73
  go_wp2
  go_ret
  exact ⟨rfl, Below.refl _ _⟩

theorem specAsk (p : List Nat) (hp : ∀ x ∈ p, x < 256) (ns : List Int) (v : Value) (w : World) (hv : Ints w v ns) : Calls Tryz.prog 73 #[.string (str p), v] w fun e w' => e = .returned (.string (str (askV p ns))) ∧ Below w.heap.size w w' := by
  obtain ⟨va, vc, rfl⟩ := hv.shape
  have hne : ∀ i, i < 12 → ¬ p = qW i → ∀ S, str (qW i) = S → ¬ str p = S := fun i hi h S hS e => h (str_inj hp (qW_byte hi) (by
    have := congrArg (fun b : ByteArray => b.data.toList) (e.trans hS.symm)
    exact this))
  unfold askV
  by_cases h7 : p = [99, 101, 108, 108]
  · subst h7
    rw [show str [99, 101, 108, 108] = ⟨#[99, 101, 108, 108]⟩ by kernel_rfl]
    by_cases hn : ns.length = 2
    · match ns, hn, hv with
      | [a, b], _, hv =>
        simpa using ask_cell a b _ w hv
    · have := ask_cell_not va ns.length vc hn w
      simpa [hn] using this
  rw [if_neg (fun h => h7 h.1)]
  by_cases h5 : p = [115, 104, 97, 114, 101, 100]
  · subst h5
    rw [show str [115, 104, 97, 114, 101, 100] = ⟨#[115, 104, 97, 114, 101, 100]⟩ by kernel_rfl]
    by_cases hn : ns.length = 1
    · match ns, hn, hv with
      | [a], _, hv =>
        simpa using ask_shared a _ w hv
    · have := ask_shared_not va ns.length vc hn w
      simpa [hn] using this
  rw [if_neg (fun h => h5 h.1)]
  by_cases h6 : p = [119, 97, 121, 115]
  · subst h6
    rw [show str [119, 97, 121, 115] = ⟨#[119, 97, 121, 115]⟩ by kernel_rfl]
    by_cases hn : ns.length = 1
    · match ns, hn, hv with
      | [a], _, hv =>
        simpa using ask_ways a _ w hv
    · have := ask_ways_not va ns.length vc hn w
      simpa [hn] using this
  rw [if_neg (fun h => h6 h.1)]
  by_cases h8 : p = [107, 101, 112, 116]
  · subst h8
    rw [show str [107, 101, 112, 116] = ⟨#[107, 101, 112, 116]⟩ by kernel_rfl]
    by_cases hn : ns.length = 2
    · match ns, hn, hv with
      | [a, b], _, hv =>
        simpa using ask_kept a b _ w hv
    · have := ask_kept_not va ns.length vc hn w
      simpa [hn] using this
  rw [if_neg (fun h => h8 h.1)]
  by_cases h9 : p = [108, 101, 102, 116]
  · subst h9
    rw [show str [108, 101, 102, 116] = ⟨#[108, 101, 102, 116]⟩ by kernel_rfl]
    by_cases hn : ns.length = 3
    · match ns, hn, hv with
      | [a, b, c], _, hv =>
        simpa using ask_left a b c _ w hv
    · have := ask_left_not va ns.length vc hn w
      simpa [hn] using this
  rw [if_neg (fun h => h9 h.1)]
  by_cases h10 : p = [111, 102, 116, 101, 110]
  · subst h10
    rw [show str [111, 102, 116, 101, 110] = ⟨#[111, 102, 116, 101, 110]⟩ by kernel_rfl]
    by_cases hn : ns.length = 3
    · match ns, hn, hv with
      | [a, b, c], _, hv =>
        simpa using ask_often a b c _ w hv
    · have := ask_often_not va ns.length vc hn w
      simpa [hn] using this
  rw [if_neg (fun h => h10 h.1)]
  by_cases h11 : p = [99, 97, 114, 114, 105, 101, 115]
  · subst h11
    rw [show str [99, 97, 114, 114, 105, 101, 115] = ⟨#[99, 97, 114, 114, 105, 101, 115]⟩ by kernel_rfl]
    by_cases hn : ns.length = 3
    · match ns, hn, hv with
      | [a, b, c], _, hv =>
        simpa using ask_carries a b c _ w hv
    · have := ask_carries_not va ns.length vc hn w
      simpa [hn] using this
  rw [if_neg (fun h => h11 h.1)]
  exact ask_none _ _ _ _ w (hne 7 (by omega) h7 _ (by kernel_rfl)) (hne 5 (by omega) h5 _ (by kernel_rfl)) (hne 6 (by omega) h6 _ (by kernel_rfl)) (hne 8 (by omega) h8 _ (by kernel_rfl)) (hne 9 (by omega) h9 _ (by kernel_rfl)) (hne 10 (by omega) h10 _ (by kernel_rfl)) (hne 11 (by omega) h11 _ (by kernel_rfl))
end Go.Proofs.YtiaaefapbcjgmaaGreatDoor
namespace Go.Proofs.YtiaaefapbcjgmaaGreatDoor
open Go Go.RowKit Go.Shelf
attribute [local go_sem] Oper.semAt_some

theorem append_num_in {F : Fence} {k : Nat} {ops : Array Oper} {rest : List Oper} {o : Oper} {a : Act} {Q : Exit → Act → World → Prop} {w : World} {z : Int} (hgd : o.guard = none) (s x : Operand)
    (ho : o.op = .call { callee := .builtin .append, args := #[s, x], argTypes := #[28, 28] })
    (base : Nat) (v : Value) (n : Nat) (xs : List Value) (hs : a.eval s = v) (hown : w.ownsRow base 3 1 v n xs) (hx : a.eval x = .slice (some ⟨w.heap.size, 0, none⟩) 1 1)
    (hn : n ≤ 1000000000) (hbase : base ≤ w.heap.size)
    (h : ∀ v' w', w'.ownsRow base 3 1 v' (n + 1) (xs ++ [.int .i64 z]) → (w.alloc (.cells #[.int .i64 z] 3)).grownBy w' v.ownBlock → wpListIn F k Tryz.prog ops Q rest (a.put o.dst v') w') :
    wpListIn F k Tryz.prog ops Q (o :: rest) a (w.alloc (.cells #[.int .i64 z] 3)) := by
  obtain ⟨i0, hi, hz0, hz1, hz2⟩ := info_parts Tryz.infoInt
  refine wpListIn_append_own _ hgd s x 28 ho base 3 i0 (.int .i64 0) 1 8 Tryz.underlying28 hi hz0 hz1 hz2 rfl (by decide) v n xs hs (hown.alloc _) ⟨w.heap.size, 0, none⟩ 1 1 [.int .i64 z] hx rfl ?_ ?_ ?_ ?_ ?_ ?_
  · intro j u hj
    match j, hj with
    | 0, hj => simp at hj; subst hj; simp [Addr.add]
  · intro u hu; simp at hu; subst hu; rfl
  · unfold maxLen; omega
  · omega
  · simp; omega
  · intro v' w' h1 h2 _; exact h v' w' h1 h2

/-- What is known behind the copy: the copy lies in block b. -/
structure Ls (w : World) (b : Nat) (x p y q : Value) (d : Dk) (W : World) : Prop where
  below : Below w.heap.size w W
  box : W.heap[w.heap.size]? = some (.cells #[x, p] 31 (0, 0))
  res : W.heap[w.heap.size + 1]? = some (.cells #[.slice none 0 0, .slice none 0 0] 31 (0, 0))
  lt : w.heap.size + 2 ≤ b
  out : W.heap[b]? = some (.cells #[y, q] 31 (0, 0))
  now : W.ownsRow (w.heap.size + 2) 3 1 y d.1.length (d.1.map (Value.int .i64))
  past : OwnSS W (w.heap.size + 2) q d.2

theorem Ls.more {w : World} {b : Nat} {x p y q : Value} {d : Dk} {W V : World} (h : Ls w b x p y q d W) (hV : Below W.heap.size W V) : Ls w b x p y q d V :=
  ⟨h.below.trans (hV.mono h.below.size), (hV.block _ (Array.getElem?_eq_some_iff.1 h.box).1).trans h.box, (hV.block _ (Array.getElem?_eq_some_iff.1 h.res).1).trans h.res, h.lt, (hV.block _ (Array.getElem?_eq_some_iff.1 h.out).1).trans h.out, own_below h.now hV, h.past.below hV⟩

/-- What is handed back: the desk in the result's cells. -/
structure Lr (w : World) (d : Dk) (v : Value) (W : World) : Prop where
  desk : DeskI W v d
  cap : CapN w.heap.size v
  below : Below w.heap.size w W

theorem Ls.done {w : World} {b : Nat} {x p y q : Value} {d : Dk} {W : World} (h : Ls w b x p y q d W) :
    Lr w d (.agg #[y, q]) ((W.setCell ⟨w.heap.size + 1, 0, .none⟩ y).setCell ⟨w.heap.size + 1, 1, .none⟩ q) := by
  have g0 := grownBy_setAt W (w.heap.size + 1) 0 y
  have g1 := grownBy_setAt (W.setCell ⟨w.heap.size + 1, 0, .none⟩ y) (w.heap.size + 1) 1 q
  have n1 := own_kept h.now g0 (own_old h.now (by omega))
  have n2 := own_kept n1 g1 (own_old n1 (by omega))
  obtain ⟨us, _, ho, _⟩ := h.past
  obtain ⟨qa, qc, hqe⟩ := own_form ho
  refine ⟨⟨y, q, rfl, Ints.of_owns n2, ((h.past.old (by omega) g0).old (by omega) g1).past⟩, ?_, (h.below.setCell (p := ⟨w.heap.size + 1, 0, .none⟩) (Nat.le_succ _) y).setCell (p := ⟨w.heap.size + 1, 1, .none⟩) (Nat.le_succ _) q⟩
  subst hqe
  exact CapN.of (own_cap ho) (fun g o t e => by subst e; have := (ho.lt g rfl).1; omega)

theorem rdV_someS {l : List Nat} {k n : Int} (h : rdV l = ((k, n), true)) : readD l = some (k, n) ∧ Fits k ∧ Fits n := by
  unfold rdV at h
  cases hr : readD l with
  | none => rw [hr] at h; cases h
  | some a =>
    rw [hr] at h
    obtain ⟨h1, h2⟩ := readD_text hr
    have h3 := deedT_is (k := a.1) (n := a.2) (by rw [h2]; exact h1)
    simp only [Prod.mk.injEq, and_true] at h
    subst h
    refine ⟨rfl, ?_⟩
    unfold isD at h3
    simp only at h3
    exact ⟨by constructor <;> omega, by constructor <;> omega⟩

theorem rdV_noneS {l : List Nat} {k n : Int} (h : rdV l = ((k, n), false)) : readD l = none := by
  unfold rdV at h
  cases hr : readD l with
  | none => rfl
  | some a => rw [hr] at h; cases h

theorem lies_row {w : World} {v : Value} {xs : List Int} (h : Ints w v xs) (h1 : 1 ≤ xs.length) : Lies v := by
  rcases h with ⟨a, c, rfl, h⟩ | ⟨g, c, rfl, _⟩
  · rw [h] at h1; simp at h1
  · exact .inr ⟨_, _, _, rfl⟩

set_option maxRecDepth 100000 in
set_option maxHeartbeats 4000000 in
theorem specLine_deed (x p : Value) (d : Dk) (l : List Nat) (w : World) (hx : Ints w x d.1) (hp : PastI w p d.2) (hb : deskB d = true) (hl : ∀ c ∈ l, c < 256) (hn : l.length ≤ 1100000) (k n : Int) (hr : rdV l = ((k, n), true)) :
    Calls Tryz.prog 21 #[.agg #[x, p], .string (str l)] w fun e w' => ∃ y, e = .returned (.tuple #[y, .string (str (lineV d l).2)]) ∧ DeskI w' y (lineV d l).1 ∧ CapN w.heap.size y ∧ Below w.heap.size w w' := by
  obtain ⟨hrd, hk, hm⟩ := rdV_someS hr
  rw [lineV_deed hb hrd]
  simp only
  obtain ⟨hd1, hd2, hd3⟩ := deskB_is.1 hb
  have hl1 := sideB_len hd2
  have hB : Below w.heap.size w ((w.alloc (.cells #[x, p] 31)).alloc (.cells #[.slice none 0 0, .slice none 0 0] 31)) := ((Below.refl _ w).alloc (Nat.le_refl _) _).alloc (by rw [World.size_alloc]; omega) _
  have k0 : ((w.alloc (.cells #[x, p] 31)).alloc (.cells #[.slice none 0 0, .slice none 0 0] 31)).heap[w.heap.size]? = some (.cells #[x, p] 31 (0, 0)) := (Below.heap_alloc _ _ _ (by rw [World.size_alloc]; omega)).trans (World.alloc_heap_new w _)
  have k1 := World.alloc_heap_new (w.alloc (.cells #[x, p] 31)) (.cells #[.slice none 0 0, .slice none 0 0] 31)
  rw [World.size_alloc] at k1
  have hsz : w.heap.size + 2 ≤ ((w.alloc (.cells #[x, p] 31)).alloc (.cells #[.slice none 0 0, .slice none 0 0] 31)).heap.size := by simp
  obtain ⟨W1, hW1⟩ : ∃ W1, (w.alloc (.cells #[x, p] 31)).alloc (.cells #[.slice none 0 0, .slice none 0 0] 31) = W1 := ⟨_, rfl⟩
  rw [hW1] at hB k0 k1 hsz
  have hOK := specDeskOk (.agg #[x, p]) d W1 ⟨x, p, rfl, hx.below hB, hp.below hB⟩ (deskB_size hb)
  rw [hb] at hOK
  have hKp := fun V (hV : Below w.heap.size w V) => specCopy x p d V (hx.below hV) (hp.below hV) hb
  have hRd := fun V => specReadDeed l hl (by omega) V
  have hDo := fun V (hV : Below w.heap.size w V) => specDo (.agg #[x, p]) d k n V ⟨x, p, rfl, hx.below hV, hp.below hV⟩ (deskB_size hb) hk hm
  have hdk := do_desk hb k n
  obtain ⟨D, hD⟩ : ∃ D, (doV d k n).1 = D := ⟨_, rfl⟩
  obtain ⟨bb, hbb⟩ : ∃ bb, (doV d k n).2 = bb := ⟨_, rfl⟩
  rw [hD] at hdk
  rw [hD, hbb] at hDo ⊢
  unfold dV at hDo
  rw [hr] at hRd
  simp only at hRd
  unfold dV at hRd
  obtain ⟨xa, xc, rfl⟩ := hx.shape
  obtain ⟨pa, pc, rfl, _⟩ := id hp
  obtain ⟨LS, hLS⟩ : ∃ LS, str l = LS := ⟨_, rfl⟩
  rw [hLS] at hRd ⊢
  obtain ⟨c0, c1, _, _⟩ := row_at k0
  have l0 := (Array.getElem?_eq_some_iff.1 k0).1
  have l1 := (Array.getElem?_eq_some_iff.1 k1).1
  clear hx hp hd1 hr hLS hD hbb
  refine (callsIn_wide (n := 9)).1 ?_
  refine callsIn_of_wp Tryz.func21 rfl trivial ?_ rfl
  simp only [Tryz.ntmps21, List.size_toArray, List.length_cons, List.length_nil, Nat.reduceAdd, Nat.reduceSub, Array.replicate_succ, Array.replicate_zero, List.push_toArray, List.append_toArray, List.nil_append, List.cons_append]
  gi_wp2_with fail
  refine ⟨trivial, ?_⟩
  gi_at_call 13
  refine (callsIn_wide.2 hOK).mono ?_
  rintro e W2 ⟨rfl, hB2⟩
  have hB02 := hB.trans (hB2.mono hB.size)
  have k02 := (hB2.block _ l0).trans k0
  have k12 := (hB2.block _ l1).trans k1
  have hsz2 := Nat.le_trans hsz hB2.size
  obtain ⟨c0, c1, _, _⟩ := row_at k02
  clear hOK hB2 k0 k1 l0 l1 hB hsz
  gi_wp2_with fail
  refine ⟨trivial, ?_⟩
  gi_at_call 65
  refine (callsIn_wide.2 (hKp _ hB02)).mono ?_
  rintro e W3 ⟨y, q, rfl, hy, hq, hB3⟩
  have hLs3 : Ls w W3.heap.size (.slice xa d.1.length xc) (.slice pa d.2.length pc) y q d (W3.alloc (.cells #[y, q] 31)) := by
    have hB03 := hB02.trans (hB3.mono hB02.size)
    have hA := (Below.refl _ W3).alloc (Nat.le_refl _) (.cells #[y, q] 31)
    have h02 := (hB3.block _ (Array.getElem?_eq_some_iff.1 k02).1).trans k02
    have h12 := (hB3.block _ (Array.getElem?_eq_some_iff.1 k12).1).trans k12
    exact ⟨hB03.alloc hB03.size _, (hA.block _ (Array.getElem?_eq_some_iff.1 h02).1).trans h02, (hA.block _ (Array.getElem?_eq_some_iff.1 h12).1).trans h12, Nat.le_trans hsz2 hB3.size, World.alloc_heap_new W3 _, own_below (own_fromD hy hsz2) hA, (hq.down hsz2).below hA⟩
  obtain ⟨y1, y2, rfl⟩ := own_form hy
  obtain ⟨q1, q2, rfl⟩ := hq.form
  obtain ⟨b, hbe⟩ : ∃ b, W3.heap.size = b := ⟨_, rfl⟩
  obtain ⟨W4, hW4⟩ : ∃ W4, W3.alloc (.cells #[.slice y1 d.1.length y2, .slice q1 d.2.length q2] 31) = W4 := ⟨_, rfl⟩
  rw [hW4, hbe] at hLs3
  obtain ⟨c0, c1, _, _⟩ := row_at hLs3.box
  clear hKp hB02 k02 k12 hsz2 hy hq hB3
  gi_wp2_with fail
  refine ⟨trivial, ?_⟩
  gi_at_call 47
  refine (callsIn_wide.2 (hRd _)).mono ?_
  rintro e W5 ⟨rfl, hB5⟩
  have hLs5 := hLs3.more hB5
  have hA6 := (Below.refl _ W5).alloc (Nat.le_refl _) (.cells #[.int .i64 k, .int .i64 n] 39)
  have kd := World.alloc_heap_new W5 (.cells #[.int .i64 k, .int .i64 n] 39)
  have hLs6 := hLs5.more hA6
  clear hRd hLs3 hB5 hbe hW4
  obtain ⟨W6, hW6⟩ : ∃ W6, W5.alloc (.cells #[.int .i64 k, .int .i64 n] 39) = W6 := ⟨_, rfl⟩
  rw [hW6] at kd hLs6
  obtain ⟨c0, c1, _, _⟩ := row_at hLs6.box
  obtain ⟨r0, r1, f0, f1⟩ := row_at hLs6.res
  obtain ⟨s0, s1, _, _⟩ := row_at hLs6.out
  obtain ⟨e0, e1, _, _⟩ := row_at kd
  clear hLs5 hA6
  gi_wp2_with fail
  refine ⟨trivial, ?_⟩
  gi_at_call 66
  refine (callsIn_wide.2 (hDo _ hLs6.below)).mono ?_
  rintro e W7 ⟨u, rfl, hu, ⟨hcn, _⟩, hB7⟩
  have hLs7 := hLs6.more hB7
  have z6 := hLs6.below.size
  have hcn' : CapN (w.heap.size + 2) u := ⟨hcn.1, fun x g o t n c e => Nat.le_trans (Nat.le_trans hLs6.lt (Nat.le_of_lt (Array.getElem?_eq_some_iff.1 hLs6.out).1)) (hcn.2 x g o t n c e)⟩
  obtain ⟨ux, up, rfl, hux, hup⟩ := hu
  obtain ⟨u1, u2, rfl⟩ := hux.shape
  obtain ⟨u3, u4, rfl, _⟩ := id hup
  have hA8 := (Below.refl _ W7).alloc (Nat.le_refl _) (.cells #[.slice u1 D.1.length u2, .slice u3 D.2.length u4] 31)
  have hLs8 := hLs7.more hA8
  have ku := World.alloc_heap_new W7 (.cells #[.slice u1 D.1.length u2, .slice u3 D.2.length u4] 31)
  have hu8 : DeskI (W7.alloc (.cells #[.slice u1 D.1.length u2, .slice u3 D.2.length u4] 31)) (.agg #[.slice u1 D.1.length u2, .slice u3 D.2.length u4]) D := ⟨_, _, rfl, hux.below hA8, hup.below hA8⟩
  obtain ⟨W8, hW8⟩ : ∃ W8, W7.alloc (.cells #[.slice u1 D.1.length u2, .slice u3 D.2.length u4] 31) = W8 := ⟨_, rfl⟩
  rw [hW8] at hLs8 ku hu8
  obtain ⟨r0, r1, f0, f1⟩ := row_at hLs8.res
  obtain ⟨m0, m1, _, _⟩ := row_at ku
  have hrs := hide (desk_set hLs8.res (.slice u1 D.1.length u2) (.slice u3 D.2.length u4))
  have hfin := hide (show Lr w D (.agg #[.slice u1 D.1.length u2, .slice u3 D.2.length u4]) ((W8.setCell ⟨w.heap.size + 1, 0, none⟩ (.slice u1 D.1.length u2)).setCell ⟨w.heap.size + 1, 1, none⟩ (.slice u3 D.2.length u4)) from
    ⟨deskI_over hu8 (fun x g o t n c e => hcn'.2 x g o t n c e) (by omega) hLs8.res, ⟨hcn'.1, fun x g o t n c e => Nat.le_trans (by omega) (hcn'.2 x g o t n c e)⟩, (hLs8.below.setCell (p := ⟨w.heap.size + 1, 0, none⟩) (Nat.le_succ _) _).setCell (p := ⟨w.heap.size + 1, 1, none⟩) (Nat.le_succ _) _⟩)
  clear hDo hLs6 hLs7 hLs8 hA8 hB7 hcn hcn' hux hup hu8 kd e0 e1 ku c0 c1 s0 s1 hdk z6
  cases bb
  all_goals
    gi_wp2
    (try simp only [Exit.inBlock, Exit.then])
    exact bodyPost_ret (results_desk2 rfl _ _ (w.heap.size + 1) _ _ rfl hrs.out) rfl ⟨_, rfl, hfin.out.desk, hfin.out.cap, hfin.out.below⟩

set_option maxRecDepth 100000 in
set_option maxHeartbeats 4000000 in
theorem specLine_ones (x p : Value) (d : Dk) (w : World) (hx : Ints w x d.1) (hp : PastI w p d.2) (hb : deskB d = true) (k n : Int) (hr : rdV [111, 110, 101, 115] = ((k, n), false)) :
    Calls Tryz.prog 21 #[.agg #[x, p], .string ⟨#[111, 110, 101, 115]⟩] w fun e w' => ∃ y, e = .returned (.tuple #[y, .string (str (decI (onesV d.1)))]) ∧ DeskI w' y d ∧ CapN w.heap.size y ∧ Below w.heap.size w w' := by
  obtain ⟨hd1, hd2, hd3⟩ := deskB_is.1 hb
  have hl1 := sideB_len hd2
  have hB : Below w.heap.size w ((w.alloc (.cells #[x, p] 31)).alloc (.cells #[.slice none 0 0, .slice none 0 0] 31)) := ((Below.refl _ w).alloc (Nat.le_refl _) _).alloc (by rw [World.size_alloc]; omega) _
  have k0 : ((w.alloc (.cells #[x, p] 31)).alloc (.cells #[.slice none 0 0, .slice none 0 0] 31)).heap[w.heap.size]? = some (.cells #[x, p] 31 (0, 0)) := (Below.heap_alloc _ _ _ (by rw [World.size_alloc]; omega)).trans (World.alloc_heap_new w _)
  have k1 := World.alloc_heap_new (w.alloc (.cells #[x, p] 31)) (.cells #[.slice none 0 0, .slice none 0 0] 31)
  rw [World.size_alloc] at k1
  have hsz : w.heap.size + 2 ≤ ((w.alloc (.cells #[x, p] 31)).alloc (.cells #[.slice none 0 0, .slice none 0 0] 31)).heap.size := by simp
  obtain ⟨W1, hW1⟩ : ∃ W1, (w.alloc (.cells #[x, p] 31)).alloc (.cells #[.slice none 0 0, .slice none 0 0] 31) = W1 := ⟨_, rfl⟩
  rw [hW1] at hB k0 k1 hsz
  have hOK := specDeskOk (.agg #[x, p]) d W1 ⟨x, p, rfl, hx.below hB, hp.below hB⟩ (deskB_size hb)
  rw [hb] at hOK
  have hKp := fun V (hV : Below w.heap.size w V) => specCopy x p d V (hx.below hV) (hp.below hV) hb
  have hRd : ∀ V, Calls Tryz.prog 47 #[.string ⟨#[111, 110, 101, 115]⟩] V fun e w' => e = .returned (.tuple #[dV (rdV [111, 110, 101, 115]).1.1 (rdV [111, 110, 101, 115]).1.2, .bool (rdV [111, 110, 101, 115]).2]) ∧ Below V.heap.size V w' := fun V => specReadDeed [111, 110, 101, 115] (by decide) (by decide) V
  have hO := fun V (hV : Below w.heap.size w V) => specOnes x d.1 V (hx.below hV) (lies_row hx hl1.1) (by omega)
  have hT := fun V => specNum (onesV d.1) (ones_nn hd2) (by have := onesV_big hd2; omega) V
  obtain ⟨N, hN⟩ : ∃ N, onesV d.1 = N := ⟨_, rfl⟩
  rw [hN] at hO hT ⊢
  obtain ⟨S, hS⟩ : ∃ S, str (decI N) = S := ⟨_, rfl⟩
  rw [hS] at hT ⊢
  rw [hr] at hRd
  simp only at hRd
  unfold dV at hRd
  obtain ⟨xa, xc, rfl⟩ := hx.shape
  obtain ⟨pa, pc, rfl, _⟩ := id hp
  obtain ⟨c0, c1, _, _⟩ := row_at k0
  have l0 := (Array.getElem?_eq_some_iff.1 k0).1
  have l1 := (Array.getElem?_eq_some_iff.1 k1).1
  clear hx hp hd1 hr hN hS
  refine (callsIn_wide (n := 9)).1 ?_
  refine callsIn_of_wp Tryz.func21 rfl trivial ?_ rfl
  simp only [Tryz.ntmps21, List.size_toArray, List.length_cons, List.length_nil, Nat.reduceAdd, Nat.reduceSub, Array.replicate_succ, Array.replicate_zero, List.push_toArray, List.append_toArray, List.nil_append, List.cons_append]
  gi_wp2_with fail
  refine ⟨trivial, ?_⟩
  gi_at_call 13
  refine (callsIn_wide.2 hOK).mono ?_
  rintro e W2 ⟨rfl, hB2⟩
  have hB02 := hB.trans (hB2.mono hB.size)
  have k02 := (hB2.block _ l0).trans k0
  have k12 := (hB2.block _ l1).trans k1
  have hsz2 := Nat.le_trans hsz hB2.size
  obtain ⟨c0, c1, _, _⟩ := row_at k02
  clear hOK hB2 k0 k1 l0 l1 hB hsz
  gi_wp2_with fail
  refine ⟨trivial, ?_⟩
  gi_at_call 65
  refine (callsIn_wide.2 (hKp _ hB02)).mono ?_
  rintro e W3 ⟨y, q, rfl, hy, hq, hB3⟩
  have hLs3 : Ls w W3.heap.size (.slice xa d.1.length xc) (.slice pa d.2.length pc) y q d (W3.alloc (.cells #[y, q] 31)) := by
    have hB03 := hB02.trans (hB3.mono hB02.size)
    have hA := (Below.refl _ W3).alloc (Nat.le_refl _) (.cells #[y, q] 31)
    have h02 := (hB3.block _ (Array.getElem?_eq_some_iff.1 k02).1).trans k02
    have h12 := (hB3.block _ (Array.getElem?_eq_some_iff.1 k12).1).trans k12
    exact ⟨hB03.alloc hB03.size _, (hA.block _ (Array.getElem?_eq_some_iff.1 h02).1).trans h02, (hA.block _ (Array.getElem?_eq_some_iff.1 h12).1).trans h12, Nat.le_trans hsz2 hB3.size, World.alloc_heap_new W3 _, own_below (own_fromD hy hsz2) hA, (hq.down hsz2).below hA⟩
  obtain ⟨y1, y2, rfl⟩ := own_form hy
  obtain ⟨q1, q2, rfl⟩ := hq.form
  obtain ⟨b, hbe⟩ : ∃ b, W3.heap.size = b := ⟨_, rfl⟩
  obtain ⟨W4, hW4⟩ : ∃ W4, W3.alloc (.cells #[.slice y1 d.1.length y2, .slice q1 d.2.length q2] 31) = W4 := ⟨_, rfl⟩
  rw [hW4, hbe] at hLs3
  obtain ⟨c0, c1, _, _⟩ := row_at hLs3.box
  clear hKp hB02 k02 k12 hsz2 hy hq hB3
  gi_wp2_with fail
  refine ⟨trivial, ?_⟩
  gi_at_call 47
  refine (callsIn_wide.2 (hRd _)).mono ?_
  rintro e W5 ⟨rfl, hB5⟩
  have hLs5 := hLs3.more hB5
  have hA6 := (Below.refl _ W5).alloc (Nat.le_refl _) (.cells #[.int .i64 k, .int .i64 n] 39)
  have kd := World.alloc_heap_new W5 (.cells #[.int .i64 k, .int .i64 n] 39)
  have hLs6 := hLs5.more hA6
  clear hRd hLs3 hB5 hbe hW4
  obtain ⟨W6, hW6⟩ : ∃ W6, W5.alloc (.cells #[.int .i64 k, .int .i64 n] 39) = W6 := ⟨_, rfl⟩
  rw [hW6] at kd hLs6
  obtain ⟨c0, c1, _, _⟩ := row_at hLs6.box
  obtain ⟨r0, r1, f0, f1⟩ := row_at hLs6.res
  obtain ⟨s0, s1, _, _⟩ := row_at hLs6.out
  obtain ⟨e0, e1, _, _⟩ := row_at kd
  clear hLs5 hA6
  gi_wp2
  refine wpIn_region_put 5 [(some 63, 0), (some 64, 1), (some 65, 2), (some 66, 3), (some 67, 4)] (by kernel_rfl) (by kernel_rfl) (by kernel_rfl) (by decide) (by rfl) (by decide)
    (fun j v V => match j with | 0 => v = .agg #[.slice y1 d.1.length y2, .slice q1 d.2.length q2] | 1 => v = .pointer (some ⟨w.heap.size, 0, none⟩) | 2 => v = .slice xa d.1.length xc | 3 => v = .int .i64 N | 4 => v = .string S | _ => True)
    (fun j v V V' h _ => match j, h with | 0, h => h | 1, h => h | 2, h => h | 3, h => h | 4, h => h | (_ + 5), _ => trivial)
    ?_ ?_
  · rintro j oo s V hj ho hBV hd Q' hQ
    have hLV := hLs6.more hBV
    obtain ⟨c0, c1, _, _⟩ := row_at hLV.box
    obtain ⟨s0, s1, _, _⟩ := row_at hLV.out
    rcases (show j = 0 ∨ j = 1 ∨ j = 2 ∨ j = 3 ∨ j = 4 by omega) with rfl | rfl | rfl | rfl | rfl
    all_goals
      simp at ho
      subst ho
      simp only [putsOf, Act.put, List.setIfInBounds_toArray, List.set_cons_succ, List.set_cons_zero] at hQ ⊢
      have hQ' := hide hQ
      clear hQ
    · clear hd
      gi_wp2
      exact hQ'.out _ _ (Below.refl _ _) rfl
    · clear hd
      gi_wp2
      exact hQ'.out _ _ (Below.refl _ _) rfl
    · have p1 : s 1 = .pointer (some ⟨w.heap.size, 0, none⟩) := hd 1 (by kernel_rfl)
      clear hd
      gi_wp2
      have hr := hQ'.out
      simp only [p1] at hr ⊢
      exact hr _ _ (Below.refl _ _) rfl
    · have p2 : s 2 = .slice xa d.1.length xc := hd 2 (by kernel_rfl)
      have hOV := hO V hLV.below
      clear hd
      gi_wp2_with (refine ⟨trivial, ?_⟩; gi_at_call 68; go_loud (refine (callsIn_wide.2 hOV).mono ?_; rintro e W9 ⟨rfl, hB9⟩))
      have hr := hQ'.out
      simp only [p2] at hr ⊢
      exact hr _ _ hB9 rfl
    · have p3 : s 3 = .int .i64 N := hd 3 (by kernel_rfl)
      have hTV := hT V
      clear hd
      gi_wp2_with (refine ⟨trivial, ?_⟩; gi_at_call 67; go_loud (refine (callsIn_wide.2 hTV).mono ?_; rintro e W9 ⟨rfl, hB9⟩))
      have hr := hQ'.out
      simp only [p3] at hr ⊢
      exact hr _ _ hB9 rfl
  · rintro s V hBV hd
    have p0 : s 0 = .agg #[.slice y1 d.1.length y2, .slice q1 d.2.length q2] := hd 0 (by omega)
    have p4 : s 4 = .string S := hd 4 (by omega)
    clear hd
    have hLV := hLs6.more hBV
    obtain ⟨r0, r1, f0, f1⟩ := row_at hLV.res
    have hrs := hide (desk_set hLV.res (.slice y1 d.1.length y2) (.slice q1 d.2.length q2))
    have hfin := hide hLV.done
    clear hLV hLs6 hO hT
    simp only [putsOf, Act.put, List.setIfInBounds_toArray, List.set_cons_succ, List.set_cons_zero]
    simp only [List.drop_succ_cons, List.drop_zero]
    simp only [p0, p4]
    gi_wp2
    (try simp only [Exit.inBlock, Exit.then])
    exact bodyPost_ret (results_desk2 rfl _ _ (w.heap.size + 1) _ _ rfl hrs.out) rfl ⟨_, rfl, hfin.out.desk, hfin.out.cap, hfin.out.below⟩

set_option maxRecDepth 100000 in
set_option maxHeartbeats 4000000 in
theorem specLine_last (x p : Value) (d : Dk) (w : World) (hx : Ints w x d.1) (hp : PastI w p d.2) (hb : deskB d = true) (k n : Int) (hr : rdV [108, 97, 115, 116] = ((k, n), false)) :
    Calls Tryz.prog 21 #[.agg #[x, p], .string ⟨#[108, 97, 115, 116]⟩] w fun e w' => ∃ y, e = .returned (.tuple #[y, .string (str (decI (endV d.1)))]) ∧ DeskI w' y d ∧ CapN w.heap.size y ∧ Below w.heap.size w w' := by
  obtain ⟨hd1, hd2, hd3⟩ := deskB_is.1 hb
  have hl1 := sideB_len hd2
  have hB : Below w.heap.size w ((w.alloc (.cells #[x, p] 31)).alloc (.cells #[.slice none 0 0, .slice none 0 0] 31)) := ((Below.refl _ w).alloc (Nat.le_refl _) _).alloc (by rw [World.size_alloc]; omega) _
  have k0 : ((w.alloc (.cells #[x, p] 31)).alloc (.cells #[.slice none 0 0, .slice none 0 0] 31)).heap[w.heap.size]? = some (.cells #[x, p] 31 (0, 0)) := (Below.heap_alloc _ _ _ (by rw [World.size_alloc]; omega)).trans (World.alloc_heap_new w _)
  have k1 := World.alloc_heap_new (w.alloc (.cells #[x, p] 31)) (.cells #[.slice none 0 0, .slice none 0 0] 31)
  rw [World.size_alloc] at k1
  have hsz : w.heap.size + 2 ≤ ((w.alloc (.cells #[x, p] 31)).alloc (.cells #[.slice none 0 0, .slice none 0 0] 31)).heap.size := by simp
  obtain ⟨W1, hW1⟩ : ∃ W1, (w.alloc (.cells #[x, p] 31)).alloc (.cells #[.slice none 0 0, .slice none 0 0] 31) = W1 := ⟨_, rfl⟩
  rw [hW1] at hB k0 k1 hsz
  have hOK := specDeskOk (.agg #[x, p]) d W1 ⟨x, p, rfl, hx.below hB, hp.below hB⟩ (deskB_size hb)
  rw [hb] at hOK
  have hKp := fun V (hV : Below w.heap.size w V) => specCopy x p d V (hx.below hV) (hp.below hV) hb
  have hRd : ∀ V, Calls Tryz.prog 47 #[.string ⟨#[108, 97, 115, 116]⟩] V fun e w' => e = .returned (.tuple #[dV (rdV [108, 97, 115, 116]).1.1 (rdV [108, 97, 115, 116]).1.2, .bool (rdV [108, 97, 115, 116]).2]) ∧ Below V.heap.size V w' := fun V => specReadDeed [108, 97, 115, 116] (by decide) (by decide) V
  have hO := fun V (hV : Below w.heap.size w V) => specLast x d.1 V (hx.below hV) (by omega)
  have hT := fun V => specNum (endV d.1) (end_nn hd2) (by have := endV_big hd2; omega) V
  obtain ⟨N, hN⟩ : ∃ N, endV d.1 = N := ⟨_, rfl⟩
  rw [hN] at hO hT ⊢
  obtain ⟨S, hS⟩ : ∃ S, str (decI N) = S := ⟨_, rfl⟩
  rw [hS] at hT ⊢
  rw [hr] at hRd
  simp only at hRd
  unfold dV at hRd
  obtain ⟨xa, xc, rfl⟩ := hx.shape
  obtain ⟨pa, pc, rfl, _⟩ := id hp
  obtain ⟨c0, c1, _, _⟩ := row_at k0
  have l0 := (Array.getElem?_eq_some_iff.1 k0).1
  have l1 := (Array.getElem?_eq_some_iff.1 k1).1
  clear hx hp hd1 hr hN hS
  refine (callsIn_wide (n := 9)).1 ?_
  refine callsIn_of_wp Tryz.func21 rfl trivial ?_ rfl
  simp only [Tryz.ntmps21, List.size_toArray, List.length_cons, List.length_nil, Nat.reduceAdd, Nat.reduceSub, Array.replicate_succ, Array.replicate_zero, List.push_toArray, List.append_toArray, List.nil_append, List.cons_append]
  gi_wp2_with fail
  refine ⟨trivial, ?_⟩
  gi_at_call 13
  refine (callsIn_wide.2 hOK).mono ?_
  rintro e W2 ⟨rfl, hB2⟩
  have hB02 := hB.trans (hB2.mono hB.size)
  have k02 := (hB2.block _ l0).trans k0
  have k12 := (hB2.block _ l1).trans k1
  have hsz2 := Nat.le_trans hsz hB2.size
  obtain ⟨c0, c1, _, _⟩ := row_at k02
  clear hOK hB2 k0 k1 l0 l1 hB hsz
  gi_wp2_with fail
  refine ⟨trivial, ?_⟩
  gi_at_call 65
  refine (callsIn_wide.2 (hKp _ hB02)).mono ?_
  rintro e W3 ⟨y, q, rfl, hy, hq, hB3⟩
  have hLs3 : Ls w W3.heap.size (.slice xa d.1.length xc) (.slice pa d.2.length pc) y q d (W3.alloc (.cells #[y, q] 31)) := by
    have hB03 := hB02.trans (hB3.mono hB02.size)
    have hA := (Below.refl _ W3).alloc (Nat.le_refl _) (.cells #[y, q] 31)
    have h02 := (hB3.block _ (Array.getElem?_eq_some_iff.1 k02).1).trans k02
    have h12 := (hB3.block _ (Array.getElem?_eq_some_iff.1 k12).1).trans k12
    exact ⟨hB03.alloc hB03.size _, (hA.block _ (Array.getElem?_eq_some_iff.1 h02).1).trans h02, (hA.block _ (Array.getElem?_eq_some_iff.1 h12).1).trans h12, Nat.le_trans hsz2 hB3.size, World.alloc_heap_new W3 _, own_below (own_fromD hy hsz2) hA, (hq.down hsz2).below hA⟩
  obtain ⟨y1, y2, rfl⟩ := own_form hy
  obtain ⟨q1, q2, rfl⟩ := hq.form
  obtain ⟨b, hbe⟩ : ∃ b, W3.heap.size = b := ⟨_, rfl⟩
  obtain ⟨W4, hW4⟩ : ∃ W4, W3.alloc (.cells #[.slice y1 d.1.length y2, .slice q1 d.2.length q2] 31) = W4 := ⟨_, rfl⟩
  rw [hW4, hbe] at hLs3
  obtain ⟨c0, c1, _, _⟩ := row_at hLs3.box
  clear hKp hB02 k02 k12 hsz2 hy hq hB3
  gi_wp2_with fail
  refine ⟨trivial, ?_⟩
  gi_at_call 47
  refine (callsIn_wide.2 (hRd _)).mono ?_
  rintro e W5 ⟨rfl, hB5⟩
  have hLs5 := hLs3.more hB5
  have hA6 := (Below.refl _ W5).alloc (Nat.le_refl _) (.cells #[.int .i64 k, .int .i64 n] 39)
  have kd := World.alloc_heap_new W5 (.cells #[.int .i64 k, .int .i64 n] 39)
  have hLs6 := hLs5.more hA6
  clear hRd hLs3 hB5 hbe hW4
  obtain ⟨W6, hW6⟩ : ∃ W6, W5.alloc (.cells #[.int .i64 k, .int .i64 n] 39) = W6 := ⟨_, rfl⟩
  rw [hW6] at kd hLs6
  obtain ⟨c0, c1, _, _⟩ := row_at hLs6.box
  obtain ⟨r0, r1, f0, f1⟩ := row_at hLs6.res
  obtain ⟨s0, s1, _, _⟩ := row_at hLs6.out
  obtain ⟨e0, e1, _, _⟩ := row_at kd
  clear hLs5 hA6
  gi_wp2
  refine wpIn_region_put 5 [(some 70, 0), (some 71, 1), (some 72, 2), (some 73, 3), (some 74, 4)] (by kernel_rfl) (by kernel_rfl) (by kernel_rfl) (by decide) (by rfl) (by decide)
    (fun j v V => match j with | 0 => v = .agg #[.slice y1 d.1.length y2, .slice q1 d.2.length q2] | 1 => v = .pointer (some ⟨w.heap.size, 0, none⟩) | 2 => v = .slice xa d.1.length xc | 3 => v = .int .i64 N | 4 => v = .string S | _ => True)
    (fun j v V V' h _ => match j, h with | 0, h => h | 1, h => h | 2, h => h | 3, h => h | 4, h => h | (_ + 5), _ => trivial)
    ?_ ?_
  · rintro j oo s V hj ho hBV hd Q' hQ
    have hLV := hLs6.more hBV
    obtain ⟨c0, c1, _, _⟩ := row_at hLV.box
    obtain ⟨s0, s1, _, _⟩ := row_at hLV.out
    rcases (show j = 0 ∨ j = 1 ∨ j = 2 ∨ j = 3 ∨ j = 4 by omega) with rfl | rfl | rfl | rfl | rfl
    all_goals
      simp at ho
      subst ho
      simp only [putsOf, Act.put, List.setIfInBounds_toArray, List.set_cons_succ, List.set_cons_zero] at hQ ⊢
      have hQ' := hide hQ
      clear hQ
    · clear hd
      gi_wp2
      exact hQ'.out _ _ (Below.refl _ _) rfl
    · clear hd
      gi_wp2
      exact hQ'.out _ _ (Below.refl _ _) rfl
    · have p1 : s 1 = .pointer (some ⟨w.heap.size, 0, none⟩) := hd 1 (by kernel_rfl)
      clear hd
      gi_wp2
      have hr := hQ'.out
      simp only [p1] at hr ⊢
      exact hr _ _ (Below.refl _ _) rfl
    · have p2 : s 2 = .slice xa d.1.length xc := hd 2 (by kernel_rfl)
      have hOV := hO V hLV.below
      clear hd
      gi_wp2_with (refine ⟨trivial, ?_⟩; gi_at_call 69; go_loud (refine (callsIn_wide.2 hOV).mono ?_; rintro e W9 ⟨rfl, hB9⟩))
      have hr := hQ'.out
      simp only [p2] at hr ⊢
      exact hr _ _ hB9 rfl
    · have p3 : s 3 = .int .i64 N := hd 3 (by kernel_rfl)
      have hTV := hT V
      clear hd
      gi_wp2_with (refine ⟨trivial, ?_⟩; gi_at_call 67; go_loud (refine (callsIn_wide.2 hTV).mono ?_; rintro e W9 ⟨rfl, hB9⟩))
      have hr := hQ'.out
      simp only [p3] at hr ⊢
      exact hr _ _ hB9 rfl
  · rintro s V hBV hd
    have p0 : s 0 = .agg #[.slice y1 d.1.length y2, .slice q1 d.2.length q2] := hd 0 (by omega)
    have p4 : s 4 = .string S := hd 4 (by omega)
    clear hd
    have hLV := hLs6.more hBV
    obtain ⟨r0, r1, f0, f1⟩ := row_at hLV.res
    have hrs := hide (desk_set hLV.res (.slice y1 d.1.length y2) (.slice q1 d.2.length q2))
    have hfin := hide hLV.done
    clear hLV hLs6 hO hT
    simp only [putsOf, Act.put, List.setIfInBounds_toArray, List.set_cons_succ, List.set_cons_zero]
    simp only [List.drop_succ_cons, List.drop_zero]
    simp only [p0, p4]
    gi_wp2
    (try simp only [Exit.inBlock, Exit.then])
    exact bodyPost_ret (results_desk2 rfl _ _ (w.heap.size + 1) _ _ rfl hrs.out) rfl ⟨_, rfl, hfin.out.desk, hfin.out.cap, hfin.out.below⟩

set_option maxRecDepth 100000 in
set_option maxHeartbeats 4000000 in
theorem specLine_end (x p : Value) (d : Dk) (w : World) (hx : Ints w x d.1) (hp : PastI w p d.2) (hb : deskB d = true) (k n : Int) (hr : rdV [101, 110, 100] = ((k, n), false)) :
    Calls Tryz.prog 21 #[.agg #[x, p], .string ⟨#[101, 110, 100]⟩] w fun e w' => ∃ y, e = .returned (.tuple #[y, .string (str (if endB d.1 = true then decI (endI d.1) else [110, 111, 110, 101]))]) ∧ DeskI w' y d ∧ CapN w.heap.size y ∧ Below w.heap.size w w' := by
  obtain ⟨hd1, hd2, hd3⟩ := deskB_is.1 hb
  have hl1 := sideB_len hd2
  have hB : Below w.heap.size w ((w.alloc (.cells #[x, p] 31)).alloc (.cells #[.slice none 0 0, .slice none 0 0] 31)) := ((Below.refl _ w).alloc (Nat.le_refl _) _).alloc (by rw [World.size_alloc]; omega) _
  have k0 : ((w.alloc (.cells #[x, p] 31)).alloc (.cells #[.slice none 0 0, .slice none 0 0] 31)).heap[w.heap.size]? = some (.cells #[x, p] 31 (0, 0)) := (Below.heap_alloc _ _ _ (by rw [World.size_alloc]; omega)).trans (World.alloc_heap_new w _)
  have k1 := World.alloc_heap_new (w.alloc (.cells #[x, p] 31)) (.cells #[.slice none 0 0, .slice none 0 0] 31)
  rw [World.size_alloc] at k1
  have hsz : w.heap.size + 2 ≤ ((w.alloc (.cells #[x, p] 31)).alloc (.cells #[.slice none 0 0, .slice none 0 0] 31)).heap.size := by simp
  obtain ⟨W1, hW1⟩ : ∃ W1, (w.alloc (.cells #[x, p] 31)).alloc (.cells #[.slice none 0 0, .slice none 0 0] 31) = W1 := ⟨_, rfl⟩
  rw [hW1] at hB k0 k1 hsz
  have hOK := specDeskOk (.agg #[x, p]) d W1 ⟨x, p, rfl, hx.below hB, hp.below hB⟩ (deskB_size hb)
  rw [hb] at hOK
  have hKp := fun V (hV : Below w.heap.size w V) => specCopy x p d V (hx.below hV) (hp.below hV) hb
  have hRd : ∀ V, Calls Tryz.prog 47 #[.string ⟨#[101, 110, 100]⟩] V fun e w' => e = .returned (.tuple #[dV (rdV [101, 110, 100]).1.1 (rdV [101, 110, 100]).1.2, .bool (rdV [101, 110, 100]).2]) ∧ Below V.heap.size V w' := fun V => specReadDeed [101, 110, 100] (by decide) (by decide) V
  have hO := fun V (hV : Below w.heap.size w V) => specEnd10 x d.1 V (hx.below hV) (lies_row hx hl1.1) (by omega)
  have hT := fun (h : 0 ≤ endI d.1) V => specNum (endI d.1) h (by have := endI_big d.1; omega) V
  have hnn : endB d.1 = true → 0 ≤ endI d.1 := fun h => by
    unfold endB at h
    unfold endI
    cases he : endN d.1 with
    | none => rw [he] at h; cases h
    | some r => simp only; omega
  obtain ⟨N, hN⟩ : ∃ N, endI d.1 = N := ⟨_, rfl⟩
  obtain ⟨tb, htb⟩ : ∃ tb, endB d.1 = tb := ⟨_, rfl⟩
  rw [hN, htb] at hO hnn ⊢
  rw [hN] at hT
  obtain ⟨S, hS⟩ : ∃ S, str (decI N) = S := ⟨_, rfl⟩
  rw [hS] at hT
  have hout : str (if tb = true then decI N else [110, 111, 110, 101]) = if tb = true then S else ⟨#[110, 111, 110, 101]⟩ := by
    cases tb
    · kernel_rfl
    · simp only [if_true]; exact hS
  rw [hout]
  rw [hr] at hRd
  simp only at hRd
  unfold dV at hRd
  obtain ⟨xa, xc, rfl⟩ := hx.shape
  obtain ⟨pa, pc, rfl, _⟩ := id hp
  obtain ⟨c0, c1, _, _⟩ := row_at k0
  have l0 := (Array.getElem?_eq_some_iff.1 k0).1
  have l1 := (Array.getElem?_eq_some_iff.1 k1).1
  clear hx hp hd1 hr hN htb hS hout
  refine (callsIn_wide (n := 9)).1 ?_
  refine callsIn_of_wp Tryz.func21 rfl trivial ?_ rfl
  simp only [Tryz.ntmps21, List.size_toArray, List.length_cons, List.length_nil, Nat.reduceAdd, Nat.reduceSub, Array.replicate_succ, Array.replicate_zero, List.push_toArray, List.append_toArray, List.nil_append, List.cons_append]
  gi_wp2_with fail
  refine ⟨trivial, ?_⟩
  gi_at_call 13
  refine (callsIn_wide.2 hOK).mono ?_
  rintro e W2 ⟨rfl, hB2⟩
  have hB02 := hB.trans (hB2.mono hB.size)
  have k02 := (hB2.block _ l0).trans k0
  have k12 := (hB2.block _ l1).trans k1
  have hsz2 := Nat.le_trans hsz hB2.size
  obtain ⟨c0, c1, _, _⟩ := row_at k02
  clear hOK hB2 k0 k1 l0 l1 hB hsz
  gi_wp2_with fail
  refine ⟨trivial, ?_⟩
  gi_at_call 65
  refine (callsIn_wide.2 (hKp _ hB02)).mono ?_
  rintro e W3 ⟨y, q, rfl, hy, hq, hB3⟩
  have hLs3 : Ls w W3.heap.size (.slice xa d.1.length xc) (.slice pa d.2.length pc) y q d (W3.alloc (.cells #[y, q] 31)) := by
    have hB03 := hB02.trans (hB3.mono hB02.size)
    have hA := (Below.refl _ W3).alloc (Nat.le_refl _) (.cells #[y, q] 31)
    have h02 := (hB3.block _ (Array.getElem?_eq_some_iff.1 k02).1).trans k02
    have h12 := (hB3.block _ (Array.getElem?_eq_some_iff.1 k12).1).trans k12
    exact ⟨hB03.alloc hB03.size _, (hA.block _ (Array.getElem?_eq_some_iff.1 h02).1).trans h02, (hA.block _ (Array.getElem?_eq_some_iff.1 h12).1).trans h12, Nat.le_trans hsz2 hB3.size, World.alloc_heap_new W3 _, own_below (own_fromD hy hsz2) hA, (hq.down hsz2).below hA⟩
  obtain ⟨y1, y2, rfl⟩ := own_form hy
  obtain ⟨q1, q2, rfl⟩ := hq.form
  obtain ⟨b, hbe⟩ : ∃ b, W3.heap.size = b := ⟨_, rfl⟩
  obtain ⟨W4, hW4⟩ : ∃ W4, W3.alloc (.cells #[.slice y1 d.1.length y2, .slice q1 d.2.length q2] 31) = W4 := ⟨_, rfl⟩
  rw [hW4, hbe] at hLs3
  obtain ⟨c0, c1, _, _⟩ := row_at hLs3.box
  clear hKp hB02 k02 k12 hsz2 hy hq hB3
  gi_wp2_with fail
  refine ⟨trivial, ?_⟩
  gi_at_call 47
  refine (callsIn_wide.2 (hRd _)).mono ?_
  rintro e W5 ⟨rfl, hB5⟩
  have hLs5 := hLs3.more hB5
  have hA6 := (Below.refl _ W5).alloc (Nat.le_refl _) (.cells #[.int .i64 k, .int .i64 n] 39)
  have kd := World.alloc_heap_new W5 (.cells #[.int .i64 k, .int .i64 n] 39)
  have hLs6 := hLs5.more hA6
  clear hRd hLs3 hB5 hbe hW4
  obtain ⟨W6, hW6⟩ : ∃ W6, W5.alloc (.cells #[.int .i64 k, .int .i64 n] 39) = W6 := ⟨_, rfl⟩
  rw [hW6] at kd hLs6
  obtain ⟨c0, c1, _, _⟩ := row_at hLs6.box
  obtain ⟨r0, r1, f0, f1⟩ := row_at hLs6.res
  obtain ⟨s0, s1, _, _⟩ := row_at hLs6.out
  obtain ⟨e0, e1, _, _⟩ := row_at kd
  clear hLs5 hA6
  gi_wp2_with fail
  refine ⟨trivial, ?_⟩
  gi_at_call 70
  refine (callsIn_wide.2 (hO _ hLs6.below)).mono ?_
  rintro e W7 ⟨rfl, hB7⟩
  have hLs7 := hLs6.more hB7
  obtain ⟨c0, c1, _, _⟩ := row_at hLs7.box
  obtain ⟨r0, r1, f0, f1⟩ := row_at hLs7.res
  obtain ⟨s0, s1, _, _⟩ := row_at hLs7.out
  clear hO hLs6 hB7 kd e0 e1
  cases tb with
  | false =>
    have hrs := hide (desk_set hLs7.res (.slice y1 d.1.length y2) (.slice q1 d.2.length q2))
    have hfin := hide hLs7.done
    clear hLs7 hT hnn
    gi_wp2
    (try simp only [Exit.inBlock, Exit.then])
    exact bodyPost_ret (results_desk2 rfl _ _ (w.heap.size + 1) _ _ rfl hrs.out) rfl ⟨_, rfl, hfin.out.desk, hfin.out.cap, hfin.out.below⟩
  | true =>
    have hT2 := hT (hnn rfl)
    clear hT hnn
    gi_wp2
    refine wpIn_region_put 3 [(some 86, 0), (some 87, 1), (some 88, 2)] (by kernel_rfl) (by kernel_rfl) (by kernel_rfl) (by decide) (by rfl) (by decide)
      (fun j v V => match j with | 0 => v = .agg #[.slice y1 d.1.length y2, .slice q1 d.2.length q2] | 1 => v = .int .i64 N | 2 => v = .string S | _ => True)
      (fun j v V V' h _ => match j, h with | 0, h => h | 1, h => h | 2, h => h | (_ + 3), _ => trivial)
      ?_ ?_
    · rintro j oo s V hj ho hBV hd Q' hQ
      have hLV := hLs7.more hBV
      obtain ⟨s0, s1, _, _⟩ := row_at hLV.out
      rcases (show j = 0 ∨ j = 1 ∨ j = 2 by omega) with rfl | rfl | rfl
      all_goals
        simp at ho
        subst ho
        simp only [putsOf, Act.put, List.setIfInBounds_toArray, List.set_cons_succ, List.set_cons_zero] at hQ ⊢
        have hQ' := hide hQ
        clear hQ
      · clear hd
        gi_wp2
        exact hQ'.out _ _ (Below.refl _ _) rfl
      · clear hd
        gi_wp2
        exact hQ'.out _ _ (Below.refl _ _) rfl
      · have p1 : s 1 = .int .i64 N := hd 1 (by kernel_rfl)
        have hTV := hT2 V
        clear hd
        gi_wp2_with (refine ⟨trivial, ?_⟩; gi_at_call 67; go_loud (refine (callsIn_wide.2 hTV).mono ?_; rintro e W9 ⟨rfl, hB9⟩))
        have hr := hQ'.out
        simp only [p1] at hr ⊢
        exact hr _ _ hB9 rfl
    · rintro s V hBV hd
      have p0 : s 0 = .agg #[.slice y1 d.1.length y2, .slice q1 d.2.length q2] := hd 0 (by omega)
      have p2 : s 2 = .string S := hd 2 (by omega)
      clear hd
      have hLV := hLs7.more hBV
      obtain ⟨r0, r1, f0, f1⟩ := row_at hLV.res
      have hrs := hide (desk_set hLV.res (.slice y1 d.1.length y2) (.slice q1 d.2.length q2))
      have hfin := hide hLV.done
      clear hLV hLs7 hT2
      simp only [putsOf, Act.put, List.setIfInBounds_toArray, List.set_cons_succ, List.set_cons_zero]
      simp only [List.drop_succ_cons, List.drop_zero]
      simp only [p0, p2]
      gi_wp2
      (try simp only [Exit.inBlock, Exit.then])
      exact bodyPost_ret (results_desk2 rfl _ _ (w.heap.size + 1) _ _ rfl hrs.out) rfl ⟨_, rfl, hfin.out.desk, hfin.out.cap, hfin.out.below⟩

set_option maxRecDepth 100000 in
set_option maxHeartbeats 4000000 in
theorem specLine_balanced (x p : Value) (d : Dk) (w : World) (hx : Ints w x d.1) (hp : PastI w p d.2) (hb : deskB d = true) (k n : Int) (hr : rdV [98, 97, 108, 97, 110, 99, 101, 100] = ((k, n), false)) :
    Calls Tryz.prog 21 #[.agg #[x, p], .string ⟨#[98, 97, 108, 97, 110, 99, 101, 100]⟩] w fun e w' => ∃ y, e = .returned (.tuple #[y, .string (str (if 4 * onesV d.1 = (d.1.length : Int) * ((d.1.length : Int) + 1) then [121, 101, 115] else [110, 111]))]) ∧ DeskI w' y d ∧ CapN w.heap.size y ∧ Below w.heap.size w w' := by
  obtain ⟨hd1, hd2, hd3⟩ := deskB_is.1 hb
  have hl1 := sideB_len hd2
  have hB : Below w.heap.size w ((w.alloc (.cells #[x, p] 31)).alloc (.cells #[.slice none 0 0, .slice none 0 0] 31)) := ((Below.refl _ w).alloc (Nat.le_refl _) _).alloc (by rw [World.size_alloc]; omega) _
  have k0 : ((w.alloc (.cells #[x, p] 31)).alloc (.cells #[.slice none 0 0, .slice none 0 0] 31)).heap[w.heap.size]? = some (.cells #[x, p] 31 (0, 0)) := (Below.heap_alloc _ _ _ (by rw [World.size_alloc]; omega)).trans (World.alloc_heap_new w _)
  have k1 := World.alloc_heap_new (w.alloc (.cells #[x, p] 31)) (.cells #[.slice none 0 0, .slice none 0 0] 31)
  rw [World.size_alloc] at k1
  have hsz : w.heap.size + 2 ≤ ((w.alloc (.cells #[x, p] 31)).alloc (.cells #[.slice none 0 0, .slice none 0 0] 31)).heap.size := by simp
  obtain ⟨W1, hW1⟩ : ∃ W1, (w.alloc (.cells #[x, p] 31)).alloc (.cells #[.slice none 0 0, .slice none 0 0] 31) = W1 := ⟨_, rfl⟩
  rw [hW1] at hB k0 k1 hsz
  have hOK := specDeskOk (.agg #[x, p]) d W1 ⟨x, p, rfl, hx.below hB, hp.below hB⟩ (deskB_size hb)
  rw [hb] at hOK
  have hKp := fun V (hV : Below w.heap.size w V) => specCopy x p d V (hx.below hV) (hp.below hV) hb
  have hRd : ∀ V, Calls Tryz.prog 47 #[.string ⟨#[98, 97, 108, 97, 110, 99, 101, 100]⟩] V fun e w' => e = .returned (.tuple #[dV (rdV [98, 97, 108, 97, 110, 99, 101, 100]).1.1 (rdV [98, 97, 108, 97, 110, 99, 101, 100]).1.2, .bool (rdV [98, 97, 108, 97, 110, 99, 101, 100]).2]) ∧ Below V.heap.size V w' := fun V => specReadDeed [98, 97, 108, 97, 110, 99, 101, 100] (by decide) (by decide) V
  have hO := fun V (hV : Below w.heap.size w V) => specOnes x d.1 V (hx.below hV) (lies_row hx hl1.1) (by omega)
  have hN0 := ones_nn hd2
  have hN1 := onesV_big hd2
  obtain ⟨N, hN⟩ : ∃ N, onesV d.1 = N := ⟨_, rfl⟩
  rw [hN] at hO hN0 hN1 ⊢
  have hw1 : IntKind.i64.wrap (4 * N) = 4 * N := IntWalk.i64_in _ (by omega)
  have hw2 : IntKind.i64.wrap ((d.1.length : Int) + 1) = (d.1.length : Int) + 1 := IntWalk.i64_in _ (by omega)
  have hw3 : IntKind.i64.wrap ((d.1.length : Int) * ((d.1.length : Int) + 1)) = (d.1.length : Int) * ((d.1.length : Int) + 1) := by
    refine IntWalk.i64_in _ ?_
    have h2 : d.1.length * (d.1.length + 1) ≤ 12 * 13 := Nat.mul_le_mul hl1.2 (by omega)
    have h3 : ((d.1.length * (d.1.length + 1) : Nat) : Int) = (d.1.length : Int) * ((d.1.length : Int) + 1) := by simp
    omega
  have hout : str (if 4 * N = (d.1.length : Int) * ((d.1.length : Int) + 1) then [121, 101, 115] else [110, 111]) = if 4 * N = (d.1.length : Int) * ((d.1.length : Int) + 1) then ⟨#[121, 101, 115]⟩ else ⟨#[110, 111]⟩ := by
    split <;> kernel_rfl
  rw [hout]
  obtain ⟨OUT, hOUT⟩ : ∃ O, (if 4 * N = (d.1.length : Int) * ((d.1.length : Int) + 1) then (⟨#[121, 101, 115]⟩ : ByteArray) else ⟨#[110, 111]⟩) = O := ⟨_, rfl⟩
  rw [hOUT]
  replace hOUT := hide hOUT
  rw [hr] at hRd
  simp only at hRd
  unfold dV at hRd
  obtain ⟨xa, xc, rfl⟩ := hx.shape
  obtain ⟨pa, pc, rfl, _⟩ := id hp
  obtain ⟨c0, c1, _, _⟩ := row_at k0
  have l0 := (Array.getElem?_eq_some_iff.1 k0).1
  have l1 := (Array.getElem?_eq_some_iff.1 k1).1
  clear hx hp hd1 hr hN hout
  refine (callsIn_wide (n := 9)).1 ?_
  refine callsIn_of_wp Tryz.func21 rfl trivial ?_ rfl
  simp only [Tryz.ntmps21, List.size_toArray, List.length_cons, List.length_nil, Nat.reduceAdd, Nat.reduceSub, Array.replicate_succ, Array.replicate_zero, List.push_toArray, List.append_toArray, List.nil_append, List.cons_append]
  gi_wp2_with fail
  refine ⟨trivial, ?_⟩
  gi_at_call 13
  refine (callsIn_wide.2 hOK).mono ?_
  rintro e W2 ⟨rfl, hB2⟩
  have hB02 := hB.trans (hB2.mono hB.size)
  have k02 := (hB2.block _ l0).trans k0
  have k12 := (hB2.block _ l1).trans k1
  have hsz2 := Nat.le_trans hsz hB2.size
  obtain ⟨c0, c1, _, _⟩ := row_at k02
  clear hOK hB2 k0 k1 l0 l1 hB hsz
  gi_wp2_with fail
  refine ⟨trivial, ?_⟩
  gi_at_call 65
  refine (callsIn_wide.2 (hKp _ hB02)).mono ?_
  rintro e W3 ⟨y, q, rfl, hy, hq, hB3⟩
  have hLs3 : Ls w W3.heap.size (.slice xa d.1.length xc) (.slice pa d.2.length pc) y q d (W3.alloc (.cells #[y, q] 31)) := by
    have hB03 := hB02.trans (hB3.mono hB02.size)
    have hA := (Below.refl _ W3).alloc (Nat.le_refl _) (.cells #[y, q] 31)
    have h02 := (hB3.block _ (Array.getElem?_eq_some_iff.1 k02).1).trans k02
    have h12 := (hB3.block _ (Array.getElem?_eq_some_iff.1 k12).1).trans k12
    exact ⟨hB03.alloc hB03.size _, (hA.block _ (Array.getElem?_eq_some_iff.1 h02).1).trans h02, (hA.block _ (Array.getElem?_eq_some_iff.1 h12).1).trans h12, Nat.le_trans hsz2 hB3.size, World.alloc_heap_new W3 _, own_below (own_fromD hy hsz2) hA, (hq.down hsz2).below hA⟩
  obtain ⟨y1, y2, rfl⟩ := own_form hy
  obtain ⟨q1, q2, rfl⟩ := hq.form
  obtain ⟨b, hbe⟩ : ∃ b, W3.heap.size = b := ⟨_, rfl⟩
  obtain ⟨W4, hW4⟩ : ∃ W4, W3.alloc (.cells #[.slice y1 d.1.length y2, .slice q1 d.2.length q2] 31) = W4 := ⟨_, rfl⟩
  rw [hW4, hbe] at hLs3
  obtain ⟨c0, c1, _, _⟩ := row_at hLs3.box
  clear hKp hB02 k02 k12 hsz2 hy hq hB3
  gi_wp2_with fail
  refine ⟨trivial, ?_⟩
  gi_at_call 47
  refine (callsIn_wide.2 (hRd _)).mono ?_
  rintro e W5 ⟨rfl, hB5⟩
  have hLs5 := hLs3.more hB5
  have hA6 := (Below.refl _ W5).alloc (Nat.le_refl _) (.cells #[.int .i64 k, .int .i64 n] 39)
  have kd := World.alloc_heap_new W5 (.cells #[.int .i64 k, .int .i64 n] 39)
  have hLs6 := hLs5.more hA6
  clear hRd hLs3 hB5 hbe hW4
  obtain ⟨W6, hW6⟩ : ∃ W6, W5.alloc (.cells #[.int .i64 k, .int .i64 n] 39) = W6 := ⟨_, rfl⟩
  rw [hW6] at kd hLs6
  obtain ⟨c0, c1, _, _⟩ := row_at hLs6.box
  obtain ⟨r0, r1, f0, f1⟩ := row_at hLs6.res
  obtain ⟨s0, s1, _, _⟩ := row_at hLs6.out
  obtain ⟨e0, e1, _, _⟩ := row_at kd
  clear hLs5 hA6
  gi_wp2
  refine wpIn_region_put 12 [(some 91, 0), (some 92, 1), (some 93, 2), (some 94, 3), (some 95, 4), (some 96, 5), (some 97, 6), (some 98, 7), (some 99, 8), (some 100, 9), (some 101, 10), (some 102, 11)] (by kernel_rfl) (by kernel_rfl) (by kernel_rfl) (by decide) (by rfl) (by decide)
    (fun j v V => match j with | 0 => v = .pointer (some ⟨w.heap.size, 0, none⟩) | 1 => v = .slice xa d.1.length xc | 2 => v = .int .i64 N | 3 => v = .int .i64 (4 * N) | 4 => v = .pointer (some ⟨w.heap.size, 0, none⟩) | 5 => v = .slice xa d.1.length xc | 6 => v = .int .i64 (d.1.length : Nat) | 7 => v = .pointer (some ⟨w.heap.size, 0, none⟩) | 8 => v = .slice xa d.1.length xc | 9 => v = .int .i64 (d.1.length : Nat) | 10 => v = .int .i64 ((d.1.length : Int) + 1) | 11 => v = .int .i64 ((d.1.length : Int) * ((d.1.length : Int) + 1)) | _ => True)
    (fun j v V V' h _ => match j, h with | 0, h => h | 1, h => h | 2, h => h | 3, h => h | 4, h => h | 5, h => h | 6, h => h | 7, h => h | 8, h => h | 9, h => h | 10, h => h | 11, h => h | (_ + 12), _ => trivial)
    ?_ ?_
  · rintro j oo s V hj ho hBV hd Q' hQ
    have hLV := hLs6.more hBV
    obtain ⟨c0, c1, _, _⟩ := row_at hLV.box
    rcases (show j = 0 ∨ j = 1 ∨ j = 2 ∨ j = 3 ∨ j = 4 ∨ j = 5 ∨ j = 6 ∨ j = 7 ∨ j = 8 ∨ j = 9 ∨ j = 10 ∨ j = 11 by omega) with rfl | rfl | rfl | rfl | rfl | rfl | rfl | rfl | rfl | rfl | rfl | rfl
    all_goals
      simp at ho
      subst ho
      simp only [putsOf, Act.put, List.setIfInBounds_toArray, List.set_cons_succ, List.set_cons_zero] at hQ ⊢
      have hQ' := hide hQ
      clear hQ
    · clear hd
      gi_wp2
      have hr := hQ'.out
      exact hr _ _ (Below.refl _ _) rfl
    · have p0 : s 0 = .pointer (some ⟨w.heap.size, 0, none⟩) := hd 0 (by kernel_rfl)
      clear hd
      gi_wp2
      have hr := hQ'.out
      simp only [p0] at hr ⊢
      exact hr _ _ (Below.refl _ _) rfl
    · have p1 : s 1 = .slice xa d.1.length xc := hd 1 (by kernel_rfl)
      have hOV := hO V hLV.below
      clear hd
      gi_wp2_with (refine ⟨trivial, ?_⟩; gi_at_call 68; go_loud (refine (callsIn_wide.2 hOV).mono ?_; rintro e W9 ⟨rfl, hB9⟩))
      have hr := hQ'.out
      simp only [p1] at hr ⊢
      exact hr _ _ hB9 rfl
    · have p2 : s 2 = .int .i64 N := hd 2 (by kernel_rfl)
      clear hd
      gi_wp2
      have hr := hQ'.out
      simp only [p2] at hr ⊢
      exact hr _ _ (Below.refl _ _) rfl
    · clear hd
      gi_wp2
      have hr := hQ'.out
      exact hr _ _ (Below.refl _ _) rfl
    · have p4 : s 4 = .pointer (some ⟨w.heap.size, 0, none⟩) := hd 4 (by kernel_rfl)
      clear hd
      gi_wp2
      have hr := hQ'.out
      simp only [p4] at hr ⊢
      exact hr _ _ (Below.refl _ _) rfl
    · have p5 : s 5 = .slice xa d.1.length xc := hd 5 (by kernel_rfl)
      clear hd
      gi_wp2
      have hr := hQ'.out
      simp only [p5] at hr ⊢
      exact hr _ _ (Below.refl _ _) rfl
    · clear hd
      gi_wp2
      have hr := hQ'.out
      exact hr _ _ (Below.refl _ _) rfl
    · have p7 : s 7 = .pointer (some ⟨w.heap.size, 0, none⟩) := hd 7 (by kernel_rfl)
      clear hd
      gi_wp2
      have hr := hQ'.out
      simp only [p7] at hr ⊢
      exact hr _ _ (Below.refl _ _) rfl
    · have p8 : s 8 = .slice xa d.1.length xc := hd 8 (by kernel_rfl)
      clear hd
      gi_wp2
      have hr := hQ'.out
      simp only [p8] at hr ⊢
      exact hr _ _ (Below.refl _ _) rfl
    · have p9 : s 9 = .int .i64 (d.1.length : Nat) := hd 9 (by kernel_rfl)
      clear hd
      gi_wp2
      have hr := hQ'.out
      simp only [p9] at hr ⊢
      exact hr _ _ (Below.refl _ _) rfl
    · have p6 : s 6 = .int .i64 (d.1.length : Nat) := hd 6 (by kernel_rfl)
      have p10 : s 10 = .int .i64 ((d.1.length : Int) + 1) := hd 10 (by kernel_rfl)
      clear hd
      gi_wp2
      have hr := hQ'.out
      simp only [p6, p10] at hr ⊢
      exact hr _ _ (Below.refl _ _) rfl
  · rintro s V hBV hd
    have p3 : s 3 = .int .i64 (4 * N) := hd 3 (by omega)
    have p11 : s 11 = .int .i64 ((d.1.length : Int) * ((d.1.length : Int) + 1)) := hd 11 (by omega)
    clear hd
    have hLV := hLs6.more hBV
    obtain ⟨r0, r1, f0, f1⟩ := row_at hLV.res
    obtain ⟨s0, s1, _, _⟩ := row_at hLV.out
    have hrs := hide (desk_set hLV.res (.slice y1 d.1.length y2) (.slice q1 d.2.length q2))
    have hfin := hide hLV.done
    clear hLV hLs6 hO
    simp only [putsOf, Act.put, List.setIfInBounds_toArray, List.set_cons_succ, List.set_cons_zero]
    simp only [List.drop_succ_cons, List.drop_zero]
    simp only [p3, p11]
    by_cases he : 4 * N = (d.1.length : Int) * ((d.1.length : Int) + 1)
    · have hOe := hide (show OUT = ⟨#[121, 101, 115]⟩ by rw [← hOUT.out, if_pos he])
      have heb : ((4 * N) == ((d.1.length : Int) * ((d.1.length : Int) + 1))) = true := by rw [beq_iff_eq]; exact he
      clear hOUT
      gi_wp2
      (try simp only [Exit.inBlock, Exit.then])
      exact bodyPost_ret (results_desk2 rfl _ _ (w.heap.size + 1) _ _ rfl hrs.out) rfl ⟨_, by rw [hOe.out]; rfl, hfin.out.desk, hfin.out.cap, hfin.out.below⟩
    · have hOe := hide (show OUT = ⟨#[110, 111]⟩ by rw [← hOUT.out, if_neg he])
      have heb : ((4 * N) == ((d.1.length : Int) * ((d.1.length : Int) + 1))) = false := by rw [beq_eq_false_iff_ne]; exact he
      clear hOUT
      gi_wp2
      (try simp only [Exit.inBlock, Exit.then])
      exact bodyPost_ret (results_desk2 rfl _ _ (w.heap.size + 1) _ _ rfl hrs.out) rfl ⟨_, by rw [hOe.out]; rfl, hfin.out.desk, hfin.out.cap, hfin.out.below⟩

set_option maxRecDepth 100000 in
set_option maxHeartbeats 4000000 in
theorem specLine_row (x p : Value) (d : Dk) (w : World) (hx : Ints w x d.1) (hp : PastI w p d.2) (hb : deskB d = true) (k n : Int) (hr : rdV [114, 111, 119] = ((k, n), false)) :
    Calls Tryz.prog 21 #[.agg #[x, p], .string ⟨#[114, 111, 119]⟩] w fun e w' => ∃ y, e = .returned (.tuple #[y, .string (str (rowTx d.1))]) ∧ DeskI w' y d ∧ CapN w.heap.size y ∧ Below w.heap.size w w' := by
  obtain ⟨hd1, hd2, hd3⟩ := deskB_is.1 hb
  have hl1 := sideB_len hd2
  have hB : Below w.heap.size w ((w.alloc (.cells #[x, p] 31)).alloc (.cells #[.slice none 0 0, .slice none 0 0] 31)) := ((Below.refl _ w).alloc (Nat.le_refl _) _).alloc (by rw [World.size_alloc]; omega) _
  have k0 : ((w.alloc (.cells #[x, p] 31)).alloc (.cells #[.slice none 0 0, .slice none 0 0] 31)).heap[w.heap.size]? = some (.cells #[x, p] 31 (0, 0)) := (Below.heap_alloc _ _ _ (by rw [World.size_alloc]; omega)).trans (World.alloc_heap_new w _)
  have k1 := World.alloc_heap_new (w.alloc (.cells #[x, p] 31)) (.cells #[.slice none 0 0, .slice none 0 0] 31)
  rw [World.size_alloc] at k1
  have hsz : w.heap.size + 2 ≤ ((w.alloc (.cells #[x, p] 31)).alloc (.cells #[.slice none 0 0, .slice none 0 0] 31)).heap.size := by simp
  obtain ⟨W1, hW1⟩ : ∃ W1, (w.alloc (.cells #[x, p] 31)).alloc (.cells #[.slice none 0 0, .slice none 0 0] 31) = W1 := ⟨_, rfl⟩
  rw [hW1] at hB k0 k1 hsz
  have hOK := specDeskOk (.agg #[x, p]) d W1 ⟨x, p, rfl, hx.below hB, hp.below hB⟩ (deskB_size hb)
  rw [hb] at hOK
  have hKp := fun V (hV : Below w.heap.size w V) => specCopy x p d V (hx.below hV) (hp.below hV) hb
  have hRd : ∀ V, Calls Tryz.prog 47 #[.string ⟨#[114, 111, 119]⟩] V fun e w' => e = .returned (.tuple #[dV (rdV [114, 111, 119]).1.1 (rdV [114, 111, 119]).1.2, .bool (rdV [114, 111, 119]).2]) ∧ Below V.heap.size V w' := fun V => specReadDeed [114, 111, 119] (by decide) (by decide) V
  have hbit := fun i (hi : i < d.1.length) => sideB_at hd2 hi
  have hall : ∀ k, k < d.1.length → rowTx (d.1.take (k + 1)) = rowTx (d.1.take k) ++ decI (d.1.getD k 0) := fun k hk => by
    have : d.1.take (k + 1) = d.1.take k ++ [d.1.getD k 0] := by
      rw [List.take_add_one, List.getElem?_eq_getElem (by omega), List.getD, List.getElem?_eq_getElem (by omega)]; rfl
    unfold rowTx
    rw [this, List.flatMap_append]
    simp
  have hlen : ∀ m, m ≤ d.1.length → (rowTx (d.1.take m)).length = m := fun m => by
    induction m with
    | zero => intro _; simp [rowTx]
    | succ m ih =>
      intro hm
      rw [hall m (by omega), List.length_append, ih (by omega)]
      have := hbit m (by omega)
      rcases (show d.1.getD m 0 = 0 ∨ d.1.getD m 0 = 1 by omega) with e | e <;> rw [e] <;> rfl
  have hfin0 : rowTx (d.1.take d.1.length) = rowTx d.1 := by rw [List.take_length]
  replace hall := hide hall
  replace hlen := hide hlen
  replace hfin0 := hide hfin0
  obtain ⟨R, hR⟩ : ∃ R, rowTx d.1 = R := ⟨_, rfl⟩
  rw [hR] at hfin0 ⊢
  have hcW : ∀ W, Below w.heap.size w W → ∀ i, i < d.1.length → ∃ g c, x = .slice (some ⟨g, 0, none⟩) d.1.length c ∧ W.cell? ⟨g, i, none⟩ = some (.int .i64 (d.1.getD i 0)) := fun W hW i hi => by
    obtain ⟨g, c, e, hg, hc⟩ := hx.cells hl1.1
    exact ⟨g, c, e, (hW.cell (p := ⟨g, i, none⟩) hg).trans (hc i hi)⟩
  replace hcW := hide hcW
  have hdec := hide hl1
  rw [hr] at hRd
  simp only at hRd
  unfold dV at hRd
  obtain ⟨xa, xc, rfl⟩ := hx.shape
  obtain ⟨pa, pc, rfl, _⟩ := id hp
  obtain ⟨c0, c1, _, _⟩ := row_at k0
  have l0 := (Array.getElem?_eq_some_iff.1 k0).1
  have l1 := (Array.getElem?_eq_some_iff.1 k1).1
  clear hx hp hd1 hr hR
  refine (callsIn_wide (n := 9)).1 ?_
  refine callsIn_of_wp Tryz.func21 rfl trivial ?_ rfl
  simp only [Tryz.ntmps21, List.size_toArray, List.length_cons, List.length_nil, Nat.reduceAdd, Nat.reduceSub, Array.replicate_succ, Array.replicate_zero, List.push_toArray, List.append_toArray, List.nil_append, List.cons_append]
  gi_wp2_with fail
  refine ⟨trivial, ?_⟩
  gi_at_call 13
  refine (callsIn_wide.2 hOK).mono ?_
  rintro e W2 ⟨rfl, hB2⟩
  have hB02 := hB.trans (hB2.mono hB.size)
  have k02 := (hB2.block _ l0).trans k0
  have k12 := (hB2.block _ l1).trans k1
  have hsz2 := Nat.le_trans hsz hB2.size
  obtain ⟨c0, c1, _, _⟩ := row_at k02
  clear hOK hB2 k0 k1 l0 l1 hB hsz
  gi_wp2_with fail
  refine ⟨trivial, ?_⟩
  gi_at_call 65
  refine (callsIn_wide.2 (hKp _ hB02)).mono ?_
  rintro e W3 ⟨y, q, rfl, hy, hq, hB3⟩
  have hLs3 : Ls w W3.heap.size (.slice xa d.1.length xc) (.slice pa d.2.length pc) y q d (W3.alloc (.cells #[y, q] 31)) := by
    have hB03 := hB02.trans (hB3.mono hB02.size)
    have hA := (Below.refl _ W3).alloc (Nat.le_refl _) (.cells #[y, q] 31)
    have h02 := (hB3.block _ (Array.getElem?_eq_some_iff.1 k02).1).trans k02
    have h12 := (hB3.block _ (Array.getElem?_eq_some_iff.1 k12).1).trans k12
    exact ⟨hB03.alloc hB03.size _, (hA.block _ (Array.getElem?_eq_some_iff.1 h02).1).trans h02, (hA.block _ (Array.getElem?_eq_some_iff.1 h12).1).trans h12, Nat.le_trans hsz2 hB3.size, World.alloc_heap_new W3 _, own_below (own_fromD hy hsz2) hA, (hq.down hsz2).below hA⟩
  obtain ⟨y1, y2, rfl⟩ := own_form hy
  obtain ⟨q1, q2, rfl⟩ := hq.form
  obtain ⟨b, hbe⟩ : ∃ b, W3.heap.size = b := ⟨_, rfl⟩
  obtain ⟨W4, hW4⟩ : ∃ W4, W3.alloc (.cells #[.slice y1 d.1.length y2, .slice q1 d.2.length q2] 31) = W4 := ⟨_, rfl⟩
  rw [hW4, hbe] at hLs3
  obtain ⟨c0, c1, _, _⟩ := row_at hLs3.box
  clear hKp hB02 k02 k12 hsz2 hy hq hB3
  gi_wp2_with fail
  refine ⟨trivial, ?_⟩
  gi_at_call 47
  refine (callsIn_wide.2 (hRd _)).mono ?_
  rintro e W5 ⟨rfl, hB5⟩
  have hLs5 := hLs3.more hB5
  have hA6 := (Below.refl _ W5).alloc (Nat.le_refl _) (.cells #[.int .i64 k, .int .i64 n] 39)
  have kd := World.alloc_heap_new W5 (.cells #[.int .i64 k, .int .i64 n] 39)
  have hLs6 := hLs5.more hA6
  clear hRd hLs3 hB5 hbe hW4
  obtain ⟨W6, hW6⟩ : ∃ W6, W5.alloc (.cells #[.int .i64 k, .int .i64 n] 39) = W6 := ⟨_, rfl⟩
  rw [hW6] at kd hLs6
  obtain ⟨c0, c1, _, _⟩ := row_at hLs6.box
  obtain ⟨r0, r1, f0, f1⟩ := row_at hLs6.res
  obtain ⟨s0, s1, _, _⟩ := row_at hLs6.out
  obtain ⟨e0, e1, _, _⟩ := row_at kd
  clear hLs5 hA6
  gi_wp2
  gi_loopw [11, 12] (fun o i wr => ∃ m : Nat, m ≤ d.1.length ∧ i = .int .i64 m ∧ o = .string (str (rowTx (d.1.take m))) ∧ Ls w b (.slice xa d.1.length xc) (.slice pa d.2.length pc) (.slice y1 d.1.length y2) (.slice q1 d.2.length q2) d wr) (fun _ i _ => d.1.length - (intOf i).toNat)
  case atStart => exact ⟨0, by omega, rfl, rfl, hLs6⟩
  case round =>
    clear hLs6 c0 c1 r0 r1 s0 s1 f0 f1 kd e0 e1
    obtain ⟨m, hm, rfl, rfl, hLs⟩ := hrel
    obtain ⟨c0, c1, _, _⟩ := row_at hLs.box
    by_cases hlt : m < d.1.length
    · have hki : (m : Int) < (d.1.length : Int) := by omega
      obtain ⟨g, c, hxe, hcell⟩ := hcW.out wr hLs.below m hlt
      simp only [Value.slice.injEq, true_and] at hxe
      obtain ⟨hxa, -⟩ := hxe
      subst hxa
      have hb01 := hbit m hlt
      have hst := hide (hall.out m hlt)
      have hl1' := hlen.out m hm
      have hT := specNum (d.1.getD m 0) (by omega) (by omega) wr
      obtain ⟨yv, hyv⟩ : ∃ yv, d.1.getD m 0 = yv := ⟨_, rfl⟩
      rw [hyv] at hcell hb01 hst hT
      have hdl : (decI yv).length ≤ 1 := by
        rcases (show yv = 0 ∨ yv = 1 by omega) with e | e <;> rw [e] <;> decide
      have ha1 := str_app (rowTx (d.1.take m)) (decI yv)
      rw [← hst.out] at ha1
      have hs1 := str_size (rowTx (d.1.take m))
      have hs2 := str_size (decI yv)
      obtain ⟨T, hTT⟩ : ∃ T, str (decI yv) = T := ⟨_, rfl⟩
      obtain ⟨A, hA⟩ : ∃ A, str (rowTx (d.1.take m)) = A := ⟨_, rfl⟩
      obtain ⟨Z, hZ⟩ : ∃ Z, str (rowTx (d.1.take (m + 1))) = Z := ⟨_, rfl⟩
      rw [hTT] at hT ha1 hs2
      rw [hA] at ha1 hs1 ⊢
      rw [hZ] at ha1
      have hAs : A.size ≤ 100 := by omega
      have hTs : T.size ≤ 100 := by omega
      have hZ' := hide hZ
      clear hall hlen hbit hcW hyv hst hs1 hs2 hTT hA hZ hdl hl1'
      gi_wp2_with (refine ⟨trivial, ?_⟩; gi_at_call 67; go_loud (refine (callsIn_wide.2 hT).mono ?_; rintro e W9 ⟨rfl, hB9⟩; have hLs9 := hLs.more hB9))
      go_roundw
      case rel => exact ⟨m + 1, by omega, by go_num, by rw [hZ'.out], hLs9⟩
      case measure => simp [intOf]; omega
    · obtain rfl : m = d.1.length := by omega
      have hki : ¬ ((d.1.length : Nat) : Int) < (d.1.length : Int) := by omega
      rw [hfin0.out]
      obtain ⟨r0, r1, f0, f1⟩ := row_at hLs.res
      obtain ⟨s0, s1, _, _⟩ := row_at hLs.out
      have hrs := hide (desk_set hLs.res (.slice y1 d.1.length y2) (.slice q1 d.2.length q2))
      have hfin := hide hLs.done
      obtain ⟨RS, hRS⟩ : ∃ RS, str R = RS := ⟨_, rfl⟩
      rw [hRS]
      have hRS' := hide hRS
      clear hLs hall hlen hbit hcW hfin0 hRS
      gi_wp2
      (try simp only [Exit.inBlock, Exit.then])
      exact bodyPost_ret (results_desk2 rfl _ _ (w.heap.size + 1) _ _ rfl hrs.out) rfl ⟨_, by rw [hRS'.out]; rfl, hfin.out.desk, hfin.out.cap, hfin.out.below⟩

set_option maxRecDepth 100000 in
set_option maxHeartbeats 4000000 in
theorem specLine_words (x p : Value) (d : Dk) (l : List Nat) (w : World) (hx : Ints w x d.1) (hp : PastI w p d.2) (hb : deskB d = true) (hl : ∀ c ∈ l, c < 256) (hn : l.length ≤ 1100000) (k n : Int) (hr : rdV l = ((k, n), false)) (h0 : ¬ l = [114, 111, 119]) (h1 : ¬ l = [111, 110, 101, 115]) (h2 : ¬ l = [108, 97, 115, 116]) (h3 : ¬ l = [101, 110, 100]) (h4 : ¬ l = [98, 97, 108, 97, 110, 99, 101, 100]) :
    Calls Tryz.prog 21 #[.agg #[x, p], .string (str l)] w fun e w' => ∃ y, e = .returned (.tuple #[y, .string (str (wordsV l))]) ∧ DeskI w' y d ∧ CapN w.heap.size y ∧ Below w.heap.size w w' := by
  obtain ⟨hd1, hd2, hd3⟩ := deskB_is.1 hb
  have hl1 := sideB_len hd2
  have hB : Below w.heap.size w ((w.alloc (.cells #[x, p] 31)).alloc (.cells #[.slice none 0 0, .slice none 0 0] 31)) := ((Below.refl _ w).alloc (Nat.le_refl _) _).alloc (by rw [World.size_alloc]; omega) _
  have k0 : ((w.alloc (.cells #[x, p] 31)).alloc (.cells #[.slice none 0 0, .slice none 0 0] 31)).heap[w.heap.size]? = some (.cells #[x, p] 31 (0, 0)) := (Below.heap_alloc _ _ _ (by rw [World.size_alloc]; omega)).trans (World.alloc_heap_new w _)
  have k1 := World.alloc_heap_new (w.alloc (.cells #[x, p] 31)) (.cells #[.slice none 0 0, .slice none 0 0] 31)
  rw [World.size_alloc] at k1
  have hsz : w.heap.size + 2 ≤ ((w.alloc (.cells #[x, p] 31)).alloc (.cells #[.slice none 0 0, .slice none 0 0] 31)).heap.size := by simp
  obtain ⟨W1, hW1⟩ : ∃ W1, (w.alloc (.cells #[x, p] 31)).alloc (.cells #[.slice none 0 0, .slice none 0 0] 31) = W1 := ⟨_, rfl⟩
  rw [hW1] at hB k0 k1 hsz
  have hOK := specDeskOk (.agg #[x, p]) d W1 ⟨x, p, rfl, hx.below hB, hp.below hB⟩ (deskB_size hb)
  rw [hb] at hOK
  have hKp := fun V (hV : Below w.heap.size w V) => specCopy x p d V (hx.below hV) (hp.below hV) hb
  have hRd := fun V => specReadDeed l hl (by omega) V
  have e10 : ¬ (str l).toList = [114, 111, 119] := fun e => h0 (str_inj hl (by decide) (by rw [str_toList] at e; exact e))
  have e11 : ¬ (str l).toList = [111, 110, 101, 115] := fun e => h1 (str_inj hl (by decide) (by rw [str_toList] at e; exact e))
  have e12 : ¬ (str l).toList = [108, 97, 115, 116] := fun e => h2 (str_inj hl (by decide) (by rw [str_toList] at e; exact e))
  have e13 : ¬ (str l).toList = [101, 110, 100] := fun e => h3 (str_inj hl (by decide) (by rw [str_toList] at e; exact e))
  have e14 : ¬ (str l).toList = [98, 97, 108, 97, 110, 99, 101, 100] := fun e => h4 (str_inj hl (by decide) (by rw [str_toList] at e; exact e))
  have hCut := fun V => specCut 32 (by omega) l hl (by omega) V
  have hpos := cutL_pos 32 l []
  have hlen : (cutT 32 l).length ≤ l.length + 1 := cutL_len l
  have hmem : ∀ i, (∀ c ∈ (cutT 32 l).getD i [], c < 256) ∧ ((cutT 32 l).getD i []).length ≤ 2000000 := fun i => by
    by_cases hi : i < (cutT 32 l).length
    · have := cutL_mem 32 l [] ((cutT 32 l).getD i []) (word_mem _ i hi)
      exact ⟨fun c hc => hl c ((this.1 c hc).resolve_left (by simp)), Nat.le_trans this.2 (by simp; omega)⟩
    · rw [List.getD, List.getElem?_eq_none (by omega)]; simp
  have hwv : wordsV l = match numsL (cutT 32 l).tail with | none => whatT | some ns => askV ((cutT 32 l).getD 0 []) ns := rfl
  obtain ⟨OUT, hOUT⟩ : ∃ O, wordsV l = O := ⟨_, rfl⟩
  rw [hOUT] at hwv ⊢
  change 0 < (cutT 32 l).length at hpos
  obtain ⟨ws, hws⟩ : ∃ ws, cutT 32 l = ws := ⟨_, rfl⟩
  rw [hws] at hCut hpos hlen hmem hwv
  have hf0 : numsL ws.tail = none → OUT = whatT := fun e => by rw [hwv, e]
  have hf1 : ∀ ns, numsL ws.tail = some ns → OUT = askV (ws.getD 0 []) ns := fun ns e => by rw [hwv, e]
  replace hf0 := hide hf0
  replace hf1 := hide hf1
  have hst : Hid (numsL ws.tail = (numsL (ws.drop 1)).map ([] ++ ·)) := hide (by rw [List.drop_one]; cases numsL ws.tail <;> rfl)
  rw [hr] at hRd
  simp only at hRd
  unfold dV at hRd
  obtain ⟨xa, xc, rfl⟩ := hx.shape
  obtain ⟨pa, pc, rfl, _⟩ := id hp
  obtain ⟨LS, hLS⟩ : ∃ LS, str l = LS := ⟨_, rfl⟩
  rw [hLS] at hRd hCut e10 e11 e12 e13 e14 ⊢
  have b10 := beq_eq_false_iff_ne.2 e10
  have b11 := beq_eq_false_iff_ne.2 e11
  have b12 := beq_eq_false_iff_ne.2 e12
  have b13 := beq_eq_false_iff_ne.2 e13
  have b14 := beq_eq_false_iff_ne.2 e14
  obtain ⟨c0, c1, _, _⟩ := row_at k0
  have l0 := (Array.getElem?_eq_some_iff.1 k0).1
  have l1 := (Array.getElem?_eq_some_iff.1 k1).1
  clear hx hp hd1 hr hLS hwv hOUT hws h0 h1 h2 h3 h4
  refine (callsIn_wide (n := 9)).1 ?_
  refine callsIn_of_wp Tryz.func21 rfl trivial ?_ rfl
  simp only [Tryz.ntmps21, List.size_toArray, List.length_cons, List.length_nil, Nat.reduceAdd, Nat.reduceSub, Array.replicate_succ, Array.replicate_zero, List.push_toArray, List.append_toArray, List.nil_append, List.cons_append]
  gi_wp2_with fail
  refine ⟨trivial, ?_⟩
  gi_at_call 13
  refine (callsIn_wide.2 hOK).mono ?_
  rintro e W2 ⟨rfl, hB2⟩
  have hB02 := hB.trans (hB2.mono hB.size)
  have k02 := (hB2.block _ l0).trans k0
  have k12 := (hB2.block _ l1).trans k1
  have hsz2 := Nat.le_trans hsz hB2.size
  obtain ⟨c0, c1, _, _⟩ := row_at k02
  clear hOK hB2 k0 k1 l0 l1 hB hsz
  gi_wp2_with fail
  refine ⟨trivial, ?_⟩
  gi_at_call 65
  refine (callsIn_wide.2 (hKp _ hB02)).mono ?_
  rintro e W3 ⟨y, q, rfl, hy, hq, hB3⟩
  have hLs3 : Ls w W3.heap.size (.slice xa d.1.length xc) (.slice pa d.2.length pc) y q d (W3.alloc (.cells #[y, q] 31)) := by
    have hB03 := hB02.trans (hB3.mono hB02.size)
    have hA := (Below.refl _ W3).alloc (Nat.le_refl _) (.cells #[y, q] 31)
    have h02 := (hB3.block _ (Array.getElem?_eq_some_iff.1 k02).1).trans k02
    have h12 := (hB3.block _ (Array.getElem?_eq_some_iff.1 k12).1).trans k12
    exact ⟨hB03.alloc hB03.size _, (hA.block _ (Array.getElem?_eq_some_iff.1 h02).1).trans h02, (hA.block _ (Array.getElem?_eq_some_iff.1 h12).1).trans h12, Nat.le_trans hsz2 hB3.size, World.alloc_heap_new W3 _, own_below (own_fromD hy hsz2) hA, (hq.down hsz2).below hA⟩
  obtain ⟨y1, y2, rfl⟩ := own_form hy
  obtain ⟨q1, q2, rfl⟩ := hq.form
  obtain ⟨b, hbe⟩ : ∃ b, W3.heap.size = b := ⟨_, rfl⟩
  obtain ⟨W4, hW4⟩ : ∃ W4, W3.alloc (.cells #[.slice y1 d.1.length y2, .slice q1 d.2.length q2] 31) = W4 := ⟨_, rfl⟩
  rw [hW4, hbe] at hLs3
  obtain ⟨c0, c1, _, _⟩ := row_at hLs3.box
  clear hKp hB02 k02 k12 hsz2 hy hq hB3
  gi_wp2_with fail
  refine ⟨trivial, ?_⟩
  gi_at_call 47
  refine (callsIn_wide.2 (hRd _)).mono ?_
  rintro e W5 ⟨rfl, hB5⟩
  have hLs5 := hLs3.more hB5
  have hA6 := (Below.refl _ W5).alloc (Nat.le_refl _) (.cells #[.int .i64 k, .int .i64 n] 39)
  have kd := World.alloc_heap_new W5 (.cells #[.int .i64 k, .int .i64 n] 39)
  have hLs6 := hLs5.more hA6
  clear hRd hLs3 hB5 hbe hW4
  obtain ⟨W6, hW6⟩ : ∃ W6, W5.alloc (.cells #[.int .i64 k, .int .i64 n] 39) = W6 := ⟨_, rfl⟩
  rw [hW6] at kd hLs6
  obtain ⟨c0, c1, _, _⟩ := row_at hLs6.box
  obtain ⟨r0, r1, f0, f1⟩ := row_at hLs6.res
  obtain ⟨s0, s1, _, _⟩ := row_at hLs6.out
  obtain ⟨e0, e1, _, _⟩ := row_at kd
  clear hLs5 hA6
  gi_wp2_with fail
  refine ⟨trivial, ?_⟩
  gi_at_call 71
  refine (callsIn_wide.2 (hCut _)).mono ?_
  rintro e V0 ⟨wv, rfl, how, hB7⟩
  have hLs7 := hLs6.more hB7
  obtain ⟨va, vc, rfl, hwc⟩ := Texts.of_owns (L := ws) how
  have hwcell : ∀ W, Below V0.heap.size V0 W → ∀ i, i < ws.length → ∃ g, va = some ⟨g, 0, none⟩ ∧ W.cell? ⟨g, i, none⟩ = some (.string (str (ws.getD i []))) := fun W hW i hi => by
    obtain ⟨g, h1, h2, h3⟩ := hwc (by omega)
    refine ⟨g, h1, (hW.cell (p := ⟨g, i, none⟩) h2).trans (h3 i _ ?_)⟩
    rw [List.getD, List.getElem?_eq_getElem hi]; rfl
  replace hwcell := hide hwcell
  clear hCut hLs6 hB7 how hwc kd e0 e1 c0 c1 r0 r1 f0 f1 s0 s1
  obtain ⟨M, hM⟩ : ∃ M, ws.length = M := ⟨_, rfl⟩
  rw [hM] at hpos hlen hwcell ⊢
  have hmade : (V0.alloc (.cells #[] 3)).ownsRow V0.heap.size 3 1 (.slice (some ⟨V0.heap.size, 0, none⟩) 0 0) 0 [] := World.ownsRow_made _ _ _ (Nat.le_refl _) (by decide) rfl
  have hBm : Below V0.heap.size V0 (V0.alloc (.cells #[] 3)) := (Below.refl _ V0).alloc (Nat.le_refl _) _
  gi_wp2
  gi_loopw [16, 17] (fun o i wr => ∃ (m : Nat) (xs : List Int), 1 ≤ m ∧ m ≤ M ∧ xs.length + 1 = m ∧ i = .int .i64 m ∧ wr.ownsRow V0.heap.size 3 1 o xs.length (xs.map (Value.int .i64)) ∧ Hid (numsL ws.tail = (numsL (ws.drop m)).map (xs ++ ·)) ∧ Below V0.heap.size V0 wr) (fun _ i _ => M - (intOf i).toNat)
  case atStart => exact ⟨1, [], by omega, by omega, rfl, rfl, hmade, hst, hBm⟩
  case round =>
    clear hst hmade hBm
    obtain ⟨m, xs, hm1, hm, hxm, rfl, hown, hst, hB⟩ := hrel
    have hLs := hLs7.more hB
    by_cases hlt : m < M
    · have hki : (m : Int) < (M : Int) := by omega
      obtain ⟨g, hva, hcell⟩ := hwcell.out wr hB m hlt
      subst hva
      obtain ⟨hp, hpl⟩ := hmem m
      have hdr : ws.drop m = ws.getD m [] :: ws.drop (m + 1) := by
        rw [List.drop_eq_getElem_cons (by omega), List.getD, List.getElem?_eq_getElem (by omega)]; rfl
      have hst' := hst.out
      rw [hdr, numsL_cons] at hst'
      obtain ⟨pw, hpe⟩ : ∃ pw, ws.getD m [] = pw := ⟨_, rfl⟩
      rw [hpe] at hcell hp hpl hst'
      have hDg := specDigits pw hp hpl wr
      obtain ⟨T, hT⟩ : ∃ T, str pw = T := ⟨_, rfl⟩
      rw [hT] at hcell hDg
      cases hd : digT pw with
      | none =>
        have hdi : digI pw = -1 := by unfold digI; rw [hd]
        rw [hdi] at hDg
        rw [hd] at hst'
        have hOe := hide (show str OUT = ⟨#[119, 104, 97, 116]⟩ by rw [hf0.out (by rw [hst']; rfl)]; kernel_rfl)
        obtain ⟨r0, r1, f0, f1⟩ := row_at hLs.res
        obtain ⟨s0, s1, _, _⟩ := row_at hLs.out
        have hrs := hide (desk_set hLs.res (.slice y1 d.1.length y2) (.slice q1 d.2.length q2))
        have hfin := hide hLs.done
        clear hLs hst' hdr hpe hT hf0 hf1 hwcell hmem hst
        gi_wp2_with (refine ⟨trivial, ?_⟩; gi_at_call 72; go_loud (refine (callsIn_wide.2 hDg).mono ?_; rintro e W9 ⟨rfl, rfl⟩))
        (try simp only [Exit.inBlock, Exit.then])
        exact bodyPost_ret (results_desk2 rfl _ _ (w.heap.size + 1) _ _ rfl hrs.out) rfl ⟨_, by rw [hOe.out]; rfl, hfin.out.desk, hfin.out.cap, hfin.out.below⟩
      | some z =>
        have hdi : digI pw = z := by unfold digI; rw [hd]
        rw [hdi] at hDg
        rw [hd] at hst'
        have hnx := hide (show numsL ws.tail = (numsL (ws.drop (m + 1))).map ((xs ++ [(z : Int)]) ++ ·) by
          rw [hst']
          simp only
          cases numsL (ws.drop (m + 1)) <;> simp)
        have hz0 : ¬ (z : Int) < 0 := by omega
        clear hLs hst' hdr hpe hT hf0 hf1 hwcell hmem hst hp hpl hd hdi
        gi_wp2_with (first
          | (refine ⟨trivial, ?_⟩; gi_at_call 72; go_loud (refine (callsIn_wide.2 hDg).mono ?_; rintro e W9 ⟨rfl, rfl⟩))
          | (gi_at_builtin; go_loud (refine append_num_in rfl _ _ rfl V0.heap.size _ _ _ rfl hown rfl (by omega) hB.size ?_; intro v' w5 hown5 hgr)))
        have hB5 : Below V0.heap.size V0 w5 := (hB.alloc hB.size _).grown hgr (by rw [World.size_alloc]; have := hB.size; omega) (fun q hq => (hown.lt q hq).1)
        go_roundw
        case rel => exact ⟨m + 1, xs ++ [(z : Int)], by omega, by omega, by simp [hxm], by go_num, by simpa using hown5, hnx, hB5⟩
        case measure => simp [intOf]; omega
    · obtain rfl : m = M := by omega
      have hki : ¬ ((m : Nat) : Int) < (m : Int) := by omega
      obtain ⟨g, hva, hcell⟩ := hwcell.out wr hB 0 (by omega)
      subst hva
      have hst' := hst.out
      rw [List.drop_eq_nil_of_le (by omega)] at hst'
      have hOe := hf1.out xs (by rw [hst']; simp [numsL])
      have hI := Ints.of_owns hown
      obtain ⟨la, lc, rfl⟩ := own_form hown
      have hAsk := fun V (hV : Below wr.heap.size wr V) => specAsk (ws.getD 0 []) (hmem 0).1 xs _ V (hI.below hV)
      rw [← hOe] at hAsk
      obtain ⟨T, hT⟩ : ∃ T, str (ws.getD 0 []) = T := ⟨_, rfl⟩
      obtain ⟨S, hS⟩ : ∃ S, str OUT = S := ⟨_, rfl⟩
      rw [hT] at hcell hAsk
      rw [hS] at hAsk
      have hS' := hide hS
      have hc0 : ∀ V, Below wr.heap.size wr V → V.cell? ⟨g, 0, none⟩ = some (.string T) := fun V hV => (hV.cell (p := ⟨g, 0, none⟩) (World.block_lt_of_cell? _ _ hcell)).trans hcell
      have hc0' := hide hc0
      clear hc0 hst' hf0 hf1 hwcell hmem hst hT hS hOe hI hown hcell
      gi_wp2
      refine wpIn_region_put 6 [(some 127, 0), (some 128, 1), (some 129, 2), (some 130, 3), (some 131, 4), (some 132, 5)] (by kernel_rfl) (by kernel_rfl) (by kernel_rfl) (by decide) (by rfl) (by decide)
        (fun j v V => match j with | 0 => v = .agg #[.slice y1 d.1.length y2, .slice q1 d.2.length q2] | 1 => v = .slice (some ⟨g, 0, none⟩) m vc | 2 => v = .pointer (some ⟨g, 0, none⟩) | 3 => v = .string T | 4 => v = .slice la xs.length lc | 5 => v = .string S | _ => True)
        (fun j v V V' h _ => match j, h with | 0, h => h | 1, h => h | 2, h => h | 3, h => h | 4, h => h | 5, h => h | (_ + 6), _ => trivial)
        ?_ ?_
      · rintro j oo s V hj ho hBV hd Q' hQ
        have hLV := hLs.more hBV
        have hcV := hc0'.out V hBV
        obtain ⟨s0, s1, _, _⟩ := row_at hLV.out
        rcases (show j = 0 ∨ j = 1 ∨ j = 2 ∨ j = 3 ∨ j = 4 ∨ j = 5 by omega) with rfl | rfl | rfl | rfl | rfl | rfl
        all_goals
          simp at ho
          subst ho
          simp only [putsOf, Act.put, List.setIfInBounds_toArray, List.set_cons_succ, List.set_cons_zero] at hQ ⊢
          have hQ' := hide hQ
          clear hQ
        · clear hd
          gi_wp2
          exact hQ'.out _ _ (Below.refl _ _) rfl
        · clear hd
          gi_wp2
          exact hQ'.out _ _ (Below.refl _ _) rfl
        · have p1 : s 1 = .slice (some ⟨g, 0, none⟩) m vc := hd 1 (by kernel_rfl)
          have hm0 : (0 : Int) < (m : Int) := by omega
          clear hd
          gi_wp2
          have hr := hQ'.out
          simp only [p1] at hr ⊢
          exact hr _ _ (Below.refl _ _) rfl
        · have p2 : s 2 = .pointer (some ⟨g, 0, none⟩) := hd 2 (by kernel_rfl)
          clear hd
          gi_wp2
          have hr := hQ'.out
          simp only [p2] at hr ⊢
          exact hr _ _ (Below.refl _ _) rfl
        · clear hd
          gi_wp2
          exact hQ'.out _ _ (Below.refl _ _) rfl
        · have p3 : s 3 = .string T := hd 3 (by kernel_rfl)
          have p4 : s 4 = .slice la xs.length lc := hd 4 (by kernel_rfl)
          have hA := hAsk V hBV
          clear hd
          gi_wp2_with (refine ⟨trivial, ?_⟩; gi_at_call 73; go_loud (refine (callsIn_wide.2 hA).mono ?_; rintro e W9 ⟨rfl, hB9⟩))
          have hr := hQ'.out
          simp only [p3, p4] at hr ⊢
          exact hr _ _ hB9 rfl
      · rintro s V hBV hd
        have p0 : s 0 = .agg #[.slice y1 d.1.length y2, .slice q1 d.2.length q2] := hd 0 (by omega)
        have p5 : s 5 = .string S := hd 5 (by omega)
        clear hd
        have hLV := hLs.more hBV
        obtain ⟨r0, r1, f0, f1⟩ := row_at hLV.res
        have hrs := hide (desk_set hLV.res (.slice y1 d.1.length y2) (.slice q1 d.2.length q2))
        have hfin := hide hLV.done
        clear hLV hLs hLs7 hAsk
        simp only [putsOf, Act.put, List.setIfInBounds_toArray, List.set_cons_succ, List.set_cons_zero]
        simp only [List.drop_succ_cons, List.drop_zero]
        simp only [p0, p5]
        gi_wp2
        (try simp only [Exit.inBlock, Exit.then])
        exact bodyPost_ret (results_desk2 rfl _ _ (w.heap.size + 1) _ _ rfl hrs.out) rfl ⟨_, by rw [hS'.out]; rfl, hfin.out.desk, hfin.out.cap, hfin.out.below⟩
end Go.Proofs.YtiaaefapbcjgmaaGreatDoor
namespace Go.Proofs.YtiaaefapbcjgmaaGreatDoor
open Go Go.RowKit Go.Shelf

theorem specLine_ask (x p : Value) (d : Dk) (l : List Nat) (w : World) (hx : Ints w x d.1) (hp : PastI w p d.2) (hb : deskB d = true) (hl : ∀ c ∈ l, c < 256) (hn : l.length ≤ 1100000) (k n : Int) (hr : rdV l = ((k, n), false)) :
    Calls Tryz.prog 21 #[.agg #[x, p], .string (str l)] w fun e w' => ∃ y, e = .returned (.tuple #[y, .string (str (qaV d.1 l))]) ∧ DeskI w' y d ∧ CapN w.heap.size y ∧ Below w.heap.size w w' := by
  unfold qaV
  by_cases h0 : l = [114, 111, 119]
  · subst h0; rw [if_pos rfl]; exact specLine_row x p d w hx hp hb k n hr
  by_cases h1 : l = [111, 110, 101, 115]
  · subst h1; rw [if_neg h0, if_pos rfl]; exact specLine_ones x p d w hx hp hb k n hr
  by_cases h2 : l = [108, 97, 115, 116]
  · subst h2; rw [if_neg h0, if_neg h1, if_pos rfl]; exact specLine_last x p d w hx hp hb k n hr
  by_cases h3 : l = [101, 110, 100]
  · subst h3; rw [if_neg h0, if_neg h1, if_neg h2, if_pos rfl]; exact specLine_end x p d w hx hp hb k n hr
  by_cases h4 : l = [98, 97, 108, 97, 110, 99, 101, 100]
  · subst h4; rw [if_neg h0, if_neg h1, if_neg h2, if_neg h3, if_pos rfl]; exact specLine_balanced x p d w hx hp hb k n hr
  rw [if_neg h0, if_neg h1, if_neg h2, if_neg h3, if_neg h4]
  exact specLine_words x p d l w hx hp hb hl hn k n hr h0 h1 h2 h3 h4

set_option maxRecDepth 100000 in
set_option maxHeartbeats 1000000 in
theorem specLine_no (x p : Value) (d : Dk) (l : List Nat) (w : World) (hx : Ints w x d.1) (hp : PastI w p d.2) (hs : DkS d) (hb : deskB d = false) :
    Calls Tryz.prog 21 #[.agg #[x, p], .string (str l)] w fun e w' => ∃ y, e = .returned (.tuple #[y, .string (str (lineV d l).2)]) ∧ DeskI w' y (lineV d l).1 ∧ CapN w.heap.size y ∧ Below w.heap.size w w' := by
  rw [lineV_no hb]
  simp only
  rw [str_nil]
  have hB : Below w.heap.size w ((w.alloc (.cells #[x, p] 31)).alloc (.cells #[.slice none 0 0, .slice none 0 0] 31)) := ((Below.refl _ w).alloc (Nat.le_refl _) _).alloc (by rw [World.size_alloc]; omega) _
  have k0 : ((w.alloc (.cells #[x, p] 31)).alloc (.cells #[.slice none 0 0, .slice none 0 0] 31)).heap[w.heap.size]? = some (.cells #[x, p] 31 (0, 0)) := (Below.heap_alloc _ _ _ (by rw [World.size_alloc]; omega)).trans (World.alloc_heap_new w _)
  have k1 := World.alloc_heap_new (w.alloc (.cells #[x, p] 31)) (.cells #[.slice none 0 0, .slice none 0 0] 31)
  rw [World.size_alloc] at k1
  obtain ⟨W1, hW1⟩ : ∃ W1, (w.alloc (.cells #[x, p] 31)).alloc (.cells #[.slice none 0 0, .slice none 0 0] 31) = W1 := ⟨_, rfl⟩
  rw [hW1] at hB k0 k1
  have hOK := specDeskOk (.agg #[x, p]) d W1 ⟨x, p, rfl, hx.below hB, hp.below hB⟩ hs
  rw [hb] at hOK
  obtain ⟨xa, xc, rfl⟩ := hx.shape
  obtain ⟨pa, pc, rfl, _⟩ := id hp
  obtain ⟨LS, hLS⟩ : ∃ LS, str l = LS := ⟨_, rfl⟩
  rw [hLS]
  obtain ⟨c0, c1, _, _⟩ := row_at k0
  have l0 := (Array.getElem?_eq_some_iff.1 k0).1
  have l1 := (Array.getElem?_eq_some_iff.1 k1).1
  clear hx hp hs hLS
  go_enter Tryz.func21, Tryz.ntmps21
  go_wp2_with (go_at_call 13; go_loud (refine hOK.mono ?_; clear hOK; rintro e W2 ⟨rfl, hB2⟩; have zres := (hB2.block _ l1).trans k1; obtain ⟨c0, c1, _, _⟩ := row_at ((hB2.block _ l0).trans k0); obtain ⟨r0, r1, f0, f1⟩ := row_at zres))
  (try simp only [Exit.inBlock, Exit.then])
  have hB3 := hB.trans (hB2.mono hB.size)
  exact bodyPost_ret (results_desk2 rfl _ _ (w.heap.size + 1) _ _ rfl (desk_set zres (.slice none 0 0) (.slice none 0 0))) rfl ⟨_, rfl, ⟨_, _, rfl, .inl ⟨_, _, rfl, rfl⟩, ⟨none, 0, rfl, fun h => absurd h (Nat.lt_irrefl 0)⟩⟩, CapN.of (Nat.le_refl _) (fun g o t e => by cases e), (hB3.setCell (p := ⟨w.heap.size + 1, 0, none⟩) (Nat.le_succ _) _).setCell (p := ⟨w.heap.size + 1, 1, none⟩) (Nat.le_succ _) _⟩

theorem specLine (v : Value) (d : Dk) (l : List Nat) (w : World) (hv : DeskI w v d) (hs : DkS d) (hl : ∀ c ∈ l, c < 256) (hn : l.length ≤ 1100000) :
    Calls Tryz.prog 21 #[v, .string (str l)] w fun e w' => ∃ y, e = .returned (.tuple #[y, .string (str (lineV d l).2)]) ∧ DeskI w' y (lineV d l).1 ∧ CapN w.heap.size y ∧ Below w.heap.size w w' := by
  obtain ⟨x, p, rfl, hx, hp⟩ := hv
  cases hb : deskB d with
  | false => exact specLine_no x p d l w hx hp hs hb
  | true =>
    obtain ⟨⟨⟨k, n⟩, b⟩, hr⟩ : ∃ r, rdV l = r := ⟨_, rfl⟩
    cases b with
    | true => exact specLine_deed x p d l w hx hp hb hl hn k n hr
    | false =>
      rw [lineV_ask hb (rdV_noneS hr)]
      exact specLine_ask x p d l w hx hp hb hl hn k n hr
end Go.Proofs.YtiaaefapbcjgmaaGreatDoor
namespace Go.Proofs.YtiaaefapbcjgmaaGreatDoor
open Go Go.RowKit
variable {H : Type} {enc : TypeId × Value → H}

theorem returnsInHanded_of_change_and_shaped {a : Assume} {C : Checked} {os : Os} {f : FuncId} {fn : Func} {s : ChangeSpec} {conds : List PathCond} {apart fresh handsOn again : Bool} {X : World → Array Value → Prop}
    (hX : ∀ (w w' : World) (args : Array Value), w.heap = w'.heap → X w args → X w' args)
    (own : ownKnob C.prog.godebug = none) (started : os.Started) (noInit : C.prog.inits.idxOf? f = none) (hfn : C.prog.funcs[f]? = some fn)
    (witness : ∃ (w : World) (tape : Tape) (i : Input), w.os = os ∧ (w.forCall tape i).Shaped C.prog ∧ i.vars = [] ∧ Input.okWide C.prog (w.forCall tape i) .any w.heap.size f i ∧
      ((s.pre enc C.prog fn conds apart (w.forCall tape i).memory i.args ∧ X (w.forCall tape i).memory i.args) ∧ sizedMet enc C.prog fn (OpenSpec.ofChange s) apart (w.forCall tape i).memory i.args) ∧ a.holds C.prog (lone (Frame.enter C.prog f i.args .normal) [] (w.forCall tape i)))
    (contract : ∀ (W : World) (base : Nat) (args : Array Value) (ds gs : List (DataW H)) (before : List MemPlace),
      (∀ (j : Nat) t v, fn.params[j]? = some t → args[j]? = some v → Value.okWide C.prog W .any base t v) →
      DataW.Whole enc C.prog fn.params.toList s.vars apart W args.toList ds gs before →
      conds.all (PathCond.test C.prog ⟨fn.params.toList, ds, s.plain.varTypes C.prog, gs⟩) = true →
      W.ShapedOpen C.prog → X W args →
      a.holds C.prog (lone (Frame.enter C.prog f args .normal) [] W) →
      Calls C.prog f args W fun e W' => ∃ v, e = .returned v ∧ s.post enc C.prog fn apart fresh handsOn again W args v W') :
    ReturnsInHanded a C os f .any (fun w args => (s.pre enc C.prog fn conds apart w args ∧ X w args) ∧ sizedMet enc C.prog fn (OpenSpec.ofChange s) apart w args) (s.post enc C.prog fn apart fresh handsOn again) := by
  refine returnsInHanded_of_calls own started noInit witness ?_
  intro w tape i _ hsh _ hok hpre hholds
  obtain ⟨_, _, _, fn', hfn', _, _, _, _, hval⟩ := hok
  have e : fn' = fn := Option.some.inj (hfn'.symm.trans hfn)
  subst e
  obtain ⟨⟨⟨ds, gs, before, hw, hc⟩, hx⟩, hz⟩ := hpre
  have hw' := DataW.Whole.of_heap (w' := w.forCall tape i) (by rfl) hw
  refine (contract (w.forCall tape i) w.heap.size i.args ds gs before hval hw' hc hsh (hX _ _ _ (by rfl) hx) hholds).mono fun e W' ⟨v, he, hp⟩ => ?_
  subst he
  exact ChangeSpec.post_blind hp
end Go.Proofs.YtiaaefapbcjgmaaGreatDoor
namespace Go.Proofs.YtiaaefapbcjgmaaGreatDoor
open Go Go.RowKit

def laid7 : List (String × DataW Unit) := [("math/bits.deBruijn32tab", Rows.laid_math_bits_deBruijn32tab), ("math/bits.deBruijn64tab", Rows.laid_math_bits_deBruijn64tab), ("internal/strconv.uint64pow10", Rows.laid_internal_strconv_uint64pow10), ("unicode/utf8.acceptRanges", Rows.laid_unicode_utf8_acceptRanges), ("strconv.ErrRange", Rows.laid_strconv_ErrRange), ("strconv.ErrSyntax", Rows.laid_strconv_ErrSyntax), ("unicode/utf8.first", Rows.laid_unicode_utf8_first)]

theorem errStar : "*" ++ "errors.errorString" = "*errors.errorString" := by decide

theorem errRow (u : TypeId) (h : Tryz.prog.typeName? 3 u = some "*errors.errorString") : u = 226 :=
  typeName_ptr_named (nm := "errors.errorString") (by rw [errStar]; kernel_rfl) (by kernel_rfl) (by decide) u (by rw [errStar]; exact h)

theorem env_of_laid {W : World} (hsh : W.ShapedOpen Tryz.prog) (hL : laidMet Tryz.prog laid7 W) : Env W := by
  have h3 : laidMet Tryz.prog (("internal/strconv.uint64pow10", Lib.tabData .u64 Lib.pow10Tab) :: _) W := hL.tail.tail
  have h5 := h3.tail.tail
  have h6 := h5.tail
  obtain ⟨a0, s0, hv0, _, _, _⟩ := laid_sentinel (te := 228) h5 (g := Tryz.atoiA_ren.g 16) (by kernel_rfl) (ti := 89) (by kernel_rfl) Tryz.underlying89 errRow Tryz.underlying226 Tryz.underlying228 rfl rfl Tryz.underlying9 (by kernel_rfl) (by kernel_rfl)
  obtain ⟨a1, s1, hv1, _, _, _⟩ := laid_sentinel (te := 228) h6 (g := Tryz.atoiA_ren.g 15) (by kernel_rfl) (ti := 89) (by kernel_rfl) Tryz.underlying89 errRow Tryz.underlying226 Tryz.underlying228 rfl rfl Tryz.underlying9 (by kernel_rfl) (by kernel_rfl)
  have k1 := World.var?_cell (g := Tryz.atoiA_ren.g 15) (by kernel_rfl) hv1 0
  have k0 := World.var?_cell (g := Tryz.atoiA_ren.g 16) (by kernel_rfl) hv0 0
  simp only [List.getElem?_toArray, List.getElem?_cons_zero] at k0 k1
  have hp := Lib.tabIs_of_head (g := Tryz.itoaA_ren.g 17) (t := 201) (e := 162) (n := 20) (by kernel_rfl) (by kernel_rfl) Tryz.underlying201 Tryz.underlying162 (by kernel_rfl) (by kernel_rfl) h3
  exact ⟨Tryz.splitA.s1_3 W hsh, hp, ⟨_, k1, .inr ⟨_, _, rfl⟩⟩, ⟨_, k0, .inr ⟨_, _, rfl⟩⟩⟩
end Go.Proofs.YtiaaefapbcjgmaaGreatDoor
namespace Go.Proofs.YtiaaefapbcjgmaaGreatDoor
open Go.RowKit

/-- What an operation leaves: the reader; a number; a number less than n; two numbers; a row of n numbers; the place of a number; just this value; anything. -/
inductive Kn where
  | rd | fit | rng (n : Nat) | pair | lit (n : Nat) | adr | val (v : Value) | any

def Kn.holds (R : Nat) (v : Value) (W : World) : Kn → Prop
  | .rd => v = .pointer (some ⟨R, 0, none⟩)
  | .fit => ∃ x : Int, Fits x ∧ v = .int .i64 x
  | .rng n => ∃ x : Nat, x < n ∧ v = .int .i64 x
  | .pair => ∃ x y : Int, Fits x ∧ Fits y ∧ v = .tuple #[.int .i64 x, .int .i64 y]
  | .lit n => ∃ g, v = .slice (some ⟨g, 0, none⟩) n n ∧ g ≠ R ∧ g < W.heap.size ∧ ∀ i, i < n → ∃ x : Int, Fits x ∧ W.cell? ⟨g, i, none⟩ = some (.int .i64 x)
  | .adr => ∃ g i, v = .pointer (some ⟨g, i, none⟩) ∧ g ≠ R ∧ g < W.heap.size ∧ ∃ x : Int, Fits x ∧ W.cell? ⟨g, i, none⟩ = some (.int .i64 x)
  | .val u => v = u
  | .any => True

theorem grown_cell2 {W W' : World} {R g : Nat} (h : W.grownBy W' (some R)) (h1 : g < W.heap.size) (h2 : g ≠ R) (i : Nat) : W'.cell? ⟨g, i, none⟩ = W.cell? ⟨g, i, none⟩ := by
  unfold World.cell?
  rw [h.block g h1 (fun e => h2 (by injection e))]

theorem Kn.mono {R : Nat} {v : Value} {W W' : World} (k : Kn) (h : k.holds R v W) (hg : W.grownBy W' (some R)) : k.holds R v W' := by
  cases k with
  | rd => exact h
  | fit => exact h
  | rng n => exact h
  | pair => exact h
  | lit n =>
    obtain ⟨g, h1, h2, h3, h4⟩ := h
    refine ⟨g, h1, h2, Nat.lt_of_lt_of_le h3 hg.size, fun i hi => ?_⟩
    obtain ⟨x, h5, h6⟩ := h4 i hi
    exact ⟨x, h5, (grown_cell2 hg h3 h2 i).trans h6⟩
  | adr =>
    obtain ⟨g, i, h1, h2, h3, x, h5, h6⟩ := h
    exact ⟨g, i, h1, h2, Nat.lt_of_lt_of_le h3 hg.size, x, h5, (grown_cell2 hg h3 h2 i).trans h6⟩
  | val u => exact h
  | any => trivial
end Go.Proofs.YtiaaefapbcjgmaaGreatDoor
namespace Go.Proofs.YtiaaefapbcjgmaaGreatDoor
open Go Go.RowKit
attribute [local go_sem] Oper.semAt_some

/-- A desk whose rows of before are its own. -/
def YD (base : Nat) (D : Dk) (V : World) (y : Value) : Prop := ∃ x p, y = .agg #[x, p] ∧ Ints V x D.1 ∧ OwnSS V base p D.2

/-- The row lies above a mark, and apart from the rows of before. -/
def Apart (base : Nat) (y : Value) : Prop := ∀ x p, y = .agg #[x, p] → ∀ g, x.ownBlock = some g → base ≤ g ∧ p.ownBlock ≠ some g

theorem YD.of {base : Nat} {D : Dk} {V : World} {y : Value} (h : DeskI V y D) (h2 : PastO V base y D.2) : YD base D V y ∧ Apart base y := by
  obtain ⟨x, p, rfl, h1, _⟩ := h
  obtain ⟨x', p', e, h3, h4⟩ := h2
  injection e with e
  simp at e
  obtain ⟨rfl, rfl⟩ := e
  refine ⟨⟨x, p, rfl, h1, h3⟩, fun x' p' e => ?_⟩
  injection e with e
  simp at e
  obtain ⟨rfl, rfl⟩ := e
  exact h4

/-- The row lies above a mark. -/
def LoN (base : Nat) (y : Value) : Prop := ∀ x p, y = .agg #[x, p] → ∀ g, x.ownBlock = some g → base ≤ g

theorem LoN.of {base : Nat} {x p : Value} (h : ∀ g, x.ownBlock = some g → base ≤ g) : LoN base (.agg #[x, p]) := fun x' p' e g e1 => by
  injection e with e
  simp at e
  obtain ⟨rfl, rfl⟩ := e
  exact h g e1
end Go.Proofs.YtiaaefapbcjgmaaGreatDoor
