/-
  Contracts of the laws' own helpers over rows of strings: sameTexts, eqStringS, markText, markStringS, heldStringS.
-/
import Derived.Test.YtghfmoanpgaijaaDoorStrKit
import Derived.Test.YtghfmoanpgaijaaDoorLawKit
import Derived.Test.YtghfmoanpgaijaaDoorQuietBelow
import Derived.Laws.BytesString
namespace Go.Proofs.YtghfmoanpgaijaaDoor
open Go Go.RowKit

set_option maxHeartbeats 400000 in
theorem sameTexts_in (v u : Value) (L : List (List Nat)) (w : World) (hn : L.length ≤ 1000000) (hv : Texts w v L) (hu : Texts w u L) :
    Calls Tryd.prog 16 #[v, u] w fun e w' => e = .returned (.bool true) ∧ Below w.heap.size w w' := by
  obtain ⟨a, cap, rfl, hc⟩ := hv
  obtain ⟨b, cap2, rfl, hd⟩ := hu
  go_enter Tryd.func16, Tryd.ntmps16
  go_wp2
  go_loopw [5] (fun i wr => ∃ k : Nat, k ≤ L.length ∧ i = .int .i64 k ∧ Below w.heap.size w wr) (fun i _ => L.length - (intOf i).toNat)
  case atStart => exact ⟨0, Nat.zero_le _, rfl, Below.refl _ _⟩
  case round =>
    obtain ⟨k, hk, rfl, hB⟩ := hrel
    by_cases hlt : k < L.length
    · obtain ⟨g, rfl, hg, hcc⟩ := hc (by omega)
      obtain ⟨g2, rfl, hg2, hdd⟩ := hd (by omega)
      have h1 := (hB.cell (p := ⟨g, k, none⟩) (by exact hg)).trans (hcc k _ (List.getElem?_eq_getElem hlt))
      have h2 := (hB.cell (p := ⟨g2, k, none⟩) (by exact hg2)).trans (hdd k _ (List.getElem?_eq_getElem hlt))
      unfold txt at h1 h2
      generalize str L[k] = Z at *
      clear hc hd hcc hdd
      go_wp2
      go_region
      all_goals
        go_wp2
        go_roundw
        case rel => exact ⟨k + 1, by omega, by go_num, hB.drew⟩
        case measure => simp [intOf]; omega
    · obtain rfl : k = L.length := by omega
      clear hc hd
      go_wp2
      go_ret
      exact ⟨rfl, hB⟩
/-- The digits of a number, with as many rounds as f. -/
def digF : Nat → Nat → List Nat
  | 0, _ => []
  | f + 1, k => if k = 0 then [] else digF f (k / 10) ++ [48 + k % 10]
theorem digF_zero (f : Nat) : digF f 0 = [] := by cases f <;> rfl
theorem digF_len : ∀ f k, (digF f k).length ≤ f
  | 0, _ => Nat.le_refl _
  | f + 1, k => by
    unfold digF
    split
    · exact Nat.zero_le _
    · have := digF_len f (k / 10); simp; omega
def markT (k : Nat) : ByteArray := str (109 :: digF 20 k)
theorem markT_size (k : Nat) : (markT k).size ≤ 21 := by unfold markT; rw [str_size]; have := digF_len 20 k; simp; omega

/-- A block of strings, known whole. -/
def TextAt (w : World) (g N : Nat) (f : Nat → ByteArray) : Prop :=
  ∃ cur : Array Value, w.heap[g]? = some (.cells cur 9 (0, 0)) ∧ N ≤ cur.size ∧ ∀ i, i < N → cur[i]? = some (.string (f i))
theorem TextAt.lt {w : World} {g N : Nat} {f : Nat → ByteArray} (h : TextAt w g N f) : g < w.heap.size := by
  obtain ⟨cur, h1, _⟩ := h; exact (Array.getElem?_eq_some_iff.1 h1).1
theorem TextAt.cell {w : World} {g N : Nat} {f : Nat → ByteArray} (h : TextAt w g N f) {i : Nat} (hi : i < N) : w.cell? ⟨g, i, none⟩ = some (.string (f i)) := by
  obtain ⟨cur, h1, h2, h3⟩ := h
  rw [cell_of_row w g i cur 9 (0, 0) h1]; exact h3 i hi
theorem TextAt.frozen {w : World} {g N : Nat} {f : Nat → ByteArray} (h : TextAt w g N f) (i : Nat) : w.frozen? ⟨g, i, none⟩ = false := by
  obtain ⟨cur, h1, _⟩ := h
  simp [World.frozen?, h1]
theorem TextAt.congr {w : World} {g N : Nat} {f f' : Nat → ByteArray} (h : TextAt w g N f) (he : ∀ i, i < N → f i = f' i) : TextAt w g N f' := by
  obtain ⟨cur, h1, h2, h3⟩ := h
  exact ⟨cur, h1, h2, fun i hi => by rw [← he i hi]; exact h3 i hi⟩
theorem TextAt.set {w : World} {g N : Nat} {f : Nat → ByteArray} (h : TextAt w g N f) {p : Nat} (z : ByteArray) : TextAt (w.setCell ⟨g, p, none⟩ (.string z)) g N (fun i => if i = p then z else f i) := by
  obtain ⟨cur, h1, h2, h3⟩ := h
  obtain ⟨hlt, hk⟩ := Array.getElem?_eq_some_iff.1 h1
  have h2' : ∀ i, i < N → i < cur.size := fun i hi => Nat.lt_of_lt_of_le hi h2
  refine ⟨cur.setIfInBounds p (.string z), ?_, by simpa using h2, fun i hi => ?_⟩
  · show (w.heap.modify g _)[g]? = _
    rw [Array.getElem?_eq_getElem (by rw [Array.size_modify]; exact hlt), Array.getElem_modify_self, hk]; rfl
  · rw [Array.getElem?_setIfInBounds]
    by_cases e : p = i
    · subst e; simp [h2' _ hi]
    · rw [if_neg e, h3 i hi]; simp only []; rw [if_neg (fun h : i = p => e h.symm)]
theorem TextAt.of_block {w w' : World} {g N : Nat} {f : Nat → ByteArray} (h : TextAt w g N f) (hb : w'.heap[g]? = w.heap[g]?) : TextAt w' g N f := by
  obtain ⟨cur, h1, h2, h3⟩ := h
  exact ⟨cur, hb.trans h1, h2, h3⟩
theorem TextAt.of_owns {w : World} {base : Nat} {v : Value} {L : List (List Nat)} (h : w.ownsRow base 9 1 v L.length (L.map txt)) (hn : 0 < L.length) :
    ∃ g cap, v = .slice (some ⟨g, 0, none⟩) L.length cap ∧ base ≤ g ∧ TextAt w g L.length (fun i => str (L.getD i [])) := by
  rcases h.2 with ⟨_, h0⟩ | ⟨g, cap, cur, rfl, hb, hgb, hc, _, hs, ht⟩
  · omega
  · refine ⟨g, cap, rfl, hb, cur, hgb, by omega, fun i hi => ?_⟩
    have h1 : (cur.toList.take (L.length * 1))[i]? = some (.string (str (L.getD i []))) := by
      rw [ht, List.getElem?_map, List.getElem?_eq_getElem hi]; simp [List.getD, txt, hi]
    rw [List.getElem?_take, if_pos (by omega)] at h1
    rw [← Array.getElem?_toList]; exact h1
theorem grownBy_more {w a b : World} {row : Option Nat} (h : w.grownBy a row) (hB : Below a.heap.size a b) : w.grownBy b row :=
  ⟨hB.os.trans h.os, hB.tape.trans h.tape, hB.output.trans h.output, Nat.le_trans h.size hB.size, fun k hk hr => (hB.block k (Nat.lt_of_lt_of_le hk h.size)).trans (h.block k hk hr)⟩
theorem Texts.grown {w w' : World} {v : Value} {L : List (List Nat)} {g : Nat} (h : Texts w v L) (hg : w.grownBy w' (some g)) (hne : v.ownBlock ≠ some g) : Texts w' v L := by
  obtain ⟨a, cap, rfl, hc⟩ := h
  refine ⟨a, cap, rfl, fun h0 => ?_⟩
  obtain ⟨b, rfl, hb, hcc⟩ := hc h0
  have hbg : some b ≠ some g := by simpa [Value.ownBlock] using hne
  exact ⟨b, rfl, Nat.lt_of_lt_of_le hb hg.size, fun j l hj => hg.cell (hcc j l hj) (by exact hbg)⟩

end Go.Proofs.YtghfmoanpgaijaaDoor
