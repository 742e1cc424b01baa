/-
  strings.Builder in this program: a text more, written; a builder kept from a world to one that comes of it.
-/
import Derived.Test.YtkcbfiglmjdaiaaDoorBuild6
import Derived.Test.YtkcbfiglmjdaiaaDoorLay6
import Derived.Test.YtkcbfiglmjdaiaaDoorMathZ
import Derived.Lib.FrozenHead
namespace Go.Proofs.YtkcbfiglmjdaiaaDoor
open Go.RowKit Go.Shelf

theorem bldExtraJ : Builder.Extra Tryd.prog Tryd.stringA_ren := {
  sizeBuilder := by kernel_rfl
  liesBuilder := by kernel_rfl
  t5 := Tryd.underlying5
  a5 := Tryd.isAgg5
  z5 := Tryd.sizeOf5
  v5 := Tryd.zeroValue5
  infoByte := by kernel_rfl
  cellsByte := by kernel_rfl
  sizeByte := by kernel_rfl
  neB5 := by decide }

set_option maxHeartbeats 2000000 in
set_option maxRecDepth 100000 in
theorem writeString_in (B b : Nat) (bs : List Value) (s : ByteArray) (w : World) (h : Lib.IsBuilderF 39 5 B b bs w) (hlen : bs.length + s.size ≤ 140737488355328) (hBw : B ≤ w.heap.size) :
    Calls Tryd.prog 14 #[.pointer (some ⟨b, 0, none⟩), .string s] w fun e w' => e = .returned (.tuple #[.int .i64 s.size, .nilIface]) ∧ Lib.BuilderAtF 39 5 B b (.pointer (some ⟨b, 0, none⟩)) (bs ++ Lib.strCells s) w' ∧ Below B w w' := by
  obtain ⟨i0, hi, hz0, hz1, hz2⟩ := info_parts byteInfo
  have hC := check_in B b bs w h
  go_enter Tryd.func14, Tryd.ntmps14
  go_wp2_with (go_at_call 29; refine hC.mono ?_)
  rintro e w1 ⟨rfl, h1, hb1, hk1⟩
  obtain ⟨hB, v, hbk, hown, hne⟩ := h1
  have c0 : w1.cell? ⟨b, 0, none⟩ = some (.pointer (some ⟨b, 0, none⟩)) := by rw [Lib.cell_of_heap hbk]; rfl
  have c1 : w1.cell? ⟨b, 1, none⟩ = some v := by rw [Lib.cell_of_heap hbk]; rfl
  go_wp2_with (at_builtin; refine Lib.wpList_append_own_stringF _ rfl _ _ 22 9 rfl B 5 i0 Tryd.underlying22 Tryd.underlying9 hi hz0 hz1 hz2 _ _ _ rfl hown s rfl ?c3 ?c4 ?c5 ?_)
  case c3 => unfold maxLen; omega
  case c4 => omega
  case c5 => have := hb1.size; omega
  intro v' w2 hown' hgrow _
  have hlt : b < w1.heap.size := (Array.getElem?_eq_some_iff.1 hbk).1
  have hb2 : w2.heap[b]? = some (.cells #[.pointer (some ⟨b, 0, none⟩), v] 39 (0, 0)) := by
    rw [hgrow.block b hlt (fun e => hne e.symm)]
    exact hbk
  have d0 : w2.cell? ⟨b, 0, none⟩ = some (.pointer (some ⟨b, 0, none⟩)) := by rw [Lib.cell_of_heap hb2]; rfl
  have d1 : w2.cell? ⟨b, 1, none⟩ = some v := by rw [Lib.cell_of_heap hb2]; rfl
  have f1 : w2.frozen? ⟨b, 1, none⟩ = false := Lib.frozen_of_heap hb2 1
  obtain ⟨ao, n', cap, rfl⟩ : ∃ ao n' cap, v' = .slice ao n' cap := by
    rcases hown'.2 with ⟨hv, _⟩ | ⟨g, cap, cur, fz, hv, _⟩
    · exact ⟨_, _, _, hv⟩
    · exact ⟨_, _, _, hv⟩
  go_wp2
  go_ret2
  refine ⟨rfl, ?_, ?_⟩
  · exact Lib.BuilderAtF.put (T := 39) (e := 5) hB hb2 (bs' := bs ++ Lib.strCells s) (by simpa [Lib.strCells_length] using hown') (by decide)
  · exact (hb1.grown hgrow (by have := hb1.size; omega) (fun k hk => (hown.lt k hk).1)).setCell (p := ⟨b, 1, none⟩) hB _

/-- The builder in block b holds these bytes. -/
def BldJ (w : World) (b : Nat) (l : List Nat) : Prop := Lib.IsBuilderF 39 5 b b (Lib.byteCells (l.map UInt8.ofNat)) w
theorem BldJ.below {w w' : World} {b : Nat} {l : List Nat} (h : BldJ w b l) (hg : Below w.heap.size w w') : BldJ w' b l := by
  have go : ∀ p, Lib.BuilderAtF 39 5 b b p (Lib.byteCells (l.map UInt8.ofNat)) w → Lib.BuilderAtF 39 5 b b p (Lib.byteCells (l.map UInt8.ofNat)) w' := by
    rintro p ⟨h1, v, hb, hown, hne⟩
    refine ⟨h1, v, (hg.block b (Array.getElem?_eq_some_iff.1 hb).1).trans hb, hown.kept (row := none) ⟨hg.os, hg.tape, hg.output, hg.size, fun k hk _ => hg.block k hk⟩ (by cases v.ownBlock <;> simp), hne⟩
  exact h.imp (go _) (go _)
theorem BldJ.text {w : World} {b : Nat} {l : List Nat} (h : BldJ w b l) (hb : b ≤ w.heap.size) :
    Calls Tryd.prog 16 #[.pointer (some ⟨b, 0, none⟩)] w fun e w' => e = .returned (.string (str l)) ∧ Below b w w' :=
  (Any.Builder_String_any_k Tryd.stringA bldExtraJ b b _ w h hb).mono fun _ _ ⟨h1, _, h3, _⟩ => ⟨h1, h3⟩
theorem BldJ.byte {w : World} {b : Nat} {l : List Nat} (h : BldJ w b l) {c : Nat} (hc : c < 256) (hl : l.length ≤ 100000000) (hb : b ≤ w.heap.size) :
    Calls Tryd.prog 15 #[.pointer (some ⟨b, 0, none⟩), .int .u8 c] w fun e w' => e = .returned .nilIface ∧ BldJ w' b (l ++ [c]) ∧ Below b w w' := by
  refine (writeByte_in b b _ c w h (by rw [Lib.byteCells_length, List.length_map]; omega) hb).mono ?_
  rintro e w' ⟨h1, h2, h3, _⟩
  refine ⟨h1, .inr ?_, h3⟩
  rw [List.map_append, Lib.byteCells_append]
  have e : Lib.byteCells ([c].map UInt8.ofNat) = [.int .u8 (c : Int)] := by
    simp only [List.map_cons, List.map_nil, Lib.byteCells, UInt8.toNat_ofNat_of_lt' hc]
  rw [e]
  exact h2
theorem BldJ.str {w : World} {b : Nat} {l : List Nat} (h : BldJ w b l) (t : List Nat) (ht : t.length ≤ 100000000) (hl : l.length ≤ 100000000) (hb : b ≤ w.heap.size) :
    Calls Tryd.prog 14 #[.pointer (some ⟨b, 0, none⟩), .string (str t)] w fun e w' => e = .returned (.tuple #[.int .i64 t.length, .nilIface]) ∧ BldJ w' b (l ++ t) ∧ Below b w w' := by
  have hsz := str_size t
  refine (writeString_in b b _ (Go.Proofs.YtkcbfiglmjdaiaaDoor.str t) w h (by rw [Lib.byteCells_length, List.length_map]; omega) hb).mono ?_
  rintro e w' ⟨h1, h2, h3⟩
  rw [hsz] at h1
  refine ⟨h1, .inr ?_, h3⟩
  rw [List.map_append, Lib.byteCells_append]
  exact h2
end Go.Proofs.YtkcbfiglmjdaiaaDoor
