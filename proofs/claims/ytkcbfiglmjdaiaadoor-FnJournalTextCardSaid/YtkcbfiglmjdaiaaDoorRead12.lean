/-
  The program's readLine: the first word and the numbers behind it.
-/
import Derived.Test.YtkcbfiglmjdaiaaDoorImpl12t
import Derived.Test.YtkcbfiglmjdaiaaDoorSplit12
import Derived.Test.YtkcbfiglmjdaiaaDoorLay12
import Derived.Lib.AppendIntMem
namespace Go.Proofs.YtkcbfiglmjdaiaaDoor
open Go.RowKit

/-- What the library's texts ask of a world: the length of the longest slice, the table of tens, the two errors. -/
structure Env (w : World) : Prop where
  ml : ∃ m, w.cell? ⟨Tryd.splitA_ren.g 1, 0, none⟩ = some (.int .i64 m)
  pow : Lib.TabIs Tryd.prog w "internal/strconv.uint64pow10" .u64 Lib.pow10Tab
  es : ∃ ev, w.cell? ⟨Tryd.atoiA_ren.g 15, 0, none⟩ = some ev ∧ (ev = .nilIface ∨ ∃ te pe, ev = .iface te pe)
  er : ∃ ev, w.cell? ⟨Tryd.atoiA_ren.g 16, 0, none⟩ = some ev ∧ (ev = .nilIface ∨ ∃ te pe, ev = .iface te pe)
theorem Env.below {w w' : World} (h : Env w) (hB : Below w.heap.size w w') : Env w' := by
  have hc : ∀ {a : Addr} {v : Value}, w.cell? a = some v → w'.cell? a = some v := fun {a v} e => (hB.cell (World.block_lt_of_cell? w a e)).trans e
  obtain ⟨⟨m, hm⟩, hp, ⟨es, h1, h2⟩, ⟨er, h3, h4⟩⟩ := h
  exact ⟨⟨m, hc hm⟩, (Lib.tabBelow_of_tabIs hp) w' hB, ⟨es, hc h1, h2⟩, ⟨er, hc h3, h4⟩⟩

theorem spaces_in (l : List Nat) (hl : ∀ x ∈ l, x < 256) (hn : l.length ≤ 2000000) (w : World) (hE : Env w) : Calls Tryd.prog 46 #[.string (str l), .string ⟨#[32]⟩] w fun e w' =>
    e = .returned (.slice (some ⟨w.heap.size, 0, none⟩) (cutT 32 l).length (cutT 32 l).length) ∧ (∀ i, i < (cutT 32 l).length → w'.cell? ⟨w.heap.size, i, none⟩ = some (.string (str ((cutT 32 l).getD i [])))) ∧ Below w.heap.size w w' := by
  obtain ⟨m, hm⟩ := hE.ml
  have hc := splitB_cut l hl
  have hlen := Lib.splitB_all ⟨#[32]⟩ (by decide) 0 _ (str l) rfl
  refine (Any.strings_Split { Tryd.splitA with } Tryd.splitA.i9 (str l) ⟨#[32]⟩ m w (by have := str_size l; omega) hm (by decide)).mono ?_
  rintro e w' ⟨rfl, rfl⟩
  rw [hc, List.length_map] at hlen
  rw [hc, ← hlen]
  refine ⟨rfl, fun i hi => ?_, (Below.refl _ _).alloc (Nat.le_refl _) _⟩
  have hb := World.alloc_heap_new w (.cells (((cutT 32 l).map str).map Value.string).toArray (Tryd.splitA_ren.t 9))
  unfold World.cell?
  rw [hb]
  simp [hi]

/-- A word of a line as a number: what strconv.Atoi and strconv.Itoa say of it. -/
theorem atoi_in (p : List Nat) (hp : ∀ x ∈ p, x < 256) (hn : p.length ≤ 2000000) (w : World) (hE : Env w) : Calls Tryd.prog 47 #[.string (str p)] w fun e w' =>
    (∃ (n : Int) (ev : Value), e = .returned (.tuple #[.int .i64 n, ev]) ∧ ((ev = .nilIface ∧ Lib.atoiAll (str p).data.toList = .ok n) ∨ (digT p = none ∧ ∃ t B, ev = .iface t (.pointer (some ⟨B, 0, none⟩))))) ∧ Below w.heap.size w w' := by
  have hsz := str_size p
  rcases h : Lib.atoiAll (str p).data.toList with v | _ | _
  · refine (Any.strconv_Atoi_ok { Tryd.atoiA with } (str p) (by omega) v h w).mono ?_
    rintro e w' ⟨rfl, hw⟩
    refine ⟨⟨v, _, rfl, .inl ⟨rfl, rfl⟩⟩, ?_⟩
    rcases hw with rfl | ⟨t, rfl⟩
    · exact Below.refl _ _
    · exact Lib.bytesWorld_below _ _ _
  · obtain ⟨ev, h1, h2⟩ := hE.es
    refine (Any.strconv_Atoi_syntax { Tryd.atoiA with } (str p) (by omega) h ev w h1 h2).mono ?_
    rintro e w' ⟨N, rfl, _, _, hB⟩
    refine ⟨⟨0, _, rfl, .inr ⟨?_, _, N, rfl⟩⟩, hB⟩
    cases hd : digT p with
    | none => rfl
    | some m => rw [str_data, atoi_dig hp hd] at h; cases h
  · obtain ⟨ev, h1, h2⟩ := hE.er
    refine (Any.strconv_Atoi_range { Tryd.atoiA with } (str p) (by omega) h ev w h1 h2).mono ?_
    rintro e w' ⟨N, rfl, _, _, hB⟩
    refine ⟨⟨_, _, rfl, .inr ⟨?_, _, N, rfl⟩⟩, hB⟩
    cases hd : digT p with
    | none => rfl
    | some m => rw [str_data, atoi_dig hp hd] at h; cases h
theorem itoaAll_in (n : Int) (h0 : 0 ≤ n) (h1 : n ≤ 999999999) (w : World) (hE : Env w) : Calls Tryd.prog 28 #[.int .i64 n] w fun e w' => e = .returned (.string (str (decF 20 n.toNat))) ∧ Below w.heap.size w w' := by
  refine (Any.strconv_Itoa { Tryd.itoaA with } n (by omega) (by omega) w hE.pow).mono ?_
  obtain ⟨u, rfl⟩ : ∃ u : Nat, n = u := ⟨n.toNat, by omega⟩
  rintro e w' ⟨rfl, k, os, rfl⟩
  rw [itoa_dec u (by omega)]
  exact ⟨rfl, Lib.below_grow _ _ (Nat.le_refl _) _ _⟩
end Go.Proofs.YtkcbfiglmjdaiaaDoor
