/-
  Rows of strings of one's own: append of one string, reading them; strings in a walk.
-/
import Derived.Test.YtghfmoanpgaijaaDoorKit
import Derived.Test.YtghfmoanpgaijaaDoorMathZ
import Derived.Laws.DeepStrings4
import Derived.Laws.Cover1
import Derived.Maps.AppendAt
namespace Go.Proofs.YtghfmoanpgaijaaDoor
open Go Go.RowKit

theorem Tryd.infoStr : (Tryd.prog.info? 9).map (fun i => (i.zero, i.size, i.bytes)) = some (some (.string ⟨#[]⟩), 1, 16) := by kernel_rfl
theorem info_any {o : Option TypeInfo} {z : Value} {s b : Nat} (h : o.map (fun i => (i.zero, i.size, i.bytes)) = some (some z, s, b)) : ∃ i, o = some i ∧ i.zero = some z ∧ i.size = s ∧ i.bytes = b := by
  obtain ⟨i, hi, h2⟩ := Option.map_eq_some_iff.1 h
  injection h2 with h3 h4
  injection h4 with h5 h6
  exact ⟨i, hi, h3, h5, h6⟩
def txt (l : List Nat) : Value := .string (str l)

/-- 'append(s, z)' of one string, with where the new slice lies. -/
theorem append_text {ops : Array Oper} {rest : List Oper} {o : Oper} {a : Act} {Q : Exit → Act → World → Prop} {w : World} {z : ByteArray} (hgd : o.guard = none) (s x : Operand)
    (ho : o.op = .call { callee := .builtin .append, args := #[s, x], argTypes := #[28, 28] })
    (base : Nat) (v : Value) (n : Nat) (xs : List Value) (hs : a.eval s = v) (hown : w.ownsRow base 9 1 v n xs) (hx : a.eval x = .slice (some ⟨w.heap.size, 0, none⟩) 1 1)
    (hn : n ≤ 4000000) (hbase : base ≤ w.heap.size)
    (h : ∀ v' w', w'.ownsRow base 9 1 v' (n + 1) (xs ++ [.string z]) → (w.alloc (.cells #[.string z] 9)).grownBy w' v.ownBlock → (v'.ownBlock = v.ownBlock ∨ v'.ownBlock = some (w.heap.size + 1)) → wpList Tryd.prog ops Q rest (a.put o.dst v') w') :
    wpList Tryd.prog ops Q (o :: rest) a (w.alloc (.cells #[.string z] 9)) := by
  obtain ⟨i0, hi, hz0, hz1, hz2⟩ := info_any Tryd.infoStr
  refine wpList_plain hgd fun K hK => ?_
  obtain ⟨v', w', hr, h2, h3, _, h5⟩ := run_append_own_at (P := Tryd.prog) (w.alloc (.cells #[.string z] 9)) base 28 o.type 9 i0 (.string ⟨#[]⟩) 1 16 Tryd.underlying28 hi hz0 hz1 hz2 rfl (by decide) v n xs (hown.alloc _) ⟨w.heap.size, 0, none⟩ 1 1 [.string z] rfl (cell_one_new _ _ _) (fun u hu => by simp at hu; subst hu; rfl) (by unfold maxLen; omega) (by omega) (by simp; omega)
  unfold Oper.wp execOp
  simp only [ho, resolve, invoke, builtin, Sem.run_bind, Sem.run_pure, Result.andThen_ok, List.map_toArray, List.map_cons, List.map_nil, hs, hx, hr]
  exact hK _ _ (h v' w' h2 h3 (by rwa [World.size_alloc] at h5))

/-- What owns strings: where it lies, and its cells. -/
theorem texts_open {w : World} {base n : Nat} {v : Value} {xs : List Value} (h : w.ownsRow base 9 1 v n xs) (hn : 0 < n) :
    ∃ g cap, v = .slice (some ⟨g, 0, none⟩) n cap ∧ base ≤ g ∧ g < w.heap.size ∧ ∀ j u, xs[j]? = some u → w.cell? ⟨g, j, none⟩ = some u := by
  rcases h.2 with ⟨_, h0⟩ | ⟨g, cap, cur, rfl, hb, hgb, hc, _⟩
  · omega
  · refine ⟨g, cap, rfl, hb, (Array.getElem?_eq_some_iff.1 hgb).1, fun j u hu => ?_⟩
    have := h.cells (g := g) rfl j u hu
    have hadd : (⟨g, 0, none⟩ : Addr).add j = ⟨g, j, none⟩ := by unfold Addr.add; split <;> simp_all
    rwa [hadd] at this
/-- The texts that a slice reads as. -/
def Texts (w : World) (v : Value) (L : List (List Nat)) : Prop :=
  ∃ a cap, v = .slice a L.length cap ∧ (0 < L.length → ∃ g, a = some ⟨g, 0, none⟩ ∧ g < w.heap.size ∧ ∀ j l, L[j]? = some l → w.cell? ⟨g, j, none⟩ = some (txt l))
theorem Texts.of_owns {w : World} {base : Nat} {v : Value} {L : List (List Nat)} (h : w.ownsRow base 9 1 v L.length (L.map txt)) : Texts w v L := by
  by_cases h0 : 0 < L.length
  · obtain ⟨g, cap, rfl, _, hg, hc⟩ := texts_open h h0
    exact ⟨_, _, rfl, fun _ => ⟨g, rfl, hg, fun j l hj => hc j _ (by rw [List.getElem?_map, hj]; rfl)⟩⟩
  · rcases h.2 with ⟨rfl, _⟩ | ⟨g, cap, cur, rfl, _⟩
    · have : L.length = 0 := by omega
      exact ⟨_, 0, by rw [this], fun hh => absurd hh h0⟩
    · exact ⟨_, _, rfl, fun hh => absurd hh h0⟩
theorem Texts.below {w w' : World} {v : Value} {L : List (List Nat)} (h : Texts w v L) (hB : Below w.heap.size w w') : Texts w' v L := by
  obtain ⟨a, cap, rfl, hc⟩ := h
  refine ⟨a, cap, rfl, fun h0 => ?_⟩
  obtain ⟨g, rfl, hg, hcc⟩ := hc h0
  exact ⟨g, rfl, Nat.lt_of_lt_of_le hg hB.size, fun j l hj => (hB.cell (p := ⟨g, j, none⟩) hg).trans (hcc j l hj)⟩
end Go.Proofs.YtghfmoanpgaijaaDoor
