/-
  The one of two numbers at a place; 'append(s, x...)' of a row of numbers. Nothing of the program but the type int.
-/
import Derived.Test.YtehmobcfbifocaaDrawZ
import Derived.Test.YtehmobcfbifocaaKit
import Derived.Deep.DeepCutAuto
namespace Go.Proofs.Ytehmobcfbifocaa
open Go.RowKit

def two (i : Nat) (a b : Int) : Int := if i = 0 then a else b
theorem two_at {i : Nat} (hi : i < 2) (a b : Int) : (#[.int .i64 a, .int .i64 b] : Array Value)[i]? = some (.int .i64 (two i a b)) := by
  match i, hi with
  | 0, _ => rfl
  | 1, _ => rfl
theorem two_cell {i : Nat} (hi : i < 2) (W : World) (a b : Int) : (W.alloc (.cells #[.int .i64 a, .int .i64 b] 3)).cell? ⟨W.heap.size, i, none⟩ = some (.int .i64 (two i a b)) := by
  rw [World.cell?_alloc_at _ _ _ _ rfl]; exact two_at hi a b
theorem two_fits {i : Nat} {a b : Int} (ha : Fits a) (hb : Fits b) : Fits (two i a b) := by
  unfold two; split
  · exact ha
  · exact hb

/-- 'append(s, x...)': m numbers that lie in block g from its first cell on. -/
theorem append_row {w : World} {ops : Array Oper} {rest : List Oper} {o : Oper} {a : Act} {Q : Exit → Act → World → Prop} (hgd : o.guard = none) (s x : Operand)
    (ho : o.op = .call { callee := .builtin .append, args := #[s, x], argTypes := #[37, 37] })
    (base : Nat) (v : Value) (n : Nat) (xs : List Value) (hs : a.eval s = v) (hown : w.ownsRow base 3 1 v n xs) (g m c : Nat) (zs : List Int) (hx : a.eval x = .slice (some ⟨g, 0, none⟩) m c) (hl : zs.length = m)
    (hz : ∀ i, i < m → w.cell? ⟨g, i, none⟩ = some (.int .i64 (zs.getD i 0))) (hn : n + m ≤ 1000000000) (hbase : base ≤ w.heap.size)
    (h : ∀ v' w', w'.ownsRow base 3 1 v' (n + m) (xs ++ zs.map (Value.int .i64)) → w.grownBy w' v.ownBlock → wpList Try.prog ops Q rest (a.put o.dst v') w') :
    wpList Try.prog ops Q (o :: rest) a w := by
  obtain ⟨i0, hi, hz0, hz1, hz2⟩ := info_parts Try.infoInt
  refine wpList_append_own _ hgd s x 37 ho base 3 i0 (.int .i64 0) 1 8 Try.underlying37 hi hz0 hz1 hz2 rfl (by decide) v n xs hs hown ⟨g, 0, none⟩ m c (zs.map (Value.int .i64)) hx (by simp [hl]) ?_ ?_ ?_ ?_ hbase ?_
  · intro j u hj
    rw [List.getElem?_map] at hj
    obtain ⟨z, hz3, rfl⟩ := Option.map_eq_some_iff.1 hj
    have hjl := (List.getElem?_eq_some_iff.1 hz3).1
    have h1 := hz j (by omega)
    have hadd : (⟨g, 0, none⟩ : Addr).add j = ⟨g, j, none⟩ := by unfold Addr.add; split <;> simp_all
    rw [hadd, h1, List.getD, hz3]; rfl
  · intro u hu
    obtain ⟨z, _, rfl⟩ := List.mem_map.1 hu
    rfl
  · unfold maxLen; omega
  · omega
  · intro v' w' h1 h2 _; exact h v' w' h1 h2
end Go.Proofs.Ytehmobcfbifocaa
