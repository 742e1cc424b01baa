/-
  'append(s, z)' of one number, with where the new slice lies, outside of regions that draw. Nothing of the program but the type int.
-/
import Derived.Test.YtcjkjpainfhfkaaSpecZ
namespace Go.Proofs.Ytcjkjpainfhfkaa
open Go.RowKit

/-- 'append(s, z)' of one number, with where the new slice lies. -/
theorem append_at {ops : Array Oper} {rest : List Oper} {o : Oper} {a : Act} {Q : Exit → Act → World → Prop} {w : World} {z : Int} (hgd : o.guard = none) (s x : Operand)
    (ho : o.op = .call { callee := .builtin .append, args := #[s, x], argTypes := #[23, 23] })
    (base : Nat) (v : Value) (n : Nat) (xs : List Value) (hs : a.eval s = v) (hown : w.ownsRow base 3 1 v n xs) (hx : a.eval x = .slice (some ⟨w.heap.size, 0, none⟩) 1 1)
    (hn : n ≤ 1000000000) (hbase : base ≤ w.heap.size)
    (h : ∀ v' w', w'.ownsRow base 3 1 v' (n + 1) (xs ++ [.int .i64 z]) → (w.alloc (.cells #[.int .i64 z] 3)).grownBy w' v.ownBlock → (v'.ownBlock = v.ownBlock ∨ v'.ownBlock = some (w.heap.size + 1)) → wpList Try.prog ops Q rest (a.put o.dst v') w') :
    wpList Try.prog ops Q (o :: rest) a (w.alloc (.cells #[.int .i64 z] 3)) := by
  obtain ⟨i0, hi, hz0, hz1, hz2⟩ := info_parts Try.infoInt
  refine wpList_plain hgd fun K hK => ?_
  obtain ⟨v', w', hr, h2, h3, _, h5⟩ := run_append_own_at (P := Try.prog) (w.alloc (.cells #[.int .i64 z] 3)) base 23 o.type 3 i0 (.int .i64 0) 1 8 Try.underlying23 hi hz0 hz1 hz2 rfl (by decide) v n xs (hown.alloc _) ⟨w.heap.size, 0, none⟩ 1 1 [.int .i64 z] rfl (cell_one_new _ _ _) (fun u hu => by simp at hu; subst hu; rfl) (by unfold maxLen; omega) (by omega) (by simp; omega)
  unfold Oper.wp execOp
  simp only [ho, resolve, invoke, builtin, Sem.run_bind, Sem.run_pure, Result.andThen_ok, List.map_toArray, List.map_cons, List.map_nil, hs, hx, hr]
  exact hK _ _ (h v' w' h2 h3 (by rwa [World.size_alloc] at h5))

/-- Three rows of one's own, each in a block of its own. -/
structure Three (W : World) (base : Nat) (v1 v2 v3 : Value) (n1 n2 n3 : Nat) (x1 x2 x3 : List Int) : Prop where
  o1 : W.ownsRow base 3 1 v1 n1 (x1.map (Value.int .i64))
  o2 : W.ownsRow base 3 1 v2 n2 (x2.map (Value.int .i64))
  o3 : W.ownsRow base 3 1 v3 n3 (x3.map (Value.int .i64))
  d12 : v1.ownBlock ≠ v2.ownBlock
  d13 : v1.ownBlock ≠ v3.ownBlock
  d23 : v2.ownBlock ≠ v3.ownBlock
theorem far {W : World} {base n : Nat} {v v' u : Value} {xs : List Value} (h : W.ownsRow base 3 1 u n xs) (hd : v.ownBlock ≠ u.ownBlock) (h' : v'.ownBlock = v.ownBlock ∨ v'.ownBlock = some (W.heap.size + 1)) : v'.ownBlock ≠ u.ownBlock := by
  rcases h' with h' | h'
  · rw [h']; exact hd
  · rw [h']; intro e; have := (h.lt _ e.symm).2; omega
theorem Three.first {W W' : World} {base n1 n2 n3 : Nat} {v1 v2 v3 v' : Value} {x1 x2 x3 : List Int} {z : Int} (h : Three W base v1 v2 v3 n1 n2 n3 x1 x2 x3)
    (hown : W'.ownsRow base 3 1 v' (n1 + 1) (x1.map (Value.int .i64) ++ [.int .i64 z])) (hg : (W.alloc (.cells #[.int .i64 z] 3)).grownBy W' v1.ownBlock) (hb : v'.ownBlock = v1.ownBlock ∨ v'.ownBlock = some (W.heap.size + 1)) : Three W' base v' v2 v3 (n1 + 1) n2 n3 (x1 ++ [z]) x2 x3 :=
  ⟨by rw [List.map_append]; exact hown, (h.o2.alloc _).kept hg (.inr h.d12.symm), (h.o3.alloc _).kept hg (.inr h.d13.symm), far h.o2 h.d12 hb, far h.o3 h.d13 hb, h.d23⟩
theorem Three.turn {W : World} {base n1 n2 n3 : Nat} {v1 v2 v3 : Value} {x1 x2 x3 : List Int} (h : Three W base v1 v2 v3 n1 n2 n3 x1 x2 x3) : Three W base v2 v3 v1 n2 n3 n1 x2 x3 x1 :=
  ⟨h.o2, h.o3, h.o1, h.d23, h.d12.symm, h.d13.symm⟩
/-- Two rows of one's own, each in a block of its own. -/
structure Pair (W : World) (base : Nat) (v1 v2 : Value) (n1 n2 : Nat) (x1 x2 : List Int) : Prop where
  o1 : W.ownsRow base 3 1 v1 n1 (x1.map (Value.int .i64))
  o2 : W.ownsRow base 3 1 v2 n2 (x2.map (Value.int .i64))
  d12 : v1.ownBlock ≠ v2.ownBlock
theorem Pair.first {W W' : World} {base n1 n2 : Nat} {v1 v2 v' : Value} {x1 x2 : List Int} {z : Int} (h : Pair W base v1 v2 n1 n2 x1 x2)
    (hown : W'.ownsRow base 3 1 v' (n1 + 1) (x1.map (Value.int .i64) ++ [.int .i64 z])) (hg : (W.alloc (.cells #[.int .i64 z] 3)).grownBy W' v1.ownBlock) (hb : v'.ownBlock = v1.ownBlock ∨ v'.ownBlock = some (W.heap.size + 1)) : Pair W' base v' v2 (n1 + 1) n2 (x1 ++ [z]) x2 :=
  ⟨by rw [List.map_append]; exact hown, (h.o2.alloc _).kept hg (.inr h.d12.symm), far h.o2 h.d12 hb⟩
theorem Pair.turn {W : World} {base n1 n2 : Nat} {v1 v2 : Value} {x1 x2 : List Int} (h : Pair W base v1 v2 n1 n2 x1 x2) : Pair W base v2 v1 n2 n1 x2 x1 := ⟨h.o2, h.o1, h.d12.symm⟩
theorem Pair.made (w : World) : Pair ((w.alloc (.cells #[] 3)).alloc (.cells #[] 3)) w.heap.size (.slice (some ⟨w.heap.size, 0, none⟩) 0 0) (.slice (some ⟨w.heap.size + 1, 0, none⟩) 0 0) 0 0 [] [] := by
  refine ⟨(World.ownsRow_made w _ _ (Nat.le_refl _) (by decide) rfl).alloc _, ?_, by simp [Value.ownBlock]⟩
  have := World.ownsRow_made (base := w.heap.size) (e := 3) (size := 1) (w.alloc (.cells #[] 3)) #[] 0 (by simp) (by decide) rfl
  rw [World.size_alloc] at this
  exact this
theorem Pair.below {W W' : World} {base n1 n2 : Nat} {v1 v2 : Value} {x1 x2 : List Int} (h : Pair W base v1 v2 n1 n2 x1 x2) (hB : Below W.heap.size W W') : Pair W' base v1 v2 n1 n2 x1 x2 :=
  have k : ∀ {v : Value} {n : Nat} {xs : List Value}, W.ownsRow base 3 1 v n xs → W'.ownsRow base 3 1 v n xs := fun {v _ _} h => h.kept (row := none) ⟨hB.os, hB.tape, hB.output, hB.size, fun k hk _ => hB.block k hk⟩ (by cases v.ownBlock <;> simp)
  ⟨k h.o1, k h.o2, h.d12⟩
end Go.Proofs.Ytcjkjpainfhfkaa
