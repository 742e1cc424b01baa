/-
  The model's ReadJournal.
-/
import Derived.Test.YtkcbfiglmjdaiaaDoorSpecZ
namespace Go.Proofs.YtkcbfiglmjdaiaaDoor
open Go.RowKit

/-- 'append(s, d)' of one deed. -/
theorem append_deed {ops : Array Oper} {rest : List Oper} {o : Oper} {a : Act} {Q : Exit → Act → World → Prop} {w : World} {x : Int × Int} (hgd : o.guard = none) (s y : Operand)
    (ho : o.op = .call { callee := .builtin .append, args := #[s, y], argTypes := #[23, 23] })
    (base : Nat) (v : Value) (L : List (Int × Int)) (hs : a.eval s = v) (hown : w.ownsRow base 36 2 v L.length (cellsD L)) (B : Nat) (hBw : w.heap.size = B) (hx : a.eval y = .slice (some ⟨B, 0, none⟩) 1 1)
    (hn : L.length ≤ 4000000) (hbase : base ≤ w.heap.size)
    (h : ∀ v' w', w'.ownsRow base 36 2 v' (L ++ [x]).length (cellsD (L ++ [x])) → (w.alloc (.cells #[.int .i64 x.1, .int .i64 x.2] 36)).grownBy w' v.ownBlock → (v'.ownBlock = v.ownBlock ∨ v'.ownBlock = some (w.heap.size + 1)) → wpList Tryd.prog ops Q rest (a.put o.dst v') w') :
    wpList Tryd.prog ops Q (o :: rest) a (w.alloc (.cells #[.int .i64 x.1, .int .i64 x.2] 36)) := by
  subst hBw
  obtain ⟨i0, hi, hz0, hz1, hz2⟩ := info_any Tryd.infoDeed
  refine wpList_plain hgd fun K hK => ?_
  have hnew := World.alloc_heap_new w (.cells #[.int .i64 x.1, .int .i64 x.2] 36)
  obtain ⟨v', w', hr, h2, h3, _, h5⟩ := run_append_own_at (P := Tryd.prog) (w.alloc (.cells #[.int .i64 x.1, .int .i64 x.2] 36)) base 23 o.type 36 i0 (.agg #[.int .i64 0, .int .i64 0]) 2 16 Tryd.underlying23 hi hz0 hz1 hz2 rfl (by decide) v L.length (cellsD L) (hown.alloc _) ⟨w.heap.size, 0, none⟩ 1 1 (cellsD [x]) rfl (fun j u hj => by
    have hadd : (⟨w.heap.size, 0, none⟩ : Addr).add j = ⟨w.heap.size, j, none⟩ := by unfold Addr.add; split <;> simp_all
    rw [hadd, cell_of_row _ _ j _ _ _ hnew]
    simpa [cellsD] using hj) (cellsD_one [x]) (by unfold maxLen; omega) (by omega) (by rw [World.size_alloc]; omega)
  unfold Oper.wp execOp
  simp only [ho, resolve, invoke, builtin, Sem.run_bind, Sem.run_pure, Result.andThen_ok, List.map_toArray, List.map_cons, List.map_nil, hs, hx, hr]
  refine hK _ _ (h v' w' ?_ h3 (by rwa [World.size_alloc] at h5))
  rw [cellsD_app, List.length_append]
  exact h2

end Go.Proofs.YtkcbfiglmjdaiaaDoor
