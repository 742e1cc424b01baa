/-
  The program's CarriesOf and UnderOk: for every argument what they hand back.
-/
import Derived.Test.YtlkcdcmmcjkedabIter2b
import Derived.Test.YtlkcdcmmcjkedabImpl2
namespace Go.Proofs.Ytlkcdcmmcjkedab
open Go.RowKit Go.Shelf
attribute [local go_sem] Oper.semAt_some

theorem boxed_at {W : World} {k : Nat} (t : TypeId) (v : Value) (h : W.heap.size = k) : Boxed (W.alloc (.cells #[v] t)) k t v := h ▸ Boxed.new W t v

theorem results_cell_one {fn : Func} {p : Tmp} {ty : TypeId} (h : fn.results = #[.cell p ty]) (tmps : Array Value) (P : Program) (w : World) :
    (results fn tmps).run P w = ((asAddr (tmps.getD p undef)).run P w).andThen fun a w₁ => (loadVar ty a).run P w₁ := by
  simp only [results, h]
  simp [Sem.run_bind, Result.andThen]

theorem results_cell_bool {fn : Func} {p : Tmp} (h : fn.results = #[.cell p 4]) (tmps : Array Value) (w : World) (B : Nat) (v : Bool) (hp : tmps.getD p undef = .pointer (some ⟨B, 0, none⟩)) (hb : Boxed w B 4 (.bool v)) :
    (results fn tmps).run Try.prog w = .ok (.bool v) w := by
  have hc := hb.cell
  rw [results_cell_one h, hp]
  go_simp

end Go.Proofs.Ytlkcdcmmcjkedab
