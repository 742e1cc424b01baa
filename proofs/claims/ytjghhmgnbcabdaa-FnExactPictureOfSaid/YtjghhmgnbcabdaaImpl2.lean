/-
  The program's SumOfDigits and CountUnder: for every argument what they hand back.
-/
import Derived.Test.YtjghhmgnbcabdaaIter2
import Derived.Test.YtjghhmgnbcabdaaVals2
namespace Go.Proofs.Ytjghhmgnbcabdaa
open Go.RowKit Go.Shelf
attribute [local go_sem] Oper.semAt_some

theorem digitsIn_in (n b : Int) (w : World) : Calls Try.prog 96 #[.int .i64 n, .int .i64 b] w fun e w' =>
    e = .returned (.func (.func 111) #[] #[.pointer (some ⟨w.heap.size, 0, none⟩), .pointer (some ⟨w.heap.size + 1, 0, none⟩)]) ∧ (w.alloc (.cells #[.int .i64 n] 3)).alloc (.cells #[.int .i64 b] 3) = w' := by
  have hmf : ∀ (fn : Fn) (first cap : Array Value) (w : World), (Instr.makeFunc fn first cap).run Try.prog w = .ok (.func fn first cap) w := fun _ _ _ _ => rfl
  go_enter Try.func96, Try.ntmps96
  go_wp2
  go_ret
  exact ⟨by simp, rfl⟩

end Go.Proofs.Ytjghhmgnbcabdaa
