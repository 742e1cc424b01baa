/-
  The walk of the exact law of ReadDeed.
-/
import Derived.Test.YtdgolpgggahknaaDoorRead12c
import Derived.Test.YtdgolpgggahknaaDoorL12Z
namespace Go.Proofs.YtdgolpgggahknaaDoor
open Go.RowKit

theorem exactReadDeed (s : ByteArray) (w : World) (hEnv : Env w) : Calls Tryd.prog 6 #[.string s] w fun e w' => e = .returned (.bool true) ∧ Below w.heap.size w w' := by
  by_cases hbig : 1048576 < s.size
  · have hbi : (1048576 : Int) < (s.size : Int) := by omega
    go_enter Tryd.func6, Tryd.ntmps6
    go_wp2
    go_ret
    exact ⟨rfl, Below.refl _ _⟩
  · obtain ⟨l, rfl, hl, hn⟩ := str_of s
    have hS := fun w => specReadDeed l hl (by omega) w
    have hI := fun w hw => implReadDeed l hl (by omega) w hw
    have hbi : ¬ (1048576 : Int) < ((str l).size : Int) := by omega
    generalize str l = s at *
    have hE := fun V => eqDeed_in (rdV l).1.1 (rdV l).1.2 V
    generalize (rdV l).1.1 = k at *
    generalize (rdV l).1.2 = n at *
    generalize (rdV l).2 = b at *
    unfold dV at *
    clear hl hn hbig
    have hB1 := Below.refl w.heap.size w
    go_enter Tryd.func6, Tryd.ntmps6
    go_wp2_with (first
      | (go_at_call 15; (with_reducible refine (hS _).mono ?_); rintro e w3 ⟨rfl, hB3⟩)
      | (go_at_call 13; (with_reducible refine (hI _ (hEnv.below (hB3.alloc hB3.size _))).mono ?_); go_loud (rintro e w4 ⟨rfl, hB4⟩; have h3 := (hB4.block w3.heap.size (by simp)).trans (World.alloc_heap_new w3 (.cells #[.int .i64 k, .int .i64 n] 24)); have h4 := (Below.heap_alloc w4 (.cells #[.int .i64 k, .int .i64 n] 24) _ (Array.getElem?_eq_some_iff.1 h3).1).trans h3; have d0 := cell_of_row _ _ 0 _ _ _ h4; have d1 := cell_of_row _ _ 1 _ _ _ h4))
      | (go_at_call 21; (with_reducible refine (hE _).mono ?_); rintro e w5 ⟨rfl, hB5⟩))
    go_ret
    have hB6 := (hB3.alloc hB3.size (.cells #[.int .i64 k, .int .i64 n] 24))
    have hB7 := hB6.trans (hB4.mono hB6.size)
    have hB8 := hB7.alloc hB7.size (.cells #[.int .i64 k, .int .i64 n] 24)
    exact ⟨rfl, hB8.trans (hB5.mono hB8.size)⟩

end Go.Proofs.YtdgolpgggahknaaDoor
