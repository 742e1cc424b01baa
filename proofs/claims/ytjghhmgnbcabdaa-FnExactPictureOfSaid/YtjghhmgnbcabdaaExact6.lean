/-
  The walks of the exact laws of chapter 6.
-/
import Derived.Test.YtjghhmgnbcabdaaSpec6
import Derived.Test.YtjghhmgnbcabdaaSpec6b
import Derived.Test.YtjghhmgnbcabdaaImpl6c
import Derived.Test.YtjghhmgnbcabdaaImpl6d
import Derived.Test.YtjghhmgnbcabdaaImpl6e
namespace Go.Proofs.Ytjghhmgnbcabdaa
open Go.RowKit

theorem exactMark (a0 a1 a2 : Int) (w : World) (hf : Fits a2) : Calls Try.prog 7 #[.int .i64 a0, .int .i64 a1, .int .i64 a2] w fun e w' => e = .returned (.bool true) ∧ Below w.heap.size w w' := by
  have hS := fun w => specMark a0 a1 a2 w
  have hI := fun w => implMark a0 a1 a2 hf w
  obtain ⟨v, hv⟩ : ∃ v, str (markL a0 a1 a2) = v := ⟨_, rfl⟩
  rw [hv] at hS hI
  clear hv
  have hB1 := Below.refl w.heap.size w
  go_enter Try.func7, Try.ntmps7
  go_wp2_with (first | (go_at_call 13; (with_reducible refine (hS _).mono ?_); rintro e w' ⟨rfl, hB'⟩; replace hB1 := hB1.trans (hB'.mono hB1.size); clear hB') | (go_at_call 12; (with_reducible refine (hI _).mono ?_); rintro e w' ⟨rfl, hB'⟩; replace hB1 := hB1.trans (hB'.mono hB1.size); clear hB'))
  go_ret
  exact ⟨rfl, hB1⟩

theorem exactPicture (a0 a1 : Int) (w : World) (hf : Fits a1) : Calls Try.prog 8 #[.int .i64 a0, .int .i64 a1] w fun e w' => e = .returned (.bool true) ∧ Below w.heap.size w w' := by
  have hS := fun w => specPicture a0 a1 w
  have hI := fun w => implPicture a0 a1 hf w
  obtain ⟨v, hv⟩ : ∃ v, str (picL a0 a1) = v := ⟨_, rfl⟩
  rw [hv] at hS hI
  clear hv
  have hB1 := Below.refl w.heap.size w
  go_enter Try.func8, Try.ntmps8
  go_wp2_with (first | (go_at_call 18; (with_reducible refine (hS _).mono ?_); rintro e w' ⟨rfl, hB'⟩; replace hB1 := hB1.trans (hB'.mono hB1.size); clear hB') | (go_at_call 17; (with_reducible refine (hI _).mono ?_); rintro e w' ⟨rfl, hB'⟩; replace hB1 := hB1.trans (hB'.mono hB1.size); clear hB'))
  go_ret
  exact ⟨rfl, hB1⟩

theorem exactTriangle (a0 a1 a2 a3 a4 : Int) (w : World) (hf : Fits a4) : Calls Try.prog 9 #[.int .i64 a0, .int .i64 a1, .int .i64 a2, .int .i64 a3, .int .i64 a4] w fun e w' => e = .returned (.bool true) ∧ Below w.heap.size w w' := by
  have hS := fun w => specTriangle a0 a1 a2 a3 a4 w
  have hI := fun w => implTriangle a0 a1 a2 a3 a4 hf w
  obtain ⟨v, hv⟩ : ∃ v, triV a0 a1 a2 a3 a4 = v := ⟨_, rfl⟩
  rw [hv] at hS hI
  clear hv
  have hB1 := Below.refl w.heap.size w
  cases v
  all_goals
    go_enter Try.func9, Try.ntmps9
    go_wp2_with (first | (go_at_call 22; (with_reducible refine (hS _).mono ?_); rintro e w' ⟨rfl, hB'⟩; replace hB1 := hB1.trans (hB'.mono hB1.size); clear hB') | (go_at_call 21; (with_reducible refine (hI _).mono ?_); rintro e w' ⟨rfl, hB'⟩; replace hB1 := hB1.trans (hB'.mono hB1.size); clear hB'))
    go_ret
    exact ⟨rfl, hB1⟩

theorem exactGap (a0 a1 a2 a3 : Int) (w : World) (hf : Fits a3) : Calls Try.prog 10 #[.int .i64 a0, .int .i64 a1, .int .i64 a2, .int .i64 a3] w fun e w' => e = .returned (.bool true) ∧ Below w.heap.size w w' := by
  have hS := fun w => specGap a0 a1 a2 a3 w
  have hI := fun w => implGap a0 a1 a2 a3 hf w
  obtain ⟨v, hv⟩ : ∃ v, gapV a0 a1 a2 a3 = v := ⟨_, rfl⟩
  rw [hv] at hS hI
  clear hv
  have hB1 := Below.refl w.heap.size w
  cases v
  all_goals
    go_enter Try.func10, Try.ntmps10
    go_wp2_with (first | (go_at_call 27; (with_reducible refine (hS _).mono ?_); rintro e w' ⟨rfl, hB'⟩; replace hB1 := hB1.trans (hB'.mono hB1.size); clear hB') | (go_at_call 26; (with_reducible refine (hI _).mono ?_); rintro e w' ⟨rfl, hB'⟩; replace hB1 := hB1.trans (hB'.mono hB1.size); clear hB'))
    go_ret
    exact ⟨rfl, hB1⟩
end Go.Proofs.Ytjghhmgnbcabdaa
