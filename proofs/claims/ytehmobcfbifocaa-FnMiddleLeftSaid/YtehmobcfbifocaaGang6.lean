/-
  What the library reckons of a group's word. Made by gen_gang6.py.
-/
import Derived.Test.YtehmobcfbifocaaGangA
import Derived.Conc.WgGenN3
namespace Go.Proofs.Ytehmobcfbifocaa
open Go Go.Conc Go.ConcN Go.ConcN.Gen Go.ConcR.Gen Go.RowKit Go.Conc.Lib
open Go.ConcR (KK wgBlock WgAt stA smA rd wr mk Payload Aside2 DC0)
variable [Payload] {L : WgLink}

omit [Payload] in
/-- What the library reckons of a group's word. -/
theorem word_of {V S : Int} (h0 : 0 < V) (hV : V < 2147483648) (hS : S = V * KK) :
    S / 4294967296 = V ∧ bits .and .u64 S 2147483648 = 0 ∧ bits .and .u64 S 2147483647 = 0 ∧ IntKind.i32.wrap V = V ∧ IntKind.u64.wrap (S + 1) = S + 1 ∧
      decide (V < 0) = false ∧ decide (0 < V) = true ∧ (V == 0) = false ∧ decide (V = 0) = false := by
  obtain ⟨n, rfl⟩ := Int.eq_ofNat_of_zero_le (Int.le_of_lt h0)
  have hf := st_flag n 0 (by omega) (by omega)
  have hm := st_waiters n 0 (by omega) (by omega)
  simp only [KK] at hS
  subst hS
  refine ⟨by omega, by simpa using hf, by simpa using hm, ?_, ?_, decide_eq_false (by omega), decide_eq_true (by omega), beq_false_of_ne (by omega), decide_eq_false (by omega)⟩
  · rw [IntKind.wrap_i32]
    omega
  · rw [IntKind.wrap_u64]
    omega
end Go.Proofs.Ytehmobcfbifocaa
