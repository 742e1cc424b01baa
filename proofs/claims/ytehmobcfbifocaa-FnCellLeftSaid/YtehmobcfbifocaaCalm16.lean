/-
  The functions of chapter 7 that hold calm operations alone.
-/
import Derived.Test.YtehmobcfbifocaaChecked
import Derived.Test.YtehmobcfbifocaaCalmZ
import Derived.KernelRfl
namespace Go.Proofs.Ytehmobcfbifocaa
open Go Go.Conc

theorem calm_results_tmp {P : Program} {fn : Func} {t : Tmp} (h : fn.results = #[.tmp t]) (tmps : Array Value) : Calm P (fun _ => True) (results fn tmps) := by
  have e : results fn tmps = pure (tmps.getD t undef) := by simp [results, h]
  rw [e]
  exact calm_ret trivial
theorem calm_results_tmp2 {P : Program} {fn : Func} {t u : Tmp} (h : fn.results = #[.tmp t, .tmp u]) (tmps : Array Value) : Calm P (fun _ => True) (results fn tmps) := by
  have e : results fn tmps = pure (.tuple #[tmps.getD t undef, tmps.getD u undef]) := by simp [results, h]
  rw [e]
  exact calm_ret trivial
/-- No variable waits for its first value: so none is brought ahead. -/
theorem early_ends {P : Program} (h1 : P.follows .staticDataAhead = true) (h2 : (P.funcs.all fun f => (f.body.map readies).all (·.isEmpty)) = true) (fr : Frame) (cs : List Frame) (g : Nat) (w : World) : Ends1 (early P fr cs none g w) := by
  have h3 : P.stepOf g = none := by
    unfold Program.stepOf
    rw [Array.findIdx?_eq_none_iff]
    intro f hf
    have := Array.all_eq_true'.1 h2 f hf
    cases hb : f.body with
    | none => simp
    | some c =>
      rw [hb] at this
      simp only [Option.map_some, Option.all_some, List.isEmpty_iff] at this
      simp [this]
  simp only [early, h1, h3, Bool.not_true, Bool.false_eq_true, if_false]
  trivial
def L7K : List FuncId := [15, 20, 23, 26, 29, 34, 38, 32, 37]
def K7 (f : FuncId) : Bool := L7K.contains f
theorem kok7 : KOk Try.prog (okOp Try.prog K7) K7 := by
  refine ⟨fun f hf => ?_, calm_exec, fun f fn hf hfn tmps => ?_, early_ends (by kernel_rfl) (by kernel_rfl)⟩
  · have : f = 15 ∨ f = 20 ∨ f = 23 ∨ f = 26 ∨ f = 29 ∨ f = 34 ∨ f = 38 ∨ f = 32 ∨ f = 37 := by simpa [K7, L7K] using hf
    rcases this with rfl | rfl | rfl | rfl | rfl | rfl | rfl | rfl | rfl
    · exact ⟨_, _, Try.func15, rfl, by kernel_rfl⟩
    · exact ⟨_, _, Try.func20, rfl, by kernel_rfl⟩
    · exact ⟨_, _, Try.func23, rfl, by kernel_rfl⟩
    · exact ⟨_, _, Try.func26, rfl, by kernel_rfl⟩
    · exact ⟨_, _, Try.func29, rfl, by kernel_rfl⟩
    · exact ⟨_, _, Try.func34, rfl, by kernel_rfl⟩
    · exact ⟨_, _, Try.func38, rfl, by kernel_rfl⟩
    · exact ⟨_, _, Try.func32, rfl, by kernel_rfl⟩
    · exact ⟨_, _, Try.func37, rfl, by kernel_rfl⟩
  · have : f = 15 ∨ f = 20 ∨ f = 23 ∨ f = 26 ∨ f = 29 ∨ f = 34 ∨ f = 38 ∨ f = 32 ∨ f = 37 := by simpa [K7, L7K] using hf
    rcases this with rfl | rfl | rfl | rfl | rfl | rfl | rfl | rfl | rfl
    · cases hfn.symm.trans Try.func15; exact calm_results_tmp rfl tmps
    · cases hfn.symm.trans Try.func20; exact calm_results_tmp2 rfl tmps
    · cases hfn.symm.trans Try.func23; exact calm_results_tmp rfl tmps
    · cases hfn.symm.trans Try.func26; exact calm_results_tmp rfl tmps
    · cases hfn.symm.trans Try.func29; exact calm_results_tmp rfl tmps
    · cases hfn.symm.trans Try.func34; exact calm_results_tmp rfl tmps
    · cases hfn.symm.trans Try.func38; exact calm_results_tmp rfl tmps
    · cases hfn.symm.trans Try.func32; exact calm_results_tmp rfl tmps
    · cases hfn.symm.trans Try.func37; exact calm_results_tmp rfl tmps
end Go.Proofs.Ytehmobcfbifocaa
