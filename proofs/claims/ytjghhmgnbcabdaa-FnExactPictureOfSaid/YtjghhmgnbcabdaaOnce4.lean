/-
  The parts of sync.Once's road over the program's small triangle, one goroutine: the lock, the two deferred calls, the word that says done. After the library's worked texts on sync.Once.
-/
import Derived.Test.YtjghhmgnbcabdaaBlk
import Derived.Tactics
import Derived.Tactics2
import Derived.Defers
import Derived.Laws.Pointers
import Derived.Laws.LoneSync
import Derived.RegionTactic
import Derived.RegionCalls
import Derived.ChangeAlike
namespace Go.Proofs.Ytjghhmgnbcabdaa
open Go.RowKit

/-- What the small triangle's block holds: the prime, the once's word, its lock, the cells. -/
def smV (p : Nat) (d s : Int) (T : Nat → Nat) : Nat → Option Value := fun i =>
  if i = 0 then some (.int .i64 p) else if i = 1 then some (.int .u32 d) else if i = 2 then some (.int .i32 s) else if 4 ≤ i ∧ i < 260 then some (.int .i64 (T (i - 4))) else none
abbrev SmAt (w : World) (R p : Nat) (d s : Int) (T : Nat → Nat) : Prop := BlkAt w R 65 260 (smV p d s T)
theorem SmAt.done {w : World} {R p : Nat} {d s : Int} {T : Nat → Nat} (h : SmAt w R p d s T) (d' : Int) : SmAt (w.setCell ⟨R, 1, none⟩ (.int .u32 d')) R p d' s T :=
  (BlkAt.set h (.int .u32 d') (by omega)).weaken (fun i v hi => by
    unfold smV at hi
    unfold updV smV
    by_cases e : i = 1
    · subst e; simpa using hi
    · rw [if_neg e]; rw [if_neg e] at hi ⊢; exact hi)
theorem SmAt.state {w : World} {R p : Nat} {d s : Int} {T : Nat → Nat} (h : SmAt w R p d s T) (s' : Int) : SmAt (w.setCell ⟨R, 2, none⟩ (.int .i32 s')) R p d s' T :=
  (BlkAt.set h (.int .i32 s') (by omega)).weaken (fun i v hi => by
    unfold smV at hi
    unfold updV smV
    by_cases e : i = 2
    · subst e; simpa using hi
    · rw [if_neg e]; rw [if_neg e] at hi ⊢; exact hi)
theorem SmAt.cell0 {w : World} {R p : Nat} {d s : Int} {T : Nat → Nat} (h : SmAt w R p d s T) : w.cell? ⟨R, 0, none⟩ = some (.int .i64 p) := BlkAt.cell h rfl
theorem SmAt.cell1 {w : World} {R p : Nat} {d s : Int} {T : Nat → Nat} (h : SmAt w R p d s T) : w.cell? ⟨R, 1, none⟩ = some (.int .u32 d) := BlkAt.cell h rfl
theorem SmAt.cell2 {w : World} {R p : Nat} {d s : Int} {T : Nat → Nat} (h : SmAt w R p d s T) : w.cell? ⟨R, 2, none⟩ = some (.int .i32 s) := BlkAt.cell h rfl
theorem smV_at (p : Nat) (d s : Int) (T : Nat → Nat) {i : Nat} (hi : i < 256) : smV p d s T (4 + i) = some (.int .i64 (T i)) := by
  unfold smV
  rw [if_neg (by omega), if_neg (by omega), if_neg (by omega), if_pos (by omega), show 4 + i - 4 = i by omega]

theorem raceOff (w : World) : (callFunc 75 #[]).run Try.prog w = .ok (.value (.tuple #[])) w := run_call_mark0 Try.func75 (by kernel_rfl) (by kernel_rfl) (by kernel_rfl) .disable (by kernel_rfl) w
theorem raceOn (w : World) : (callFunc 76 #[]).run Try.prog w = .ok (.value (.tuple #[])) w := run_call_mark0 Try.func76 (by kernel_rfl) (by kernel_rfl) (by kernel_rfl) .enable (by kernel_rfl) w
theorem raceAcquire (a : Addr) (w : World) : (callFunc 90 #[.pointer (some a)]).run Try.prog w = .ok (.value (.tuple #[])) w := run_call_marked Try.func90 (by kernel_rfl) (by kernel_rfl) (by kernel_rfl) .acquire (by kernel_rfl) a w
theorem raceMerge (a : Addr) (w : World) : (callFunc 74 #[.pointer (some a)]).run Try.prog w = .ok (.value (.tuple #[])) w := run_call_marked Try.func74 (by kernel_rfl) (by kernel_rfl) (by kernel_rfl) .releaseMerge (by kernel_rfl) a w

/-- '(*sync/atomic.Bool).Store(true)', entered as a deferred call: the cell holds 1. -/
theorem store_deferred (a : Addr) (x : Value) (u : FrameMode) (w : World) (hc : w.cell? a = some x) (hz : w.frozen? a = false) :
    CallsD Try.prog 113 #[.pointer (some a), .bool true] u w fun e u' w' => u' = u ∧ (e = .returned (.tuple #[]) ∧ w' = w.drew.setCell a (.int .u32 1)) := by
  have hc' : w.drew.cell? a = some x := by go_simp
  have hz' : w.drew.frozen? a = false := by go_simp
  have hst := run_call_store (P := Try.prog) Try.func118 (by kernel_rfl) (by kernel_rfl) (by kernel_rfl) (by kernel_rfl) (k := .u32) (y := 1) hc' hz'
  go_enter_d Try.func113, Try.ntmps113
  go_wp2
  go_region_calls
  all_goals (go_end0; exact ⟨rfl, rfl⟩)

set_option maxRecDepth 100000 in
/-- '(*sync.Mutex).Unlock', entered as a deferred call, the lock held and nobody waiting. -/
theorem unlock_deferred (a : Addr) (u : FrameMode) (w : World) (hc : w.cell? a = some (.int .i32 1)) (hz : w.frozen? a = false) :
    CallsD Try.prog 88 #[.pointer (some a)] u w fun e u' w' => u' = u ∧ (e = .returned (.tuple #[]) ∧ w' = w.setCell a (.int .i32 0)) := by
  have hd := raceOff
  have he := raceOn
  have hr := raceMerge
  have hadd := run_call_add (P := Try.prog) Try.func116 (by kernel_rfl) (by kernel_rfl) (by kernel_rfl) .i32 (by kernel_rfl) (y := -1) (s := 0) hc hz (by simp [go_sem]; rfl)
  have hcv := run_convert_to_unsafe (P := Try.prog) (src := 147) (dst := 109) Try.underlying147 Try.underlying109 (by kernel_rfl) hc
  go_enter_d Try.func88, Try.ntmps88
  go_wp2
  go_end0
  go_wp2
  go_end0
  exact ⟨rfl, rfl⟩

set_option maxRecDepth 100000 in
/-- '(*sync.Mutex).Lock', the lock free. -/
theorem lock_free (a : Addr) (w : World) (hc : w.cell? a = some (.int .i32 0)) (hz : w.frozen? a = false) :
    Calls Try.prog 87 #[.pointer (some a)] w fun e w' => e = .returned (.tuple #[]) ∧ w' = w.setCell a (.int .i32 1) := by
  have hd := raceOff
  have he := raceOn
  have ha := raceAcquire
  have hcas := run_call_cas_hit (P := Try.prog) Try.func114 (by kernel_rfl) (by kernel_rfl) (by kernel_rfl) .i32 (by kernel_rfl) (y := 1) hc hz
  have hc' : (w.setCell a (.int .i32 1)).cell? a = some (.int .i32 1) := World.cell?_setCell_same w a _ hc
  have hcv := run_convert_to_unsafe (P := Try.prog) (src := 147) (dst := 109) Try.underlying147 Try.underlying109 (by kernel_rfl) hc'
  go_enter Try.func87, Try.ntmps87
  go_wp2
  first | go_end0 | (simp only [Exit.inBlock, Exit.then]; refine bodyPost_ret (results_none rfl _ _ _) rfl ?_) | refine bodyPost_ret (results_none rfl _ _ _) rfl ?_
  go_wp2
  go_end0
  exact ⟨rfl, rfl⟩
end Go.Proofs.Ytjghhmgnbcabdaa
