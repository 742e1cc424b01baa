/-
  The program's small triangle: filled once, read at any digit.
-/
import Derived.Test.YtjghhmgnbcabdaaFill4
namespace Go.Proofs.Ytjghhmgnbcabdaa
open Go.RowKit

set_option maxRecDepth 100000 in
set_option maxHeartbeats 1600000 in
theorem slow_in (R p : Nat) (hp : prm p) (w : World) (h : SmAt w R p 0 0 (fun _ => 0)) :
    Calls Try.prog 101 #[.pointer (some ⟨R, 1, none⟩), .func (.func 73) #[.pointer (some ⟨R, 0, none⟩)] #[]] w fun e w' => e = .returned (.tuple #[]) ∧ SmAt w' R p 1 0 (tabU p p) ∧ w.grownBy w' (some R) := by
  have h1 := h.state 1
  have hg1 : w.grownBy (w.setCell ⟨R, 2, none⟩ (.int .i32 1)) (some R) := grownBy_set (grownBy_refl _ _) _ _
  have hl := run_call_load (P := Try.prog) Try.func112 (by kernel_rfl) (by kernel_rfl) (by kernel_rfl) .u32 (by kernel_rfl) (w := w.setCell ⟨R, 2, none⟩ (.int .i32 1)) (a := ⟨R, 1, none⟩) (x := 0) h1.cell1
  have hnot : ∀ (x : Bool) (w : World), (Op.unary .not (.bool x)).run Try.prog w = .ok (.bool (!x)) w := fun _ _ => rfl
  go_enter_defers Try.func101, Try.ntmps101
  go_wp2_with (go_at_call 87; refine (lock_free ⟨R, 2, none⟩ _ h.cell2 (BlkAt.frozen h 2)).mono ?_; rintro e w' ⟨rfl, rfl⟩)
  go_wp2_with (first | (go_at_call 100; go_in) | (go_at_call 73; refine (fill_in R p hp _ h1).mono ?_; clear hl; rintro e w2 ⟨⟨v, rfl⟩, h2, hg2⟩))
  refine leaves_cons (f := 113) (args := #[.pointer (some ⟨R, 1, none⟩), .bool true]) (by simp) (by simp [go_sem]) ?_
  refine (store_deferred ⟨R, 1, none⟩ (.int .u32 0) .returning _ h2.cell1 (BlkAt.frozen h2 1)).mono ?_
  rintro e u' w'' ⟨rfl, rfl, rfl⟩
  have h3 := SmAt.done (BlkAt.of_block (w' := w2.drew) h2 rfl) 1
  refine leaves_cons (f := 88) (args := #[.pointer (some ⟨R, 2, none⟩)]) (by simp [settle]) (by simp [go_sem]) ?_
  refine (unlock_deferred ⟨R, 2, none⟩ _ _ h3.cell2 (BlkAt.frozen h3 2)).mono ?_
  rintro e u' w'' ⟨rfl, rfl, rfl⟩
  have h4 := h3.state 0
  have hgE : w.grownBy ((w2.drew.setCell ⟨R, 1, none⟩ (.int .u32 1)).setCell ⟨R, 2, none⟩ (.int .i32 0)) (some R) := grownBy_set (grownBy_set (grownBy_drew (hg1.trans hg2)) _ _) _ _
  simp only [Leaves, settle]
  exact ⟨_, results_none rfl _ _ _, rfl, h4, hgE⟩

/-- Do, not yet done. -/
theorem do_first (R p : Nat) (hp : prm p) (w : World) (h : SmAt w R p 0 0 (fun _ => 0)) :
    Calls Try.prog 72 #[.pointer (some ⟨R, 1, none⟩), .func (.func 73) #[.pointer (some ⟨R, 0, none⟩)] #[]] w fun e w' => (∃ v, e = .returned v) ∧ SmAt w' R p 1 0 (tabU p p) ∧ w.grownBy w' (some R) := by
  have hl := run_call_load (P := Try.prog) Try.func112 (by kernel_rfl) (by kernel_rfl) (by kernel_rfl) .u32 (by kernel_rfl) h.cell1
  have hnot : ∀ (x : Bool) (w : World), (Op.unary .not (.bool x)).run Try.prog w = .ok (.bool (!x)) w := fun _ _ => rfl
  go_enter Try.func72, Try.ntmps72
  go_wp2_with (first | (go_at_call 101; refine (slow_in R p hp _ h).mono ?_; rintro e w' ⟨rfl, h2, hg2⟩) | (go_at_call 100; go_in))
  go_end0
  exact ⟨⟨_, rfl⟩, h2, hg2⟩
/-- Do, done already. -/
theorem do_done (R p : Nat) (T : Nat → Nat) (fv : Value) (w : World) (h : SmAt w R p 1 0 T) :
    Calls Try.prog 72 #[.pointer (some ⟨R, 1, none⟩), fv] w fun e w' => (∃ v, e = .returned v) ∧ w' = w := by
  have hl := run_call_load (P := Try.prog) Try.func112 (by kernel_rfl) (by kernel_rfl) (by kernel_rfl) .u32 (by kernel_rfl) h.cell1
  have hnot : ∀ (x : Bool) (w : World), (Op.unary .not (.bool x)).run Try.prog w = .ok (.bool (!x)) w := fun _ _ => rfl
  go_enter Try.func72, Try.ntmps72
  go_wp2_with (go_at_call 100; go_in)
  go_end0
  exact ⟨⟨_, rfl⟩, rfl⟩

/-- The small triangle, not yet filled or filled. -/
def Sm (w : World) (R p : Nat) : Prop := SmAt w R p 0 0 (fun _ => 0) ∨ SmAt w R p 1 0 (tabU p p)
theorem Sm.once {w : World} {R p : Nat} (hp : prm p) (h : Sm w R p) :
    Calls Try.prog 72 #[.pointer (some ⟨R, 1, none⟩), .func (.func 73) #[.pointer (some ⟨R, 0, none⟩)] #[]] w fun e w' => (∃ v, e = .returned v) ∧ SmAt w' R p 1 0 (tabU p p) ∧ w.grownBy w' (some R) := by
  rcases h with h | h
  · exact do_first R p hp w h
  · exact (do_done R p _ _ w h).mono fun e w' ⟨h1, h2⟩ => ⟨h1, h2 ▸ h, h2 ▸ grownBy_refl _ _⟩
theorem Sm.kept {w w' : World} {R p : Nat} {row : Option Nat} (h : Sm w R p) (hg : w.grownBy w' row) (hr : some R ≠ row) : Sm w' R p := by
  rcases h with h | h
  · exact .inl (BlkAt.kept h hg hr)
  · exact .inr (BlkAt.kept h hg hr)
theorem Sm.drew {w : World} {R p : Nat} (h : Sm w R p) : Sm w.drew R p := by
  rcases h with h | h
  · exact .inl (BlkAt.of_block h rfl)
  · exact .inr (BlkAt.of_block h rfl)
theorem Sm.cell0 {w : World} {R p : Nat} (h : Sm w R p) : w.cell? ⟨R, 0, none⟩ = some (.int .i64 p) := by
  rcases h with h | h
  · exact SmAt.cell0 h
  · exact SmAt.cell0 h
theorem Sm.lt {w : World} {R p : Nat} (h : Sm w R p) : R < w.heap.size := by
  rcases h with h | h
  · exact BlkAt.lt h
  · exact BlkAt.lt h

set_option maxHeartbeats 400000 in
theorem smallCell_in (R p a b : Nat) (hp : prm p) (ha : a < p) (hb : b < p) (w : World) (h : Sm w R p) : Calls Try.prog 59 #[.pointer (some ⟨R, 0, none⟩), .int .i64 a, .int .i64 b] w fun e w' =>
    e = .returned (.int .i64 ((bin a b % p : Nat) : Int)) ∧ Sm w' R p ∧ w.grownBy w' (some R) := by
  have hp2 := prm_two hp
  have hmf : ∀ (fn : Fn) (first cap : Array Value) (w : World), (Instr.makeFunc fn first cap).run Try.prog w = .ok (.func fn first cap) w := fun _ _ _ _ => rfl
  have hO := h.once hp
  clear h
  obtain ⟨C, hC⟩ : ∃ C, bin a b % p = C := ⟨_, rfl⟩
  rw [hC]
  have hC' := hide hC
  clear hC
  go_enter Try.func59, Try.ntmps59
  go_wp2_with fail
  go_at_call 72
  refine hO.mono ?_
  clear hO
  rintro e w1 ⟨⟨v, rfl⟩, h1, hg1⟩
  have hc : w1.cell? ⟨R, 4 + a * 16 + b, none⟩ = some (.int .i64 C) := by
    have := BlkAt.cell h1 (i := 4 + (16 * a + b)) (smV_at p 1 0 _ (by omega))
    rw [tabU_at ha (by omega), hC'.out] at this
    rw [show 4 + a * 16 + b = 4 + (16 * a + b) by omega]; exact this
  have ha16 : (a : Int) < 16 := by omega
  have hb16 : (b : Int) < 16 := by omega
  go_wp2
  go_ret
  exact ⟨rfl, .inr h1, hg1⟩
end Go.Proofs.Ytjghhmgnbcabdaa
