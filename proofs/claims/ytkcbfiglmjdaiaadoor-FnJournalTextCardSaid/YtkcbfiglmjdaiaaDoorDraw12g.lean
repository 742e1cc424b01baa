/-
  The draws of chapter 12: a text with a byte of it changed.
-/
import Derived.Test.YtkcbfiglmjdaiaaDoorDraw12f
namespace Go.Proofs.YtkcbfiglmjdaiaaDoor
open Go Go.RowKit
attribute [local go_sem] Oper.semAt_some

/-- A text of at most m bytes. -/
def TxtLe (m : Nat) (v : Value) : Prop := ∃ l : List Nat, v = .string (str l) ∧ (∀ x ∈ l, x < 256) ∧ l.length ≤ m
/-- What a byte becomes. -/
def spL (j : Nat) : List Nat := match j with
  | 1 => [48]
  | 2 => [32]
  | 3 => [10]
  | 4 => [45]
  | 5 => [98, 97, 99, 107]
  | _ => []
theorem spL_le : ∀ j, (∀ x ∈ spL j, x < 256) ∧ (spL j).length ≤ 4 := fun j => by
  unfold spL
  split <;> simp
theorem cut_le (l : List Nat) (hl : ∀ x ∈ l, x < 256) (a b : Nat) : TxtLe l.length (.string ((str l).extract a b)) := by
  rw [str_cut]
  exact ⟨_, rfl, fun x hx => hl x (List.mem_of_mem_drop (List.mem_of_mem_take hx)), by simp; omega⟩

theorem app_le {m n t : Nat} {v u : Value} (hv : TxtLe m v) (hu : TxtLe n u) (ht : m + n ≤ t) (_hs : t ≤ 100000) :
    ∃ A, v = .string A ∧ A.size ≤ m ∧ ∃ C, u = .string C ∧ (C.size ≤ n ∧ A.size + C.size ≤ t ∧ TxtLe t (.string (A ++ C))) := by
  obtain ⟨a, rfl, ha, hb⟩ := hv
  obtain ⟨c, rfl, hc, hd⟩ := hu
  refine ⟨_, rfl, by rw [str_size]; exact hb, _, rfl, by rw [str_size]; exact hd, by rw [str_size, str_size]; omega, a ++ c, by rw [str_app], fun x hx => ?_, by rw [List.length_append]; omega⟩
  rcases List.mem_append.1 hx with h | h
  · exact ha x h
  · exact hc x h
theorem spl_cells (V : World) : ∀ j, j < 6 → (V.alloc (.cells #[.string ⟨#[]⟩, .string ⟨#[48]⟩, .string ⟨#[32]⟩, .string ⟨#[10]⟩, .string ⟨#[45]⟩, .string ⟨#[98, 97, 99, 107]⟩] 9)).cell? ⟨V.heap.size, j, none⟩ = some (.string (str (spL j))) := fun j hj => by
  rw [World.cell?_alloc_at _ _ _ _ rfl]
  rcases (show j = 0 ∨ j = 1 ∨ j = 2 ∨ j = 3 ∨ j = 4 ∨ j = 5 by omega) with rfl | rfl | rfl | rfl | rfl | rfl <;> kernel_rfl
end Go.Proofs.YtkcbfiglmjdaiaaDoor
