/-
  The model's DeskDo.
-/
import Derived.Test.YtimnhedjapakhaaSpec12k
namespace Go.Proofs.Ytimnhedjapakhaa
open Go.RowKit

theorem doV_back {d : Dk} {k n : Int} (hb : deskB d = true) (h : k = 5 ∧ n = 0 ∧ 0 < d.2.length) : doV d k n = ((pstV d.2, d.2.take (d.2.length - 1)), true) := by unfold doV; rw [if_pos hb, if_pos h]
theorem doV_same {d : Dk} {k n : Int} (hb : deskB d = true) (h : ¬ (k = 5 ∧ n = 0 ∧ 0 < d.2.length)) (hm : madeV d.1 k n = [] ∨ madeV d.1 k n = d.1) : doV d k n = (d, false) := by unfold doV; rw [if_pos hb, if_neg h, if_pos hm]
theorem doV_made {d : Dk} {k n : Int} (hb : deskB d = true) (h : ¬ (k = 5 ∧ n = 0 ∧ 0 < d.2.length)) (hm : ¬ (madeV d.1 k n = [] ∨ madeV d.1 k n = d.1)) : doV d k n = ((madeV d.1 k n, pastV d.2 d.1), true) := by unfold doV; rw [if_pos hb, if_neg h, if_neg hm]
theorem OwnSS.past {W : World} {base : Nat} {v : Value} {rows : List (List Int)} (h : OwnSS W base v rows) : PastI W v rows := h.rowsI.past

/-- The rows of before fill no more than their slice holds. -/
def CapP (v : Value) : Prop := ∀ x a n c, v = .agg #[x, .slice a n c] → n ≤ c
theorem CapP.of {x : Value} {a : Option Addr} {n c : Nat} (h : n ≤ c) : CapP (.agg #[x, .slice a n c]) := by
  intro x' a' n' c' e
  injection e with e
  simp at e
  omega

/-- Besides, their slice lies in a block from 'base' on. -/
def CapN (base : Nat) (v : Value) : Prop := CapP v ∧ ∀ x g o t n c, v = .agg #[x, .slice (some ⟨g, o, t⟩) n c] → base ≤ g
theorem CapN.of {base : Nat} {x : Value} {a : Option Addr} {n c : Nat} (h : n ≤ c) (ha : ∀ g o t, a = some ⟨g, o, t⟩ → base ≤ g) : CapN base (.agg #[x, .slice a n c]) := by
  refine ⟨CapP.of h, fun x' g o t n' c' e => ?_⟩
  injection e with e
  simp at e
  exact ha g o t e.2.1

set_option maxRecDepth 100000 in
set_option maxHeartbeats 2000000 in
theorem specDo_no (v : Value) (d : Dk) (k n : Int) (w : World) (hv : DeskI w v d) (hs : DkS d) (hb : deskB d = false) : Calls Try.prog 14 #[v, dV k n] w fun e w' =>
    ∃ x, e = .returned (.tuple #[x, .bool (doV d k n).2]) ∧ DeskI w' x (doV d k n).1 ∧ CapN w.heap.size x ∧ Below w.heap.size w w' := by
  obtain ⟨x, p, rfl, hx, hp⟩ := hv
  have hB1 : Below w.heap.size w (((w.alloc (.cells #[x, p] 26)).alloc (.cells #[.int .i64 k, .int .i64 n] 32)).alloc (.cells #[.slice none 0 0, .slice none 0 0] 26)) :=
    (((Below.refl _ w).alloc (Nat.le_refl _) _).alloc (by rw [World.size_alloc]; omega) _).alloc (by rw [World.size_alloc, World.size_alloc]; omega) _
  have hbr : (((w.alloc (.cells #[x, p] 26)).alloc (.cells #[.int .i64 k, .int .i64 n] 32)).alloc (.cells #[.slice none 0 0, .slice none 0 0] 26)).heap[w.heap.size + 2]? = some (.cells #[.slice none 0 0, .slice none 0 0] 26 (0, 0)) := by
    have h := World.alloc_heap_new ((w.alloc (.cells #[x, p] 26)).alloc (.cells #[.int .i64 k, .int .i64 n] 32)) (.cells #[.slice none 0 0, .slice none 0 0] 26)
    rw [World.size_alloc, World.size_alloc] at h
    exact h
  have hbx : (((w.alloc (.cells #[x, p] 26)).alloc (.cells #[.int .i64 k, .int .i64 n] 32)).alloc (.cells #[.slice none 0 0, .slice none 0 0] 26)).heap[w.heap.size]? = some (.cells #[x, p] 26 (0, 0)) :=
    (Below.heap_alloc _ _ _ (by rw [World.size_alloc, World.size_alloc]; omega)).trans ((Below.heap_alloc _ _ _ (by rw [World.size_alloc]; omega)).trans (World.alloc_heap_new w _))
  have hsz := Nat.le_of_eq (show w.heap.size + 3 = (((w.alloc (.cells #[x, p] 26)).alloc (.cells #[.int .i64 k, .int .i64 n] 32)).alloc (.cells #[.slice none 0 0, .slice none 0 0] 26)).heap.size by simp)
  obtain ⟨W1, hW1⟩ : ∃ W1, ((w.alloc (.cells #[x, p] 26)).alloc (.cells #[.int .i64 k, .int .i64 n] 32)).alloc (.cells #[.slice none 0 0, .slice none 0 0] 26) = W1 := ⟨_, rfl⟩
  rw [hW1] at hB1 hbr hbx hsz
  have hOK := specDeskOk (.agg #[x, p]) d W1 ⟨x, p, rfl, hx.below hB1, hp.below hB1⟩ hs
  rw [hb] at hOK
  rw [doV_no hb]
  obtain ⟨a0, a1, _, _⟩ := row_at hbx
  unfold dV
  clear hx hp hs hb
  go_enter Try.func14, Try.ntmps14
  go_wp2_with (go_at_call 10; refine hOK.mono ?_; clear hOK; go_loud (rintro e W2 ⟨rfl, hB2⟩; have hbr2 := (hB2.block (w.heap.size + 2) (by omega)).trans hbr; obtain ⟨r0, r1, g0, g1⟩ := row_at hbr2))
  refine bodyPost_ret (results_desk2 rfl _ _ (w.heap.size + 2) _ _ rfl (desk_set hbr2 _ _)) rfl ⟨_, rfl, ⟨_, _, rfl, Ints.none _ _ _, PastI.none _ _ _⟩, CapN.of (Nat.le_refl _) (fun g o t e => by cases e), ?_⟩
  exact ((hB1.trans (hB2.mono hB1.size)).setCell (p := ⟨w.heap.size + 2, 0, none⟩) (by show w.heap.size ≤ w.heap.size + 2; omega) _).setCell (p := ⟨w.heap.size + 2, 1, none⟩) (by show w.heap.size ≤ w.heap.size + 2; omega) _

/-- The world in which the calls begin: the desk, the deed and the result lie boxed. -/
structure Do1 (w : World) (x p : Value) (k n : Int) (W : World) : Prop where
  below : Below w.heap.size w W
  size : w.heap.size + 3 ≤ W.heap.size
  desk : W.heap[w.heap.size]? = some (.cells #[x, p] 26 (0, 0))
  deed : W.heap[w.heap.size + 1]? = some (.cells #[.int .i64 k, .int .i64 n] 32 (0, 0))
  res : W.heap[w.heap.size + 2]? = some (.cells #[.slice none 0 0, .slice none 0 0] 26 (0, 0))
theorem Do1.new (w : World) (x p : Value) (k n : Int) : Do1 w x p k n (((w.alloc (.cells #[x, p] 26)).alloc (.cells #[.int .i64 k, .int .i64 n] 32)).alloc (.cells #[.slice none 0 0, .slice none 0 0] 26)) := by
  refine ⟨(((Below.refl _ w).alloc (Nat.le_refl _) _).alloc (by rw [World.size_alloc]; omega) _).alloc (by rw [World.size_alloc, World.size_alloc]; omega) _, by simp, ?_, ?_, ?_⟩
  · exact (Below.heap_alloc _ _ _ (by rw [World.size_alloc, World.size_alloc]; omega)).trans ((Below.heap_alloc _ _ _ (by rw [World.size_alloc]; omega)).trans (World.alloc_heap_new w _))
  · refine (Below.heap_alloc _ _ _ (by rw [World.size_alloc, World.size_alloc]; omega)).trans ?_
    have h := World.alloc_heap_new (w.alloc (.cells #[x, p] 26)) (.cells #[.int .i64 k, .int .i64 n] 32)
    rw [World.size_alloc] at h
    exact h
  · have h := World.alloc_heap_new ((w.alloc (.cells #[x, p] 26)).alloc (.cells #[.int .i64 k, .int .i64 n] 32)) (.cells #[.slice none 0 0, .slice none 0 0] 26)
    rw [World.size_alloc, World.size_alloc] at h
    exact h
theorem Do1.more {w : World} {x p : Value} {k n : Int} {W V : World} (h : Do1 w x p k n W) (hV : Below W.heap.size W V) : Do1 w x p k n V :=
  ⟨h.below.trans (hV.mono h.below.size), Nat.le_trans h.size hV.size, (hV.block _ (by have := h.size; omega)).trans h.desk, (hV.block _ (by have := h.size; omega)).trans h.deed, (hV.block _ (by have := h.size; omega)).trans h.res⟩
end Go.Proofs.Ytimnhedjapakhaa
