/-
  The iterators digitsIn and digitsBeside: they hand out the digits of one number, of two numbers side by side.
-/
import Derived.Test.YtjghhmgnbcabdaaPull
import Derived.Shelf.Abstract
import Derived.Shelf.RegionOpen
import Derived.TacticsInMore
import Derived.LoopNIn
import Derived.LoopIn
namespace Go.Proofs.Ytjghhmgnbcabdaa
open Go.RowKit Go.Shelf
attribute [local go_sem] Oper.semAt_some

/-- What has been handed out, and what lies in the block. -/
def DgHd (b N : Nat) (n0 : Nat) (pre : List Nat) (x : Nat) (W : World) : Prop := ∃ m, UAt W n0 m b ∧ pre ++ x :: digs b m = digs b N ∧ x < b
def DgS (b N : Nat) (_n0 : Nat) (xs : List Nat) (_W : World) : Prop := xs = digs b N

/-- The rest that block R holds, as a measure. -/
def restAt (w : World) (R : Nat) : Nat := match w.cell? ⟨R, 0, none⟩ with
  | some v => (intOf v).toNat
  | none => 0
theorem restAt_of {w : World} {R n b : Nat} (h : UAt w R n b) : restAt w R = n := by unfold restAt; rw [h.cell0]; simp [intOf]

set_option maxRecDepth 100000 in
set_option maxHeartbeats 1000000 in
theorem digits_stops (n B1 B2 N b : Nat) (hN : N ≤ 2000000000) (hb : 2 ≤ b) (hb2 : b ≤ 16) (hn : 1 ≤ n) (w : World) (hB1 : B1 < w.heap.size) (hB2 : B2 < w.heap.size)
    (hc1 : w.cell? ⟨B1, 0, none⟩ = some (.int .i64 N)) (hc2 : w.cell? ⟨B2, 0, none⟩ = some (.int .i64 b)) :
    SeqMem Fence.wide n Try.prog 111 #[.pointer (some ⟨B1, 0, none⟩), .pointer (some ⟨B2, 0, none⟩)] 1 (fun _ (x : Nat) => #[.int .i64 x])
      (DgHd b N) (fun n0 k => k = n0) (DgS b N) (fun _ _ _ => True) w := by
  intro l J Jx W hW hJ hJx hY h0
  have hc1' := (hW.cell (p := ⟨B1, 0, none⟩) hB1).trans hc1
  have hc2' := (hW.cell (p := ⟨B2, 0, none⟩) hB2).trans hc2
  have hBW1 : B1 < W.heap.size := Nat.lt_of_lt_of_le hB1 hW.size
  have hBW2 : B2 < W.heap.size := Nat.lt_of_lt_of_le hB2 hW.size
  refine callsIn_of_wp Try.func111 rfl trivial ?_ rfl
  simp only [Try.ntmps111, List.size_toArray, List.length_cons, List.length_nil, Nat.reduceAdd, Nat.reduceSub, Array.replicate_succ, Array.replicate_zero, List.push_toArray, List.append_toArray, List.nil_append, List.cons_append]
  gi_wp2
  have hstart : UAt (W.alloc (Obj.cells #[Value.int IntKind.i64 N, Value.int IntKind.i64 b] 87)) W.heap.size N b := World.alloc_heap_new W _
  have hJ0 : J [] (W.alloc (Obj.cells #[Value.int IntKind.i64 N, Value.int IntKind.i64 b] 87)) := hJ _ _ _ none h0 (World.grownBy_alloc W _ none) (fun _ h => by cases h)
  clear hc1 hc2 hc1' hc2' hB1 hB2
  gi_loopw [] (fun wr => ∃ m pre, m ≤ N ∧ J pre wr ∧ UAt wr W.heap.size m b ∧ pre ++ digs b m = digs b N) (fun wr => restAt wr W.heap.size)
  case atStart => exact ⟨N, [], Nat.le_refl _, hJ0, hstart, rfl⟩
  case round =>
    obtain ⟨m, pre, hm, hJs, hU, hp⟩ := hrel
    have hM := more_in W.heap.size m b wr hU
    by_cases hlt : 0 < m
    · rw [show decide (0 < m) = true by simpa using hlt] at hM
      have hP := pull_in W.heap.size m b wr hb hb2 (by omega) hU
      rw [digs_pos hb hlt] at hp
      have hr := Nat.mod_lt m (show 0 < b by omega)
      have hle := Nat.div_le_self m b
      have hdl := Nat.div_lt_self hlt hb
      have hre := restAt_of hU
      generalize m % b = r at *
      generalize m / b = q at *
      have hpre : (pre ++ [r]) ++ digs b q = digs b N := by simpa using hp
      gi_wp2_with (first
        | (refine ⟨trivial, ?_⟩; gi_at_call 56; refine (callsIn_wide.2 hM).mono ?_; clear hM; rintro e w2 ⟨rfl, rfl⟩)
        | (refine ⟨trivial, ?_⟩; gi_at_call 57; go_loud (refine (callsIn_wide.2 hP).mono ?_; clear hP; rintro e w2 ⟨rfl, hU2, hg2⟩; have hJ2 := hJ _ _ _ (some W.heap.size) hJs hg2 (fun r e => by cases e; omega); obtain ⟨fn, tmps, assign, body, hy, hR⟩ := hY _ r w2 hJ2 ⟨q, hU2, hp, hr⟩; clear hY)))
      refine hR.mono ?_
      rintro e W3 (⟨rfl, hJ3, hk3⟩ | ⟨rfl, hJx3, hk3⟩)
      · have hU3 := hU2.of_block (hk3.same _ hU2.lt rfl)
        gi_wp2
        go_roundw
        case rel => exact ⟨q, pre ++ [r], by omega, hJ3, hU3, hpre⟩
        case measure => rw [restAt_of hU3, hre]; omega
      · gi_wp2
        refine bodyPost_ret (results_none rfl _ _ _) rfl ?_
        exact ⟨⟨_, rfl⟩, .inr ⟨_, trivial, hJx3⟩⟩
    · obtain rfl : m = 0 := by omega
      rw [show decide (0 < 0) = false by rfl] at hM
      rw [digs_zero, List.append_nil] at hp
      gi_wp2_with (refine ⟨trivial, ?_⟩; gi_at_call 56; refine (callsIn_wide.2 hM).mono ?_; clear hM; rintro e w2 ⟨rfl, rfl⟩)
      go_end0
      exact ⟨⟨_, rfl⟩, .inl ⟨_, hp, hJs⟩⟩
end Go.Proofs.Ytjghhmgnbcabdaa
