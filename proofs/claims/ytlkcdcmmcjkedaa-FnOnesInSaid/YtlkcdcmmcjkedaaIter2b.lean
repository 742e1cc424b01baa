/-
  The iterator digitsBeside: it hands out the digits of two numbers side by side.
-/
import Derived.Test.YtlkcdcmmcjkedaaIter2
namespace Go.Proofs.Ytlkcdcmmcjkedaa
open Go.RowKit Go.Shelf
attribute [local go_sem] Oper.semAt_some

/-- The two blocks, in one of both orders. -/
def Two (n0 R1 R2 : Nat) : Prop := (R1 = n0 ∧ R2 = n0 + 1) ∨ (R1 = n0 + 1 ∧ R2 = n0)
/-- What has been handed out, and what lies in the blocks. -/
def BsHd (b X Y : Nat) (n0 : Nat) (pre : List (Nat × Nat)) (p : Nat × Nat) (W : World) : Prop :=
  ∃ R1 R2 x y, Two n0 R1 R2 ∧ UAt W R1 x b ∧ UAt W R2 y b ∧ pre ++ p :: pairs b x y = pairs b X Y ∧ p.1 < b ∧ p.2 < b
def BsS (b X Y : Nat) (_n0 : Nat) (xs : List (Nat × Nat)) (_W : World) : Prop := xs = pairs b X Y

set_option maxRecDepth 100000 in
set_option maxHeartbeats 1000000 in
theorem beside_stops (n B1 B2 B3 X Y b : Nat) (hX : X ≤ 2000000000) (hY' : Y ≤ 2000000000) (hb : 2 ≤ b) (hb2 : b ≤ 16) (hn : 1 ≤ n) (w : World) (hB1 : B1 < w.heap.size) (hB2 : B2 < w.heap.size) (hB3 : B3 < w.heap.size)
    (hc1 : w.cell? ⟨B1, 0, none⟩ = some (.int .i64 X)) (hc2 : w.cell? ⟨B2, 0, none⟩ = some (.int .i64 b)) (hc3 : w.cell? ⟨B3, 0, none⟩ = some (.int .i64 Y)) :
    SeqMem Fence.wide n Try.prog 87 #[.pointer (some ⟨B1, 0, none⟩), .pointer (some ⟨B2, 0, none⟩), .pointer (some ⟨B3, 0, none⟩)] 2 (fun _ (p : Nat × Nat) => #[.int .i64 p.1, .int .i64 p.2])
      (BsHd b X Y) (fun n0 k => k = n0 ∨ k = n0 + 1) (BsS b X Y) (fun _ _ _ => True) w := by
  intro l J Jx W hW hJ hJx hY h0
  have hc1' := (hW.cell (p := ⟨B1, 0, none⟩) hB1).trans hc1
  have hc2' := (hW.cell (p := ⟨B2, 0, none⟩) hB2).trans hc2
  have hc3' := (hW.cell (p := ⟨B3, 0, none⟩) hB3).trans hc3
  have hBW1 : B1 < W.heap.size := Nat.lt_of_lt_of_le hB1 hW.size
  have hBW2 : B2 < W.heap.size := Nat.lt_of_lt_of_le hB2 hW.size
  have hBW3 : B3 < W.heap.size := Nat.lt_of_lt_of_le hB3 hW.size
  refine callsIn_of_wp Try.func87 rfl trivial ?_ rfl
  simp only [Try.ntmps87, List.size_toArray, List.length_cons, List.length_nil, Nat.reduceAdd, Nat.reduceSub, Array.replicate_succ, Array.replicate_zero, List.push_toArray, List.append_toArray, List.nil_append, List.cons_append]
  have hJd : ∀ xs (w : World), J xs w → J xs w.drew := fun xs w h => hJ _ _ _ none h ⟨rfl, rfl, rfl, Nat.le_refl _, fun _ _ _ => rfl⟩ (fun _ h => by cases h)
  gi_wp2
  gi_region
  · have hU1 : UAt ((W.alloc (Obj.cells #[Value.int IntKind.i64 X, Value.int IntKind.i64 b] 82)).alloc (Obj.cells #[Value.int IntKind.i64 Y, Value.int IntKind.i64 b] 82)).drew (W.heap.size) X b := (show ((W.alloc (Obj.cells #[Value.int IntKind.i64 X, Value.int IntKind.i64 b] 82)).alloc (Obj.cells #[Value.int IntKind.i64 Y, Value.int IntKind.i64 b] 82)).heap[W.heap.size]? = some _ from (Below.heap_alloc _ _ _ (by simp)).trans (World.alloc_heap_new W _))
    have hU2 : UAt ((W.alloc (Obj.cells #[Value.int IntKind.i64 X, Value.int IntKind.i64 b] 82)).alloc (Obj.cells #[Value.int IntKind.i64 Y, Value.int IntKind.i64 b] 82)).drew (W.heap.size + 1) Y b := (show ((W.alloc (Obj.cells #[Value.int IntKind.i64 X, Value.int IntKind.i64 b] 82)).alloc (Obj.cells #[Value.int IntKind.i64 Y, Value.int IntKind.i64 b] 82)).heap[W.heap.size + 1]? = some _ from by have := World.alloc_heap_new (W.alloc (Obj.cells #[Value.int IntKind.i64 X, Value.int IntKind.i64 b] 82)) (Obj.cells #[Value.int IntKind.i64 Y, Value.int IntKind.i64 b] 82); rwa [World.size_alloc] at this)
    have hJ0 : J [] ((W.alloc (Obj.cells #[Value.int IntKind.i64 X, Value.int IntKind.i64 b] 82)).alloc (Obj.cells #[Value.int IntKind.i64 Y, Value.int IntKind.i64 b] 82)).drew := hJd _ _ (hJ _ _ _ none (hJ _ _ _ none h0 (World.grownBy_alloc W (Obj.cells #[Value.int IntKind.i64 X, Value.int IntKind.i64 b] 82) none) (fun _ h => by cases h)) (World.grownBy_alloc _ (Obj.cells #[Value.int IntKind.i64 Y, Value.int IntKind.i64 b] 82) none) (fun _ h => by cases h))
    gi_wp2
    gi_loopw [] (fun wr => ∃ x y pre, x ≤ X ∧ y ≤ Y ∧ J pre wr ∧ UAt wr (W.heap.size) x b ∧ UAt wr (W.heap.size + 1) y b ∧ pre ++ pairs b x y = pairs b X Y) (fun wr => restAt wr (W.heap.size) + restAt wr (W.heap.size + 1))
    case atStart => exact ⟨X, Y, [], Nat.le_refl _, Nat.le_refl _, hJ0, hU1, hU2, rfl⟩
    case round =>
      clear hU1 hU2 hJ0
      obtain ⟨x, y, pre, hx, hy, hJs, hU1, hU2, hp⟩ := hrel
      have hM1 := more_in _ x b wr hU1
      have hM2 := more_in _ y b wr hU2
      have hre1 := restAt_of hU1
      have hre2 := restAt_of hU2
      by_cases hlt : 0 < x + y
      · have hP1 := pull_in _ x b wr hb hb2 (by omega) hU1
        rw [pairs_pos hb hlt] at hp
        have hr1 := Nat.mod_lt x (show 0 < b by omega)
        have hr2 := Nat.mod_lt y (show 0 < b by omega)
        have hl1 := Nat.div_le_self x b
        have hl2 := Nat.div_le_self y b
        have hdl : x / b + y / b < x + y := by
          rcases Nat.eq_zero_or_pos x with h | h
          · have := Nat.div_lt_self (n := y) (k := b) (by omega) hb; omega
          · have := Nat.div_lt_self (n := x) (k := b) h hb; omega
        have hP2 : ∀ w' : World, wr.grownBy w' (some (W.heap.size)) → Calls Try.prog 89 #[.pointer (some ⟨W.heap.size + 1, 0, none⟩)] w' fun e w'' => e = .returned (.int .i64 ((y % b : Nat) : Int)) ∧ UAt w'' (W.heap.size + 1) (y / b) b ∧ w'.grownBy w'' (some (W.heap.size + 1)) :=
          fun w' hg => pull_in _ y b w' hb hb2 (by omega) (hU2.kept hg (by simp))
        generalize x % b = r1 at *
        generalize x / b = q1 at *
        generalize y % b = r2 at *
        generalize y / b = q2 at *
        have hpre : (pre ++ [(r1, r2)]) ++ pairs b q1 q2 = pairs b X Y := by simpa using hp
        by_cases hx0 : 0 < x
        · rw [show decide (0 < x) = true by simpa using hx0] at hM1
          gi_wp2_with (first
            | (refine ⟨trivial, ?_⟩; gi_at_call 88; refine (callsIn_wide.2 hM1).mono ?_; clear hM1; rintro e w2 ⟨rfl, rfl⟩)
            | (refine ⟨trivial, ?_⟩; gi_at_call 89; (with_reducible refine (callsIn_wide.2 hP1).mono ?_); clear hP1; rintro e w2 ⟨rfl, hU1', hg1⟩)
            | (refine ⟨trivial, ?_⟩; gi_at_call 89; go_loud (refine (callsIn_wide.2 (hP2 _ hg1)).mono ?_; clear hP2; rintro e w3 ⟨rfl, hU2', hg2⟩; have hU1'' := hU1'.kept hg2 (by simp); have hJ2 := hJ _ _ _ (some (W.heap.size + 1)) (hJ _ _ _ (some (W.heap.size)) hJs hg1 (fun r e => by cases e; omega)) hg2 (fun r e => by cases e; omega); obtain ⟨fn, tmps, assign, body, hy2, hR⟩ := hY _ (r1, r2) w3 hJ2 ⟨_, _, q1, q2, .inl ⟨rfl, rfl⟩, hU1'', hU2', hp, hr1, hr2⟩; clear hY))
            | ((with_reducible apply And.intro); exact trivial))
          refine hR.mono ?_
          rintro e W3 (⟨rfl, hJ3, hk3⟩ | ⟨rfl, hJx3, hk3⟩)
          · have hV1 := hU1''.of_block (hk3.same _ hU1''.lt (by simp))
            have hV2 := hU2'.of_block (hk3.same _ hU2'.lt (by simp))
            gi_wp2
            go_roundw
            case rel => exact ⟨q1, q2, pre ++ [(r1, r2)], by omega, by omega, hJ3, hV1, hV2, hpre⟩
            case measure => rw [restAt_of hV1, restAt_of hV2, hre1, hre2]; omega
          · gi_wp2
            refine bodyPost_ret (results_none rfl _ _ _) rfl ?_
            exact ⟨⟨_, rfl⟩, .inr ⟨_, trivial, hJx3⟩⟩
        · have hy0 : 0 < y := by omega
          rw [show decide (0 < x) = false by simpa using hx0] at hM1
          rw [show decide (0 < y) = true by simpa using hy0] at hM2
          gi_wp2_with (first
            | (refine ⟨trivial, ?_⟩; gi_at_call 88; (with_reducible refine (callsIn_wide.2 hM1).mono ?_); clear hM1; rintro e w2 ⟨rfl, rfl⟩)
            | (refine ⟨trivial, ?_⟩; gi_at_call 88; (with_reducible refine (callsIn_wide.2 hM2).mono ?_); clear hM2; rintro e w2 ⟨rfl, rfl⟩)
            | (refine ⟨trivial, ?_⟩; gi_at_call 89; (with_reducible refine (callsIn_wide.2 hP1).mono ?_); clear hP1; rintro e w2 ⟨rfl, hU1', hg1⟩)
            | (refine ⟨trivial, ?_⟩; gi_at_call 89; go_loud (refine (callsIn_wide.2 (hP2 _ hg1)).mono ?_; clear hP2; rintro e w3 ⟨rfl, hU2', hg2⟩; have hU1'' := hU1'.kept hg2 (by simp); have hJ2 := hJ _ _ _ (some (W.heap.size + 1)) (hJ _ _ _ (some (W.heap.size)) hJs hg1 (fun r e => by cases e; omega)) hg2 (fun r e => by cases e; omega); obtain ⟨fn, tmps, assign, body, hy2, hR⟩ := hY _ (r1, r2) w3 hJ2 ⟨_, _, q1, q2, .inl ⟨rfl, rfl⟩, hU1'', hU2', hp, hr1, hr2⟩; clear hY)))
          refine hR.mono ?_
          rintro e W3 (⟨rfl, hJ3, hk3⟩ | ⟨rfl, hJx3, hk3⟩)
          · have hV1 := hU1''.of_block (hk3.same _ hU1''.lt (by simp))
            have hV2 := hU2'.of_block (hk3.same _ hU2'.lt (by simp))
            gi_wp2
            go_roundw
            case rel => exact ⟨q1, q2, pre ++ [(r1, r2)], by omega, by omega, hJ3, hV1, hV2, hpre⟩
            case measure => rw [restAt_of hV1, restAt_of hV2, hre1, hre2]; omega
          · gi_wp2
            refine bodyPost_ret (results_none rfl _ _ _) rfl ?_
            exact ⟨⟨_, rfl⟩, .inr ⟨_, trivial, hJx3⟩⟩
      · obtain ⟨rfl, rfl⟩ : x = 0 ∧ y = 0 := by omega
        rw [show decide (0 < 0) = false by rfl] at hM1 hM2
        rw [pairs_zero, List.append_nil] at hp
        gi_wp2_with (first
          | (refine ⟨trivial, ?_⟩; gi_at_call 88; (with_reducible refine (callsIn_wide.2 hM1).mono ?_); clear hM1; rintro e w2 ⟨rfl, rfl⟩)
          | (refine ⟨trivial, ?_⟩; gi_at_call 88; (with_reducible refine (callsIn_wide.2 hM2).mono ?_); clear hM2; rintro e w2 ⟨rfl, rfl⟩))
        go_end0
        exact ⟨⟨_, rfl⟩, .inl ⟨_, hp, hJs⟩⟩
  · have hU1 : UAt ((W.alloc (Obj.cells #[Value.int IntKind.i64 Y, Value.int IntKind.i64 b] 82)).alloc (Obj.cells #[Value.int IntKind.i64 X, Value.int IntKind.i64 b] 82)).drew (W.heap.size + 1) X b := (show ((W.alloc (Obj.cells #[Value.int IntKind.i64 Y, Value.int IntKind.i64 b] 82)).alloc (Obj.cells #[Value.int IntKind.i64 X, Value.int IntKind.i64 b] 82)).heap[W.heap.size + 1]? = some _ from by have := World.alloc_heap_new (W.alloc (Obj.cells #[Value.int IntKind.i64 Y, Value.int IntKind.i64 b] 82)) (Obj.cells #[Value.int IntKind.i64 X, Value.int IntKind.i64 b] 82); rwa [World.size_alloc] at this)
    have hU2 : UAt ((W.alloc (Obj.cells #[Value.int IntKind.i64 Y, Value.int IntKind.i64 b] 82)).alloc (Obj.cells #[Value.int IntKind.i64 X, Value.int IntKind.i64 b] 82)).drew (W.heap.size) Y b := (show ((W.alloc (Obj.cells #[Value.int IntKind.i64 Y, Value.int IntKind.i64 b] 82)).alloc (Obj.cells #[Value.int IntKind.i64 X, Value.int IntKind.i64 b] 82)).heap[W.heap.size]? = some _ from (Below.heap_alloc _ _ _ (by simp)).trans (World.alloc_heap_new W _))
    have hJ0 : J [] ((W.alloc (Obj.cells #[Value.int IntKind.i64 Y, Value.int IntKind.i64 b] 82)).alloc (Obj.cells #[Value.int IntKind.i64 X, Value.int IntKind.i64 b] 82)).drew := hJd _ _ (hJ _ _ _ none (hJ _ _ _ none h0 (World.grownBy_alloc W (Obj.cells #[Value.int IntKind.i64 Y, Value.int IntKind.i64 b] 82) none) (fun _ h => by cases h)) (World.grownBy_alloc _ (Obj.cells #[Value.int IntKind.i64 X, Value.int IntKind.i64 b] 82) none) (fun _ h => by cases h))
    gi_wp2
    gi_loopw [] (fun wr => ∃ x y pre, x ≤ X ∧ y ≤ Y ∧ J pre wr ∧ UAt wr (W.heap.size + 1) x b ∧ UAt wr (W.heap.size) y b ∧ pre ++ pairs b x y = pairs b X Y) (fun wr => restAt wr (W.heap.size + 1) + restAt wr (W.heap.size))
    case atStart => exact ⟨X, Y, [], Nat.le_refl _, Nat.le_refl _, hJ0, hU1, hU2, rfl⟩
    case round =>
      clear hU1 hU2 hJ0
      obtain ⟨x, y, pre, hx, hy, hJs, hU1, hU2, hp⟩ := hrel
      have hM1 := more_in _ x b wr hU1
      have hM2 := more_in _ y b wr hU2
      have hre1 := restAt_of hU1
      have hre2 := restAt_of hU2
      by_cases hlt : 0 < x + y
      · have hP1 := pull_in _ x b wr hb hb2 (by omega) hU1
        rw [pairs_pos hb hlt] at hp
        have hr1 := Nat.mod_lt x (show 0 < b by omega)
        have hr2 := Nat.mod_lt y (show 0 < b by omega)
        have hl1 := Nat.div_le_self x b
        have hl2 := Nat.div_le_self y b
        have hdl : x / b + y / b < x + y := by
          rcases Nat.eq_zero_or_pos x with h | h
          · have := Nat.div_lt_self (n := y) (k := b) (by omega) hb; omega
          · have := Nat.div_lt_self (n := x) (k := b) h hb; omega
        have hP2 : ∀ w' : World, wr.grownBy w' (some (W.heap.size + 1)) → Calls Try.prog 89 #[.pointer (some ⟨W.heap.size, 0, none⟩)] w' fun e w'' => e = .returned (.int .i64 ((y % b : Nat) : Int)) ∧ UAt w'' (W.heap.size) (y / b) b ∧ w'.grownBy w'' (some (W.heap.size)) :=
          fun w' hg => pull_in _ y b w' hb hb2 (by omega) (hU2.kept hg (by simp))
        generalize x % b = r1 at *
        generalize x / b = q1 at *
        generalize y % b = r2 at *
        generalize y / b = q2 at *
        have hpre : (pre ++ [(r1, r2)]) ++ pairs b q1 q2 = pairs b X Y := by simpa using hp
        by_cases hx0 : 0 < x
        · rw [show decide (0 < x) = true by simpa using hx0] at hM1
          gi_wp2_with (first
            | (refine ⟨trivial, ?_⟩; gi_at_call 88; refine (callsIn_wide.2 hM1).mono ?_; clear hM1; rintro e w2 ⟨rfl, rfl⟩)
            | (refine ⟨trivial, ?_⟩; gi_at_call 89; (with_reducible refine (callsIn_wide.2 hP1).mono ?_); clear hP1; rintro e w2 ⟨rfl, hU1', hg1⟩)
            | (refine ⟨trivial, ?_⟩; gi_at_call 89; go_loud (refine (callsIn_wide.2 (hP2 _ hg1)).mono ?_; clear hP2; rintro e w3 ⟨rfl, hU2', hg2⟩; have hU1'' := hU1'.kept hg2 (by simp); have hJ2 := hJ _ _ _ (some (W.heap.size)) (hJ _ _ _ (some (W.heap.size + 1)) hJs hg1 (fun r e => by cases e; omega)) hg2 (fun r e => by cases e; omega); obtain ⟨fn, tmps, assign, body, hy2, hR⟩ := hY _ (r1, r2) w3 hJ2 ⟨_, _, q1, q2, .inr ⟨rfl, rfl⟩, hU1'', hU2', hp, hr1, hr2⟩; clear hY))
            | ((with_reducible apply And.intro); exact trivial))
          refine hR.mono ?_
          rintro e W3 (⟨rfl, hJ3, hk3⟩ | ⟨rfl, hJx3, hk3⟩)
          · have hV1 := hU1''.of_block (hk3.same _ hU1''.lt (by simp))
            have hV2 := hU2'.of_block (hk3.same _ hU2'.lt (by simp))
            gi_wp2
            go_roundw
            case rel => exact ⟨q1, q2, pre ++ [(r1, r2)], by omega, by omega, hJ3, hV1, hV2, hpre⟩
            case measure => rw [restAt_of hV1, restAt_of hV2, hre1, hre2]; omega
          · gi_wp2
            refine bodyPost_ret (results_none rfl _ _ _) rfl ?_
            exact ⟨⟨_, rfl⟩, .inr ⟨_, trivial, hJx3⟩⟩
        · have hy0 : 0 < y := by omega
          rw [show decide (0 < x) = false by simpa using hx0] at hM1
          rw [show decide (0 < y) = true by simpa using hy0] at hM2
          gi_wp2_with (first
            | (refine ⟨trivial, ?_⟩; gi_at_call 88; (with_reducible refine (callsIn_wide.2 hM1).mono ?_); clear hM1; rintro e w2 ⟨rfl, rfl⟩)
            | (refine ⟨trivial, ?_⟩; gi_at_call 88; (with_reducible refine (callsIn_wide.2 hM2).mono ?_); clear hM2; rintro e w2 ⟨rfl, rfl⟩)
            | (refine ⟨trivial, ?_⟩; gi_at_call 89; (with_reducible refine (callsIn_wide.2 hP1).mono ?_); clear hP1; rintro e w2 ⟨rfl, hU1', hg1⟩)
            | (refine ⟨trivial, ?_⟩; gi_at_call 89; go_loud (refine (callsIn_wide.2 (hP2 _ hg1)).mono ?_; clear hP2; rintro e w3 ⟨rfl, hU2', hg2⟩; have hU1'' := hU1'.kept hg2 (by simp); have hJ2 := hJ _ _ _ (some (W.heap.size)) (hJ _ _ _ (some (W.heap.size + 1)) hJs hg1 (fun r e => by cases e; omega)) hg2 (fun r e => by cases e; omega); obtain ⟨fn, tmps, assign, body, hy2, hR⟩ := hY _ (r1, r2) w3 hJ2 ⟨_, _, q1, q2, .inr ⟨rfl, rfl⟩, hU1'', hU2', hp, hr1, hr2⟩; clear hY)))
          refine hR.mono ?_
          rintro e W3 (⟨rfl, hJ3, hk3⟩ | ⟨rfl, hJx3, hk3⟩)
          · have hV1 := hU1''.of_block (hk3.same _ hU1''.lt (by simp))
            have hV2 := hU2'.of_block (hk3.same _ hU2'.lt (by simp))
            gi_wp2
            go_roundw
            case rel => exact ⟨q1, q2, pre ++ [(r1, r2)], by omega, by omega, hJ3, hV1, hV2, hpre⟩
            case measure => rw [restAt_of hV1, restAt_of hV2, hre1, hre2]; omega
          · gi_wp2
            refine bodyPost_ret (results_none rfl _ _ _) rfl ?_
            exact ⟨⟨_, rfl⟩, .inr ⟨_, trivial, hJx3⟩⟩
      · obtain ⟨rfl, rfl⟩ : x = 0 ∧ y = 0 := by omega
        rw [show decide (0 < 0) = false by rfl] at hM1 hM2
        rw [pairs_zero, List.append_nil] at hp
        gi_wp2_with (first
          | (refine ⟨trivial, ?_⟩; gi_at_call 88; (with_reducible refine (callsIn_wide.2 hM1).mono ?_); clear hM1; rintro e w2 ⟨rfl, rfl⟩)
          | (refine ⟨trivial, ?_⟩; gi_at_call 88; (with_reducible refine (callsIn_wide.2 hM2).mono ?_); clear hM2; rintro e w2 ⟨rfl, rfl⟩))
        go_end0
        exact ⟨⟨_, rfl⟩, .inl ⟨_, hp, hJs⟩⟩
end Go.Proofs.Ytlkcdcmmcjkedaa
