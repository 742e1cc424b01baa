/-
  The iterator over the rows of a triangle of like and unlike.
-/
import Derived.Test.YtlkcdcmmcjkedaaSide9
import Derived.Test.YtlkcdcmmcjkedaaMathZ
import Derived.Test.YtlkcdcmmcjkedaaRange2
import Derived.Test.YtlkcdcmmcjkedaaIter
namespace Go.Proofs.Ytlkcdcmmcjkedaa
open Go.RowKit Go.Shelf
attribute [local go_sem] Oper.semAt_some

theorem down_in (N c : Nat) (w : World) : Calls Try.prog 70 #[sdV N c] w fun e w' => e = .returned (.func (.func 79) #[] #[.pointer (some ⟨w.heap.size, 0, none⟩)]) ∧ w.alloc (.cells #[.int .u64 N, .int .i64 c] 58) = w' := by
  have hmf : ∀ (fn : Fn) (first cap : Array Value) (w : World), (Instr.makeFunc fn first cap).run Try.prog w = .ok (.func fn first cap) w := fun _ _ _ _ => rfl
  unfold sdV
  go_enter Try.func70, Try.ntmps70
  go_wp2
  go_ret
  exact ⟨rfl, rfl⟩

/-- What is known while the rows are handed out. -/
def DnHd (c : Nat) (_n0 : Nat) (pre : List Nat) (x : Nat) (_W : World) : Prop := pre = List.range x ∧ x < c
def DnS (c : Nat) (_n0 : Nat) (xs : List Nat) (_W : World) : Prop := xs = List.range c
/-- How many rows are left: the cells of the side that lies where the pointer shows. -/
def restSd (p : Value) (W : World) : Nat :=
  match p with
  | .pointer (some a) => (match W.cell? ⟨a.block, 1, none⟩ with
    | some (.int _ n) => n.toNat
    | _ => 0)
  | _ => 0
theorem restSd_of {W : World} {b N c : Nat} (h : SdAt W b N c) : restSd (.pointer (some ⟨b, 0, none⟩)) W = c := by
  have := h.cell1
  unfold restSd
  simp [this]
theorem grown_of_below {W W' : World} (h : Below W.heap.size W W') : W.grownBy W' none := ⟨h.os, h.tape, h.output, h.size, fun b hb _ => h.block b hb⟩

set_option maxRecDepth 100000 in
set_option maxHeartbeats 1000000 in
theorem down_stops (n B N c : Nat) (hN : N < 2 ^ c) (hc : c ≤ 12) (hn : 1 ≤ n) (w : World) (hB : SdAt w B N c) :
    SeqMem Fence.wide n Try.prog 79 #[.pointer (some ⟨B, 0, none⟩)] 0 (fun _ (j : Nat) => #[sdV (rowB c N j) (c - j)])
      (DnHd c) (fun n0 k => n0 ≤ k) (DnS c) (fun _ _ _ => True) w := by
  intro l J Jx W hW hJ hJx hY h0
  have hBW : SdAt W B N c := hB.of_block (hW.block B hB.lt)
  have hc0 := hBW.cell0
  have hc1 := hBW.cell1
  have hN12 : N < 4096 := Nat.lt_of_lt_of_le hN (Nat.le_trans (Nat.pow_le_pow_right (by omega) hc) (by decide))
  refine callsIn_of_wp Try.func79 rfl trivial ?_ rfl
  simp only [Try.ntmps79, List.size_toArray, List.length_cons, List.length_nil, Nat.reduceAdd, Nat.reduceSub, Array.replicate_succ, Array.replicate_zero, List.push_toArray, List.append_toArray, List.nil_append, List.cons_append]
  clear hB
  gi_wp2
  have hS0 : SdAt (W.alloc (.cells #[.int .u64 N, .int .i64 c] 58)) W.heap.size N c := SdAt.new W N c
  have hJ0 : J [] (W.alloc (.cells #[.int .u64 N, .int .i64 c] 58)) := hJ _ _ _ none h0 (World.grownBy_alloc W _ none) (fun _ h => by cases h)
  clear hc0 hc1 hBW h0
  gi_loopw [3] (fun p wr => ∃ j b : Nat, j ≤ c ∧ p = .pointer (some ⟨b, 0, none⟩) ∧ W.heap.size ≤ b ∧ SdAt wr b (rowB c N j) (c - j) ∧ J (List.range j) wr) (fun p wr => restSd p wr)
  case atStart => exact ⟨0, W.heap.size, by omega, rfl, Nat.le_refl _, hS0, hJ0⟩
  case round =>
    clear hS0 hJ0
    obtain ⟨j, b, hj, rfl, hb, hS, hJs⟩ := hrel
    have hm1 := restSd_of hS
    by_cases hlt : j < c
    · obtain ⟨d, hd⟩ : ∃ d, c - j = d + 1 := ⟨c - j - 1, by omega⟩
      have hdd : c - (j + 1) = d := by omega
      have hU := under_in (rowB c N j) d (rowB_small hN hc j) (by omega)
      have hrow : downN d (rowB c N j) = rowB c N (j + 1) := by show _ = downN (c - (j + 1)) _; rw [hdd]
      rw [hrow] at hU
      obtain ⟨fn, tmps, assign, body, hy, hR⟩ := hY _ j wr hJs ⟨rfl, hlt⟩
      clear hY
      rw [hd] at hS hy hm1
      have hc0 := hS.cell0
      have hc1 := hS.cell1
      unfold sdV at hy hU
      have hd' := hide hdd
      have hm1' := hide hm1
      clear hd hdd hrow hm1
      generalize hM : rowB c N j = M at *
      generalize hM2 : rowB c N (j + 1) = M2 at *
      have hdi : (0 : Int) < (d : Int) + 1 := by omega
      have hde : ((d + 1 : Nat) : Int) = (d : Int) + 1 := Int.natCast_succ d
      rw [hde] at hy hc1 hU
      clear hde
      have hM' := hide hM
      have hM2' := hide hM2
      clear hM hM2
      gi_wp2
      refine hR.mono ?_
      rintro e W3 (⟨rfl, hJ3, hk3⟩ | ⟨rfl, hJx3, hk3⟩)
      · have hS3 : SdAt W3 b M (d + 1) := hS.of_block (hk3.same b hS.lt hb)
        have hc30 := hS3.cell0
        have hc31 := hS3.cell1
        clear hc0 hc1
        gi_wp2_with fail
        have hS4 : SdAt (W3.alloc (.cells #[.int .u64 M, .int .i64 ((d : Int) + 1)] 58)) W3.heap.size M (d + 1) := SdAt.new W3 M (d + 1)
        refine ⟨trivial, ?_⟩
        gi_at_call 68
        refine (callsIn_wide.2 (hU _)).mono ?_
        clear hU
        rintro e w4 ⟨rfl, hB4⟩
        have hS5 : SdAt w4 W3.heap.size M (d + 1) := hS4.of_block (hB4.block _ hS4.lt)
        have h50 := hS5.cell0
        have h51 := hS5.cell1
        have h5f := hS5.frozen 0
        have h5g := hS5.frozen 1
        have hS6 := hS5.set M2 d
        have hB5 : Below W3.heap.size W3 ((w4.setCell ⟨W3.heap.size, 0, none⟩ (.int .u64 M2)).setCell ⟨W3.heap.size, 1, none⟩ (.int .i64 d)) :=
          ((((Below.refl _ W3).alloc (Nat.le_refl _) _).trans (hB4.mono (by simp))).setCell (p := ⟨W3.heap.size, 0, none⟩) (Nat.le_refl _) _).setCell (p := ⟨W3.heap.size, 1, none⟩) (Nat.le_refl _) _
        have hJ5 := hJ _ _ _ none hJ3 (grown_of_below hB5) (fun _ h => by cases h)
        have hb3 : W.heap.size ≤ W3.heap.size := Nat.le_trans hb (Nat.le_of_lt hS3.lt)
        clear hS4 hS5
        gi_wp2
        go_roundw
        case rel => exact ⟨j + 1, W3.heap.size, by omega, rfl, hb3, by rw [hM2'.out, hd'.out]; exact hS6, by rw [List.range_succ]; exact hJ5⟩
        case measure => show restSd (.pointer (some ⟨W3.heap.size, 0, none⟩)) _ < restSd (.pointer (some ⟨b, 0, none⟩)) _; rw [restSd_of hS6, hm1'.out]; omega
      · gi_wp2
        refine bodyPost_ret (results_none rfl _ _ _) rfl ?_
        exact ⟨⟨_, rfl⟩, .inr ⟨_, trivial, hJx3⟩⟩
    · obtain rfl : j = c := by omega
      rw [Nat.sub_self] at hS
      have hc1 := hS.cell1
      have hc0 := hS.cell0
      gi_wp2
      go_end0
      exact ⟨⟨_, rfl⟩, .inl ⟨_, rfl, hJs⟩⟩
end Go.Proofs.Ytlkcdcmmcjkedaa
