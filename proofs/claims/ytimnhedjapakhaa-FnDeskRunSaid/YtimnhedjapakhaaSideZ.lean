/-
  What is left of a number when its lower digits have been pulled: more and pull; baseOk.
-/
import Derived.Test.YtimnhedjapakhaaBaseZ
import Derived.Test.YtimnhedjapakhaaMathZ
import Derived.Deep.QuietTactic
import Derived.BigQuiet
import Derived.Shelf.Abstract
import Derived.Shelf.RegionOpen
import Derived.TacticsInMore
import Derived.LoopNIn
import Derived.LoopIn
import Derived.Test.YtimnhedjapakhaaSpec9c
import Derived.Test.YtimnhedjapakhaaLawKit4
import Derived.RangeFuncBox
import Derived.Laws.Bits64
import Derived.Laws.Bits64b
import Derived.StillTailTactics
import Derived.Test.YtimnhedjapakhaaSpec10
import Derived.Laws.CopyOwn
import Derived.DeepKeys5
import Derived.Maps.OwnSet
namespace Go.Proofs.Ytimnhedjapakhaa
open Go.RowKit

theorem tmod_nat (n b : Nat) : Int.tmod (n : Int) (b : Int) = ((n % b : Nat) : Int) := by rw [Int.tmod_eq_emod_of_nonneg (by omega)]; rfl
theorem tdiv_nat (n b : Nat) : Int.tdiv (n : Int) (b : Int) = ((n / b : Nat) : Int) := by rw [Int.tdiv_eq_ediv_of_nonneg (by omega)]; rfl

end Go.Proofs.Ytimnhedjapakhaa
/-
  The iterators digitsIn and digitsBeside: they hand out the digits of one number, of two numbers side by side.
-/
namespace Go.Proofs.Ytimnhedjapakhaa
open Go.RowKit Go.Shelf
attribute [local go_sem] Oper.semAt_some

def DgS (b N : Nat) (_n0 : Nat) (xs : List Nat) (_W : World) : Prop := xs = digs b N

/-- The rest that block R holds, as a measure. -/
def restAt (w : World) (R : Nat) : Nat := match w.cell? ⟨R, 0, none⟩ with
  | some v => (intOf v).toNat
  | none => 0
end Go.Proofs.Ytimnhedjapakhaa
/-
  The iterator digitsBeside: it hands out the digits of two numbers side by side.
-/
namespace Go.Proofs.Ytimnhedjapakhaa
open Go.RowKit Go.Shelf
attribute [local go_sem] Oper.semAt_some

/-- The two blocks, in one of both orders. -/
def Two (n0 R1 R2 : Nat) : Prop := (R1 = n0 ∧ R2 = n0 + 1) ∨ (R1 = n0 + 1 ∧ R2 = n0)
def BsS (b X Y : Nat) (_n0 : Nat) (xs : List (Nat × Nat)) (_W : World) : Prop := xs = pairs b X Y

end Go.Proofs.Ytimnhedjapakhaa
/-
  The program's SumOfDigits and CountUnder: for every argument what they hand back.
-/
namespace Go.Proofs.Ytimnhedjapakhaa
open Go.RowKit Go.Shelf
attribute [local go_sem] Oper.semAt_some

end Go.Proofs.Ytimnhedjapakhaa
/-
  The program's CarriesOf and UnderOk: for every argument what they hand back.
-/
namespace Go.Proofs.Ytimnhedjapakhaa
open Go.RowKit Go.Shelf
attribute [local go_sem] Oper.semAt_some

theorem boxed_at {W : World} {k : Nat} (t : TypeId) (v : Value) (h : W.heap.size = k) : Boxed (W.alloc (.cells #[v] t)) k t v := h ▸ Boxed.new W t v

theorem results_cell_one {fn : Func} {p : Tmp} {ty : TypeId} (h : fn.results = #[.cell p ty]) (tmps : Array Value) (P : Program) (w : World) :
    (results fn tmps).run P w = ((asAddr (tmps.getD p undef)).run P w).andThen fun a w₁ => (loadVar ty a).run P w₁ := by
  simp only [results, h]
  simp [Sem.run_bind, Result.andThen]

theorem results_cell_bool {fn : Func} {p : Tmp} (h : fn.results = #[.cell p 4]) (tmps : Array Value) (w : World) (B : Nat) (v : Bool) (hp : tmps.getD p undef = .pointer (some ⟨B, 0, none⟩)) (hb : Boxed w B 4 (.bool v)) :
    (results fn tmps).run Try.prog w = .ok (.bool v) w := by
  have hc := hb.cell
  rw [results_cell_one h, hp]
  go_simp

end Go.Proofs.Ytimnhedjapakhaa
/-
  The program's CarriesOf and UnderOk at every argument.
-/
namespace Go.Proofs.Ytimnhedjapakhaa
open Go.RowKit Go.Shelf

end Go.Proofs.Ytimnhedjapakhaa
/-
  The program's sides of chapter 9: rows as the bits of a number.
-/
namespace Go.Proofs.Ytimnhedjapakhaa
open Go.RowKit

/-! bits.OnesCount, step by step, of a number of up to twelve bits. -/
def oc1 (x : Nat) : Nat := (x / 2 &&& 6148914691236517205) + (x &&& 6148914691236517205)
def oc2 (x : Nat) : Nat := (x / 4 &&& 3689348814741910323) + (x &&& 3689348814741910323)
def oc3 (x : Nat) : Nat := (x / 16 + x) &&& 1085102592571150095
def oc4 (x : Nat) : Nat := x + x / 256
def oc5 (x : Nat) : Nat := x + x / 65536
def oc6 (x : Nat) : Nat := x + x / 4294967296
def oc7 (x : Nat) : Nat := x &&& 127
set_option maxRecDepth 100000 in
theorem oc_all : allB (fun n => Nat.beq (oc7 (oc6 (oc5 (oc4 (oc3 (oc2 (oc1 n))))))) (pop n 12)) 4096 = true := by decide +kernel
theorem oc_at {N : Nat} (h : N < 4096) : oc7 (oc6 (oc5 (oc4 (oc3 (oc2 (oc1 N)))))) = pop N 12 := Nat.eq_of_beq_eq_true (allB_of oc_all N h)
theorem oc_pair (x d m : Nat) (hx : x < 1000000) (hm : m < 18446744073709551616) :
    IntKind.u64.wrap (bits .and .u64 ((x : Int) / (d : Int)) (m : Int) + bits .and .u64 (x : Int) (m : Int)) = (((x / d &&& m) + (x &&& m) : Nat) : Int) := by
  have h1 : x / d ≤ x := Nat.div_le_self _ _
  have h2 : x / d &&& m ≤ x / d := Nat.and_le_left
  have h3 : x &&& m ≤ x := Nat.and_le_left
  rw [show (x : Int) / (d : Int) = ((x / d : Nat) : Int) from (Int.natCast_ediv x d).symm, bits_and_u64_nat _ _ (by omega) hm, bits_and_u64_nat _ _ (by omega) hm, ← Int.natCast_add]
  exact IntWalk.u64_in _ (by omega)
theorem oc_sum (x d : Nat) (hx : x < 1000000) : IntKind.u64.wrap ((x : Int) + (x : Int) / (d : Int)) = ((x + x / d : Nat) : Int) := by
  have h1 : x / d ≤ x := Nat.div_le_self _ _
  rw [show (x : Int) / (d : Int) = ((x / d : Nat) : Int) from (Int.natCast_ediv x d).symm, ← Int.natCast_add]
  generalize x / d = y at *
  exact IntWalk.u64_in _ (by omega)
theorem ones64_in (N : Nat) (h : N < 4096) (w : World) : Calls Try.prog 94 #[.int .u64 N] w fun e w' => e = .returned (.int .i64 (pop N 12)) ∧ w = w' := by
  go_enter Try.func94, Try.ntmps94
  go_wp2
  go_ret
  have b1 : oc1 N < 10000 := by
    have h2 : N / 2 &&& 6148914691236517205 ≤ N / 2 := Nat.and_le_left
    have h3 : N &&& 6148914691236517205 ≤ N := Nat.and_le_left
    unfold oc1; omega
  have e1 := oc_pair N 2 6148914691236517205 (by omega) (by decide)
  have b2 : oc2 (oc1 N) < 20000 := by
    have h2 : oc1 N / 4 &&& 3689348814741910323 ≤ oc1 N / 4 := Nat.and_le_left
    have h3 : oc1 N &&& 3689348814741910323 ≤ oc1 N := Nat.and_le_left
    unfold oc2; omega
  have e2 := oc_pair (oc1 N) 4 3689348814741910323 (by omega) (by decide)
  have b3 : oc3 (oc2 (oc1 N)) < 40000 := by
    have h2 : oc2 (oc1 N) / 16 + oc2 (oc1 N) &&& 1085102592571150095 ≤ oc2 (oc1 N) / 16 + oc2 (oc1 N) := Nat.and_le_left
    unfold oc3; omega
  have e3 : IntKind.u64.wrap (((oc2 (oc1 N) : Nat) : Int) / ((16 : Nat) : Int) + ((oc2 (oc1 N) : Nat) : Int)) = ((oc2 (oc1 N) / 16 + oc2 (oc1 N) : Nat) : Int) := by
    rw [Int.add_comm, oc_sum _ _ (by omega), Nat.add_comm]
  have e3b := bits_and_u64_nat (oc2 (oc1 N) / 16 + oc2 (oc1 N)) 1085102592571150095 (by omega) (by decide)
  have b4 : oc4 (oc3 (oc2 (oc1 N))) < 80000 := by unfold oc4; omega
  have e4 := oc_sum (oc3 (oc2 (oc1 N))) 256 (by omega)
  have b5 : oc5 (oc4 (oc3 (oc2 (oc1 N)))) < 160000 := by unfold oc5; omega
  have e5 := oc_sum (oc4 (oc3 (oc2 (oc1 N)))) 65536 (by omega)
  have b6 : oc6 (oc5 (oc4 (oc3 (oc2 (oc1 N))))) < 320000 := by unfold oc6; omega
  have e6 := oc_sum (oc5 (oc4 (oc3 (oc2 (oc1 N))))) 4294967296 (by omega)
  have e7 := and_i64 (oc6 (oc5 (oc4 (oc3 (oc2 (oc1 N)))))) 127 (by omega) (by omega)
  have e9 := oc_at h
  have g1 : IntKind.u64.wrap (bits .and .u64 ((N : Int) / 2) 6148914691236517205 + bits .and .u64 (N : Int) 6148914691236517205) = ((oc1 N : Nat) : Int) := e1
  have g2 : IntKind.u64.wrap (bits .and .u64 (((oc1 N : Nat) : Int) / 4) 3689348814741910323 + bits .and .u64 ((oc1 N : Nat) : Int) 3689348814741910323) = ((oc2 (oc1 N) : Nat) : Int) := e2
  have g3 : IntKind.u64.wrap (((oc2 (oc1 N) : Nat) : Int) / 16 + ((oc2 (oc1 N) : Nat) : Int)) = ((oc2 (oc1 N) / 16 + oc2 (oc1 N) : Nat) : Int) := e3
  have g3b : bits .and .u64 ((oc2 (oc1 N) / 16 + oc2 (oc1 N) : Nat) : Int) 1085102592571150095 = ((oc3 (oc2 (oc1 N)) : Nat) : Int) := e3b
  have g4 : IntKind.u64.wrap (((oc3 (oc2 (oc1 N)) : Nat) : Int) + ((oc3 (oc2 (oc1 N)) : Nat) : Int) / 256) = ((oc4 (oc3 (oc2 (oc1 N))) : Nat) : Int) := e4
  have g5 : IntKind.u64.wrap (((oc4 (oc3 (oc2 (oc1 N))) : Nat) : Int) + ((oc4 (oc3 (oc2 (oc1 N))) : Nat) : Int) / 65536) = ((oc5 (oc4 (oc3 (oc2 (oc1 N)))) : Nat) : Int) := e5
  have g6 : IntKind.u64.wrap (((oc5 (oc4 (oc3 (oc2 (oc1 N)))) : Nat) : Int) + ((oc5 (oc4 (oc3 (oc2 (oc1 N)))) : Nat) : Int) / 4294967296) = ((oc6 (oc5 (oc4 (oc3 (oc2 (oc1 N))))) : Nat) : Int) := e6
  have g7 : bits .and .i64 ((oc6 (oc5 (oc4 (oc3 (oc2 (oc1 N))))) : Nat) : Int) 127 = ((oc7 (oc6 (oc5 (oc4 (oc3 (oc2 (oc1 N)))))) : Nat) : Int) := e7
  rw [e9] at g7
  have g8 : wrap64 ((oc6 (oc5 (oc4 (oc3 (oc2 (oc1 N))))) : Nat) : Int) = (oc6 (oc5 (oc4 (oc3 (oc2 (oc1 N))))) : Nat) := IntWalk.wrap64_in _ (by omega)
  refine ⟨?_, rfl⟩
  show Ending.returned _ = _
  simp only [g1, g2, g3, g3b, g4, g5, g6, g8, g7]
  rfl
theorem ones_in (N : Nat) (h : N < 4096) (w : World) : Calls Try.prog 81 #[.int .u64 N] w fun e w' => e = .returned (.int .i64 (pop N 12)) ∧ w = w' := by
  go_enter Try.func81, Try.ntmps81
  go_wp2_with (go_at_call 94; refine (ones64_in _ h _).mono ?_; rintro e w' ⟨rfl, rfl⟩)
  go_ret
  exact ⟨rfl, rfl⟩

def sdV (N c : Nat) : Value := .agg #[.int .u64 N, .int .i64 c]
/-- A side in a block of its own. -/
def SdAt (W : World) (b N c : Nat) : Prop := W.heap[b]? = some (.cells #[.int .u64 N, .int .i64 c] 71 (0, 0))
theorem SdAt.lt {W : World} {b N c : Nat} (h : SdAt W b N c) : b < W.heap.size := (Array.getElem?_eq_some_iff.1 h).1
theorem SdAt.cell0 {W : World} {b N c : Nat} (h : SdAt W b N c) : W.cell? ⟨b, 0, none⟩ = some (.int .u64 N) := by simp [World.cell?, show W.heap[b]? = _ from h]
theorem SdAt.cell1 {W : World} {b N c : Nat} (h : SdAt W b N c) : W.cell? ⟨b, 1, none⟩ = some (.int .i64 c) := by simp [World.cell?, show W.heap[b]? = _ from h]
theorem SdAt.frozen {W : World} {b N c : Nat} (h : SdAt W b N c) (i : Nat) : W.frozen? ⟨b, i, none⟩ = false := by simp [World.frozen?, show W.heap[b]? = _ from h]
theorem SdAt.new (W : World) (N c : Nat) : SdAt (W.alloc (.cells #[.int .u64 N, .int .i64 c] 71)) W.heap.size N c := World.alloc_heap_new W _
theorem SdAt.of_block {W W' : World} {b N c : Nat} (h : SdAt W b N c) (hb : W'.heap[b]? = W.heap[b]?) : SdAt W' b N c := hb.trans h
theorem SdAt.kept {W W' : World} {row : Option Nat} {b N c : Nat} (h : SdAt W b N c) (hg : W.grownBy W' row) (hne : some b ≠ row) : SdAt W' b N c := (hg.block b h.lt hne).trans h
theorem set_block {W : World} {b : Nat} {cur : Array Value} {t : TypeId} (h : W.heap[b]? = some (.cells cur t (0, 0))) (p : Nat) (v : Value) : (W.setCell ⟨b, p, none⟩ v).heap[b]? = some (.cells (cur.setIfInBounds p v) t (0, 0)) := by
  obtain ⟨hlt, hk⟩ := Array.getElem?_eq_some_iff.1 h
  show (W.heap.modify b _)[b]? = _
  rw [Array.getElem?_eq_getElem (by rw [Array.size_modify]; exact hlt), Array.getElem_modify_self, hk]; rfl
theorem SdAt.set {W : World} {b N c : Nat} (h : SdAt W b N c) (N' c' : Nat) : SdAt ((W.setCell ⟨b, 0, none⟩ (.int .u64 N')).setCell ⟨b, 1, none⟩ (.int .i64 c')) b N' c' := by
  exact set_block (set_block h 0 _) 1 _
theorem SdAt.alloc {W : World} {b N c : Nat} (h : SdAt W b N c) (o : Obj) : SdAt (W.alloc o) b N c := h.kept (World.grownBy_alloc W o none) (by simp)

theorem results_side {fn : Func} {p : Tmp} (h : fn.results = #[.cell p 71]) (tmps : Array Value) (w : World) (b N c : Nat) (hp : tmps.getD p undef = .pointer (some ⟨b, 0, none⟩)) (hs : SdAt w b N c) :
    (results fn tmps).run Try.prog w = .ok (sdV N c) w := by
  have hc0 := hs.cell0
  have hc1 := hs.cell1
  rw [results_cell_one h, hp]
  go_simp
  rfl

theorem cell_in (N c k : Nat) (h : N < 4096) (hk : k < 12) (w : World) : Calls Try.prog 85 #[sdV N c, .int .i64 k] w fun e w' => e = .returned (.int .i64 (bitF N k)) ∧ Below w.heap.size w w' := by
  have hd : N >>> k ≤ N := by rw [Nat.shiftRight_eq_div_pow]; exact Nat.div_le_self _ _
  have e1 : (N : Int) / (2 : Int) ^ k = ((N >>> k : Nat) : Int) := by rw [Nat.shiftRight_eq_div_pow]; simp
  have e2 : bits .and .u64 ((N >>> k : Nat) : Int) 1 = ((bitF N k : Nat) : Int) := by
    have := bits_and_u64_nat (N >>> k) 1 (by omega) (by omega)
    rw [Nat.and_one_is_mod] at this
    exact this
  have hb := bitF_le N k
  have e3 : wrap64 ((bitF N k : Nat) : Int) = ((bitF N k : Nat) : Int) := IntWalk.wrap64_in _ (by omega)
  have e3' := hide e3
  have e2' := hide e2
  have e1' := hide e1
  clear e1 e2 e3
  unfold sdV
  go_enter Try.func85, Try.ntmps85
  go_wp2
  go_ret
  refine ⟨?_, (Below.refl _ w).alloc (Nat.le_refl _) _⟩
  show Ending.returned (.int .i64 _) = _
  rw [e1'.out, e2'.out, e3'.out]
set_option maxRecDepth 100000 in
theorem under_in (N l : Nat) (h : N < 4096) (hk : l < 12) (w : World) : Calls Try.prog 83 #[sdV N (l + 1)] w fun e w' => e = .returned (sdV (downN l N) l) ∧ Below w.heap.size w w' := by
  obtain ⟨Q, hQ⟩ : ∃ Q, 2 ^ l = Q := ⟨_, rfl⟩
  have hQl : Q ≤ 4096 := by rw [← hQ]; exact Nat.le_trans (Nat.pow_le_pow_right (by omega) (by omega : l ≤ 12)) (by decide)
  have hQ1 : 1 ≤ Q := by rw [← hQ]; exact Nat.pow_pos (by omega)
  have hQi : (2 : Int) ^ l = (Q : Int) := by rw [← hQ]; simp
  have hde : downN l N = (N ^^^ (N >>> 1)) &&& (Q - 1) := by rw [← hQ, Nat.and_two_pow_sub_one_eq_mod]; rfl
  have hh : N >>> 1 ≤ N := by rw [Nat.shiftRight_eq_div_pow]; exact Nat.div_le_self _ _
  have hhi : (N : Int) / (2 : Int) = ((N >>> 1 : Nat) : Int) := by rw [Nat.shiftRight_eq_div_pow]; omega
  have hxo := bits_xor_u64_nat N (N >>> 1) (by omega) (by omega)
  have hxl : N ^^^ (N >>> 1) < 2 ^ 12 := Nat.xor_lt_two_pow (by omega) (by omega)
  have han := bits_and_u64_nat (N ^^^ (N >>> 1)) (Q - 1) (by omega) (by omega)
  rw [← hde, show ((Q - 1 : Nat) : Int) = (Q : Int) - 1 by omega] at han
  unfold sdV
  generalize N ^^^ (N >>> 1) = X at *
  generalize N >>> 1 = H at *
  generalize downN l N = D at *
  have hw1 : IntKind.u64.wrap (Q : Int) = Q := IntWalk.u64_in _ (by omega)
  have hw2 : IntKind.u64.wrap ((Q : Int) - 1) = (Q : Int) - 1 := IntWalk.u64_in _ (by omega)
  have hp0 : (0 : Int) ≤ (l : Int) := by omega
  clear hQ hde
  go_enter Try.func83, Try.ntmps83
  go_wp2
  obtain ⟨W0, hW0⟩ : ∃ W0, ((w.alloc (Obj.cells #[Value.int IntKind.u64 N, Value.int IntKind.i64 ((l : Int) + 1)] 71)).alloc (Obj.cells #[Value.int IntKind.u64 0, Value.int IntKind.i64 0] 71)) = W0 := ⟨_, rfl⟩
  have hs0 : SdAt W0 w.heap.size N (l + 1) := by rw [← hW0]; exact (SdAt.new w N (l + 1)).alloc _
  have hc0 := hs0.cell0
  have hB0 : Below w.heap.size w W0 := by rw [← hW0]; exact ((Below.refl _ w).alloc (Nat.le_refl _) _).alloc (by simp) _
  have hs1 : SdAt W0 (w.heap.size + 1) 0 0 := by
    rw [← hW0]; have := SdAt.new (w.alloc (Obj.cells #[Value.int IntKind.u64 N, Value.int IntKind.i64 ((l : Int) + 1)] 71)) 0 0; rwa [World.size_alloc] at this
  rw [hW0]
  clear hW0
  go_still_tail 12, (by kernel_rfl)
  change wpList _ _ _ _ _ W0.drew
  have hd0 := hs1.cell0
  have hd1 := hs1.cell1
  have hf0 := hs1.frozen 0
  have hf1 := hs1.frozen 1
  go_wp2
  refine bodyPost_ret (results_side rfl _ _ (w.heap.size + 1) D l rfl (hs1.set D l)) rfl ⟨rfl, ?_⟩
  exact ((hB0.setCell (p := ⟨w.heap.size + 1, 0, none⟩) (by show w.heap.size ≤ w.heap.size + 1; omega) _).setCell (p := ⟨w.heap.size + 1, 1, none⟩) (by show w.heap.size ≤ w.heap.size + 1; omega) _).drew
end Go.Proofs.Ytimnhedjapakhaa
/-
  The law on ranging over a function whose iterator owns memory, for a round whose loop variable lies in memory: the assignment of the round makes a block of its own. Nothing of the program is in it.
-/
namespace Go.Proofs.Ytimnhedjapakhaa
open Go Go.RowKit

variable {F : Fence} {n : Nat} {P : Program}

/-- THE LAW. -/
theorem wpIn_rangeFunc_box {α : Type} {g : Operand} {ps : Array Tmp} {assign body : Code} {Q : Exit → Act → World → Prop} {a : Act} {w : World}
    (hro : F.round = none) (h1 : 1 ≤ n) {gf : Nat} {lb : Array Value} (hg : a.eval g = .func (.func gf) #[] lb) (hFg : F.fn gf) (eg : ∀ args w, (callFunc gf args).run P w = .ok (.enter gf args) w)
    {m : Nat} {encs : Nat → α → Array Value} {Hd : Nat → List α → α → World → Prop} {K : Nat → Nat → Prop} {S Sp : Nat → List α → World → Prop}
    (hseq : SeqMem F (n - 1) P gf lb m encs Hd K S Sp w) (hps : ∀ b x, (encs b x).size = ps.size)
    (hKn : ¬ K (w.heap.size + 2) (w.heap.size + 1))
    (hS : ∀ xs W o, S (w.heap.size + 2) xs W → S (w.heap.size + 2) xs (W.putObj (w.heap.size + 1) o))
    (hSp : ∀ xs W o, Sp (w.heap.size + 2) xs W → Sp (w.heap.size + 2) xs (W.putObj (w.heap.size + 1) o))
    (I : List α → World → Prop) (Ix : Code → List α → World → Prop)
    (hI : AbidesSet (fun r => w.heap.size ≤ r ∧ r < w.heap.size + 2 + m) I) (hIx : ∀ c, AbidesSet (fun r => w.heap.size ≤ r ∧ r < w.heap.size + 2 + m) (Ix c)) (h0 : I [] w) (Ax : List α → α → Act → World → Prop)
    (hAx : ∀ pre x b W o, Ax pre x b W → Ax pre x b (W.putObj (w.heap.size + 1) o))
    (hassign : ∀ (l : Nat) (pre : List α) (x : α) (W : World) (Q' : Act → World → Prop), w.heap.size + 1 < W.heap.size → I pre W → Hd (w.heap.size + 2) pre x W →
      (∀ b W', KeepsSet (fun k => k = w.heap.size ∨ k = w.heap.size + 1 ∨ K (w.heap.size + 2) k) W W' → Ax pre x b W' → Q' b W') →
      assign.wpIn (F.inRound l) (n - 1 - 1) P (Exit.then Q' (fun _ _ _ => False)) { tmps := (ps.zip (encs (w.heap.size + 2) x)).foldl (fun t (p, v) => t.setIfInBounds p v) a.tmps, defers := [] } W)
    (hbody : ∀ (l : Nat) (pre : List α) (x : α) (b : Act) (W : World), w.heap.size + 1 < W.heap.size → Ax pre x b W →
      body.wpIn (F.inRound l) (n - 1 - 1) P (postMem (fun k => k = w.heap.size ∨ k = w.heap.size + 1 ∨ K (w.heap.size + 2) k) I Ix (pre ++ [x]) W) b W)
    (hdone : ∀ (xs : List α) (W : World), S (w.heap.size + 2) xs W → I xs W → W.heap[w.heap.size]? = some (.deferred (some [])) → Q .normal { a with defers := { target := .collected w.heap.size, args := #[] } :: a.defers } W)
    (hstop : ∀ (c : Code) (pre : List α) (W : World), Sp (w.heap.size + 2) pre W → Ix c pre W → W.heap[w.heap.size]? = some (.deferred (some [])) → c.wpIn F n P Q { a with defers := { target := .collected w.heap.size, args := #[] } :: a.defers } W) :
    (Code.rangeFunc g ps assign body).wpIn F n P Q a w := by
  refine wpIn_rangeFunc ?_
  intro fn hfn
  rw [hro]
  obtain ⟨rec, hrec⟩ : ∃ rec : LoopState → Option Code → Loop, rec = fun st pe => { state := st, pending := pe, fn, tmps := a.tmps, params := ps, assign, body, defers := w.heap.size } := ⟨_, rfl⟩
  obtain ⟨W1, hW1⟩ : ∃ W1, (w.alloc (.deferred (some []))).alloc (.loop (rec .ready none)) = W1 := ⟨_, rfl⟩
  have hL1 : W1.heap[w.heap.size + 1]? = some (.loop (rec .ready none)) := by
    rw [← hW1]; have := World.alloc_heap_new (w.alloc (.deferred (some []))) (.loop (rec .ready none)); rwa [World.size_alloc] at this
  have hK1 : W1.heap[w.heap.size]? = some (.deferred (some [])) := by
    rw [← hW1]; exact (Below.heap_alloc _ _ _ (by simp)).trans (World.alloc_heap_new w _)
  have hI1 : I [] W1 := by
    rw [← hW1]
    exact hI _ _ _ _ (hI _ _ _ _ h0 (World.grownBy_alloc w _ none) (fun _ h => by cases h)) (World.grownBy_alloc _ _ none) (fun _ h => by cases h)
  have hb1 : Below w.heap.size w W1 := by
    rw [← hW1]; exact ((Below.refl _ w).alloc (Nat.le_refl _) _).alloc (by simp) _
  have hsz : W1.heap.size = w.heap.size + 2 := by rw [← hW1]; simp
  have putI : ∀ (J : List α → World → Prop) (s : List α) (W : World) (o : Obj), AbidesSet (fun r => w.heap.size ≤ r ∧ r < w.heap.size + 2 + m) J → J s W → J s (W.putObj (w.heap.size + 1) o) := fun J s W o hJ hs =>
    hJ _ _ _ (some (w.heap.size + 1)) hs (grownBy_putObj' W _ o) (fun r e => by cases e; omega)
  refine ⟨w.heap.size + 1, [{ target := .collected w.heap.size, args := #[] }], W1, { target := .fn (.func gf) lb, args := #[.func (.yield (w.heap.size + 1)) #[] #[]] }, W1, gf,
    #[.func (.yield (w.heap.size + 1)) #[] #[]] ++ lb, W1, ?_, ?_, ?_, ?_, fun _ => h1, ?_⟩
  · rw [← hW1, hrec]; exact run_enterLoop_outer _ _ _ _ _
  · simp only [resolve, hg]
    simp [go_sem]
  · intro f' hf'; simp [Target.leads] at hf'; subst hf'; exact hFg
  · simp [invoke, go_sem, eg]
  · have hkeep : ∀ {A B : World} {row : Option Nat} {k : Nat} {o : Obj}, A.grownBy B row → (∀ r, row = some r → W1.heap.size ≤ r ∧ r < W1.heap.size + m) → k < w.heap.size + 2 → A.heap[k]? = some o → B.heap[k]? = some o := fun hg hr hk ho =>
      (hg.block _ (Array.getElem?_eq_some_iff.1 ho).1 (fun e => by have := (hr _ e.symm).1; omega)).trans ho
    have hwide : ∀ {row : Option Nat}, (∀ r, row = some r → W1.heap.size ≤ r ∧ r < W1.heap.size + m) → (∀ r, row = some r → w.heap.size ≤ r ∧ r < w.heap.size + 2 + m) := fun hr r e => by have := hr r e; omega
    have H := hseq (w.heap.size + 1)
      (fun pre W => I pre W ∧ W.heap[w.heap.size + 1]? = some (.loop (rec .ready none)) ∧ W.heap[w.heap.size]? = some (.deferred (some [])))
      (fun pre W => ∃ c, Ix c pre W ∧ W.heap[w.heap.size + 1]? = some (.loop (rec .done (some c))) ∧ W.heap[w.heap.size]? = some (.deferred (some [])))
      W1 hb1
      (fun s A B row hs hg' hr => ⟨hI s A B row hs.1 hg' (hwide hr), hkeep hg' hr (by omega) hs.2.1, hkeep hg' hr (by omega) hs.2.2⟩)
      (fun s A B row hs hg' hr => by
        obtain ⟨c, hc, hl, hk⟩ := hs
        exact ⟨c, hIx c s A B row hc hg' (hwide hr), hkeep hg' hr (by omega) hl, hkeep hg' hr (by omega) hk⟩)
    rw [hsz] at H
    refine (H ?_ ⟨hI1, hL1, hK1⟩).mono ?_
    · -- one round
      rintro pre x W ⟨hi, hl, hk⟩ hhd
      have hlt : w.heap.size + 1 < W.heap.size := (Array.getElem?_eq_some_iff.1 hl).1
      have hy := run_yield (P := P) (args := encs (w.heap.size + 2) x) hl (by rw [hrec]; exact hps _ x)
      rw [hrec] at hy
      refine ⟨fn, _, assign, body, hy, roundIn_of_wpIn hfn (hassign _ pre x W _ hlt hi hhd (fun b W0 hk0 hax => ?_))⟩
      have hput : ∀ (W : World) (o : Obj), KeepsSet (K (w.heap.size + 2)) W (W.putObj (w.heap.size + 1) o) := fun W o => KeepsSet.of_grownBy (grownBy_putObj' W _ o) (fun r e => by cases e; exact hKn)
      have hlW : W0.heap[w.heap.size + 1]? = some (.loop (rec .ready none)) := (hk0.same (w.heap.size + 1) hlt (.inr (.inl rfl))).trans hl
      have hkW : W0.heap[w.heap.size]? = some (.deferred (some [])) := (hk0.same w.heap.size (by omega) (.inl rfl)).trans hk
      have hlt0 : w.heap.size + 1 < W0.heap.size := (Array.getElem?_eq_some_iff.1 hlW).1
      refine ⟨_, run_beginRound hlW (by rw [hrec]), ?_⟩
      have hl2 : (W0.putObj (w.heap.size + 1) (.loop { rec .ready none with state := .busy })).heap[w.heap.size + 1]? = some (.loop { rec .ready none with state := .busy }) := World.putObj_heap_same hlt0
      have hk2 : (W0.putObj (w.heap.size + 1) (.loop { rec .ready none with state := .busy })).heap[w.heap.size]? = some (.deferred (some [])) := (World.putObj_heap_other (by omega)).trans hkW
      refine wpIn_mono (hbody _ pre x b _ (by simpa using hlt0) (hAx _ _ _ _ _ hax)) ?_
      have fin : ∀ (jump : Option Code) (W3 : World), KeepsSet (fun k => k = w.heap.size ∨ k = w.heap.size + 1 ∨ K (w.heap.size + 2) k) (W0.putObj (w.heap.size + 1) (.loop { rec .ready none with state := .busy })) W3 →
          (Instr.endRound (w.heap.size + 1) jump).run P W3 = .ok (.bool jump.isNone) (W3.putObj (w.heap.size + 1) (.loop (rec (if jump.isNone then .ready else .done) jump))) ∧
          (W3.putObj (w.heap.size + 1) (.loop (rec (if jump.isNone then .ready else .done) jump))).heap[w.heap.size + 1]? = some (.loop (rec (if jump.isNone then .ready else .done) jump)) ∧
          (W3.putObj (w.heap.size + 1) (.loop (rec (if jump.isNone then .ready else .done) jump))).heap[w.heap.size]? = some (.deferred (some [])) ∧
          KeepsSet (K (w.heap.size + 2)) W (W3.putObj (w.heap.size + 1) (.loop (rec (if jump.isNone then .ready else .done) jump))) := fun jump W3 hk3 => by
        have hl3 := (hk3.same (w.heap.size + 1) (by simpa using hlt0) (.inr (.inl rfl))).trans hl2
        have hk4 := (hk3.same w.heap.size (by simp; omega) (.inl rfl)).trans hk2
        have := run_endRound (P := P) jump hl3
        rw [hrec] at this ⊢
        exact ⟨this, World.putObj_heap_same (Array.getElem?_eq_some_iff.1 hl3).1, (World.putObj_heap_other (by omega)).trans hk4, (hk0.mono (fun k h => .inr (.inr h))).trans ((hput _ _).trans ((hk3.mono (fun k h => .inr (.inr h))).trans (hput _ _)))⟩
      rintro e a3 W3 hp
      cases e with
      | normal =>
        obtain ⟨hk3, hi3⟩ := hp
        obtain ⟨hr, hl4, hk4, hkk⟩ := fin none W3 hk3
        exact ⟨_, _, hr, .inl ⟨rfl, ⟨putI I _ _ _ hI hi3, hl4, hk4⟩, hkk⟩⟩
      | ret =>
        obtain ⟨hk3, hi3⟩ := hp
        obtain ⟨hr, hl4, hk4, hkk⟩ := fin (some .ret) W3 hk3
        exact ⟨_, _, hr, .inr ⟨rfl, ⟨.ret, putI (Ix .ret) _ _ _ (hIx _) hi3, hl4, hk4⟩, hkk⟩⟩
      | exit id =>
        obtain ⟨hk3, hi3⟩ := hp
        obtain ⟨hr, hl4, hk4, hkk⟩ := fin (some (.exit id)) W3 hk3
        exact ⟨_, _, hr, .inr ⟨rfl, ⟨.exit id, putI (Ix (.exit id)) _ _ _ (hIx _) hi3, hl4, hk4⟩, hkk⟩⟩
      | goto t =>
        obtain ⟨hk3, hi3⟩ := hp
        obtain ⟨hr, hl4, hk4, hkk⟩ := fin (some (.goto t)) W3 hk3
        exact ⟨_, _, hr, .inr ⟨rfl, ⟨.goto t, putI (Ix (.goto t)) _ _ _ (hIx _) hi3, hl4, hk4⟩, hkk⟩⟩
      | panic ch => exact hp.elim
      | outgrown => exact hp.elim
    · -- behind the iterator
      rintro e W2 ⟨⟨v, rfl⟩, (⟨xs, hSx, hi, hl, hk⟩ | ⟨pre, hSx, c, hi, hl, hk⟩)⟩
      · exact ⟨none, _, by have := run_endLoop (P := P) hl (by rw [hrec]; simp); rw [hrec] at this; exact this, hdone xs _ (hS _ _ _ hSx) (putI I _ _ _ hI hi) ((World.putObj_heap_other (by omega)).trans hk)⟩
      · exact ⟨some c, _, by have := run_endLoop (P := P) hl (by rw [hrec]; simp); rw [hrec] at this; exact this, hstop c pre _ (hSp _ _ _ hSx) (putI (Ix c) _ _ _ (hIx c) hi) ((World.putObj_heap_other (by omega)).trans hk)⟩
end Go.Proofs.Ytimnhedjapakhaa
/-
  The iterator over the rows of a triangle of like and unlike.
-/
namespace Go.Proofs.Ytimnhedjapakhaa
open Go.RowKit Go.Shelf
attribute [local go_sem] Oper.semAt_some

theorem down_in (N c : Nat) (w : World) : Calls Try.prog 80 #[sdV N c] w fun e w' => e = .returned (.func (.func 92) #[] #[.pointer (some ⟨w.heap.size, 0, none⟩)]) ∧ w.alloc (.cells #[.int .u64 N, .int .i64 c] 71) = w' := by
  have hmf : ∀ (fn : Fn) (first cap : Array Value) (w : World), (Instr.makeFunc fn first cap).run Try.prog w = .ok (.func fn first cap) w := fun _ _ _ _ => rfl
  unfold sdV
  go_enter Try.func80, Try.ntmps80
  go_wp2
  go_ret
  exact ⟨rfl, rfl⟩

/-- What is known while the rows are handed out. -/
def DnHd (c : Nat) (_n0 : Nat) (pre : List Nat) (x : Nat) (_W : World) : Prop := pre = List.range x ∧ x < c
def DnS (c : Nat) (_n0 : Nat) (xs : List Nat) (_W : World) : Prop := xs = List.range c
/-- How many rows are left: the cells of the side that lies where the pointer shows. -/
def restSd (p : Value) (W : World) : Nat :=
  match p with
  | .pointer (some a) => (match W.cell? ⟨a.block, 1, none⟩ with
    | some (.int _ n) => n.toNat
    | _ => 0)
  | _ => 0
theorem restSd_of {W : World} {b N c : Nat} (h : SdAt W b N c) : restSd (.pointer (some ⟨b, 0, none⟩)) W = c := by
  have := h.cell1
  unfold restSd
  simp [this]
theorem grown_of_below {W W' : World} (h : Below W.heap.size W W') : W.grownBy W' none := ⟨h.os, h.tape, h.output, h.size, fun b hb _ => h.block b hb⟩

set_option maxRecDepth 100000 in
set_option maxHeartbeats 1000000 in
theorem down_stops (n B N c : Nat) (hN : N < 2 ^ c) (hc : c ≤ 12) (hn : 1 ≤ n) (w : World) (hB : SdAt w B N c) :
    SeqMem Fence.wide n Try.prog 92 #[.pointer (some ⟨B, 0, none⟩)] 0 (fun _ (j : Nat) => #[sdV (rowB c N j) (c - j)])
      (DnHd c) (fun n0 k => n0 ≤ k) (DnS c) (fun _ _ _ => True) w := by
  intro l J Jx W hW hJ hJx hY h0
  have hBW : SdAt W B N c := hB.of_block (hW.block B hB.lt)
  have hc0 := hBW.cell0
  have hc1 := hBW.cell1
  have hN12 : N < 4096 := Nat.lt_of_lt_of_le hN (Nat.le_trans (Nat.pow_le_pow_right (by omega) hc) (by decide))
  refine callsIn_of_wp Try.func92 rfl trivial ?_ rfl
  simp only [Try.ntmps92, List.size_toArray, List.length_cons, List.length_nil, Nat.reduceAdd, Nat.reduceSub, Array.replicate_succ, Array.replicate_zero, List.push_toArray, List.append_toArray, List.nil_append, List.cons_append]
  clear hB
  gi_wp2
  have hS0 : SdAt (W.alloc (.cells #[.int .u64 N, .int .i64 c] 71)) W.heap.size N c := SdAt.new W N c
  have hJ0 : J [] (W.alloc (.cells #[.int .u64 N, .int .i64 c] 71)) := hJ _ _ _ none h0 (World.grownBy_alloc W _ none) (fun _ h => by cases h)
  clear hc0 hc1 hBW h0
  gi_loopw [3] (fun p wr => ∃ j b : Nat, j ≤ c ∧ p = .pointer (some ⟨b, 0, none⟩) ∧ W.heap.size ≤ b ∧ SdAt wr b (rowB c N j) (c - j) ∧ J (List.range j) wr) (fun p wr => restSd p wr)
  case atStart => exact ⟨0, W.heap.size, by omega, rfl, Nat.le_refl _, hS0, hJ0⟩
  case round =>
    clear hS0 hJ0
    obtain ⟨j, b, hj, rfl, hb, hS, hJs⟩ := hrel
    have hm1 := restSd_of hS
    by_cases hlt : j < c
    · obtain ⟨d, hd⟩ : ∃ d, c - j = d + 1 := ⟨c - j - 1, by omega⟩
      have hdd : c - (j + 1) = d := by omega
      have hU := under_in (rowB c N j) d (rowB_small hN hc j) (by omega)
      have hrow : downN d (rowB c N j) = rowB c N (j + 1) := by show _ = downN (c - (j + 1)) _; rw [hdd]
      rw [hrow] at hU
      obtain ⟨fn, tmps, assign, body, hy, hR⟩ := hY _ j wr hJs ⟨rfl, hlt⟩
      clear hY
      rw [hd] at hS hy hm1
      have hc0 := hS.cell0
      have hc1 := hS.cell1
      unfold sdV at hy hU
      have hd' := hide hdd
      have hm1' := hide hm1
      clear hd hdd hrow hm1
      generalize hM : rowB c N j = M at *
      generalize hM2 : rowB c N (j + 1) = M2 at *
      have hdi : (0 : Int) < (d : Int) + 1 := by omega
      have hde : ((d + 1 : Nat) : Int) = (d : Int) + 1 := Int.natCast_succ d
      rw [hde] at hy hc1 hU
      clear hde
      have hM' := hide hM
      have hM2' := hide hM2
      clear hM hM2
      gi_wp2
      refine hR.mono ?_
      rintro e W3 (⟨rfl, hJ3, hk3⟩ | ⟨rfl, hJx3, hk3⟩)
      · have hS3 : SdAt W3 b M (d + 1) := hS.of_block (hk3.same b hS.lt hb)
        have hc30 := hS3.cell0
        have hc31 := hS3.cell1
        clear hc0 hc1
        gi_wp2_with fail
        have hS4 : SdAt (W3.alloc (.cells #[.int .u64 M, .int .i64 ((d : Int) + 1)] 71)) W3.heap.size M (d + 1) := SdAt.new W3 M (d + 1)
        refine ⟨trivial, ?_⟩
        gi_at_call 83
        refine (callsIn_wide.2 (hU _)).mono ?_
        clear hU
        rintro e w4 ⟨rfl, hB4⟩
        have hS5 : SdAt w4 W3.heap.size M (d + 1) := hS4.of_block (hB4.block _ hS4.lt)
        have h50 := hS5.cell0
        have h51 := hS5.cell1
        have h5f := hS5.frozen 0
        have h5g := hS5.frozen 1
        have hS6 := hS5.set M2 d
        have hB5 : Below W3.heap.size W3 ((w4.setCell ⟨W3.heap.size, 0, none⟩ (.int .u64 M2)).setCell ⟨W3.heap.size, 1, none⟩ (.int .i64 d)) :=
          ((((Below.refl _ W3).alloc (Nat.le_refl _) _).trans (hB4.mono (by simp))).setCell (p := ⟨W3.heap.size, 0, none⟩) (Nat.le_refl _) _).setCell (p := ⟨W3.heap.size, 1, none⟩) (Nat.le_refl _) _
        have hJ5 := hJ _ _ _ none hJ3 (grown_of_below hB5) (fun _ h => by cases h)
        have hb3 : W.heap.size ≤ W3.heap.size := Nat.le_trans hb (Nat.le_of_lt hS3.lt)
        clear hS4 hS5
        gi_wp2
        go_roundw
        case rel => exact ⟨j + 1, W3.heap.size, by omega, rfl, hb3, by rw [hM2'.out, hd'.out]; exact hS6, by rw [List.range_succ]; exact hJ5⟩
        case measure => show restSd (.pointer (some ⟨W3.heap.size, 0, none⟩)) _ < restSd (.pointer (some ⟨b, 0, none⟩)) _; rw [restSd_of hS6, hm1'.out]; omega
      · gi_wp2
        refine bodyPost_ret (results_none rfl _ _ _) rfl ?_
        exact ⟨⟨_, rfl⟩, .inr ⟨_, trivial, hJx3⟩⟩
    · obtain rfl : j = c := by omega
      rw [Nat.sub_self] at hS
      have hc1 := hS.cell1
      have hc0 := hS.cell0
      gi_wp2
      go_end0
      exact ⟨⟨_, rfl⟩, .inl ⟨_, rfl, hJs⟩⟩
end Go.Proofs.Ytimnhedjapakhaa
/-
  The program's sides: how many ones their triangles have, their cells as rows.
-/
namespace Go.Proofs.Ytimnhedjapakhaa
open Go.RowKit Go.Shelf
attribute [local go_sem] Oper.semAt_some

/-- What is known in the round of the row x. -/
structure OnAx (w0 n0 B c N : Nat) (w W : World) (pre : List Nat) (x b : Nat) : Prop where
  side : SdAt W b (rowB c N x) (c - x)
  box : Boxed W B 3 (.int .i64 (onesU c N x))
  below : Below w0 w W
  pre : pre = List.range x
  lt : x < c
  at_ : n0 ≤ b

set_option maxRecDepth 100000 in
set_option maxHeartbeats 1000000 in
theorem onesDown_in (N c : Nat) (hN : N < 2 ^ c) (hc : c ≤ 12) (w : World) : Calls Try.prog 47 #[sdV N c] w fun e w' => e = .returned (.int .i64 (onesN c N)) ∧ Below w.heap.size w w' := by
  have hall := hide (onesU_all hN hc)
  refine (callsIn_wide (n := 9)).1 ?_
  unfold sdV
  refine callsIn_of_wp_marks Try.func47 rfl trivial ?_ rfl
  simp only [Try.ntmps47, List.size_toArray, List.length_cons, List.length_nil, Nat.reduceAdd, Nat.reduceSub, Array.replicate_succ, Array.replicate_zero, List.push_toArray, List.append_toArray, List.nil_append, List.cons_append]
  have hD := fun w => down_in N c w
  unfold sdV at hD
  gi_wp2_with (refine ⟨trivial, ?_⟩; gi_at_call 80; refine (callsIn_wide.2 (hD _)).mono ?_; rintro e w' ⟨rfl, rfl⟩)
  clear hD
  obtain ⟨W0, hW0⟩ : ∃ W0, ((w.alloc (Obj.cells #[Value.int IntKind.u64 N, Value.int IntKind.i64 c] 71)).alloc (Obj.cells #[Value.int IntKind.i64 0] 3)).alloc (Obj.cells #[Value.int IntKind.u64 N, Value.int IntKind.i64 c] 71) = W0 := ⟨_, rfl⟩
  have hsz1 : W0.heap.size ≤ w.heap.size + 3 := by rw [← hW0]; simp
  have hsz2 : w.heap.size + 3 ≤ W0.heap.size := by rw [← hW0]; simp
  have hbo : Boxed W0 (w.heap.size + 1) 3 (.int .i64 0) := by rw [← hW0]; exact (boxed_at _ _ (by simp)).alloc _
  have hbs : SdAt W0 (w.heap.size + 1 + 1) N c := by
    rw [← hW0]
    have := SdAt.new ((w.alloc (Obj.cells #[Value.int IntKind.u64 N, Value.int IntKind.i64 c] 71)).alloc (Obj.cells #[Value.int IntKind.i64 0] 3)) N c
    rwa [World.size_alloc, World.size_alloc] at this
  have hbel : Below w.heap.size w W0 := by rw [← hW0]; exact (((Below.refl _ w).alloc (Nat.le_refl _) _).alloc (by simp) _).alloc (by simp; omega) _
  rw [hW0]
  clear hW0
  refine wpIn_rangeFunc_box rfl (by omega) (gf := 92) (lb := #[.pointer (some ⟨w.heap.size + 1 + 1, 0, none⟩)]) rfl trivial (enters_of Try.func92 (by kernel_rfl) rfl)
    (down_stops (9 - 1) (w.heap.size + 1 + 1) N c hN hc (by omega) W0 hbs) (fun _ _ => rfl) (by omega)
    (fun ys W o h => h) (fun pre W o h => h)
    (fun pre W => Boxed W (w.heap.size + 1) 3 (.int .i64 (onesU c N pre.length)) ∧ Below w.heap.size w W) (fun _ _ _ => False)
    (fun s A B row hs hg hr => ⟨hs.1.kept hg (fun e => by have := hr _ e.symm; omega), hs.2.grown hg hs.2.size (fun k e => by have := hr _ e; omega)⟩)
    (fun _ _ _ _ _ hs _ _ => hs) ⟨hbo, hbel⟩
    (fun pre x b W => ∃ k, b = { tmps := #[.agg #[.int .u64 N, .int .i64 c], .pointer (some ⟨w.heap.size, 0, none⟩), .int .i64 0, .pointer (some ⟨w.heap.size + 1, 0, none⟩), .pointer (some ⟨k, 0, none⟩), .agg #[.int .u64 N, .int .i64 c],
      .func (.func 92) #[] #[.pointer (some ⟨w.heap.size + 1 + 1, 0, none⟩)], .agg #[.int .u64 (rowB c N x), .int .i64 ((c - x : Nat) : Int)], undef, undef, undef, undef, undef, undef], defers := [] } ∧ OnAx w.heap.size (W0.heap.size + 2) (w.heap.size + 1) c N w W pre x k)
    (fun pre x b W o ⟨k, hb, hO⟩ => ⟨k, hb, hO.side.of_block (World.putObj_heap_other (by have := hO.at_; omega)), hO.box.kept (grownBy_putObj' W _ _) (by simp; omega), hO.below.grown (grownBy_putObj' W _ _) hO.below.size (fun k e => by cases e; omega), hO.pre, hO.lt, hO.at_⟩) ?assign ?body ?done ?stop
  case assign =>
    rintro l pre x W Q' hlt ⟨hb, hB⟩ ⟨hpre, hx⟩ hQ
    have hpl : pre.length = x := by rw [hpre, List.length_range]
    rw [hpl] at hb
    have hQ' := hide hQ
    clear hQ hpl hall
    unfold sdV
    gi_wp2
    exact hQ'.out _ _ (KeepsSet.of_grownBy (World.grownBy_alloc W _ none) (fun _ e => by cases e)) ⟨W.heap.size, rfl, SdAt.new W _ _, hb.alloc _, hB.alloc hB.size _, hpre, hx, by omega⟩
  case body =>
    rintro l pre x b W hlt ⟨k, rfl, hO⟩
    have hA12 := onesU_le c N x
    have hP12 := pop_le12 (rowB c N x) 12
    have hnx : onesU c N (x + 1) = onesU c N x + pop (rowB c N x) 12 := rfl
    have hcall := fun V => ones_in (rowB c N x) (rowB_small hN hc x) V
    have hxc := hO.lt
    have hpl : (pre ++ [x]).length = x + 1 := by rw [List.length_append, hO.pre, List.length_range]; rfl
    have hbx := hO.box
    have hs0 := hO.side.cell0
    have hk := hO.side.lt
    have hka := hO.at_
    have hbl := hO.below
    clear hO
    rw [← hpl] at hnx
    have hnx' := hide hnx
    generalize rowB c N x = M at *
    generalize onesU c N x = A at *
    generalize pop M 12 = R at *
    have hbd := hide (show A + R ≤ 1000 by omega)
    clear hA12 hP12 hpl hall hnx
    gi_wp2
    refine wpIn_region_tail 5 (by kernel_rfl) (by kernel_rfl) (by kernel_rfl) (by decide)
      (fun s => { tmps := #[.agg #[.int .u64 N, .int .i64 c], .pointer (some ⟨w.heap.size, 0, none⟩), .int .i64 0, .pointer (some ⟨w.heap.size + 1, 0, none⟩), .pointer (some ⟨k, 0, none⟩), .agg #[.int .u64 N, .int .i64 c],
        .func (.func 92) #[] #[.pointer (some ⟨w.heap.size + 1 + 1, 0, none⟩)], .agg #[.int .u64 M, .int .i64 ((c - x : Nat) : Int)], s 0, s 1, s 2, s 3, s 4, undef], defers := [] })
      (fun V => V = W.drew) (fun _ _ => True) (fun i v _ => v = [.int .i64 A, .pointer (some ⟨k, 0, none⟩), .int .u64 M, .int .i64 R, .int .i64 ((A : Int) + R)].getD i undef)
      ⟨fun _ => undef, rfl⟩ ?put rfl (fun _ _ _ _ h _ => h) ?step ?tail
    case put =>
      intro i o s v hi ho
      rcases (show i = 0 ∨ i = 1 ∨ i = 2 ∨ i = 3 ∨ i = 4 by omega) with rfl | rfl | rfl | rfl | rfl
      all_goals
        simp at ho
        subst ho
        simp [Act.put]
    case step =>
      rintro i o s _ hi ho rfl hd Q' hQ
      have hcc := hbx.cell
      rcases (show i = 0 ∨ i = 1 ∨ i = 2 ∨ i = 3 ∨ i = 4 by omega) with rfl | rfl | rfl | rfl | rfl
      all_goals
        simp at ho
        subst ho
        simp [Act.put] at hQ
        have hQ' := hide hQ
        clear hQ
      case inl =>
        clear hd
        gi_wp2
        exact hQ'.out
      case inr.inl =>
        clear hd
        gi_wp2
        exact hQ'.out
      case inr.inr.inl =>
        have e1 : s 1 = .pointer (some ⟨k, 0, none⟩) := hd 1 (by kernel_rfl)
        clear hd
        gi_wp2
        exact hQ'.out
      case inr.inr.inr.inl =>
        have e1 : s 2 = .int .u64 M := hd 2 (by kernel_rfl)
        clear hd
        gi_wp2_with (refine ⟨trivial, ?_⟩; gi_at_call 81; refine (callsIn_wide.2 (hcall _)).mono ?_; rintro e w' ⟨rfl, rfl⟩)
        have hr := hQ'.out
        rw [e1] at hr
        exact hr
      case inr.inr.inr.inr =>
        have e1 : s 0 = .int .i64 A := hd 0 (by kernel_rfl)
        have e2 : s 3 = .int .i64 R := hd 3 (by kernel_rfl)
        have hw := hide (show IntKind.i64.wrap ((A : Int) + R) = (A : Int) + R from IntWalk.i64_in _ (by have := hbd.out; omega))
        have hbb := hbd.out
        clear hd
        gi_wp2
        exact hQ'.out
    case tail =>
      rintro s _ rfl hd
      have e1 : s 4 = .int .i64 ((A : Int) + R) := hd 4 (by omega)
      have hcc := hbx.cell
      have hff := hbx.frozen
      clear hd
      simp only [List.drop_succ_cons, List.drop_zero]
      gi_wp2
      refine ⟨(KeepsSet.setCell _ _ _ (by omega)).trans (KeepsSet.drew _ _), ?_, ?_⟩
      · rw [hnx'.out, Int.natCast_add]
        exact (hbx.set _ : Boxed (W.setCell ⟨w.heap.size + 1, 0, none⟩ (.int .i64 ((A : Int) + R))) _ _ _)
      · exact (hbl.setCell (p := ⟨w.heap.size + 1, 0, none⟩) (by show w.heap.size ≤ w.heap.size + 1; omega) _).drew
  case done =>
    rintro ys W hys ⟨hb, hB⟩ hK
    obtain rfl : ys = List.range c := hys
    rw [List.length_range, hall.out] at hb
    have hcc := hb.cell
    gi_wp2
    refine ⟨by simp, .inl ⟨_, _, rfl, run_takeDeferred hK, ?_⟩⟩
    refine ⟨_, results_tmp rfl _ _ _, rfl, ?_⟩
    exact hB.grown (grownBy_putObj' W _ _) hB.size (fun k e => by cases e; omega)
  case stop =>
    rintro cd pre W _ h _
    exact h.elim

/-- 'make([]int, n)' as in addresses: a block of noughts; the side's cells, put into it. -/
theorem row_in (N c : Nat) (hN : N < 4096) (hc : c ≤ 12) (w : World) : Calls Try.prog 84 #[sdV N c] w fun e w' =>
    ∃ r, e = .returned r ∧ w'.ownsRow w.heap.size 3 1 r c ((stL (bitF N) 0 c).map (Value.int .i64)) ∧ Below w.heap.size w w' := by
  have hcell := fun k hk w => cell_in N c k hN hk w
  unfold sdV at hcell ⊢
  go_enter Try.func84, Try.ntmps84
  go_wp2_with (refine make_blk _ rfl _ _ rfl _ _ c rfl rfl (by first | rfl | omega) (by first | rfl | omega) (by omega) ?_; go_loud (intro w1 hb1 hg1))
  rw [World.size_alloc] at hb1
  have hS1 : SdAt w1 w.heap.size N c := (SdAt.new w N c).kept hg1 (by simp)
  have hB1 : Below w.heap.size w w1 := ((Below.refl _ w).alloc (Nat.le_refl _) _).grown hg1 (by simp) (fun _ e => by cases e)
  clear hg1
  go_loopw [10] (fun i wr => ∃ k : Nat, k ≤ c ∧ i = .int .i64 k ∧ BlkAt wr (w.heap.size + 1) 3 c (intsV c fun i => if i < k then (bitF N i : Int) else 0) ∧ SdAt wr w.heap.size N c ∧ Below w.heap.size w wr) (fun i _ => c - (intOf i).toNat)
  case atStart => exact ⟨0, by omega, rfl, hb1.congr (fun i _ => by rw [if_neg (by omega)]), hS1, hB1⟩
  case round =>
    clear hb1 hS1 hB1
    obtain ⟨k, hk, rfl, hb, hS, hB⟩ := hrel
    by_cases hlt : k < c
    · have hc0 := hS.cell0
      have hc1 := hS.cell1
      have hki : (k : Int) < (c : Int) := by omega
      have hcl := hcell k (by omega) wr
      clear hcell
      go_wp2_with fail
      go_at_call 85
      refine hcl.mono ?_
      clear hcl
      rintro e w2 ⟨rfl, hB2⟩
      have hb2 := hb.of_block (hB2.block _ hb.lt)
      have hS2 := hS.of_block (hB2.block _ hS.lt)
      have hcc := hb2.cell (i := k) (intsV_at hlt)
      have hff := hb2.frozen k
      have hb3 := hb2.setI (p := k) (bitF N k : Int) hlt
      have hS3 : SdAt (w2.setCell ⟨w.heap.size + 1, k, none⟩ (.int .i64 (bitF N k : Int))) w.heap.size N c := hS2.of_block (Below.heap_setCell _ _ _ _ (by show w.heap.size ≠ w.heap.size + 1; omega))
      have hB3 : Below w.heap.size w (w2.setCell ⟨w.heap.size + 1, k, none⟩ (.int .i64 (bitF N k : Int))) := (hB.trans (hB2.mono hB.size)).setCell (p := ⟨w.heap.size + 1, k, none⟩) (by show w.heap.size ≤ w.heap.size + 1; omega) _
      clear hb hS hc0 hc1 hb2 hS2 hB
      go_wp2
      go_roundw
      case rel =>
        refine ⟨k + 1, by omega, by go_num, hb3.congr (fun i _ => ?_), hS3, hB3⟩
        by_cases e : i = k
        · subst e; rw [if_pos rfl, if_pos (by omega)]
        · rw [if_neg e]
          by_cases e2 : i < k
          · rw [if_pos e2, if_pos (by omega)]
          · rw [if_neg e2, if_neg (by omega)]
      case measure => simp [intOf]; omega
    · obtain rfl : k = c := by omega
      clear hcell
      go_wp2
      go_ret
      refine ⟨_, rfl, hb.owns (stL_len _ _ _) (fun i hi => ?_) (by omega) (by omega), hB⟩
      rw [intsV_at hi, if_pos hi, stL_getD _ _ _ _ hi]; rfl
end Go.Proofs.Ytimnhedjapakhaa
/-
  The program's allWithin: whether there are so many numbers, each from 0 up to one.
-/
namespace Go.Proofs.Ytimnhedjapakhaa
open Go.RowKit

theorem ints_form {w : World} {v : Value} {xs : List Int} (h : Ints w v xs) : ∃ a c, v = .slice a xs.length c := by
  rcases h with ⟨a, c, rfl, rfl⟩ | ⟨g, cap, rfl, _⟩
  · exact ⟨_, _, rfl⟩
  · exact ⟨_, _, rfl⟩
theorem ints_open {w : World} {v : Value} {xs : List Int} (h : Ints w v xs) (h0 : 1 ≤ xs.length) : ∃ g cap, v = .slice (some ⟨g, 0, none⟩) xs.length cap ∧ g < w.heap.size ∧ ∀ i, i < xs.length → w.cell? ⟨g, i, none⟩ = some (.int .i64 (xs.getD i 0)) := by
  rcases h with ⟨a, c, rfl, rfl⟩ | ⟨g, cap, rfl, hg, hc⟩
  · simp at h0
  · exact ⟨g, cap, rfl, hg, hc⟩
/-- From 1 to C numbers, each from 0 to M. -/
def withB (xs : List Int) (C : Nat) (M : Int) : Bool := decide (1 ≤ xs.length ∧ xs.length ≤ C) && xs.all (fun x => decide (0 ≤ x ∧ x ≤ M))
theorem withB_short {xs : List Int} {C : Nat} {M : Int} (h : xs.length < 1 ∨ C < xs.length) : withB xs C M = false := by
  unfold withB
  rw [Bool.and_eq_false_iff]
  exact .inl (by simp; omega)
theorem withB_not {xs : List Int} {C : Nat} {M : Int} {i : Nat} (hi : i < xs.length) (h : ¬ (0 ≤ xs.getD i 0 ∧ xs.getD i 0 ≤ M)) : withB xs C M = false := by
  unfold withB
  rw [Bool.and_eq_false_iff]
  refine .inr ?_
  rw [List.all_eq_false]
  refine ⟨xs[i], List.getElem_mem hi, ?_⟩
  rw [List.getD, List.getElem?_eq_getElem hi] at h
  simpa using h
theorem withB_of {xs : List Int} {C : Nat} {M : Int} (h1 : 1 ≤ xs.length) (h2 : xs.length ≤ C) (h : ∀ i, i < xs.length → 0 ≤ xs.getD i 0 ∧ xs.getD i 0 ≤ M) : withB xs C M = true := by
  unfold withB
  rw [Bool.and_eq_true, List.all_eq_true]
  refine ⟨by simp; omega, fun x hx => ?_⟩
  obtain ⟨i, hi, rfl⟩ := List.mem_iff_getElem.1 hx
  have := h i hi
  rw [List.getD, List.getElem?_eq_getElem hi] at this
  simpa using this

set_option maxHeartbeats 400000 in
theorem allWithin_in (v : Value) (xs : List Int) (C : Nat) (M : Int) (w : World) (hv : Ints w v xs) (hC : C ≤ 1000000) (hl : xs.length ≤ 1000000000) : Calls Try.prog 64 #[v, .int .i64 C, .int .i64 M] w fun e w' => e = .returned (.bool (withB xs C M)) ∧ w = w' := by
  by_cases h : xs.length < 1 ∨ C < xs.length
  · obtain ⟨a, c, rfl⟩ := ints_form hv
    have hr := hide (withB_short (M := M) h)
    clear hv
    generalize xs.length = nx at *
    by_cases h1 : nx < 1
    · clear h
      go_enter Try.func64, Try.ntmps64
      go_wp2
      go_ret
      exact ⟨by rw [hr.out]; rfl, rfl⟩
    · have h2 : ¬ (nx : Int) < 1 := by omega
      have h3 : (C : Int) < nx := by omega
      clear h
      go_enter Try.func64, Try.ntmps64
      go_wp2
      go_ret
      exact ⟨by rw [hr.out]; rfl, rfl⟩
  · obtain ⟨gx, cx, rfl, hgx, hcx⟩ := ints_open hv (by omega)
    clear hv
    have hno : ∀ i, i < xs.length → ¬ (0 ≤ xs.getD i 0 ∧ xs.getD i 0 ≤ M) → withB xs C M = false := fun i hi h => withB_not hi h
    have hyes : (∀ i, i < xs.length → 0 ≤ xs.getD i 0 ∧ xs.getD i 0 ≤ M) → withB xs C M = true := fun h0 => withB_of (by omega) (by omega) h0
    obtain ⟨nx, hnx⟩ : ∃ n, xs.length = n := ⟨_, rfl⟩
    rw [hnx] at h hcx hno hyes ⊢
    have h2 : ¬ (nx : Int) < 1 := by omega
    have h3 : ¬ (C : Int) < nx := by omega
    have hb : nx ≤ 1000000 := by omega
    clear hnx hl
    go_enter Try.func64, Try.ntmps64
    go_wp2
    go_loop [20] (fun n => ∃ k : Nat, k ≤ nx ∧ n = .int .i64 k ∧ Hid (∀ i, i < k → 0 ≤ xs.getD i 0 ∧ xs.getD i 0 ≤ M)) (fun n => nx - (intOf n).toNat)
    case atStart => exact ⟨0, by omega, rfl, hide (fun i hi => by omega)⟩
    case round =>
      obtain ⟨k, hk, rfl, hxk⟩ := hrel
      by_cases hlt : k < nx
      · have hc := hcx k hlt
        have hki : (k : Int) < (nx : Int) := by omega
        by_cases hxo : 0 ≤ xs.getD k 0 ∧ xs.getD k 0 ≤ M
        · have hxk' : Hid (∀ i, i < k + 1 → 0 ≤ xs.getD i 0 ∧ xs.getD i 0 ≤ M) := hide (fun i hi => by
            by_cases e : i = k
            · subst e; exact hxo
            · exact hxk.out i (by omega))
          obtain ⟨z, hz⟩ : ∃ z, xs.getD k 0 = z := ⟨_, rfl⟩
          rw [hz] at hc hxo
          obtain ⟨hz1, hz2⟩ := hxo
          clear hz hcx hxk hno hyes
          go_wp2_with (go_at_call 66; refine (within_t _ _ _ (by assumption) (by assumption)).mono ?_; rintro e w' ⟨rfl, rfl⟩)
          go_round
          case rel => exact ⟨k + 1, by omega, by go_num, hxk'⟩
          case measure => simp [intOf]; omega
        · have hr := hide (hno k hlt hxo)
          obtain ⟨z, hz⟩ : ∃ z, xs.getD k 0 = z := ⟨_, rfl⟩
          rw [hz] at hc hxo
          have hzb : z < 0 ∨ M < z := by omega
          clear hz hcx hxk hxo hno hyes
          go_wp2_with (go_at_call 66; refine (within_f _ _ _ (by assumption)).mono ?_; rintro e w' ⟨rfl, rfl⟩)
          go_ret
          exact ⟨by rw [hr.out]; rfl, rfl⟩
      · obtain rfl : k = nx := by omega
        have hr := hide (hyes hxk.out)
        clear hcx hxk hno hyes
        go_wp2
        go_ret
        exact ⟨by rw [hr.out]; rfl, rfl⟩
end Go.Proofs.Ytimnhedjapakhaa
/-
  The program's chapter 9: SideOk, UnderOf, OnesIn, LastOf and CountBalanced at every argument.
-/
namespace Go.Proofs.Ytimnhedjapakhaa
open Go.RowKit Go.Shelf

theorem implSide (v : Value) (xs : List Int) (w : World) (hv : Ints w v xs) (hl : xs.length ≤ 1000000000) : Calls Try.prog 33 #[v] w fun e w' => e = .returned (.bool (sideB xs)) ∧ Below w.heap.size w w' := by
  have hW := allWithin_in v xs 12 1 w hv (by omega) hl
  have hs : withB xs 12 1 = sideB xs := rfl
  rw [hs] at hW
  clear hs hv hl
  generalize sideB xs = B at *
  go_enter Try.func33, Try.ntmps33
  go_wp2_with (go_at_call 64; refine hW.mono ?_; rintro e w' ⟨rfl, rfl⟩)
  go_ret
  exact ⟨rfl, Below.refl _ _⟩

set_option maxHeartbeats 400000 in
theorem sideOf_in (v : Value) (xs : List Int) (w : World) (hv : Ints w v xs) (hs : sideB xs = true) : Calls Try.prog 46 #[v] w fun e w' => e = .returned (sdV (numF (natL xs) xs.length) xs.length) ∧ Below w.heap.size w w' := by
  have hl := sideB_len hs
  obtain ⟨gx, cx, rfl, hgx, hcx⟩ := ints_open hv hl.1
  have hb : ∀ i, natL xs i ≤ 1 := side_bit hs
  have hlt := fun k => numF_lt hb k
  have hcx' : ∀ i, i < xs.length → w.cell? ⟨gx, i, none⟩ = some (.int .i64 (natL xs i)) := fun i hi => by rw [hcx i hi, side_get hs hi]
  clear hv hcx hs
  generalize hF : natL xs = f at *
  generalize xs.length = n at *
  clear hF
  have hst : ∀ k, numF f (k + 1) = numF f k + f k * 2 ^ k := fun k => rfl
  unfold sdV
  go_enter Try.func46, Try.ntmps46
  go_wp2
  have hS0 : SdAt (w.alloc (.cells #[.int .u64 0, .int .i64 0] 71)) w.heap.size 0 0 := SdAt.new w 0 0
  have hB0 : Below w.heap.size w (w.alloc (.cells #[.int .u64 0, .int .i64 0] 71)) := (Below.refl _ w).alloc (Nat.le_refl _) _
  have hcy : ∀ i, i < n → (w.alloc (.cells #[.int .u64 0, .int .i64 0] 71)).cell? ⟨gx, i, none⟩ = some (Value.int IntKind.i64 (f i)) := fun i hi => (hB0.cell (p := ⟨gx, i, none⟩) hgx).trans (hcx' i hi)
  generalize w.alloc (.cells #[.int .u64 0, .int .i64 0] 71) = W1 at *
  clear hcx'
  go_loop [3, 8] (fun s i => ∃ k : Nat, k ≤ n ∧ i = .int .i64 k ∧ s = .int .u64 (numF f k)) (fun _ i => n - (intOf i).toNat)
  case atStart => exact ⟨0, by omega, rfl, rfl⟩
  case round =>
    obtain ⟨k, hk, rfl, rfl⟩ := hrel
    by_cases hk2 : k < n
    · have hc := hcy k hk2
      have hki : (k : Int) < (n : Int) := by omega
      have h2 := hlt k
      have h3 := hb k
      have h4 := hst k
      have h5 : 2 ^ k ≤ 2 ^ 11 := Nat.pow_le_pow_right (by omega) (by omega)
      have h6 : numF f k ||| f k * 2 ^ k = numF f k + f k * 2 ^ k := by
        have := Nat.two_pow_add_eq_or_of_lt h2 (f k)
        rw [Nat.mul_comm (f k), Nat.or_comm, ← this, Nat.add_comm]
      rw [← h4] at h6
      have h7 : f k * 2 ^ k ≤ 1 * 2 ^ 11 := Nat.mul_le_mul h3 h5
      have h8 := bits_or_u64_nat (numF f k) (f k * 2 ^ k) (by omega) (by omega)
      rw [h6] at h8
      have h9 : (f k : Int) * (2 : Int) ^ k = ((f k * 2 ^ k : Nat) : Int) := by simp
      clear hcy h4 h6 hb hlt hst
      obtain ⟨B, hnx⟩ : ∃ B, numF f (k + 1) = B := ⟨_, rfl⟩
      rw [hnx] at h8
      have hnx' := hide hnx
      clear hnx
      generalize numF f k = A at *
      generalize f k * 2 ^ k = Y at *
      generalize f k = x at *
      have hw : IntKind.u64.wrap (Y : Int) = Y := IntWalk.u64_in _ (by omega)
      have hA : A < 2048 := by omega
      clear h2 h5
      go_wp2
      go_round
      case rel => exact ⟨k + 1, by omega, by go_num, by rw [hnx'.out]⟩
      case measure => simp [intOf]; omega
    · obtain rfl : k = n := by omega
      have hd0 := hS0.cell0
      have hd1 := hS0.cell1
      have hf0 := hS0.frozen 0
      have hf1 := hS0.frozen 1
      clear hcy
      go_wp2
      refine bodyPost_ret (results_side rfl _ _ w.heap.size _ k rfl (hS0.set (numF f k) k)) rfl ⟨rfl, ?_⟩
      exact (hB0.setCell (p := ⟨w.heap.size, 0, none⟩) (Nat.le_refl _) _).setCell (p := ⟨w.heap.size, 1, none⟩) (Nat.le_refl _) _

theorem implUndr (v : Value) (xs : List Int) (w : World) (hv : Ints w v xs) (_hlies : Lies v) (hl : xs.length ≤ 10000000) : Calls Try.prog 73 #[v] w fun e w' =>
    ∃ r, e = .returned r ∧ w'.ownsRow w.heap.size 3 1 r (undrV xs).length ((undrV xs).map (Value.int .i64)) ∧ Below w.heap.size w w' := by
  have hS := implSide v xs w hv (by omega)
  by_cases hs : sideB xs = true
  · have hsl := sideB_len hs
    have hO := fun w1 (h : Ints w1 v xs) => sideOf_in v xs w1 h hs
    have hnl := numF_lt (side_bit hs) xs.length
    have hn12 : numF (natL xs) xs.length < 4096 := Nat.lt_of_lt_of_le hnl (Nat.le_trans (Nat.pow_le_pow_right (by omega) hsl.2) (by decide))
    have hv2 : stL (bitF (downN (xs.length - 1) (numF (natL xs) xs.length))) 0 (xs.length - 1) = undrV xs := by
      rw [undrV_yes hs]
      unfold stL
      refine List.map_congr_left fun k hk => ?_
      have hk' := List.mem_range.1 hk
      show ((bitF (downN (xs.length - 1) (numF (natL xs) xs.length)) k : Nat) : Int) = _
      rw [downN_bit _ _ _ hk']
      simp only [st]
      rw [numF_bit (side_bit hs) _ _ (by omega), numF_bit (side_bit hs) _ _ (by omega)]
    have hul : (undrV xs).length = xs.length - 1 := by rw [← hv2, stL_len]
    rw [hs] at hS
    obtain ⟨l, hl1⟩ : ∃ l, xs.length = l + 1 := ⟨xs.length - 1, by omega⟩
    have hU := fun w => under_in (numF (natL xs) (l + 1)) l (by rw [← hl1]; exact hn12) (by omega) w
    have hdl := downN_lt l (numF (natL xs) (l + 1))
    have hR := fun w => row_in (downN l (numF (natL xs) (l + 1))) l (Nat.lt_of_lt_of_le hdl (Nat.le_trans (Nat.pow_le_pow_right (by omega) (by omega : l ≤ 12)) (by decide))) (by omega) w
    have hOv := fun w1 (hB : Below w.heap.size w w1) => hO w1 (hv.below hB)
    rw [hl1, Nat.add_sub_cancel] at hv2
    rw [hl1, Nat.add_sub_cancel] at hul
    rw [hv2] at hR
    rw [hl1] at hOv
    have hul' := hide hul
    clear hv hO hnl hn12 hv2 hul hl1 hsl hs hdl
    generalize sdV (downN l (numF (natL xs) (l + 1))) l = S2 at *
    generalize sdV (numF (natL xs) (l + 1)) (l + 1) = S1 at *
    go_enter Try.func73, Try.ntmps73
    go_wp2_with (first
      | (go_at_call 33; refine hS.mono ?_; clear hS; rintro e w1 ⟨rfl, hB⟩)
      | (go_at_call 46; refine (hOv _ hB).mono ?_; clear hOv; rintro e w2 ⟨rfl, hB2⟩)
      | (go_at_call 83; refine (hU _).mono ?_; clear hU; rintro e w3 ⟨rfl, hB3⟩)
      | (go_at_call 84; refine (hR _).mono ?_; clear hR; rintro e w4 ⟨r, rfl, hown, hB4⟩))
    go_ret
    have hB23 := hB.trans ((hB2.trans (hB3.mono hB2.size)).mono hB.size)
    exact ⟨_, rfl, by rw [hul'.out]; exact owns_from hown hB23.size, hB23.trans (hB4.mono hB23.size)⟩
  · have hs' : sideB xs = false := by simpa using hs
    rw [undrV_no hs']
    rw [hs'] at hS
    clear hs hs' hv hl
    go_enter Try.func73, Try.ntmps73
    go_wp2_with (go_at_call 33; refine hS.mono ?_; rintro e w1 ⟨rfl, hB⟩)
    go_ret
    exact ⟨_, rfl, World.ownsRow_nil _ _ _ _, hB⟩

/-- The side of a row, and what its triangle holds. -/
theorem onesN_side {xs : List Int} (h : sideB xs = true) : (onesN xs.length (numF (natL xs) xs.length) : Int) = onesV xs := by
  rw [onesV_yes h, ones_num (side_bit h)]

theorem implOnes (v : Value) (xs : List Int) (w : World) (hv : Ints w v xs) (_hlies : Lies v) (hl : xs.length ≤ 10000000) : Calls Try.prog 16 #[v] w fun e w' => e = .returned (.int .i64 (onesV xs)) ∧ Below w.heap.size w w' := by
  have hS := implSide v xs w hv (by omega)
  by_cases hs : sideB xs = true
  · have hsl := sideB_len hs
    have hO := fun w1 (h : Ints w1 v xs) => sideOf_in v xs w1 h hs
    have hnl := numF_lt (side_bit hs) xs.length
    have hD := fun w => onesDown_in (numF (natL xs) xs.length) xs.length hnl hsl.2 w
    rw [onesN_side hs] at hD
    rw [hs] at hS
    have hOv := fun w1 (hB : Below w.heap.size w w1) => hO w1 (hv.below hB)
    clear hv hO hnl hs hsl
    generalize sdV (numF (natL xs) xs.length) xs.length = S1 at *
    generalize onesV xs = V at *
    go_enter Try.func16, Try.ntmps16
    go_wp2_with (first
      | (go_at_call 33; refine hS.mono ?_; clear hS; rintro e w1 ⟨rfl, hB⟩)
      | (go_at_call 46; refine (hOv _ hB).mono ?_; clear hOv; rintro e w2 ⟨rfl, hB2⟩)
      | (go_at_call 47; refine (hD _).mono ?_; clear hD; rintro e w3 ⟨rfl, hB3⟩))
    go_ret
    exact ⟨rfl, hB.trans ((hB2.trans (hB3.mono hB2.size)).mono hB.size)⟩
  · have hs' : sideB xs = false := by simpa using hs
    rw [onesV_no hs']
    rw [hs'] at hS
    clear hs hs' hv hl
    go_enter Try.func16, Try.ntmps16
    go_wp2_with (go_at_call 33; refine hS.mono ?_; rintro e w1 ⟨rfl, hB⟩)
    go_ret
    exact ⟨rfl, hB⟩

theorem und_under {a b : Nat} (ha : a ≤ 999999999) (hb : b ≤ 999999999) : underV a b 2 = und 2 a b := by
  have := underV_nat (b := 2) ha hb (by omega) (by omega)
  exact this

theorem tri_two (c : Nat) : 2 * (c * (c + 1) / 2) = c * (c + 1) := by
  have : c * (c + 1) % 2 = 0 := by
    rcases Nat.mod_two_eq_zero_or_one c with h | h
    · rw [Nat.mul_mod, h]; simp
    · rw [Nat.mul_mod, Nat.add_mod, h]
  omega

end Go.Proofs.Ytimnhedjapakhaa
/-
  The program's TurnedOf at every argument.
-/
namespace Go.Proofs.Ytimnhedjapakhaa
open Go.RowKit Go.Shelf
attribute [local go_sem] Oper.semAt_some

/-- The first k cells of the side. -/
def turnU (N c k : Nat) : List Value := (List.range k).map fun j => Value.int .i64 (bitF (rowB c N j) (c - 1 - j) : Int)
theorem turnU_len (N c k : Nat) : (turnU N c k).length = k := by simp [turnU]
theorem turnU_next (N c k : Nat) : turnU N c k ++ [Value.int .i64 (bitF (rowB c N k) (c - 1 - k) : Int)] = turnU N c (k + 1) := by simp [turnU, List.range_succ]
theorem turnU_all {xs : List Int} (h : sideB xs = true) : turnU (numF (natL xs) xs.length) xs.length xs.length = (turnV xs).map (Value.int .i64) := by
  rw [turnV_yes h]
  unfold turnU
  rw [List.map_map]
  refine List.map_congr_left fun j hj => ?_
  have hj' := List.mem_range.1 hj
  show Value.int .i64 _ = Value.int .i64 _
  rw [rowB_bit _ _ (by omega)]
  show Value.int .i64 (st (bitF (numF (natL xs) xs.length)) j (xs.length - 1 - j) : Int) = Value.int .i64 (st (natL xs) j (xs.length - 1 - j) : Int)
  rw [st_congr j _ (fun i _ h2 => numF_bit (side_bit h) xs.length i (by omega))]

/-- What is known in a round of TurnedOf. -/
structure TnAx (w0 n0 B g c N : Nat) (w W : World) (pre : List Nat) (x b : Nat) : Prop where
  side : SdAt W b (rowB c N x) (c - x)
  box : Boxed W B 23 (.slice (some ⟨g, 0, none⟩) x c)
  own : W.ownsRow w0 3 1 (.slice (some ⟨g, 0, none⟩) x c) x (turnU N c x)
  below : Below w0 w W
  pre : pre = List.range x
  lt : x < c
  at_ : n0 ≤ b

set_option maxRecDepth 100000 in
set_option maxHeartbeats 1000000 in
theorem implTurned_in (v : Value) (xs : List Int) (w : World) (hv : Ints w v xs) (hs : sideB xs = true) : Calls Try.prog 74 #[v] w fun e w' =>
    ∃ r, e = .returned r ∧ w'.ownsRow w.heap.size 3 1 r xs.length ((turnV xs).map (Value.int .i64)) ∧ Below w.heap.size w w' := by
  have hsl := sideB_len hs
  have hS := implSide v xs w hv (by omega)
  rw [hs] at hS
  have hO := fun w1 (hB : Below w.heap.size w w1) => sideOf_in v xs w1 (hv.below hB) hs
  have hN := numF_lt (side_bit hs) xs.length
  have hall := hide (turnU_all hs)
  obtain ⟨a, cp, rfl⟩ := ints_form hv
  have hc := hsl.2
  have hc1 := hsl.1
  clear hs hv hsl
  generalize numF (natL xs) xs.length = N at *
  generalize xs.length = c at *
  refine (callsIn_wide (n := 9)).1 ?_
  refine callsIn_of_wp_marks Try.func74 rfl trivial ?_ rfl
  simp only [Try.ntmps74, List.size_toArray, List.length_cons, List.length_nil, Nat.reduceAdd, Nat.reduceSub, Array.replicate_succ, Array.replicate_zero, List.push_toArray, List.append_toArray, List.nil_append, List.cons_append]
  obtain ⟨i0, hi, hz0, hz1, hz2⟩ := info_parts Try.infoInt
  have hD := fun w => down_in N c w
  gi_wp2_with (first
    | (refine ⟨trivial, ?_⟩; gi_at_call 33; refine (callsIn_wide.2 hS).mono ?_; clear hS; rintro e w1 ⟨rfl, hB1⟩)
    | (gi_at_make; refine wpListIn_make_own _ rfl _ _ 23 rfl w.heap.size 3 i0 (.int .i64 0) 1 Try.underlying23 hi hz0 hz1 .i64 .i64 c c rfl rfl rfl (by rw [hz2]; omega) (by unfold maxLen; omega) hB1.size ?_; intro w2 hown hg2)
    | (refine ⟨trivial, ?_⟩; gi_at_call 46; fail))
  have hgl : w1.heap.size < w2.heap.size := by
    rcases hown.2 with ⟨h, _⟩ | ⟨g', cap', cur, h, _, hg, _⟩
    · cases h
    · cases h; exact (Array.getElem?_eq_some_iff.1 hg).1
  have hB2 : Below w.heap.size w (w2.alloc (.cells #[.slice (some ⟨w1.heap.size, 0, none⟩) 0 c] 23)) := (hB1.grown hg2 hB1.size (fun _ e => by cases e)).alloc (Nat.le_trans hB1.size hg2.size) _
  have hbx2 : Boxed (w2.alloc (.cells #[.slice (some ⟨w1.heap.size, 0, none⟩) 0 c] 23)) w2.heap.size 23 (.slice (some ⟨w1.heap.size, 0, none⟩) 0 c) := Boxed.new _ _ _
  have hown2 := hown.alloc (.cells #[.slice (some ⟨w1.heap.size, 0, none⟩) 0 c] 23)
  have hgb : w.heap.size ≤ w1.heap.size := hB1.size
  generalize w1.heap.size = g at *
  obtain ⟨W2, hW2⟩ : ∃ W2, w2.alloc (.cells #[.slice (some ⟨g, 0, none⟩) 0 c] 23) = W2 := ⟨_, rfl⟩
  have hsz : w2.heap.size < W2.heap.size := by rw [← hW2]; simp
  rw [hW2] at hB2 hbx2 hown2 ⊢
  generalize w2.heap.size = B at *
  clear hW2 hown hg2 hB1
  refine ⟨trivial, ?_⟩
  gi_at_call 46
  refine (callsIn_wide.2 (hO _ hB2)).mono ?_
  clear hO
  rintro e w4 ⟨rfl, hB4⟩
  have hbx4 : Boxed w4 B 23 (.slice (some ⟨g, 0, none⟩) 0 c) := (hB4.block _ hbx2.lt).trans hbx2
  have hown4 := own_below hown2 hB4
  have hBw4 := hB2.trans (hB4.mono hB2.size)
  have hsz4 : B < w4.heap.size := hbx4.lt
  clear hbx2 hown2 hB2 hB4 hsz
  unfold sdV at hD
  unfold sdV
  gi_wp2_with (refine ⟨trivial, ?_⟩; gi_at_call 80; refine (callsIn_wide.2 (hD _)).mono ?_; rintro e w' ⟨rfl, rfl⟩)
  clear hD
  obtain ⟨W0, hW0⟩ : ∃ W0, w4.alloc (Obj.cells #[Value.int IntKind.u64 N, Value.int IntKind.i64 c] 71) = W0 := ⟨_, rfl⟩
  have hbx0 : Boxed W0 B 23 (.slice (some ⟨g, 0, none⟩) 0 c) := by rw [← hW0]; exact hbx4.alloc _
  have hown0 : W0.ownsRow w.heap.size 3 1 (.slice (some ⟨g, 0, none⟩) 0 c) 0 [] := by rw [← hW0]; exact hown4.alloc _
  have hB0 : Below w.heap.size w W0 := by rw [← hW0]; exact hBw4.alloc hBw4.size _
  have hs0 : SdAt W0 w4.heap.size N c := by rw [← hW0]; exact SdAt.new _ _ _
  have hsz0 : w4.heap.size < W0.heap.size := by rw [← hW0]; simp
  rw [hW0]
  clear hW0 hbx4 hown4 hBw4
  generalize w4.heap.size = S at *
  refine wpIn_rangeFunc_box rfl (by omega) (gf := 92) (lb := #[.pointer (some ⟨S, 0, none⟩)]) rfl trivial (enters_of Try.func92 (by kernel_rfl) rfl)
    (down_stops (9 - 1) S N c hN hc (by omega) W0 hs0) (fun _ _ => rfl) (by omega)
    (fun ys W o h => h) (fun pre W o h => h)
    (fun pre W => Boxed W B 23 (.slice (some ⟨g, 0, none⟩) pre.length c) ∧ W.ownsRow w.heap.size 3 1 (.slice (some ⟨g, 0, none⟩) pre.length c) pre.length (turnU N c pre.length) ∧ Below w.heap.size w W) (fun _ _ _ => False)
    (fun s A B' row hs hg hr => ⟨hs.1.kept hg (fun e => by have := hr _ e.symm; omega), hs.2.1.kept hg (.inr (fun (e : some g = row) => by have := hr _ e.symm; omega)), hs.2.2.grown hg hs.2.2.size (fun k e => by have := hr _ e; omega)⟩)
    (fun _ _ _ _ _ hs _ _ => hs) ⟨hbx0, hown0, hB0⟩
    (fun pre x b W => ∃ k, b = { tmps := #[.slice a c cp, undef, .slice none 0 0, .pointer (some ⟨B, 0, none⟩), .pointer (some ⟨k, 0, none⟩), .slice a c cp, .bool true, .bool false, .slice a c cp, .int .i64 c, .slice (some ⟨g, 0, none⟩) 0 c, .slice a c cp, .agg #[.int .u64 N, .int .i64 c],
      .func (.func 92) #[] #[.pointer (some ⟨S, 0, none⟩)], .agg #[.int .u64 (rowB c N x), .int .i64 ((c - x : Nat) : Int)], undef, undef, undef, undef, undef, undef, undef, undef, undef], defers := [] } ∧ TnAx w.heap.size (W0.heap.size + 2) B g c N w W pre x k)
    (fun pre x b W o ⟨k, hb, hO⟩ => ⟨k, hb, hO.side.of_block (World.putObj_heap_other (by have := hO.at_; omega)), hO.box.kept (grownBy_putObj' W _ _) (by simp; omega), hO.own.kept (grownBy_putObj' W _ _) (by simp [Value.ownBlock]; omega), hO.below.grown (grownBy_putObj' W _ _) hO.below.size (fun k e => by cases e; omega), hO.pre, hO.lt, hO.at_⟩) ?assign ?body ?done ?stop
  case assign =>
    rintro l pre x W Q' hlt ⟨hb, ho, hB⟩ ⟨hpre, hx⟩ hQ
    have hpl : pre.length = x := by rw [hpre, List.length_range]
    rw [hpl] at hb ho
    have hQ' := hide hQ
    clear hQ hpl hall
    unfold sdV
    gi_wp2
    exact hQ'.out _ _ (KeepsSet.of_grownBy (World.grownBy_alloc W _ none) (fun _ e => by cases e)) ⟨W.heap.size, rfl, SdAt.new W _ _, hb.alloc _, ho.alloc _, hB.alloc hB.size _, hpre, hx, by omega⟩
  case body =>
    rintro l pre x b W hlt ⟨k, rfl, hO⟩
    have hxc := hO.lt
    have hpl : (pre ++ [x]).length = x + 1 := by rw [List.length_append, hO.pre, List.length_range]; rfl
    have hnext := turnU_next N c x
    have hM := rowB_small hN hc x
    have hcell := fun V => cell_in (rowB c N x) (c - x) (c - 1 - x) hM (by omega) V
    have hbx := hO.box
    have hsd := hO.side
    have hk := hO.side.lt
    have hka := hO.at_
    have hbl := hO.below
    have how := hO.own
    clear hO
    unfold sdV at hcell
    have hbit := bitF_le (rowB c N x) (c - 1 - x)
    generalize rowB c N x = M at *
    generalize bitF M (c - 1 - x) = z at *
    have hpl' := hide hpl
    have hnext' := hide hnext
    obtain ⟨d, hd⟩ : ∃ d, c - x = d + 1 := ⟨c - x - 1, by omega⟩
    rw [hd] at hcell hsd ⊢
    rw [show c - 1 - x = d by omega] at hcell
    have hd12 : d < 12 := by omega
    clear hpl hnext hall hd
    gi_wp2
    refine wpIn_region_kinds 7 (by kernel_rfl) (by kernel_rfl) (by kernel_rfl) (by decide)
      (fun s => { tmps := #[.slice a c cp, undef, .slice none 0 0, .pointer (some ⟨B, 0, none⟩), .pointer (some ⟨k, 0, none⟩), .slice a c cp, .bool true, .bool false, .slice a c cp, .int .i64 c, .slice (some ⟨g, 0, none⟩) 0 c, .slice a c cp, .agg #[.int .u64 N, .int .i64 c],
      .func (.func 92) #[] #[.pointer (some ⟨S, 0, none⟩)], .agg #[.int .u64 M, .int .i64 ((d + 1 : Nat) : Int)], s 0, s 1, s 2, s 3, s 4, s 5, s 6, undef, undef], defers := [] })
      [.val (.slice (some ⟨g, 0, none⟩) x c), .val (.agg #[.int .u64 M, .int .i64 ((d + 1 : Nat) : Int)]), .val (.pointer (some ⟨k, 1, none⟩)), .val (.int .i64 ((d + 1 : Nat) : Int)), .val (.int .i64 d), .val (.int .i64 z), .one (.int .i64 z)]
      ⟨fun _ => undef, rfl⟩ ?put ?step ?tail
    case put =>
      intro i o s v hi ho
      rcases (show i = 0 ∨ i = 1 ∨ i = 2 ∨ i = 3 ∨ i = 4 ∨ i = 5 ∨ i = 6 by omega) with rfl | rfl | rfl | rfl | rfl | rfl | rfl
      all_goals
        simp at ho
        subst ho
        simp [Act.put]
    case step =>
      rintro i o s V hi ho hV hd Q' hQ
      rcases (show i = 0 ∨ i = 1 ∨ i = 2 ∨ i = 3 ∨ i = 4 ∨ i = 5 ∨ i = 6 by omega) with rfl | rfl | rfl | rfl | rfl | rfl | rfl
      all_goals
        simp at ho
        subst ho
        simp [Act.put] at hQ
        have hQ' := hide hQ
        clear hQ
      case inl =>
        have hcc := (boxed_below hbx hV).cell
        clear hd
        gi_wp2
        exact hQ'.out _ _ (Below.refl _ _) rfl
      case inr.inl =>
        have h0 := (hsd.of_block (hV.block _ hsd.lt)).cell0
        have h1 := (hsd.of_block (hV.block _ hsd.lt)).cell1
        clear hd
        gi_wp2
        exact hQ'.out _ _ (Below.refl _ _) rfl
      case inr.inr.inl =>
        clear hd
        gi_wp2
        exact hQ'.out _ _ (Below.refl _ _) rfl
      case inr.inr.inr.inl =>
        have e1 : s 2 = .pointer (some ⟨k, 1, none⟩) := hd 2 (by kernel_rfl)
        have h1 := (hsd.of_block (hV.block _ hsd.lt)).cell1
        clear hd
        gi_wp2
        exact hQ'.out _ _ (Below.refl _ _) rfl
      case inr.inr.inr.inr.inl =>
        have e1 : s 3 = .int .i64 ((d + 1 : Nat) : Int) := hd 3 (by kernel_rfl)
        have hw : IntKind.i64.wrap (d : Int) = d := IntWalk.i64_in _ (by omega)
        clear hd
        gi_wp2
        exact hQ'.out _ _ (Below.refl _ _) rfl
      case inr.inr.inr.inr.inr.inl =>
        have e1 : s 1 = .agg #[.int .u64 M, .int .i64 ((d + 1 : Nat) : Int)] := hd 1 (by kernel_rfl)
        have e2 : s 4 = .int .i64 d := hd 4 (by kernel_rfl)
        clear hd
        gi_wp2_with (refine ⟨trivial, ?_⟩; gi_at_call 85; refine (callsIn_wide.2 (hcell _)).mono ?_; rintro e w' ⟨rfl, hB'⟩)
        have hr := hQ'.out
        rw [e1, e2] at hr
        exact hr _ _ hB' rfl
      case inr.inr.inr.inr.inr.inr =>
        have e1 : s 5 = .int .i64 z := hd 5 (by kernel_rfl)
        clear hd
        gi_wp2
        refine hQ'.out _ _ ((Below.refl _ V).alloc (Nat.le_refl _) _) ⟨V.heap.size, rfl, by simp, ?_⟩
        exact (Boxed.new V 3 (.int .i64 z)).cell
    case tail =>
      rintro s V hV hd
      have e0 : s 0 = .slice (some ⟨g, 0, none⟩) x c := hd 0 (by omega)
      obtain ⟨q, e6, hq, hcq⟩ : ∃ q, s 6 = .slice (some ⟨q, 0, none⟩) 1 1 ∧ q < V.heap.size ∧ V.cell? ⟨q, 0, none⟩ = some (.int .i64 z) := hd 6 (by omega)
      have hbV := boxed_below hbx hV
      have howV := owns_below how hV
      clear hd
      simp only [List.drop_succ_cons, List.drop_zero]
      refine wpListIn_append_fits _ rfl _ _ 23 rfl w.heap.size 3 i0 1 Try.underlying23 hi hz1 g x c _ e0 howV ⟨q, 0, none⟩ 1 1 [.int .i64 z] e6 rfl (fun j u hj => ?_) (fun u hu => by simp at hu; subst hu; rfl) (by omega) ?_
      · match j, hj with
        | 0, hj => simp at hj; subst hj; exact hcq
      · intro W3 how3 hg3
        rw [hnext'.out] at how3
        have hb3 := hbV.kept hg3 (by simp; omega)
        have hcc := hb3.cell
        have hff := hb3.frozen
        gi_wp2
        have hV3 := hV.size
        refine ⟨(⟨hV.size, fun k hk _ => hV.block k hk⟩ : KeepsSet _ W V).trans ((KeepsSet.of_grownBy hg3 (fun r e => by cases e; omega)).trans (KeepsSet.setCell _ _ _ (by omega))), ?_, ?_, ?_⟩
        · rw [hpl'.out]; exact hb3.set _
        · rw [hpl'.out]; exact how3.kept (grownBy_setCell' W3 B _) (by simp [Value.ownBlock]; omega)
        · exact ((hbl.trans (hV.mono hbl.size)).grown hg3 (Nat.le_trans hbl.size hV.size) (fun k e => by cases e; omega)).setCell (p := ⟨B, 0, none⟩) (by show w.heap.size ≤ B; omega) _
  case done =>
    rintro ys W hys ⟨hb, ho, hB⟩ hK
    obtain rfl : ys = List.range c := hys
    rw [List.length_range] at hb ho
    rw [hall.out] at ho
    have hcc := hb.cell
    gi_wp2
    refine ⟨by simp, .inl ⟨_, _, rfl, run_takeDeferred hK, ?_⟩⟩
    refine ⟨_, results_tmp rfl _ _ _, _, rfl, ?_, ?_⟩
    · exact ho.kept (grownBy_putObj' W _ _) (by simp [Value.ownBlock]; omega)
    · exact hB.grown (grownBy_putObj' W _ _) hB.size (fun k e => by cases e; omega)
  case stop =>
    rintro cd pre W _ h _
    exact h.elim

theorem implTurned (v : Value) (xs : List Int) (w : World) (hv : Ints w v xs) (_hlies : Lies v) (hl : xs.length ≤ 10000000) : Calls Try.prog 74 #[v] w fun e w' =>
    ∃ r, e = .returned r ∧ w'.ownsRow w.heap.size 3 1 r (turnV xs).length ((turnV xs).map (Value.int .i64)) ∧ Below w.heap.size w w' := by
  by_cases hs : sideB xs = true
  · have h := implTurned_in v xs w hv hs
    have hl2 : (turnV xs).length = xs.length := by rw [turnV_yes hs]; simp
    rw [← hl2] at h
    exact h
  · have hs' : sideB xs = false := by simpa using hs
    have hS := implSide v xs w hv (by omega)
    rw [turnV_no hs']
    rw [hs'] at hS
    clear hs hs' hv hl
    go_enter Try.func74, Try.ntmps74
    go_wp2_with (go_at_call 33; refine hS.mono ?_; rintro e w1 ⟨rfl, hB⟩)
    go_ret
    exact ⟨_, rfl, World.ownsRow_nil _ _ _ _, hB⟩
end Go.Proofs.Ytimnhedjapakhaa
/-
  The model's RoundsOf and EndOf: for every ring what they hand back.
-/
namespace Go.Proofs.Ytimnhedjapakhaa
open Go.RowKit

theorem hundred {f : Nat → Nat} (hf : ∀ k, f k ≤ 100) (r : Nat) : ∀ k, dR f r k ≤ 100 := dR_le hf r
theorem dR_next (f : Nat → Nat) (r : Nat) : dF (dR f r) = dR f (r + 1) := rfl

/-- The greatest of the first k numbers. -/
def mostF (f : Nat → Nat) : Nat → Nat
  | 0 => 0
  | k + 1 => max (mostF f k) (f k)
theorem mostF_le {f : Nat → Nat} {M : Nat} (h : ∀ k, f k ≤ M) : ∀ n, mostF f n ≤ M
  | 0 => Nat.zero_le _
  | n + 1 => by have := mostF_le h n; have := h n; show max _ _ ≤ M; omega
theorem mostF_zero {f : Nat → Nat} : ∀ {n : Nat}, mostF f n = 0 ↔ ∀ k, k < n → f k = 0
  | 0 => by simp [mostF]
  | n + 1 => by
    show max (mostF f n) (f n) = 0 ↔ _
    have h := mostF_zero (f := f) (n := n)
    constructor
    · intro h1 k hk
      by_cases e : k = n
      · subst e; omega
      · exact h.1 (by omega) k (by omega)
    · intro h1
      have h2 := h.2 fun k hk => h1 k (by omega)
      have h3 := h1 n (by omega)
      omega

theorem endN_no {xs : List Int} (h : ringB xs = false) : endI xs = -1 ∧ endB xs = false := by
  have : endN xs = none := by unfold endN; rw [h]; rfl
  unfold endI endB; rw [this]; exact ⟨rfl, rfl⟩
theorem endN_at {xs : List Int} (h : ringB xs = true) {r : Nat} (h1 : r ≤ 2000) (h2 : ∀ k, k < xs.length → dR (ringF xs) r k = 0) (h3 : ∀ j, j < r → ¬ ∀ k, k < xs.length → dR (ringF xs) j k = 0) : endI xs = r ∧ endB xs = true := by
  have : endN xs = some r := by
    unfold endN
    rw [if_pos h, firstI_some]
    refine ⟨by omega, zeroB_iff.2 h2, fun j hj => ?_⟩
    cases e : zeroB (ringF xs) xs.length j with
    | false => rfl
    | true => exact absurd (zeroB_iff.1 e) (h3 j hj)
  unfold endI endB; rw [this]; exact ⟨rfl, rfl⟩
theorem endN_none {xs : List Int} (h : ringB xs = true) (h3 : ∀ j, j ≤ 2000 → ¬ ∀ k, k < xs.length → dR (ringF xs) j k = 0) : endI xs = -1 ∧ endB xs = false := by
  have : endN xs = none := by
    unfold endN
    rw [if_pos h, firstI_none]
    intro j hj
    cases e : zeroB (ringF xs) xs.length j with
    | false => rfl
    | true => exact absurd (zeroB_iff.1 e) (h3 j (by omega))
  unfold endI endB; rw [this]; exact ⟨rfl, rfl⟩

end Go.Proofs.Ytimnhedjapakhaa
/-
  The program's circles of chapter 10: rings as values of eight numbers and their count.
-/
namespace Go.Proofs.Ytimnhedjapakhaa
open Go.RowKit Go.BigFrame

/-- The first n numbers of a function, noughts behind them. -/
def cz (f : Nat → Nat) (n i : Nat) : Nat := if i < n then f i else 0
theorem cz_in {f : Nat → Nat} {n i : Nat} (h : i < n) : cz f n i = f i := if_pos h
theorem cz_out {f : Nat → Nat} {n i : Nat} (h : n ≤ i) : cz f n i = 0 := if_neg (by omega)
/-- Eight numbers and a count. -/
def crA (g : Nat → Nat) (n : Nat) : Array Value := #[.int .i64 (g 0 : Nat), .int .i64 (g 1 : Nat), .int .i64 (g 2 : Nat), .int .i64 (g 3 : Nat), .int .i64 (g 4 : Nat), .int .i64 (g 5 : Nat), .int .i64 (g 6 : Nat), .int .i64 (g 7 : Nat), .int .i64 n]
def crV (g : Nat → Nat) (n : Nat) : Value := .agg (crA g n)
theorem crA_at (g : Nat → Nat) (n : Nat) {i : Nat} (h : i < 8) : (crA g n)[i]? = some (.int .i64 (g i : Nat)) := by
  match i, h with
  | 0, _ => rfl
  | 1, _ => rfl
  | 2, _ => rfl
  | 3, _ => rfl
  | 4, _ => rfl
  | 5, _ => rfl
  | 6, _ => rfl
  | 7, _ => rfl
theorem crA_count (g : Nat → Nat) (n : Nat) : (crA g n)[8]? = some (.int .i64 n) := rfl
theorem crA_set (g : Nat → Nat) (n : Nat) {k : Nat} (h : k < 8) (z : Nat) : (crA g n).setIfInBounds k (.int .i64 (z : Nat)) = crA (fun i => if i = k then z else g i) n := by
  match k, h with
  | 0, _ => rfl
  | 1, _ => rfl
  | 2, _ => rfl
  | 3, _ => rfl
  | 4, _ => rfl
  | 5, _ => rfl
  | 6, _ => rfl
  | 7, _ => rfl
theorem crA_congr {g h : Nat → Nat} (n : Nat) (e : ∀ i, i < 8 → g i = h i) : crA g n = crA h n := by
  unfold crA
  rw [e 0 (by omega), e 1 (by omega), e 2 (by omega), e 3 (by omega), e 4 (by omega), e 5 (by omega), e 6 (by omega), e 7 (by omega)]
theorem crV_inj {g h : Nat → Nat} {n m : Nat} (e : crV g n = crV h m) : ∀ i, i < 8 → g i = h i := by
  unfold crV at e
  injection e with e
  intro i hi
  have h1 := crA_at g n hi
  rw [e, crA_at h m hi] at h1
  injection h1 with h1
  injection h1 with _ h1
  omega

/-- A circle in a block of its own. -/
def CrAt (W : World) (b : Nat) (g : Nat → Nat) (n : Nat) : Prop := W.heap[b]? = some (.cells (crA g n) 104 (0, 0))
theorem CrAt.lt {W : World} {b n : Nat} {g : Nat → Nat} (h : CrAt W b g n) : b < W.heap.size := (Array.getElem?_eq_some_iff.1 h).1
theorem CrAt.cell {W : World} {b n : Nat} {g : Nat → Nat} (h : CrAt W b g n) {i : Nat} (hi : i < 8) : W.cell? ⟨b, i, none⟩ = some (.int .i64 (g i : Nat)) := by
  simp [World.cell?, show W.heap[b]? = _ from h, crA_at g n hi]
theorem CrAt.count {W : World} {b n : Nat} {g : Nat → Nat} (h : CrAt W b g n) : W.cell? ⟨b, 8, none⟩ = some (.int .i64 n) := by
  simp [World.cell?, show W.heap[b]? = _ from h, crA_count g n]
theorem CrAt.frozen {W : World} {b n : Nat} {g : Nat → Nat} (h : CrAt W b g n) (i : Nat) : W.frozen? ⟨b, i, none⟩ = false := by simp [World.frozen?, show W.heap[b]? = _ from h]
theorem CrAt.new (W : World) (g : Nat → Nat) (n : Nat) : CrAt (W.alloc (.cells (crA g n) 104)) W.heap.size g n := World.alloc_heap_new W _
theorem CrAt.of_block {W W' : World} {b n : Nat} {g : Nat → Nat} (h : CrAt W b g n) (hb : W'.heap[b]? = W.heap[b]?) : CrAt W' b g n := hb.trans h
theorem CrAt.kept {W W' : World} {row : Option Nat} {b n : Nat} {g : Nat → Nat} (h : CrAt W b g n) (hg : W.grownBy W' row) (hne : some b ≠ row) : CrAt W' b g n := (hg.block b h.lt hne).trans h
theorem CrAt.alloc {W : World} {b n : Nat} {g : Nat → Nat} (h : CrAt W b g n) (o : Obj) : CrAt (W.alloc o) b g n := h.kept (World.grownBy_alloc W o none) (by simp)
theorem cr_block {W : World} {b : Nat} {cur : Array Value} {t : TypeId} (h : W.heap[b]? = some (.cells cur t (0, 0))) (p : Nat) (v : Value) : (W.setCell ⟨b, p, none⟩ v).heap[b]? = some (.cells (cur.setIfInBounds p v) t (0, 0)) := by
  obtain ⟨hlt, hk⟩ := Array.getElem?_eq_some_iff.1 h
  show (W.heap.modify b _)[b]? = _
  rw [Array.getElem?_eq_getElem (by rw [Array.size_modify]; exact hlt), Array.getElem_modify_self, hk]; rfl
theorem CrAt.set {W : World} {b n : Nat} {g : Nat → Nat} (h : CrAt W b g n) {k : Nat} (hk : k < 8) (z : Nat) : CrAt (W.setCell ⟨b, k, none⟩ (.int .i64 (z : Nat))) b (fun i => if i = k then z else g i) n := by
  have := cr_block h k (.int .i64 (z : Nat))
  rwa [crA_set g n hk z] at this
theorem CrAt.congr {W : World} {b n : Nat} {g h : Nat → Nat} (c : CrAt W b g n) (e : ∀ i, i < 8 → g i = h i) : CrAt W b h n := by
  unfold CrAt at *
  rw [c, crA_congr n e]

theorem kindCircle : Try.prog.underlying 104 = some (.struct ((match Try.prog.underlying 104 with | some (.struct fs) => fs | _ => #[]))) := by kernel_rfl
theorem sizeCircle (g : Nat → Nat) (n : Nat) : (Try.prog.info? 104).map (·.size) = some (crA g n).size := show (Try.prog.info? 104).map (·.size) = some 9 by kernel_rfl
theorem crA_one (g : Nat → Nat) (n : Nat) : (crA g n).all (·.oneCell') = true := by simp [crA, Value.oneCell']

theorem results_circle {fn : Func} {p : Tmp} (h : fn.results = #[.cell p 104]) (tmps : Array Value) (w : World) (b : Nat) (g : Nat → Nat) (n : Nat) (hp : tmps.getD p undef = .pointer (some ⟨b, 0, none⟩)) (hs : CrAt w b g n) :
    (results fn tmps).run Try.prog w = .ok (crV g n) w :=
  results_cell_row h tmps w b _ _ _ _ hp hs kindCircle rfl (sizeCircle g n)

section
variable {ops : Array Oper} {rest : List Oper} {o : Oper} {a : Act} {w : World} {Q : Exit → Act → World → Prop}
theorem load_cr (hgd : o.guard = none) (x : Operand) (ho : o.op = .load 104 x) (b : Nat) (hx : a.eval x = .pointer (some ⟨b, 0, none⟩)) {g : Nat → Nat} {n : Nat} (hg : CrAt w b g n)
    (h : wpList Try.prog ops Q rest (a.put o.dst (crV g n)) w) : wpList Try.prog ops Q (o :: rest) a w :=
  wpList_load_row hgd _ x ho b hx _ _ _ _ hg kindCircle rfl (sizeCircle g n) h
theorem grown_setRow (w : World) (b : Nat) (cs : Array Value) : w.grownBy (w.setRow b cs) (some b) := ⟨rfl, rfl, rfl, by simp [World.setRow], fun k _ hk => setRow_other w b k cs (fun e => hk (by rw [e]))⟩
theorem store_cr (hgd : o.guard = none) (x y : Operand) (ho : o.op = .store 104 x y) (b : Nat) (g : Nat → Nat) (n : Nat) (hx : a.eval x = .pointer (some ⟨b, 0, none⟩)) (hy : a.eval y = crV g n)
    {old : Array Value} (hb : w.heap[b]? = some (.cells old 104 (0, 0))) (hs : old.size = 9)
    (h : ∀ w', CrAt w' b g n → w.grownBy w' (some b) → wpList Try.prog ops Q rest (a.put o.dst undef) w') : wpList Try.prog ops Q (o :: rest) a w :=
  wpList_store_row hgd _ x y ho b (crA g n) hx hy _ old hb (sizeCircle g n) hs (crA_one g n) (h _ (setRow_heap w b old _ _ _ hb) (grown_setRow w b _))
theorem box_cr (hgd : o.guard = none) (x : Operand) (ho : o.op = .box 104 x) (g : Nat → Nat) (n : Nat) (hx : a.eval x = crV g n)
    (h : wpList Try.prog ops Q rest (a.put o.dst (.pointer (some ⟨w.heap.size, 0, none⟩))) (w.alloc (.cells (crA g n) 104))) : wpList Try.prog ops Q (o :: rest) a w := by
  refine wpList_plain hgd fun K hK => ?_
  unfold Oper.wp execOp
  have hr : (newVar 104 (crV g n)).run Try.prog w = .ok ⟨w.heap.size, 0, none⟩ (w.alloc (.cells (crA g n) 104)) := by
    unfold crV
    go_simp
  simp only [ho, hx, Instr.box, Sem.run_bind, hr, Result.andThen_ok, Sem.run_pure]
  exact hK _ _ h
end
end Go.Proofs.Ytimnhedjapakhaa
/-
  Circles as keys of a map, and arrays compared.
-/
namespace Go.Proofs.Ytimnhedjapakhaa
open Go.RowKit
theorem arrT : Try.prog.underlying 102 = some (.array 8 3) := by kernel_rfl
theorem laidOut10 : laidOutB Try.prog = true := by kernel_rfl
theorem keyedCircle : Maps.Keyed Try.prog 104 := Maps.Keyed.of_law (deep_law_gate laidOut10 (of_decide_eq_true (by kernel_rfl)) (of_decide_eq_true (by kernel_rfl)) (by kernel_rfl) (by kernel_rfl))
theorem keyedArr : Maps.Keyed Try.prog 102 := Maps.Keyed.of_law (deep_law_gate laidOut10 (of_decide_eq_true (by kernel_rfl)) (of_decide_eq_true (by kernel_rfl)) (by kernel_rfl) (by kernel_rfl))
theorem wf_small {x : Nat} (h : x ≤ 1000000) : (Lit.int .i64 (x : Nat)).wf = true := WalkArith.wf_i64 (by constructor <;> omega)
theorem types_four : ∃ d, Try.prog.types.size + 1 = d + 4 := ⟨Try.prog.types.size - 3, by have : 4 ≤ Try.prog.types.size := of_decide_eq_true (by kernel_rfl); omega⟩
theorem key_arr (g : Nat → Nat) (hg : ∀ i, i < 8 → g i ≤ 1000000) : ∃ l, keyOf Try.prog 102 (.agg #[.int .i64 (g 0 : Nat), .int .i64 (g 1 : Nat), .int .i64 (g 2 : Nat), .int .i64 (g 3 : Nat), .int .i64 (g 4 : Nat), .int .i64 (g 5 : Nat), .int .i64 (g 6 : Nat), .int .i64 (g 7 : Nat)]) = some l := by
  obtain ⟨d, hd⟩ := types_four
  have h1 : Try.prog.keyType 102 = true := by kernel_rfl
  have h2 : Try.prog.cellsOf 102 = 8 := by kernel_rfl
  have h3 : Try.prog.cellsOf 3 = 1 := by kernel_rfl
  have w0 := wf_small (hg 0 (by omega))
  have w1 := wf_small (hg 1 (by omega))
  have w2 := wf_small (hg 2 (by omega))
  have w3 := wf_small (hg 3 (by omega))
  have w4 := wf_small (hg 4 (by omega))
  have w5 := wf_small (hg 5 (by omega))
  have w6 := wf_small (hg 6 (by omega))
  have w7 := wf_small (hg 7 (by omega))
  refine Option.isSome_iff_exists.1 ?_
  unfold keyOf
  rw [arrT, hd]
  simp [h1, Value.formed, h2, Value.cells, Program.keyLits, h3, Try.underlying3, w0, w1, w2, w3, w4, w5, w6, w7, List.range, List.range.loop]
theorem key_circle (g : Nat → Nat) (n : Nat) (hg : ∀ i, i < 8 → g i ≤ 1000000) (hn : n ≤ 1000000) : ∃ l, keyOf Try.prog 104 (crV g n) = some l := by
  obtain ⟨d, hd⟩ := types_four
  have h1 : Try.prog.keyType 104 = true := by kernel_rfl
  have h0 : Try.prog.cellsOf 104 = 9 := by kernel_rfl
  have h2 : Try.prog.cellsOf 102 = 8 := by kernel_rfl
  have h3 : Try.prog.cellsOf 3 = 1 := by kernel_rfl
  have w0 := wf_small (hg 0 (by omega))
  have w1 := wf_small (hg 1 (by omega))
  have w2 := wf_small (hg 2 (by omega))
  have w3 := wf_small (hg 3 (by omega))
  have w4 := wf_small (hg 4 (by omega))
  have w5 := wf_small (hg 5 (by omega))
  have w6 := wf_small (hg 6 (by omega))
  have w7 := wf_small (hg 7 (by omega))
  have w8 := wf_small hn
  refine Option.isSome_iff_exists.1 ?_
  unfold keyOf crV crA
  rw [Try.underlying104, hd]
  simp [h1, Value.formed, Try.underlying104, h0, h2, Value.cells, Program.keyLits, h3, Try.underlying3, w0, w1, w2, w3, w4, w5, w6, w7, w8, List.range, List.range.loop]
theorem key_inj {g h : Nat → Nat} {n m : Nat} {l : Lit} (h1 : keyOf Try.prog 104 (crV g n) = some l) (h2 : keyOf Try.prog 104 (crV h m) = some l) : ∀ i, i < 8 → g i = h i := crV_inj (keyedCircle.inj h1 h2)

theorem equal_arr (g : Nat → Nat) (hg : ∀ i, i < 8 → g i ≤ 1000000) (w : World) : ∃ r, (Op.equalIn 10000 102 (.agg #[.int .i64 (g 0 : Nat), .int .i64 (g 1 : Nat), .int .i64 (g 2 : Nat), .int .i64 (g 3 : Nat), .int .i64 (g 4 : Nat), .int .i64 (g 5 : Nat), .int .i64 (g 6 : Nat), .int .i64 (g 7 : Nat)])
    (.agg #[.int .i64 0, .int .i64 0, .int .i64 0, .int .i64 0, .int .i64 0, .int .i64 0, .int .i64 0, .int .i64 0])).run Try.prog w = .ok r w ∧ (r = true ↔ ∀ i, i < 8 → g i = 0) := by
  obtain ⟨l, hl⟩ := key_arr g hg
  obtain ⟨z, hz⟩ := key_arr (fun _ => 0) (fun _ _ => by omega)
  obtain ⟨r, h1, h2⟩ := run_equal_deep (P := Try.prog) w (m := Try.prog.types.size + 1) (of_decide_eq_true (by kernel_rfl)) (k := 102) (by kernel_rfl) (by kernel_rfl) hl hz
  refine ⟨r, h1, h2.trans ⟨fun e => ?_, fun e => ?_⟩⟩
  · subst e
    have := keyedArr.inj hl hz
    simp only [Value.agg.injEq, Array.mk.injEq, List.cons.injEq, Value.int.injEq, true_and, and_true] at this
    obtain ⟨a0, a1, a2, a3, a4, a5, a6, a7⟩ := this
    intro i hi
    match i, hi with
    | 0, _ => omega
    | 1, _ => omega
    | 2, _ => omega
    | 3, _ => omega
    | 4, _ => omega
    | 5, _ => omega
    | 6, _ => omega
    | 7, _ => omega
  · rw [e 0 (by omega), e 1 (by omega), e 2 (by omega), e 3 (by omega), e 4 (by omega), e 5 (by omega), e 6 (by omega), e 7 (by omega)] at hl
    rw [hl] at hz
    injection hz
end Go.Proofs.Ytimnhedjapakhaa
/-
  The program's circles: circleOf, ring, after, ended.
-/
namespace Go.Proofs.Ytimnhedjapakhaa
open Go.RowKit Go.BigFrame

theorem implRing (v : Value) (xs : List Int) (w : World) (hv : Ints w v xs) (hl : xs.length ≤ 1000000000) : Calls Try.prog 86 #[v] w fun e w' => e = .returned (.bool (ringB xs)) ∧ Below w.heap.size w w' := by
  have hA := allWithin_in v xs 8 100 w hv (by omega) hl
  have e1 : withB xs 8 100 = ringB xs := rfl
  rw [e1] at hA
  generalize ringB xs = b at *
  clear hv hl e1
  go_enter Try.func86, Try.ntmps86
  go_wp2_with (go_at_call 64; refine hA.mono ?_; rintro e w' ⟨rfl, rfl⟩)
  go_ret
  exact ⟨rfl, Below.refl _ _⟩

theorem ring_in (f : Nat → Nat) (n : Nat) (hn : n ≤ 8) (w : World) : Calls Try.prog 89 #[crV (cz f n) n] w fun e w' =>
    ∃ r, e = .returned r ∧ w'.ownsRow w.heap.size 3 1 r n ((rgL f n).map (Value.int .i64)) ∧ Below w.heap.size w w' := by
  obtain ⟨W, hW⟩ : ∃ W, w.alloc (.cells (crA (cz f n) n) 104) = W := ⟨_, rfl⟩
  have hC : CrAt W w.heap.size (cz f n) n := by rw [← hW]; exact CrAt.new w _ _
  have hB : Below w.heap.size w W := by rw [← hW]; exact (Below.refl _ w).alloc (Nat.le_refl _) _
  have hcl := clone_in w.heap.size n 8 (rgL f n) W (rgL_len f n) (by omega) (fun k u hu => by
    have hk : k < n := by
      have := (List.getElem?_eq_some_iff.1 hu).1
      simpa [rgL] using this
    rw [hC.cell (by omega), cz_in hk]
    unfold rgL at hu
    rw [List.getElem?_map, List.getElem?_map, List.getElem?_range hk] at hu
    exact hu)
  have h8 := hC.count
  have hn1 : (n : Int) ≤ 8 := by omega
  have hn0 : (0 : Int) ≤ (n : Int) := by omega
  go_enter Try.func89, Try.ntmps89
  go_wp2_with (first | (refine box_cr rfl _ rfl (cz f n) n rfl ?_; rw [hW]) | (go_at_call 69; refine hcl.mono ?_; clear hcl; rintro e w3 ⟨v, rfl, hown, hB3⟩))
  go_ret
  exact ⟨_, rfl, owns_from hown hB.size, hB.trans (hB3.mono hB.size)⟩

theorem cz_next {f : Nat → Nat} {n k : Nat} (g : Nat → Nat) (hk : k < n) (h : ∀ i, i < 8 → g i = cz (dF f) k i) : ∀ i, i < 8 → (if i = k then dF f k else g i) = cz (dF f) (k + 1) i := fun i hi => by
  by_cases e : i = k
  · subst e; rw [if_pos rfl, cz_in (by omega)]
  · rw [if_neg e, h i hi]
    unfold cz
    by_cases h2 : i < k
    · rw [if_pos h2, if_pos (by omega)]
    · rw [if_neg h2, if_neg (by omega)]

theorem grown_cell (W : World) (b p : Nat) (v : Value) : W.grownBy (W.setCell ⟨b, p, none⟩ v) (some b) := ⟨rfl, rfl, rfl, by simp [World.setCell], fun k _ hk => Below.heap_setCell _ _ _ k (fun e => hk (by simp [e]))⟩

set_option maxRecDepth 100000 in
set_option maxHeartbeats 1000000 in
theorem after_in (f : Nat → Nat) (n : Nat) (h1 : 1 ≤ n) (hn : n ≤ 8) (hf : ∀ k, f k ≤ 100) (hp : per n f) (w : World) : Calls Try.prog 88 #[crV (cz f n) n] w fun e w' =>
    e = .returned (crV (cz (dF f) n) n) ∧ Below w.heap.size w w' := by
  obtain ⟨W, hW⟩ : ∃ W, w.alloc (.cells (crA (cz f n) n) 104) = W := ⟨_, rfl⟩
  have hC : CrAt W w.heap.size (cz f n) n := by rw [← hW]; exact CrAt.new w _ _
  have hB : Below w.heap.size w W := by rw [← hW]; exact (Below.refl _ w).alloc (Nat.le_refl _) _
  have hs : W.heap.size = w.heap.size + 1 := by rw [← hW]; simp
  have h8 := hC.count
  go_enter Try.func88, Try.ntmps88
  go_wp2_with (refine box_cr rfl _ rfl (cz f n) n rfl ?_; rw [hW])
  go_loopw [12] (fun i wr => ∃ (k : Nat) (g : Nat → Nat), k ≤ n ∧ i = .int .i64 k ∧ CrAt wr w.heap.size (cz f n) n ∧ wr.heap[w.heap.size + 1]? = some (.cells (crA (fun _ => 0) 0) 104 (0, 0)) ∧ CrAt wr (w.heap.size + 1 + 1) g n ∧ Hid (∀ i, i < 8 → g i = cz (dF f) k i) ∧ Below w.heap.size w wr) (fun i _ => n - (intOf i).toNat)
  case atStart =>
    refine ⟨0, fun _ => 0, by omega, rfl, (hC.alloc _).alloc _, ?_, ?_, hide (fun i _ => rfl), (hB.alloc hB.size _).alloc (by simp; omega) _⟩
    · have h2 := CrAt.new W (fun _ => 0) 0
      rw [hs] at h2
      exact h2.alloc _
    · have h2 := CrAt.new (W.alloc (.cells (crA (fun _ => 0) 0) 104)) (fun _ => 0) n
      rw [World.size_alloc, hs] at h2
      exact h2
  case round =>
    clear hC hB h8 hW hs
    obtain ⟨k, g, hk, rfl, hC, hR, hF, hg, hB⟩ := hrel
    have hl0 := hC.lt
    have hl2 := hF.lt
    by_cases hlt : k < n
    · obtain ⟨m, hm⟩ : ∃ m, (k + 1) % n = m := ⟨_, rfl⟩
      have hml : m < n := by rw [← hm]; exact Nat.mod_lt _ (by omega)
      have hfm : f m = f (k + 1) := by rw [← hm]; exact per_mod hp (k + 1)
      have hq : Int.tmod ((k : Int) + 1) (n : Int) = (m : Int) := by have := tmod_n (k + 1) n; rw [hm] at this; simpa using this
      have c1 := hC.cell (i := k) (by omega)
      have c2 := hC.cell (i := m) (by omega)
      have c8 := hC.count
      rw [cz_in hlt] at c1
      rw [cz_in hml, hfm] at c2
      have q1 : ∀ M : After wr, M.now.cell? ⟨w.heap.size, k, none⟩ = some (.int .i64 (f k : Nat)) := fun M => (M.ok.cell (p := ⟨w.heap.size, k, none⟩) hl0).trans c1
      have q2 : ∀ M : After wr, M.now.cell? ⟨w.heap.size, m, none⟩ = some (.int .i64 (f (k + 1) : Nat)) := fun M => (M.ok.cell (p := ⟨w.heap.size, m, none⟩) hl0).trans c2
      have q8 : ∀ M : After wr, M.now.cell? ⟨w.heap.size, 8, none⟩ = some (.int .i64 n) := fun M => (M.ok.cell (p := ⟨w.heap.size, 8, none⟩) hl0).trans c8
      have hf0 := hf k
      have hf1 := hf (k + 1)
      have hn0 : ((n : Int) == 0) = false := by rw [beq_eq_false_iff_ne]; omega
      have hki : (k : Int) < (n : Int) := by omega
      have hk8 : (k : Int) < 8 := by omega
      have hm8 : (m : Int) < 8 := by omega
      have hw1 : IntKind.i64.wrap (m : Int) = m := IntWalk.i64_in _ (by omega)
      have hnext := hide (cz_next g hlt hg.out)
      have hd : dF f k = ad (f k) (f (k + 1)) := rfl
      rw [hd, ad_max] at hnext
      have cg := hF.cell (i := k) (by omega)
      have cf := hF.frozen k
      clear hm hfm hg c1 c2 c8 hd hp hf
      generalize f k = x at *
      generalize f (k + 1) = y at *
      have hmx : ((if x < y then (y : Int) else (x : Int)) - if y < x then (y : Int) else (x : Int)) = ((max x y - min x y : Nat) : Int) := by
        split <;> split <;> omega
      have hmx' := hide hmx
      clear hmx
      go_wp2
      refine wp_region_below wr (by kernel_rfl) (by kernel_rfl) (Below.refl _ wr) ?_
      repeat (go_big_quiet_step (fail))
      refine wpQuiet_nil ?_
      rintro _ ⟨nq, rfl⟩
      have hb2 := nq.ok.block _ hl2
      have cg' := (nq.ok.cell (p := ⟨w.heap.size + 1 + 1, k, none⟩) hl2).trans cg
      have hF' : CrAt nq.now (w.heap.size + 1 + 1) g n := hF.of_block hb2
      have cf' := hF'.frozen k
      clear q1 q2 q8 cg cf
      go_wp2
      go_roundw
      case rel =>
        rw [hmx'.out]
        exact ⟨k + 1, _, by omega, by go_num, (hC.of_block (nq.ok.block _ hl0)).kept (grown_cell _ _ _ _) (by simp; omega), ((grown_cell _ _ _ _).block _ (Nat.lt_of_lt_of_le (by omega) nq.ok.size) (by simp)).trans ((nq.ok.block _ (by omega)).trans hR), hF'.set (by omega) _, hnext,
          (hB.trans (nq.ok.mono hB.size)).setCell (p := ⟨w.heap.size + 1 + 1, k, none⟩) (by show w.heap.size ≤ w.heap.size + 1 + 1; omega) _⟩
      case measure => simp [intOf]; omega
    · obtain rfl : k = n := by omega
      have hC' := hF.congr hg.out
      clear hf hp hg
      go_wp2_with (first | (refine load_cr rfl _ rfl (w.heap.size + 1 + 1) rfl hC' ?_) | (refine store_cr rfl _ _ rfl (w.heap.size + 1) _ _ rfl rfl hR rfl ?_; intro w5 hC5 hg5))
      refine bodyPost_ret (results_circle rfl _ _ (w.heap.size + 1) _ _ rfl hC5) rfl ⟨rfl, hB.grown hg5 hB.size (fun _ e => by cases e; omega)⟩

theorem splice_circle (f : Nat → Nat) (n : Nat) (hn : n ≤ 8) :
    (splice [Value.int .i64 0, .int .i64 0, .int .i64 0, .int .i64 0, .int .i64 0, .int .i64 0, .int .i64 0, .int .i64 0, .int .i64 n] 0 ((List.range n).map fun i => Value.int .i64 (f i : Nat))).toArray = crA (cz f n) n := by
  unfold splice crA cz
  match n, hn with
  | 0, _ => rfl
  | 1, _ => rfl
  | 2, _ => rfl
  | 3, _ => rfl
  | 4, _ => rfl
  | 5, _ => rfl
  | 6, _ => rfl
  | 7, _ => rfl
  | 8, _ => rfl

set_option maxHeartbeats 1000000 in
theorem circleOf_in (v : Value) (xs : List Int) (w : World) (hv : Ints w v xs) (hs : ringB xs = true) : Calls Try.prog 87 #[v] w fun e w' =>
    e = .returned (crV (cz (ringF xs) xs.length) xs.length) ∧ Below w.heap.size w w' := by
  have hlen := ringB_len hs
  obtain ⟨g, cap, rfl, hg, hc⟩ := ints_open hv hlen.1
  have hcf : ∀ i, i < xs.length → w.cell? ⟨g, i, none⟩ = some (.int .i64 (ringF xs i : Nat)) := fun i hi => by rw [hc i hi, ringF_get hs hi]
  clear hc hv hs
  generalize ringF xs = f at *
  generalize xs.length = n at *
  obtain ⟨W, hW⟩ : ∃ W, (w.alloc (.cells #[.int .i64 0, .int .i64 0, .int .i64 0, .int .i64 0, .int .i64 0, .int .i64 0, .int .i64 0, .int .i64 0, .int .i64 0] 104)).alloc
    (.cells #[.int .i64 0, .int .i64 0, .int .i64 0, .int .i64 0, .int .i64 0, .int .i64 0, .int .i64 0, .int .i64 0, .int .i64 n] 104) = W := ⟨_, rfl⟩
  have hB : Below w.heap.size w W := by rw [← hW]; exact ((Below.refl _ w).alloc (Nat.le_refl _) _).alloc (by simp) _
  have hR : W.heap[w.heap.size]? = some (.cells (crA (fun _ => 0) 0) 104 (0, 0)) := by
    rw [← hW]; exact (CrAt.new w (fun _ => 0) 0).alloc _
  have hF : W.heap[w.heap.size + 1]? = some (.cells [Value.int .i64 0, .int .i64 0, .int .i64 0, .int .i64 0, .int .i64 0, .int .i64 0, .int .i64 0, .int .i64 0, .int .i64 n].toArray 104 (0, 0)) := by
    rw [← hW]
    have := World.alloc_heap_new (w.alloc (.cells (crA (fun _ => 0) 0) 104)) (.cells #[.int .i64 0, .int .i64 0, .int .i64 0, .int .i64 0, .int .i64 0, .int .i64 0, .int .i64 0, .int .i64 0, .int .i64 n] 104)
    rw [World.size_alloc] at this
    exact this
  have hwr : W.heap.size = w.heap.size + 2 := by rw [← hW]; simp
  have hsp := splice_circle f n hlen.2
  obtain ⟨cur, hcur⟩ : ∃ cur : List Value, cur = [Value.int .i64 0, .int .i64 0, .int .i64 0, .int .i64 0, .int .i64 0, .int .i64 0, .int .i64 0, .int .i64 0, .int .i64 n] := ⟨_, rfl⟩
  obtain ⟨cs, hcs⟩ : ∃ cs : List Value, cs = (List.range n).map fun i => Value.int .i64 (f i : Nat) := ⟨_, rfl⟩
  rw [← hcur, ← hcs] at hsp
  rw [← hcur] at hF
  have hcl : cur.length = 9 := by rw [hcur]; rfl
  have hcn : cs.length = n := by rw [hcs]; simp
  have hsrc : ∀ j u, cs[j]? = some u → W.cell? ((⟨g, 0, none⟩ : Addr).add j) = some u := fun j u hj => by
    have hj1 : j < n := by rw [← hcn]; exact (List.getElem?_eq_some_iff.1 hj).1
    have hadd : (⟨g, 0, none⟩ : Addr).add j = ⟨g, j, none⟩ := by unfold Addr.add; split <;> simp_all
    rw [hadd, hB.cell (p := ⟨g, j, none⟩) hg, hcf j hj1]
    rw [hcs, List.getElem?_map, List.getElem?_range hj1] at hj
    exact hj
  have hone : ∀ u ∈ cs, u.oneCell' = true := by
    intro u hu
    rw [hcs] at hu
    obtain ⟨i, _, rfl⟩ := List.mem_map.1 hu
    rfl
  have hsz : (Try.prog.info? 3).map (·.size) = some 1 := by kernel_rfl
  have hcf' := hide hcs
  have hcur' := hide hcur
  clear hcs hcur
  go_enter Try.func87, Try.ntmps87
  go_wp2_with (first
    | (refine wpList_copy_splice rfl _ _ _ _ rfl 3 Try.underlying23 hsz _ _ _ _ _ _ rfl rfl (w.heap.size + 1) 0 cur 104 hF cs (by rw [hcn]; show n = min n 8; omega) (fun _ => ⟨rfl, _, rfl, hsrc⟩) (by omega) hone (w.heap.size + 1) W (Below.refl _ _) (by omega) ?_; go_loud (intro w2 hG hB2; have hG2 := hG.out; rw [hsp] at hG2; have hC2 : CrAt w2 (w.heap.size + 1) (cz f n) n := hG2; have hR2 := (hB2.block _ (Nat.lt_succ_self _)).trans hR; clear hG hG2))
    | (refine load_cr rfl _ rfl (w.heap.size + 1) rfl hC2 ?_)
    | (refine store_cr rfl _ _ rfl w.heap.size _ _ rfl rfl hR2 rfl ?_; intro w5 hC5 hg5))
  refine bodyPost_ret (results_circle rfl _ _ w.heap.size _ _ rfl hC5) rfl ⟨rfl, (hB.trans (hB2.mono (by omega))).grown hg5 (Nat.le_trans hB.size hB2.size) (fun _ e => by cases e; omega)⟩
end Go.Proofs.Ytimnhedjapakhaa
/-
  The iterator over the rounds of a circle.
-/
namespace Go.Proofs.Ytimnhedjapakhaa
open Go.RowKit Go.Shelf
attribute [local go_sem] Oper.semAt_some

section
variable {F : Fence} {n : Nat} {ops : Array Oper} {rest : List Oper} {o : Oper} {a : Act} {w : World} {Q : Exit → Act → World → Prop}
theorem load_crI (hgd : o.guard = none) (x : Operand) (hop : o.op = .load 104 x) (b : Nat) (hx : a.eval x = .pointer (some ⟨b, 0, none⟩)) {g : Nat → Nat} {m : Nat} (hg : CrAt w b g m)
    (h : wpListIn F n Try.prog ops Q rest (a.put o.dst (crV g m)) w) : wpListIn F n Try.prog ops Q (o :: rest) a w := by
  refine wpListIn_plain hgd fun K hK' => ?_
  have hrun : (Instr.loadAt 104 (.pointer (some ⟨b, 0, none⟩))).run Try.prog w = .ok (crV g m) w := by
    simp only [Instr.loadAt, Instr.sureAddr, Sem.run_bind, Sem.run_pure, Result.andThen_ok, run_loadVar_row w b _ 104 (crA g m) _ _ hg kindCircle rfl (sizeCircle g m)]
    rfl
  unfold Oper.wpIn
  refine ⟨?_, ?_⟩
  · simp [Oper.about, hop]
  · rw [Oper.semAt_plain F _ _ (by rw [hop]; intro c hc'; cases hc')]
    simp [execOp, hop, hx, hrun, Result.andThen]
    exact hK' _ _ h
theorem store_crI (hgd : o.guard = none) (x y : Operand) (hop : o.op = .store 104 x y) (b : Nat) (g : Nat → Nat) (m : Nat) (hx : a.eval x = .pointer (some ⟨b, 0, none⟩)) (hy : a.eval y = crV g m)
    {old : Array Value} (hb : w.heap[b]? = some (.cells old 104 (0, 0))) (hs : old.size = 9)
    (h : ∀ w', CrAt w' b g m → w.grownBy w' (some b) → wpListIn F n Try.prog ops Q rest (a.put o.dst undef) w') : wpListIn F n Try.prog ops Q (o :: rest) a w := by
  refine wpListIn_plain hgd fun K hK' => ?_
  have hrun : (Instr.storeAt 104 (.pointer (some ⟨b, 0, none⟩)) (crV g m)).run Try.prog w = .ok () (w.setRow b (crA g m)) := by
    unfold crV
    simp only [Instr.storeAt, Instr.sureAddr, Sem.run_bind, Sem.run_pure, Result.andThen_ok, run_storeVar_row w b _ 104 old (crA g m) hb (sizeCircle g m) hs (crA_one g m)]
  unfold Oper.wpIn
  refine ⟨?_, ?_⟩
  · simp [Oper.about, hop]
  · rw [Oper.semAt_plain F _ _ (by rw [hop]; intro c hc'; cases hc')]
    simp [execOp, hop, hx, hy, hrun, Result.andThen]
    exact hK' _ _ (h _ (setRow_heap w b old _ _ _ hb) (grown_setRow w b _))
end

end Go.Proofs.Ytimnhedjapakhaa
/-
  The program's RoundOf and RoundsOf at every argument.
-/
namespace Go.Proofs.Ytimnhedjapakhaa
open Go.RowKit Go.Shelf
attribute [local go_sem] Oper.semAt_some

theorem implRound (v : Value) (xs : List Int) (w : World) (hv : Ints w v xs) (_hlies : Lies v) (hl : xs.length ≤ 10000000) : Calls Try.prog 75 #[v] w fun e w' =>
    ∃ r, e = .returned r ∧ w'.ownsRow w.heap.size 3 1 r (roundV xs).length ((roundV xs).map (Value.int .i64)) ∧ Below w.heap.size w w' := by
  have hS := implRing v xs w hv (by omega)
  cases hs : ringB xs with
  | false =>
    rw [roundV_no hs]
    rw [hs] at hS
    clear hv
    go_enter Try.func75, Try.ntmps75
    go_wp2_with (go_at_call 86; refine hS.mono ?_; clear hS; rintro e w1 ⟨rfl, hB1⟩)
    go_ret
    exact ⟨_, rfl, World.ownsRow_nil _ _ _ _, hB1⟩
  | true =>
    rw [hs] at hS
    have hlen := ringB_len hs
    have hO := fun w1 (hB : Below w.heap.size w w1) => circleOf_in v xs w1 (hv.below hB) hs
    have hA := fun V => after_in (ringF xs) xs.length hlen.1 hlen.2 (ringF_le hs) ringF_per V
    have hG := fun V => ring_in (dF (ringF xs)) xs.length hlen.2 V
    rw [roundV_yes hs, rgL_len]
    clear hv hs hl
    generalize ringF xs = f at *
    generalize xs.length = n at *
    go_enter Try.func75, Try.ntmps75
    go_wp2_with (first
      | (go_at_call 86; refine hS.mono ?_; clear hS; rintro e w1 ⟨rfl, hB1⟩)
      | (go_at_call 87; refine (hO _ hB1).mono ?_; clear hO; rintro e w2 ⟨rfl, hB2⟩)
      | (go_at_call 88; refine (hA _).mono ?_; clear hA; rintro e w3 ⟨rfl, hB3⟩)
      | (go_at_call 89; refine (hG _).mono ?_; clear hG; rintro e w4 ⟨r, rfl, hown, hB4⟩))
    go_ret
    have h2 := hB1.trans (hB2.mono hB1.size)
    have h3 := h2.trans (hB3.mono h2.size)
    exact ⟨_, rfl, owns_from hown h3.size, h3.trans (hB4.mono h3.size)⟩

end Go.Proofs.Ytimnhedjapakhaa
