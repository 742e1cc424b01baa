/-
  The program's sides of chapter 9: rows as the bits of a number.
-/
import Derived.Test.YtlkcdcmmcjkedaaSpec9c
import Derived.Test.YtlkcdcmmcjkedaaLawKit4
import Derived.Test.YtlkcdcmmcjkedaaImpl2c
import Derived.RangeFuncBox
import Derived.Laws.Bits64
import Derived.Laws.Bits64b
import Derived.StillTailTactics
namespace Go.Proofs.Ytlkcdcmmcjkedaa
open Go.RowKit

/-! bits.OnesCount, step by step, of a number of up to twelve bits. -/
def oc1 (x : Nat) : Nat := (x / 2 &&& 6148914691236517205) + (x &&& 6148914691236517205)
def oc2 (x : Nat) : Nat := (x / 4 &&& 3689348814741910323) + (x &&& 3689348814741910323)
def oc3 (x : Nat) : Nat := (x / 16 + x) &&& 1085102592571150095
def oc4 (x : Nat) : Nat := x + x / 256
def oc5 (x : Nat) : Nat := x + x / 65536
def oc6 (x : Nat) : Nat := x + x / 4294967296
def oc7 (x : Nat) : Nat := x &&& 127
set_option maxRecDepth 100000 in
theorem oc_all : allB (fun n => Nat.beq (oc7 (oc6 (oc5 (oc4 (oc3 (oc2 (oc1 n))))))) (pop n 12)) 4096 = true := by decide +kernel
theorem oc_at {N : Nat} (h : N < 4096) : oc7 (oc6 (oc5 (oc4 (oc3 (oc2 (oc1 N)))))) = pop N 12 := Nat.eq_of_beq_eq_true (allB_of oc_all N h)
theorem oc_pair (x d m : Nat) (hx : x < 1000000) (hm : m < 18446744073709551616) :
    IntKind.u64.wrap (bits .and .u64 ((x : Int) / (d : Int)) (m : Int) + bits .and .u64 (x : Int) (m : Int)) = (((x / d &&& m) + (x &&& m) : Nat) : Int) := by
  have h1 : x / d ≤ x := Nat.div_le_self _ _
  have h2 : x / d &&& m ≤ x / d := Nat.and_le_left
  have h3 : x &&& m ≤ x := Nat.and_le_left
  rw [show (x : Int) / (d : Int) = ((x / d : Nat) : Int) from (Int.natCast_ediv x d).symm, bits_and_u64_nat _ _ (by omega) hm, bits_and_u64_nat _ _ (by omega) hm, ← Int.natCast_add]
  exact IntWalk.u64_in _ (by omega)
theorem oc_sum (x d : Nat) (hx : x < 1000000) : IntKind.u64.wrap ((x : Int) + (x : Int) / (d : Int)) = ((x + x / d : Nat) : Int) := by
  have h1 : x / d ≤ x := Nat.div_le_self _ _
  rw [show (x : Int) / (d : Int) = ((x / d : Nat) : Int) from (Int.natCast_ediv x d).symm, ← Int.natCast_add]
  generalize x / d = y at *
  exact IntWalk.u64_in _ (by omega)
theorem ones64_in (N : Nat) (h : N < 4096) (w : World) : Calls Try.prog 86 #[.int .u64 N] w fun e w' => e = .returned (.int .i64 (pop N 12)) ∧ w = w' := by
  go_enter Try.func86, Try.ntmps86
  go_wp2
  go_ret
  have b1 : oc1 N < 10000 := by
    have h2 : N / 2 &&& 6148914691236517205 ≤ N / 2 := Nat.and_le_left
    have h3 : N &&& 6148914691236517205 ≤ N := Nat.and_le_left
    unfold oc1; omega
  have e1 := oc_pair N 2 6148914691236517205 (by omega) (by decide)
  have b2 : oc2 (oc1 N) < 20000 := by
    have h2 : oc1 N / 4 &&& 3689348814741910323 ≤ oc1 N / 4 := Nat.and_le_left
    have h3 : oc1 N &&& 3689348814741910323 ≤ oc1 N := Nat.and_le_left
    unfold oc2; omega
  have e2 := oc_pair (oc1 N) 4 3689348814741910323 (by omega) (by decide)
  have b3 : oc3 (oc2 (oc1 N)) < 40000 := by
    have h2 : oc2 (oc1 N) / 16 + oc2 (oc1 N) &&& 1085102592571150095 ≤ oc2 (oc1 N) / 16 + oc2 (oc1 N) := Nat.and_le_left
    unfold oc3; omega
  have e3 : IntKind.u64.wrap (((oc2 (oc1 N) : Nat) : Int) / ((16 : Nat) : Int) + ((oc2 (oc1 N) : Nat) : Int)) = ((oc2 (oc1 N) / 16 + oc2 (oc1 N) : Nat) : Int) := by
    rw [Int.add_comm, oc_sum _ _ (by omega), Nat.add_comm]
  have e3b := bits_and_u64_nat (oc2 (oc1 N) / 16 + oc2 (oc1 N)) 1085102592571150095 (by omega) (by decide)
  have b4 : oc4 (oc3 (oc2 (oc1 N))) < 80000 := by unfold oc4; omega
  have e4 := oc_sum (oc3 (oc2 (oc1 N))) 256 (by omega)
  have b5 : oc5 (oc4 (oc3 (oc2 (oc1 N)))) < 160000 := by unfold oc5; omega
  have e5 := oc_sum (oc4 (oc3 (oc2 (oc1 N)))) 65536 (by omega)
  have b6 : oc6 (oc5 (oc4 (oc3 (oc2 (oc1 N))))) < 320000 := by unfold oc6; omega
  have e6 := oc_sum (oc5 (oc4 (oc3 (oc2 (oc1 N))))) 4294967296 (by omega)
  have e7 := and_i64 (oc6 (oc5 (oc4 (oc3 (oc2 (oc1 N)))))) 127 (by omega) (by omega)
  have e9 := oc_at h
  have g1 : IntKind.u64.wrap (bits .and .u64 ((N : Int) / 2) 6148914691236517205 + bits .and .u64 (N : Int) 6148914691236517205) = ((oc1 N : Nat) : Int) := e1
  have g2 : IntKind.u64.wrap (bits .and .u64 (((oc1 N : Nat) : Int) / 4) 3689348814741910323 + bits .and .u64 ((oc1 N : Nat) : Int) 3689348814741910323) = ((oc2 (oc1 N) : Nat) : Int) := e2
  have g3 : IntKind.u64.wrap (((oc2 (oc1 N) : Nat) : Int) / 16 + ((oc2 (oc1 N) : Nat) : Int)) = ((oc2 (oc1 N) / 16 + oc2 (oc1 N) : Nat) : Int) := e3
  have g3b : bits .and .u64 ((oc2 (oc1 N) / 16 + oc2 (oc1 N) : Nat) : Int) 1085102592571150095 = ((oc3 (oc2 (oc1 N)) : Nat) : Int) := e3b
  have g4 : IntKind.u64.wrap (((oc3 (oc2 (oc1 N)) : Nat) : Int) + ((oc3 (oc2 (oc1 N)) : Nat) : Int) / 256) = ((oc4 (oc3 (oc2 (oc1 N))) : Nat) : Int) := e4
  have g5 : IntKind.u64.wrap (((oc4 (oc3 (oc2 (oc1 N))) : Nat) : Int) + ((oc4 (oc3 (oc2 (oc1 N))) : Nat) : Int) / 65536) = ((oc5 (oc4 (oc3 (oc2 (oc1 N)))) : Nat) : Int) := e5
  have g6 : IntKind.u64.wrap (((oc5 (oc4 (oc3 (oc2 (oc1 N)))) : Nat) : Int) + ((oc5 (oc4 (oc3 (oc2 (oc1 N)))) : Nat) : Int) / 4294967296) = ((oc6 (oc5 (oc4 (oc3 (oc2 (oc1 N))))) : Nat) : Int) := e6
  have g7 : bits .and .i64 ((oc6 (oc5 (oc4 (oc3 (oc2 (oc1 N))))) : Nat) : Int) 127 = ((oc7 (oc6 (oc5 (oc4 (oc3 (oc2 (oc1 N)))))) : Nat) : Int) := e7
  rw [e9] at g7
  have g8 : wrap64 ((oc6 (oc5 (oc4 (oc3 (oc2 (oc1 N))))) : Nat) : Int) = (oc6 (oc5 (oc4 (oc3 (oc2 (oc1 N))))) : Nat) := IntWalk.wrap64_in _ (by omega)
  refine ⟨?_, rfl⟩
  show Ending.returned _ = _
  simp only [g1, g2, g3, g3b, g4, g5, g6, g8, g7]
  rfl
theorem ones_in (N : Nat) (h : N < 4096) (w : World) : Calls Try.prog 80 #[.int .u64 N] w fun e w' => e = .returned (.int .i64 (pop N 12)) ∧ w = w' := by
  go_enter Try.func80, Try.ntmps80
  go_wp2_with (go_at_call 86; refine (ones64_in _ h _).mono ?_; rintro e w' ⟨rfl, rfl⟩)
  go_ret
  exact ⟨rfl, rfl⟩

def sdV (N c : Nat) : Value := .agg #[.int .u64 N, .int .i64 c]
/-- A side in a block of its own. -/
def SdAt (W : World) (b N c : Nat) : Prop := W.heap[b]? = some (.cells #[.int .u64 N, .int .i64 c] 58 (0, 0))
theorem SdAt.lt {W : World} {b N c : Nat} (h : SdAt W b N c) : b < W.heap.size := (Array.getElem?_eq_some_iff.1 h).1
theorem SdAt.cell0 {W : World} {b N c : Nat} (h : SdAt W b N c) : W.cell? ⟨b, 0, none⟩ = some (.int .u64 N) := by simp [World.cell?, show W.heap[b]? = _ from h]
theorem SdAt.cell1 {W : World} {b N c : Nat} (h : SdAt W b N c) : W.cell? ⟨b, 1, none⟩ = some (.int .i64 c) := by simp [World.cell?, show W.heap[b]? = _ from h]
theorem SdAt.frozen {W : World} {b N c : Nat} (h : SdAt W b N c) (i : Nat) : W.frozen? ⟨b, i, none⟩ = false := by simp [World.frozen?, show W.heap[b]? = _ from h]
theorem SdAt.new (W : World) (N c : Nat) : SdAt (W.alloc (.cells #[.int .u64 N, .int .i64 c] 58)) W.heap.size N c := World.alloc_heap_new W _
theorem SdAt.of_block {W W' : World} {b N c : Nat} (h : SdAt W b N c) (hb : W'.heap[b]? = W.heap[b]?) : SdAt W' b N c := hb.trans h
theorem SdAt.kept {W W' : World} {row : Option Nat} {b N c : Nat} (h : SdAt W b N c) (hg : W.grownBy W' row) (hne : some b ≠ row) : SdAt W' b N c := (hg.block b h.lt hne).trans h
theorem set_block {W : World} {b : Nat} {cur : Array Value} {t : TypeId} (h : W.heap[b]? = some (.cells cur t (0, 0))) (p : Nat) (v : Value) : (W.setCell ⟨b, p, none⟩ v).heap[b]? = some (.cells (cur.setIfInBounds p v) t (0, 0)) := by
  obtain ⟨hlt, hk⟩ := Array.getElem?_eq_some_iff.1 h
  show (W.heap.modify b _)[b]? = _
  rw [Array.getElem?_eq_getElem (by rw [Array.size_modify]; exact hlt), Array.getElem_modify_self, hk]; rfl
theorem SdAt.set {W : World} {b N c : Nat} (h : SdAt W b N c) (N' c' : Nat) : SdAt ((W.setCell ⟨b, 0, none⟩ (.int .u64 N')).setCell ⟨b, 1, none⟩ (.int .i64 c')) b N' c' := by
  exact set_block (set_block h 0 _) 1 _
theorem SdAt.alloc {W : World} {b N c : Nat} (h : SdAt W b N c) (o : Obj) : SdAt (W.alloc o) b N c := h.kept (World.grownBy_alloc W o none) (by simp)

theorem results_side {fn : Func} {p : Tmp} (h : fn.results = #[.cell p 58]) (tmps : Array Value) (w : World) (b N c : Nat) (hp : tmps.getD p undef = .pointer (some ⟨b, 0, none⟩)) (hs : SdAt w b N c) :
    (results fn tmps).run Try.prog w = .ok (sdV N c) w := by
  have hc0 := hs.cell0
  have hc1 := hs.cell1
  rw [results_cell_one h, hp]
  go_simp
  rfl

theorem cell_in (N c k : Nat) (h : N < 4096) (hk : k < 12) (w : World) : Calls Try.prog 72 #[sdV N c, .int .i64 k] w fun e w' => e = .returned (.int .i64 (bitF N k)) ∧ Below w.heap.size w w' := by
  have hd : N >>> k ≤ N := by rw [Nat.shiftRight_eq_div_pow]; exact Nat.div_le_self _ _
  have e1 : (N : Int) / (2 : Int) ^ k = ((N >>> k : Nat) : Int) := by rw [Nat.shiftRight_eq_div_pow]; simp
  have e2 : bits .and .u64 ((N >>> k : Nat) : Int) 1 = ((bitF N k : Nat) : Int) := by
    have := bits_and_u64_nat (N >>> k) 1 (by omega) (by omega)
    rw [Nat.and_one_is_mod] at this
    exact this
  have hb := bitF_le N k
  have e3 : wrap64 ((bitF N k : Nat) : Int) = ((bitF N k : Nat) : Int) := IntWalk.wrap64_in _ (by omega)
  have e3' := hide e3
  have e2' := hide e2
  have e1' := hide e1
  clear e1 e2 e3
  unfold sdV
  go_enter Try.func72, Try.ntmps72
  go_wp2
  go_ret
  refine ⟨?_, (Below.refl _ w).alloc (Nat.le_refl _) _⟩
  show Ending.returned (.int .i64 _) = _
  rw [e1'.out, e2'.out, e3'.out]
theorem under_in (N l : Nat) (h : N < 4096) (hk : l < 12) (w : World) : Calls Try.prog 68 #[sdV N (l + 1)] w fun e w' => e = .returned (sdV (downN l N) l) ∧ Below w.heap.size w w' := by
  obtain ⟨Q, hQ⟩ : ∃ Q, 2 ^ l = Q := ⟨_, rfl⟩
  have hQl : Q ≤ 4096 := by rw [← hQ]; exact Nat.le_trans (Nat.pow_le_pow_right (by omega) (by omega : l ≤ 12)) (by decide)
  have hQ1 : 1 ≤ Q := by rw [← hQ]; exact Nat.pow_pos (by omega)
  have hQi : (2 : Int) ^ l = (Q : Int) := by rw [← hQ]; simp
  have hde : downN l N = (N ^^^ (N >>> 1)) &&& (Q - 1) := by rw [← hQ, Nat.and_two_pow_sub_one_eq_mod]; rfl
  have hh : N >>> 1 ≤ N := by rw [Nat.shiftRight_eq_div_pow]; exact Nat.div_le_self _ _
  have hhi : (N : Int) / (2 : Int) = ((N >>> 1 : Nat) : Int) := by rw [Nat.shiftRight_eq_div_pow]; omega
  have hxo := bits_xor_u64_nat N (N >>> 1) (by omega) (by omega)
  have hxl : N ^^^ (N >>> 1) < 2 ^ 12 := Nat.xor_lt_two_pow (by omega) (by omega)
  have han := bits_and_u64_nat (N ^^^ (N >>> 1)) (Q - 1) (by omega) (by omega)
  rw [← hde, show ((Q - 1 : Nat) : Int) = (Q : Int) - 1 by omega] at han
  unfold sdV
  generalize N ^^^ (N >>> 1) = X at *
  generalize N >>> 1 = H at *
  generalize downN l N = D at *
  have hw1 : IntKind.u64.wrap (Q : Int) = Q := IntWalk.u64_in _ (by omega)
  have hw2 : IntKind.u64.wrap ((Q : Int) - 1) = (Q : Int) - 1 := IntWalk.u64_in _ (by omega)
  have hp0 : (0 : Int) ≤ (l : Int) := by omega
  clear hQ hde
  go_enter Try.func68, Try.ntmps68
  go_wp2
  obtain ⟨W0, hW0⟩ : ∃ W0, ((w.alloc (Obj.cells #[Value.int IntKind.u64 N, Value.int IntKind.i64 ((l : Int) + 1)] 58)).alloc (Obj.cells #[Value.int IntKind.u64 0, Value.int IntKind.i64 0] 58)) = W0 := ⟨_, rfl⟩
  have hs0 : SdAt W0 w.heap.size N (l + 1) := by rw [← hW0]; exact (SdAt.new w N (l + 1)).alloc _
  have hc0 := hs0.cell0
  have hB0 : Below w.heap.size w W0 := by rw [← hW0]; exact ((Below.refl _ w).alloc (Nat.le_refl _) _).alloc (by simp) _
  have hs1 : SdAt W0 (w.heap.size + 1) 0 0 := by
    rw [← hW0]; have := SdAt.new (w.alloc (Obj.cells #[Value.int IntKind.u64 N, Value.int IntKind.i64 ((l : Int) + 1)] 58)) 0 0; rwa [World.size_alloc] at this
  rw [hW0]
  clear hW0
  go_still_tail 12, (by kernel_rfl)
  change wpList _ _ _ _ _ W0.drew
  have hd0 := hs1.cell0
  have hd1 := hs1.cell1
  have hf0 := hs1.frozen 0
  have hf1 := hs1.frozen 1
  go_wp2
  refine bodyPost_ret (results_side rfl _ _ (w.heap.size + 1) D l rfl (hs1.set D l)) rfl ⟨rfl, ?_⟩
  exact ((hB0.setCell (p := ⟨w.heap.size + 1, 0, none⟩) (by show w.heap.size ≤ w.heap.size + 1; omega) _).setCell (p := ⟨w.heap.size + 1, 1, none⟩) (by show w.heap.size ≤ w.heap.size + 1; omega) _).drew
end Go.Proofs.Ytlkcdcmmcjkedaa
