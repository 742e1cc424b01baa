/-
  The program's circles of chapter 10: rings as values of eight numbers and their count.
-/
import Derived.Test.YtmnmbelmcdfcjaaSpec10b
import Derived.Test.YtmnmbelmcdfcjaaWithin9
import Derived.Test.YtmnmbelmcdfcjaaQuietBelow
import Derived.Laws.CopyOwn
import Derived.StillTailTactics
namespace Go.Proofs.Ytmnmbelmcdfcjaa
open Go.RowKit Go.BigFrame

/-- The first n numbers of a function, noughts behind them. -/
def cz (f : Nat → Nat) (n i : Nat) : Nat := if i < n then f i else 0
theorem cz_in {f : Nat → Nat} {n i : Nat} (h : i < n) : cz f n i = f i := if_pos h
theorem cz_out {f : Nat → Nat} {n i : Nat} (h : n ≤ i) : cz f n i = 0 := if_neg (by omega)
/-- Eight numbers and a count. -/
def crA (g : Nat → Nat) (n : Nat) : Array Value := #[.int .i64 (g 0 : Nat), .int .i64 (g 1 : Nat), .int .i64 (g 2 : Nat), .int .i64 (g 3 : Nat), .int .i64 (g 4 : Nat), .int .i64 (g 5 : Nat), .int .i64 (g 6 : Nat), .int .i64 (g 7 : Nat), .int .i64 n]
def crV (g : Nat → Nat) (n : Nat) : Value := .agg (crA g n)
theorem crA_at (g : Nat → Nat) (n : Nat) {i : Nat} (h : i < 8) : (crA g n)[i]? = some (.int .i64 (g i : Nat)) := by
  match i, h with
  | 0, _ => rfl
  | 1, _ => rfl
  | 2, _ => rfl
  | 3, _ => rfl
  | 4, _ => rfl
  | 5, _ => rfl
  | 6, _ => rfl
  | 7, _ => rfl
theorem crA_count (g : Nat → Nat) (n : Nat) : (crA g n)[8]? = some (.int .i64 n) := rfl
theorem crA_set (g : Nat → Nat) (n : Nat) {k : Nat} (h : k < 8) (z : Nat) : (crA g n).setIfInBounds k (.int .i64 (z : Nat)) = crA (fun i => if i = k then z else g i) n := by
  match k, h with
  | 0, _ => rfl
  | 1, _ => rfl
  | 2, _ => rfl
  | 3, _ => rfl
  | 4, _ => rfl
  | 5, _ => rfl
  | 6, _ => rfl
  | 7, _ => rfl
theorem crA_congr {g h : Nat → Nat} (n : Nat) (e : ∀ i, i < 8 → g i = h i) : crA g n = crA h n := by
  unfold crA
  rw [e 0 (by omega), e 1 (by omega), e 2 (by omega), e 3 (by omega), e 4 (by omega), e 5 (by omega), e 6 (by omega), e 7 (by omega)]
theorem crV_inj {g h : Nat → Nat} {n m : Nat} (e : crV g n = crV h m) : ∀ i, i < 8 → g i = h i := by
  unfold crV at e
  injection e with e
  intro i hi
  have h1 := crA_at g n hi
  rw [e, crA_at h m hi] at h1
  injection h1 with h1
  injection h1 with _ h1
  omega

/-- A circle in a block of its own. -/
def CrAt (W : World) (b : Nat) (g : Nat → Nat) (n : Nat) : Prop := W.heap[b]? = some (.cells (crA g n) 47 (0, 0))
theorem CrAt.lt {W : World} {b n : Nat} {g : Nat → Nat} (h : CrAt W b g n) : b < W.heap.size := (Array.getElem?_eq_some_iff.1 h).1
theorem CrAt.cell {W : World} {b n : Nat} {g : Nat → Nat} (h : CrAt W b g n) {i : Nat} (hi : i < 8) : W.cell? ⟨b, i, none⟩ = some (.int .i64 (g i : Nat)) := by
  simp [World.cell?, show W.heap[b]? = _ from h, crA_at g n hi]
theorem CrAt.count {W : World} {b n : Nat} {g : Nat → Nat} (h : CrAt W b g n) : W.cell? ⟨b, 8, none⟩ = some (.int .i64 n) := by
  simp [World.cell?, show W.heap[b]? = _ from h, crA_count g n]
theorem CrAt.frozen {W : World} {b n : Nat} {g : Nat → Nat} (h : CrAt W b g n) (i : Nat) : W.frozen? ⟨b, i, none⟩ = false := by simp [World.frozen?, show W.heap[b]? = _ from h]
theorem CrAt.new (W : World) (g : Nat → Nat) (n : Nat) : CrAt (W.alloc (.cells (crA g n) 47)) W.heap.size g n := World.alloc_heap_new W _
theorem CrAt.of_block {W W' : World} {b n : Nat} {g : Nat → Nat} (h : CrAt W b g n) (hb : W'.heap[b]? = W.heap[b]?) : CrAt W' b g n := hb.trans h
theorem CrAt.kept {W W' : World} {row : Option Nat} {b n : Nat} {g : Nat → Nat} (h : CrAt W b g n) (hg : W.grownBy W' row) (hne : some b ≠ row) : CrAt W' b g n := (hg.block b h.lt hne).trans h
theorem CrAt.alloc {W : World} {b n : Nat} {g : Nat → Nat} (h : CrAt W b g n) (o : Obj) : CrAt (W.alloc o) b g n := h.kept (World.grownBy_alloc W o none) (by simp)
theorem cr_block {W : World} {b : Nat} {cur : Array Value} {t : TypeId} (h : W.heap[b]? = some (.cells cur t (0, 0))) (p : Nat) (v : Value) : (W.setCell ⟨b, p, none⟩ v).heap[b]? = some (.cells (cur.setIfInBounds p v) t (0, 0)) := by
  obtain ⟨hlt, hk⟩ := Array.getElem?_eq_some_iff.1 h
  show (W.heap.modify b _)[b]? = _
  rw [Array.getElem?_eq_getElem (by rw [Array.size_modify]; exact hlt), Array.getElem_modify_self, hk]; rfl
theorem CrAt.set {W : World} {b n : Nat} {g : Nat → Nat} (h : CrAt W b g n) {k : Nat} (hk : k < 8) (z : Nat) : CrAt (W.setCell ⟨b, k, none⟩ (.int .i64 (z : Nat))) b (fun i => if i = k then z else g i) n := by
  have := cr_block h k (.int .i64 (z : Nat))
  rwa [crA_set g n hk z] at this
theorem CrAt.congr {W : World} {b n : Nat} {g h : Nat → Nat} (c : CrAt W b g n) (e : ∀ i, i < 8 → g i = h i) : CrAt W b h n := by
  unfold CrAt at *
  rw [c, crA_congr n e]

theorem kindCircle : Try.prog.underlying 47 = some (.struct ((match Try.prog.underlying 47 with | some (.struct fs) => fs | _ => #[]))) := by kernel_rfl
theorem sizeCircle (g : Nat → Nat) (n : Nat) : (Try.prog.info? 47).map (·.size) = some (crA g n).size := show (Try.prog.info? 47).map (·.size) = some 9 by kernel_rfl
theorem crA_one (g : Nat → Nat) (n : Nat) : (crA g n).all (·.oneCell') = true := by simp [crA, Value.oneCell']

theorem results_circle {fn : Func} {p : Tmp} (h : fn.results = #[.cell p 47]) (tmps : Array Value) (w : World) (b : Nat) (g : Nat → Nat) (n : Nat) (hp : tmps.getD p undef = .pointer (some ⟨b, 0, none⟩)) (hs : CrAt w b g n) :
    (results fn tmps).run Try.prog w = .ok (crV g n) w :=
  results_cell_row h tmps w b _ _ _ _ hp hs kindCircle rfl (sizeCircle g n)

section
variable {ops : Array Oper} {rest : List Oper} {o : Oper} {a : Act} {w : World} {Q : Exit → Act → World → Prop}
theorem load_cr (hgd : o.guard = none) (x : Operand) (ho : o.op = .load 47 x) (b : Nat) (hx : a.eval x = .pointer (some ⟨b, 0, none⟩)) {g : Nat → Nat} {n : Nat} (hg : CrAt w b g n)
    (h : wpList Try.prog ops Q rest (a.put o.dst (crV g n)) w) : wpList Try.prog ops Q (o :: rest) a w :=
  wpList_load_row hgd _ x ho b hx _ _ _ _ hg kindCircle rfl (sizeCircle g n) h
theorem grown_setRow (w : World) (b : Nat) (cs : Array Value) : w.grownBy (w.setRow b cs) (some b) := ⟨rfl, rfl, rfl, by simp [World.setRow], fun k _ hk => setRow_other w b k cs (fun e => hk (by rw [e]))⟩
theorem store_cr (hgd : o.guard = none) (x y : Operand) (ho : o.op = .store 47 x y) (b : Nat) (g : Nat → Nat) (n : Nat) (hx : a.eval x = .pointer (some ⟨b, 0, none⟩)) (hy : a.eval y = crV g n)
    {old : Array Value} (hb : w.heap[b]? = some (.cells old 47 (0, 0))) (hs : old.size = 9)
    (h : ∀ w', CrAt w' b g n → w.grownBy w' (some b) → wpList Try.prog ops Q rest (a.put o.dst undef) w') : wpList Try.prog ops Q (o :: rest) a w :=
  wpList_store_row hgd _ x y ho b (crA g n) hx hy _ old hb (sizeCircle g n) hs (crA_one g n) (h _ (setRow_heap w b old _ _ _ hb) (grown_setRow w b _))
theorem box_cr (hgd : o.guard = none) (x : Operand) (ho : o.op = .box 47 x) (g : Nat → Nat) (n : Nat) (hx : a.eval x = crV g n)
    (h : wpList Try.prog ops Q rest (a.put o.dst (.pointer (some ⟨w.heap.size, 0, none⟩))) (w.alloc (.cells (crA g n) 47))) : wpList Try.prog ops Q (o :: rest) a w := by
  refine wpList_plain hgd fun K hK => ?_
  unfold Oper.wp execOp
  have hr : (newVar 47 (crV g n)).run Try.prog w = .ok ⟨w.heap.size, 0, none⟩ (w.alloc (.cells (crA g n) 47)) := by
    unfold crV
    go_simp
  simp only [ho, hx, Instr.box, Sem.run_bind, hr, Result.andThen_ok, Sem.run_pure]
  exact hK _ _ h
end
end Go.Proofs.Ytmnmbelmcdfcjaa
