/-
  cellsLeft: the rows that it makes; what is known at the head of its loop.
-/
import Derived.Test.YtehmobcfbifocaaPhase2
import Derived.Test.YtehmobcfbifocaaGang10
import Derived.Test.YtehmobcfbifocaaKit
import Derived.Conc.AppendWalk
import Derived.Test.YtehmobcfbifocaaWork3
namespace Go.Proofs.Ytehmobcfbifocaa
open Go Go.Conc Go.ConcN Go.RowKit

/-- The rows of sums, of which only what is left is kept. -/
def rowR (by' : Int) : Nat → Nat → Int
  | 0, o => if o = 0 then 1 else 0
  | m + 1, o => (prevOf (rowR by' m) o + rowR by' m o).tmod by'
theorem rowR_zero (by' : Int) : ∀ m o, m < o → rowR by' m o = 0
  | 0, o, h => if_neg (by omega)
  | m + 1, o, h => by
    obtain ⟨q, rfl⟩ : ∃ q, o = q + 1 := ⟨o - 1, by omega⟩
    simp only [rowR, prevOf]
    rw [rowR_zero by' m q (by omega), rowR_zero by' m (q + 1) (by omega)]
    exact Int.zero_tmod _
theorem rowR_in {by' : Int} (h : 2 ≤ by') : ∀ m o, 0 ≤ rowR by' m o ∧ rowR by' m o < by'
  | 0, o => by
    simp only [rowR]
    split <;> omega
  | m + 1, o => by
    have h2 := rowR_in h m o
    have h1 : 0 ≤ prevOf (rowR by' m) o := by
      cases o with
      | zero => exact Int.le_refl 0
      | succ q => exact (rowR_in h m q).1
    simp only [rowR]
    exact ⟨Int.tmod_nonneg _ (by omega), Int.tmod_lt_of_pos _ (by omega)⟩

/-- At the head of the loop: row m is made in block X; block Y is free behind the next row. -/
structure CLI (W : World) (Sh₀ Sh : Nat → Prop) (last : Nat) (by' : Int) (X Y m : Nat) (w : World) : Prop where
  tape : w.tape = W.tape
  os : w.os = W.os
  output : w.output = W.output
  size : W.heap.size + 2 ≤ w.heap.size
  low : ∀ k, k < W.heap.size → w.heap[k]? = W.heap[k]?
  hX : X = W.heap.size ∨ X = W.heap.size + 1
  hY : Y = W.heap.size ∨ Y = W.heap.size + 1
  ne : X ≠ Y
  payX : PayAt X (last + 1) w
  payY : PayAt Y (last + 1) w
  cX : ∀ o, o ≤ last → Has X o (.int .i64 (rowR by' m o)) w
  cY : ∀ o, m + 2 ≤ o → o ≤ last → Has Y o (.int .i64 0) w
  sh : ∀ k, Sh k → Sh₀ k ∨ W.heap.size + 2 ≤ k
  rows : Rows1 Sh w
section
variable {W w w' : World} {Sh₀ Sh Sh' : Nat → Prop} {last : Nat} {by' : Int} {X Y m c : Nat}
theorem CLI.ask (h : CLI W Sh₀ Sh last by' X Y m w) (hb : 2 ≤ by' ∧ by' ≤ 100000) (hl : last ≤ 300) (hc : c ≤ 100000) (hs : ∀ k, Sh₀ k → k < W.heap.size) :
    SumAsk w Sh c Y X (min (m + 1) last + 1) (last + 1) (last + 1) (last + 1) by' (rowR by' m) (fun _ => .int .i64 0) := by
  have h1 := h.size
  have hX := h.hX
  have hY := h.hY
  have hns : ∀ k, (k = W.heap.size ∨ k = W.heap.size + 1) → ¬ Sh k := fun k hk hsk => by
    rcases h.sh k hsk with h2 | h2
    · have := hs k h2
      omega
    · omega
  refine ⟨by omega, by omega, h.ne.symm, by omega, hc, hns Y hY, hns X hX, h.rows, hb, fun o _ => rowR_in hb.1 m o, h.payY, fun o ho => h.cX o (by omega), fun o h1 h2 => h.cY o (by omega) (by omega)⟩
theorem CLI.next (h : CLI W Sh₀ Sh last by' X Y m w) (p : SumPost w Sh Y (last + 1) (min (m + 1) last + 1) by' (rowR by' m) (fun _ => .int .i64 0) Sh' w') : CLI W Sh₀ Sh' last by' Y X (m + 1) w' := by
  have h1 := h.size
  have hX := h.hX
  have hY := h.hY
  have hne := h.ne
  have eX := p.low X (by omega) hne
  refine ⟨p.tape.trans h.tape, p.os.trans h.os, p.output.trans h.output, by have := p.size; omega, fun k hk => (p.low k (by omega) (by omega)).trans (h.low k hk), hY, hX, hne.symm, p.pay, ?_, fun o ho => ?_, fun o h2 h3 => ?_, fun k hk => ?_, p.rows⟩
  · obtain ⟨cs, h2, h3⟩ := h.payX
    exact ⟨cs, eX.trans h2, h3⟩
  · rcases Nat.lt_or_ge o (min (m + 1) last + 1) with h2 | h2
    · exact p.cells o h2
    · rw [rowR_zero by' (m + 1) o (by omega)]
      exact p.rest o h2 (by omega)
  · have := h.cX o h3
    rw [rowR_zero by' m o (by omega)] at this
    exact (cell_of_block eX o).trans this
  · rcases p.sh k hk with h2 | h2
    · exact h.sh k h2
    · exact .inr (by omega)
end
/-! ### two rows are made -/
abbrev zrow (n : Nat) : Obj := .cells (madeCells #[.int .i64 0] (n * 1)) 3
theorem make_run {n : Nat} (hn : n ≤ 1000) (w : World) : (Instr.makeSlice 37 (.int .i64 (n : Int)) (.int .i64 (n : Int))).run Try.prog w = .ok (.slice (some ⟨w.heap.size, 0, none⟩) n n) (w.alloc (zrow n)) := by
  obtain ⟨i0, hi, hz0, hz1, hz2⟩ := info_parts Try.infoInt
  have hr := run_make (P := Try.prog) w 37 3 i0 (.int .i64 0) Try.underlying37 hi hz0 .i64 .i64 n n (by omega) (Int.le_refl _) (by rw [hz2]; omega) (by omega)
  simp only [Int.toNat_natCast, hz1] at hr
  exact hr
theorem make_events {n : Nat} (hn : n ≤ 1000) (w : World) (es : Array Event) : (Instr.makeSlice 37 (.int .i64 (n : Int)) (.int .i64 (n : Int))).events Try.prog w es = es := by
  obtain ⟨i0, hi, hz0, hz1, hz2⟩ := info_parts Try.infoInt
  exact events_make w 37 3 i0 (.int .i64 0) Try.underlying37 hi hz0 .i64 .i64 n n (by omega) (Int.le_refl _) (by rw [hz2]; omega) (by omega) (by rw [hz2]; omega) es
def hp (W : World) (z : Obj) : Nat → Array Obj
  | 0 => W.heap
  | n + 1 => (hp W z n).push z
theorem hp_size (W : World) (z : Obj) : ∀ n, (hp W z n).size = W.heap.size + n
  | 0 => rfl
  | n + 1 => by simp [hp, hp_size W z n, Nat.add_assoc]
theorem hp_get (W : World) (z : Obj) : ∀ n k, W.heap.size ≤ k → k < W.heap.size + n → (hp W z n)[k]? = some z
  | 0, k, h1, h2 => by omega
  | n + 1, k, h1, h2 => by
    simp only [hp, Array.getElem?_push, hp_size]
    by_cases e : k = W.heap.size + n
    · rw [if_pos e]
    · rw [if_neg e]
      exact hp_get W z n k h1 (by omega)
theorem hp_low (W : World) (z : Obj) : ∀ n k, k < W.heap.size → (hp W z n)[k]? = W.heap[k]?
  | 0, _, _ => rfl
  | n + 1, k, h => by
    simp only [hp, Array.getElem?_push, hp_size]
    rw [if_neg (by omega)]
    exact hp_low W z n k h
theorem zrow_pay (n : Nat) : ∃ cs, zrow n = .cells cs 3 ∧ cs.size = n ∧ ∀ o, o < n → cs[o]? = some (.int .i64 0) := by
  refine ⟨_, rfl, by simp [madeCells], fun o ho => ?_⟩
  simp [madeCells, ho, Nat.mod_one]
section
variable {W w : World} {Sh : Nat → Prop} {last A B : Nat} {by' : Int}
theorem CLI.at {W w w₁ : World} {Sh₀ Sh : Nat → Prop} {last X Y m : Nat} (h : CLI W Sh₀ Sh last by' X Y m w) (r : AtRel w w₁) : CLI W Sh₀ Sh last by' X Y m w₁ := by
  obtain ⟨d, rfl⟩ := r
  exact ⟨h.tape, h.os, h.output, h.size, h.low, h.hX, h.hY, h.ne, h.payX, h.payY, h.cX, h.cY, h.sh, h.rows⟩
theorem hp_heap {h : Array Obj} {k : Nat} (x : HW W h w) : w.heap[k]? = h[k]? := by rw [x.heap]
theorem zr_cell {n : Nat} (h : w.heap[B]? = some (zrow (n + 1))) : w.cell? ⟨B, 0, none⟩ = some (.int .i64 0) := by
  obtain ⟨cs, h1, h2, h3⟩ := zrow_pay (n + 1)
  rw [h1] at h
  simp [World.cell?, h, h3]
theorem zr_frozen {n : Nat} (h : w.heap[B]? = some (zrow (n + 1))) : w.frozen? ⟨B, 0, none⟩ = false := by simp [World.frozen?, h]
theorem cli_first (h : HW W (hp W (zrow (last + 1)) (1 + 1)) w) (ha : W.heap.size ≤ A ∧ A < W.heap.size + (1 + 1)) (hb : W.heap.size ≤ B ∧ B < W.heap.size + (1 + 1)) (hab : A ≠ B) (hsh : ∀ k, Sh k → k < W.heap.size) (hrows : Rows1 Sh W) :
    CLI W Sh Sh last by' B A 0 (w.setCell ⟨B, 0, none⟩ (.int .i64 1)) ∧ (w.setCell ⟨B, 0, none⟩ (.int .i64 1)).heap.size = W.heap.size + 2 := by
  obtain ⟨cs, h1, h2, h3⟩ := zrow_pay (last + 1)
  have gA : w.heap[A]? = some (.cells cs 3) := by rw [← h1]; exact (hp_heap h).trans (hp_get W _ (1 + 1) A ha.1 ha.2)
  have gB : w.heap[B]? = some (.cells cs 3) := by rw [← h1]; exact (hp_heap h).trans (hp_get W _ (1 + 1) B hb.1 hb.2)
  have hA := aside_setCell w ⟨B, 0, none⟩ (.int .i64 1)
  have gB' : (w.setCell ⟨B, 0, none⟩ (.int .i64 1)).heap[B]? = some (.cells (cs.setIfInBounds 0 (.int .i64 1)) 3) := by
    rw [setCell_eq_setRow w B 0 cs _ (0, 0) _ gB, setRow_heap w B _ _ _ _ gB]
  have gA' := (hA.block A hab).trans gA
  have hsz : (w.setCell ⟨B, 0, none⟩ (.int .i64 1)).heap.size = W.heap.size + 2 := by rw [hA.size, h.heap, hp_size]
  have low : ∀ k, k < W.heap.size → (w.setCell ⟨B, 0, none⟩ (.int .i64 1)).heap[k]? = W.heap[k]? := fun k hk => (hA.block k (show k ≠ B by omega)).trans ((hp_heap h).trans (hp_low W _ (1 + 1) k hk))
  refine ⟨⟨hA.tape.trans h.tape, hA.os.trans h.os, hA.output.trans h.output, by omega, low, by omega, by omega, hab.symm, ⟨_, gB', by simp [h2]⟩, ⟨_, gA', h2⟩, fun o ho => ?_, fun o _ ho => ?_, fun k hk => .inl hk, fun k hk => ?_⟩, hsz⟩
  · simp only [Has, World.cell?, gB']
    by_cases e : o = 0
    · subst e
      simp [rowR, h2]
    · simp only [rowR, if_neg e, Option.isSome_none, Bool.false_eq_true, if_false]
      rw [Array.getElem?_setIfInBounds_ne (Ne.symm e)]
      exact h3 o (by omega)
  · simp only [Has, World.cell?, gA']
    exact h3 o (by omega)
  · obtain ⟨c, e, fr, hk1⟩ := hrows k hk
    exact ⟨c, e, fr, (low k (hsh k hk)).trans hk1⟩
structure CLS (W : World) (Sh : Nat → Prop) (last : Nat) (by' : Int) (X Y : Nat) (w : World) : Prop where
  cli : CLI W Sh Sh last by' X Y 0 w
  sz : w.heap.size = W.heap.size + 2
theorem CLS.at {w₁ : World} {X Y : Nat} (h : CLS W Sh last by' X Y w) (r : AtRel w w₁) : CLS W Sh last by' X Y w₁ := ⟨h.cli.at r, by obtain ⟨d, rfl⟩ := r; exact h.sz⟩
end
end Go.Proofs.Ytehmobcfbifocaa
/-
  cellsLeft, walked beside goroutines that only leave: to the head of its loop. Made by gen_cells7.py.
-/
namespace Go.Proofs.Ytehmobcfbifocaa
open Go Go.Conc Go.ConcN Go.RowKit Go.Conc.Lib Go.ConcR.Gen Go.ConcN.Gen
open Go.ConcR (KK wgBlock WgAt stA smA rd wr mk Payload Aside2 DC0 ofEvent_cell)

noncomputable def L33 : Code := firstLoop (Try.f33.body.getD .skip)
def rest33 : Code → Code
  | .seq _ (.seq _ (.seq _ (.seq _ c))) => c
  | _ => .skip
noncomputable def R33 : Code := rest33 (Try.f33.body.getD .skip)
/-- The values of the region that makes both rows, in blocks A and B. -/
def VM (last A B : Nat) (j : Nat) : Value := match j with
  | 0 => .int .i64 (last : Nat)
  | 1 => .int .i64 ((last : Int) + 1)
  | 2 => .slice (some ⟨A, 0, none⟩) (last + 1) (last + 1)
  | 3 => .int .i64 (last : Nat)
  | 4 => .int .i64 ((last : Int) + 1)
  | 5 => .slice (some ⟨B, 0, none⟩) (last + 1) (last + 1)
  | 6 => .slice (some ⟨A, 0, none⟩) (last + 1) (last + 1)
  | 7 => .slice (some ⟨B, 0, none⟩) (last + 1) (last + 1)
  | _ => undef
abbrev zr (last : Nat) : Obj := zrow (last + 1)
/-- What is known while both rows are made. -/
structure MK (W : World) (last : Nat) (s : Nat → Value) (A B n : Nat) (L : Nat → Bool) (w : World) : Prop where
  hw : HW W (hp W (zr last) n) w
  hn : n = (if L 2 = true then 1 else 0) + (if L 5 = true then 1 else 0)
  hs : ∀ j, j < 8 → L j = true → s j = VM last A B j
  a : L 2 = true → W.heap.size ≤ A ∧ A < W.heap.size + n
  b : L 5 = true → W.heap.size ≤ B ∧ B < W.heap.size + n
  ab : L 2 = true → L 5 = true → A ≠ B
  d6 : L 6 = true → L 2 = true
  d7 : L 7 = true → L 5 = true
section
variable {W w : World} {last A B n : Nat} {s : Nat → Value} {L : Nat → Bool}
theorem MK.set (h : MK W last s A B n L w) {i : Nat} (h2 : i ≠ 2) (h5 : i ≠ 5) (hi6 : i = 6 → L 2 = true) (hi7 : i = 7 → L 5 = true) : MK W last (fun j => if j = i then VM last A B i else s j) A B n (fun j => if j = i then true else L j) w := by
  have e2 : (if 2 = i then true else L 2) = L 2 := if_neg (Ne.symm h2)
  have e5 : (if 5 = i then true else L 5) = L 5 := if_neg (Ne.symm h5)
  refine ⟨h.hw, by rw [h.hn]; simp only [e2, e5], fun j hj hL => ?_, fun x => h.a (by simpa [e2] using x), fun x => h.b (by simpa [e5] using x), fun x y => h.ab (by simpa [e2] using x) (by simpa [e5] using y), fun x => ?_, fun x => ?_⟩
  · by_cases e : j = i
    · subst e
      simp only [if_true]
    · simp only [if_neg e] at hL ⊢
      exact h.hs j hj hL
  · simp only [e2]
    by_cases e : 6 = i
    · exact hi6 e.symm
    · rw [if_neg e] at x
      exact h.d6 x
  · simp only [e5]
    by_cases e : 7 = i
    · exact hi7 e.symm
    · rw [if_neg e] at x
      exact h.d7 x
theorem MK.made2 (h : MK W last s A B n L w) (h2 : L 2 = false) : MK W last (fun j => if j = 2 then VM last w.heap.size B 2 else s j) w.heap.size B (n + 1) (fun j => if j = 2 then true else L j) (w.alloc (zr last)) := by
  have hsz : w.heap.size = W.heap.size + n := by rw [h.hw.heap, hp_size]
  have h6 : L 6 = false := by
    cases e : L 6 with
    | false => rfl
    | true => rw [h.d6 e] at h2; cases h2
  have hb := h.b
  refine ⟨h.hw.push _, by have := h.hn; simp [h2] at this ⊢; omega, fun j hj hL => ?_, fun _ => by omega, fun x => ?_, fun _ y => ?_, fun _ => rfl, fun x => h.d7 x⟩
  · by_cases e : j = 2
    · subst e
      simp only [if_true]
    · simp only [if_neg e] at hL ⊢
      rw [h.hs j hj hL]
      have : j = 0 ∨ j = 1 ∨ j = 3 ∨ j = 4 ∨ j = 5 ∨ j = 6 ∨ j = 7 := by omega
      rcases this with rfl | rfl | rfl | rfl | rfl | rfl | rfl <;> first | rfl | (rw [h6] at hL; cases hL)
  · have := hb x
    omega
  · have := hb y
    omega
theorem MK.made5 (h : MK W last s A B n L w) (h5 : L 5 = false) : MK W last (fun j => if j = 5 then VM last A w.heap.size 5 else s j) A w.heap.size (n + 1) (fun j => if j = 5 then true else L j) (w.alloc (zr last)) := by
  have hsz : w.heap.size = W.heap.size + n := by rw [h.hw.heap, hp_size]
  have h7 : L 7 = false := by
    cases e : L 7 with
    | false => rfl
    | true => rw [h.d7 e] at h5; cases h5
  have ha := h.a
  refine ⟨h.hw.push _, by have := h.hn; simp [h5] at this ⊢; omega, fun j hj hL => ?_, fun x => ?_, fun _ => by omega, fun x _ => ?_, fun x => h.d6 x, fun _ => rfl⟩
  · by_cases e : j = 5
    · subst e
      simp only [if_true]
    · simp only [if_neg e] at hL ⊢
      rw [h.hs j hj hL]
      have : j = 0 ∨ j = 1 ∨ j = 2 ∨ j = 3 ∨ j = 4 ∨ j = 6 ∨ j = 7 := by omega
      rcases this with rfl | rfl | rfl | rfl | rfl | rfl | rfl <;> first | rfl | (rw [h7] at hL; cases hL)
  · have := ha x
    omega
  · have := ha x
    omega
theorem MK.rely {w₁ : World} (h : MK W last s A B n L w) (r : AtRel w w₁) : MK W last s A B n L w₁ := { h with hw := h.hw.at r }
end
/-- The temporaries at the head of the loop. -/
def At33 (row : Int) (last : Nat) (by' : Int) (X Y made : Nat) (T : Array Value) : Prop :=
  T.size = 39 ∧ T[0]? = some (.int .i64 row) ∧ T[1]? = some (.int .i64 (last : Nat)) ∧ T[2]? = some (.int .i64 by') ∧ T[7]? = some (.slice (some ⟨Y, 0, none⟩) (last + 1) (last + 1)) ∧ T[8]? = some (.slice (some ⟨X, 0, none⟩) (last + 1) (last + 1)) ∧ T[9]? = some (.int .i64 (made : Nat))
noncomputable abbrev head33 (T : Array Value) (cs : List Frame) : Goroutine := G ((base 33).at ⟨T, []⟩ [.code L33, .inLoop L33, .inBlock 0, .code R33]) cs
section
variable {W : World} {row : Int} {last : Nat} {by' : Int} {cs : List Frame} {Sh : Nat → Prop}
set_option maxRecDepth 100000 in
set_option maxHeartbeats 4000000 in
theorem cells_pro (hl : last ≤ 300) (hsh : ∀ k, Sh k → k < W.heap.size) (hrows : Rows1 Sh W) : Goes Try.prog true AtRel (DF Sh (W.heap.size + 2)) (fun g' w' => ∃ X Y T, g' = head33 T cs ∧ At33 row last by' X Y 1 T ∧ CLI W Sh Sh last by' X Y 0 w' ∧ W.heap.size + 2 ≤ w'.heap.size) 200
    (G ((base 33).at ⟨(List.toArray (.int .i64 row :: .int .i64 (last : Nat) :: .int .i64 by' :: undef :: undef :: undef :: undef :: undef :: undef :: undef :: undef :: undef :: undef :: undef :: undef :: undef :: undef :: undef :: undef :: undef :: undef :: undef :: undef :: undef :: undef :: undef :: undef :: undef :: undef :: undef :: undef :: undef :: undef :: undef :: undef :: undef :: undef :: undef :: undef :: [])), []⟩ [.code (Try.f33.body.getD .skip)]) cs) W := by
  have hF : HW W W.heap W := ⟨rfl, rfl, rfl, rfl⟩
  have hw1 : IntKind.wrap .i64 ((last : Int) + 1) = (last : Int) + 1 := byw (by omega) (by omega)
  have hmk : ∀ w, (Instr.makeSlice 37 (.int .i64 ((last : Int) + 1)) (.int .i64 ((last : Int) + 1))).run Try.prog w = .ok (.slice (some ⟨w.heap.size, 0, none⟩) (last + 1) (last + 1)) (w.alloc (zr last)) := fun w => by
    have := make_run (n := last + 1) (by omega) w
    simpa using this
  have hme : ∀ w es, (Instr.makeSlice 37 (.int .i64 ((last : Int) + 1)) (.int .i64 ((last : Int) + 1))).events Try.prog w es = es := fun w es => by
    have := make_events (n := last + 1) (by omega) w es
    simpa using this
  have hx1 : ¬ ((last : Int) + 1 ≤ 0) := by omega
  simp only [Try.f33, Option.getD_some]
  refine Goes.step rfl (fun _ h₁ => ?_)
  replace hF := hF.at h₁
  clear h₁
  rw [stepG_seq]
  simp only [goes_go]
  refine ⟨DF.none (by intro e he; simp at he), ?_⟩
  refine Goes.step rfl (fun _ h₁ => ?_)
  replace hF := hF.at h₁
  clear h₁
  rw [stepG_region]
  simp only [goes_go, List.size_toArray, List.length_cons, List.length_nil, Nat.zero_add, List.range, List.range.loop]
  refine ⟨DF.none (by intro e he; simp at he), ?_⟩
  refine Goes.step rfl (fun _ h₁ => ?_)
  replace hF := hF.at h₁
  clear h₁
  refine goes_oper_k rfl rfl (by decide) (fun Kx hKx => ?_)
  go_simp
  refine hKx _ _ ⟨DF.none ?_, ?_⟩
  · intro e he
    have hm := mem_listed he
    simp [go_sem, *] at hm
  clear hKx Kx
  refine Goes.step rfl (fun _ h₁ => ?_)
  replace hF := hF.at h₁
  clear h₁
  rw [stepG_region_end]
  simp only [goes_go]
  refine ⟨DF.none (by intro e he; simp at he), ?_⟩
  refine Goes.step rfl (fun _ h₁ => ?_)
  replace hF := hF.at h₁
  clear h₁
  rw [stepG_seq]
  simp only [goes_go]
  refine ⟨DF.none (by intro e he; simp at he), ?_⟩
  refine Goes.mono (goes_drawn2 (s := 4) (m := 60) (by kernel_rfl) (fun _ => DF.none (by intro e he; simp at he)) (by kernel_rfl) (fun L a w => ∃ (s : Nat → Value) (A B n : Nat), a = (⟨(List.toArray (.int .i64 row :: .int .i64 (last : Nat) :: .int .i64 by' :: undef :: undef :: undef :: .slice none 0 0 :: s 6 :: s 7 :: undef :: undef :: s 0 :: s 1 :: s 2 :: s 3 :: s 4 :: s 5 :: undef :: undef :: undef :: undef :: undef :: undef :: undef :: undef :: undef :: undef :: undef :: undef :: undef :: undef :: undef :: undef :: undef :: undef :: undef :: undef :: undef :: undef :: [])), []⟩ : Act) ∧ MK W last s A B n L w) ?step ?hend ?hI) (by simp)
  case hI =>
    intro w₁ h₁
    replace hF := hF.at h₁
    exact ⟨fun _ => undef, 0, 0, 0, rfl, ⟨⟨hF.tape, hF.os, hF.output, hF.heap⟩, by simp, by simp, by simp, by simp, by simp, by simp, by simp⟩⟩
  case hend =>
    rintro L a w hL ⟨s, A, B, n, rfl, hM⟩
    have hs := fun j hj => hM.hs j hj (hL j (by simp; omega))
    have l2 : L 2 = true := hL 2 (by simp)
    have l5 : L 5 = true := hL 5 (by simp)
    have hn := hM.hn
    rw [l2, l5] at hn
    have ha := hM.a l2
    have hb := hM.b l5
    have hab := hM.ab l2 l5
    replace hF := hM.hw
    clear hM hL l2 l5
    have e0 : s 0 = VM last A B 0 := hs 0 (by decide)
    have e1 : s 1 = VM last A B 1 := hs 1 (by decide)
    have e2 : s 2 = VM last A B 2 := hs 2 (by decide)
    have e3 : s 3 = VM last A B 3 := hs 3 (by decide)
    have e4 : s 4 = VM last A B 4 := hs 4 (by decide)
    have e5 : s 5 = VM last A B 5 := hs 5 (by decide)
    have e6 : s 6 = VM last A B 6 := hs 6 (by decide)
    have e7 : s 7 = VM last A B 7 := hs 7 (by decide)
    simp only [VM] at e0 e1 e2 e3 e4 e5 e6 e7
    clear hs
    simp only [e0, e1, e2, e3, e4, e5, e6, e7]
    clear e0 e1 e2 e3 e4 e5 e6 e7
    simp only [if_true] at hn
    subst hn
    refine Goes.step rfl (fun _ h₁ => ?_)
    replace hF := hF.at h₁
    clear h₁
    rw [stepG_region_end]
    simp only [goes_go]
    refine ⟨DF.none (by intro e he; simp at he), ?_⟩
    refine Goes.step rfl (fun _ h₁ => ?_)
    replace hF := hF.at h₁
    clear h₁
    rw [stepG_seq]
    simp only [goes_go]
    refine ⟨DF.none (by intro e he; simp at he), ?_⟩
    refine Goes.step rfl (fun _ h₁ => ?_)
    replace hF := hF.at h₁
    clear h₁
    rw [stepG_region]
    simp only [goes_go, List.size_toArray, List.length_cons, List.length_nil, Nat.reduceAdd, Nat.zero_add, List.range, List.range.loop]
    refine ⟨DF.none (by intro e he; simp at he), ?_⟩
    refine Goes.step rfl (fun _ h₁ => ?_)
    replace hF := hF.at h₁
    clear h₁
    refine goes_oper_k rfl rfl (by decide) (fun Kx hKx => ?_)
    go_simp
    refine hKx _ _ ⟨DF.none ?_, ?_⟩
    · intro e he
      have hm := mem_listed he
      simp [go_sem, *] at hm
    clear hKx Kx
    refine Goes.step rfl (fun _ h₁ => ?_)
    replace hF := hF.at h₁
    clear h₁
    refine goes_oper_k rfl rfl (by decide) (fun Kx hKx => ?_)
    go_simp
    refine hKx _ _ ⟨DF.none ?_, ?_⟩
    · intro e he
      have hm := mem_listed he
      simp [go_sem, *] at hm
    clear hKx Kx
    refine Goes.step rfl (fun _ h₁ => ?_)
    replace hF := hF.at h₁
    clear h₁
    have hgB : _ = some (zr last) := (hp_heap hF).trans (hp_get W (zr last) (1 + 1) B hb.1 hb.2)
    have hu1 := zr_cell hgB
    have hu2 := zr_frozen hgB
    refine goes_oper_k rfl rfl (by decide) (fun Kx hKx => ?_)
    go_simp
    refine hKx _ _ ⟨fun e he => ?_, ?_⟩
    · have hm := mem_listed he
      simp [go_sem, storedEv, *] at hm
      subst hm
      exact evF_cell (show ¬ Sh B from fun h => by have h1 := hsh B h; omega) hb.2
    clear hKx Kx hu1 hu2 hgB
    obtain ⟨hC, hCs⟩ := cli_first (by' := by') hF ha hb hab hsh hrows
    replace hF := CLS.mk hC hCs
    clear hC hCs
    refine Goes.step rfl (fun _ h₁ => ?_)
    replace hF := hF.at h₁
    clear h₁
    rw [stepG_region_end]
    simp only [goes_go]
    refine ⟨DF.none (by intro e he; simp at he), ?_⟩
    refine Goes.step rfl (fun _ h₁ => ?_)
    replace hF := hF.at h₁
    clear h₁
    rw [stepG_seq]
    simp only [goes_go]
    refine ⟨DF.none (by intro e he; simp at he), ?_⟩
    refine Goes.step rfl (fun _ h₁ => ?_)
    replace hF := hF.at h₁
    clear h₁
    rw [stepG_seq]
    simp only [goes_go]
    refine ⟨DF.none (by intro e he; simp at he), ?_⟩
    refine Goes.step rfl (fun _ h₁ => ?_)
    replace hF := hF.at h₁
    clear h₁
    rw [stepG_region]
    simp only [goes_go, List.size_toArray, List.length_cons, List.length_nil, Nat.zero_add, List.range, List.range.loop]
    refine ⟨DF.none (by intro e he; simp at he), ?_⟩
    refine Goes.step rfl (fun _ h₁ => ?_)
    replace hF := hF.at h₁
    clear h₁
    refine goes_oper_k rfl rfl (by decide) (fun Kx hKx => ?_)
    go_simp
    refine hKx _ _ ⟨DF.none ?_, ?_⟩
    · intro e he
      have hm := mem_listed he
      simp [go_sem, *] at hm
    clear hKx Kx
    refine Goes.step rfl (fun _ h₁ => ?_)
    replace hF := hF.at h₁
    clear h₁
    rw [stepG_region_end]
    simp only [goes_go]
    refine ⟨DF.none (by intro e he; simp at he), ?_⟩
    refine Goes.step rfl (fun _ h₁ => ?_)
    replace hF := hF.at h₁
    clear h₁
    rw [stepG_block]
    simp only [goes_go]
    refine ⟨DF.none (by intro e he; simp at he), ?_⟩
    refine Goes.step rfl (fun _ h₁ => ?_)
    replace hF := hF.at h₁
    clear h₁
    rw [stepG_loop]
    simp only [goes_go]
    refine ⟨DF.none (by intro e he; simp at he), ?_⟩
    exact Goes.stop (fun w₁ h₁ => ⟨_, _, _, rfl, ⟨by simp, by simp, by simp, by simp, by simp, by simp, by simp⟩, (hF.at h₁).cli, Nat.le_of_eq (hF.at h₁).sz.symm⟩)
  case step =>
    rintro L a w i' o rest m' ho hLi hde ⟨s, A, B, n, rfl, hM⟩ _ hK
    have dep := fun k h => dep_of (k := k) ho hde h
    have hi8 : i' < 8 := (Array.getElem?_eq_some_iff.1 ho).1
    have hi : i' = 0 ∨ i' = 1 ∨ i' = 2 ∨ i' = 3 ∨ i' = 4 ∨ i' = 5 ∨ i' = 6 ∨ i' = 7 := by omega
    clear ho hde hi8
    rcases hi with rfl | rfl | rfl | rfl | rfl | rfl | rfl | rfl
    · clear dep
      refine Goes.mono (n := m' + 1) ?_ (by omega)
      refine Goes.step rfl (fun _ h₁ => ?_)
      replace hM := hM.rely h₁
      clear h₁
      refine goes_oper_k rfl rfl (by decide) (fun Kx hKx => ?_)
      go_simp
      refine hKx _ _ ⟨DF.none ?_, ?_⟩
      · intro e he
        have hm := mem_listed he
        simp [go_sem, *] at hm
      clear hKx Kx
      exact hK _ _ ⟨_, _, _, _, by simp [VM] <;> rfl, hM.set (i := 0) (by decide) (by decide) (by omega) (by omega)⟩
    · have q0 : L 0 = true := dep 0 (by kernel_rfl)
      have e0 : s 0 = VM last A B 0 := hM.hs 0 (by decide) q0
      simp only [VM] at e0
      clear dep
      refine Goes.mono (n := m' + 1) ?_ (by omega)
      refine Goes.step rfl (fun _ h₁ => ?_)
      replace hM := hM.rely h₁
      clear h₁
      refine goes_oper_k rfl rfl (by decide) (fun Kx hKx => ?_)
      go_simp
      refine hKx _ _ ⟨DF.none ?_, ?_⟩
      · intro e he
        have hm := mem_listed he
        simp [go_sem, *] at hm
      clear hKx Kx
      exact hK _ _ ⟨_, _, _, _, by simp [VM, e0] <;> rfl, hM.set (i := 1) (by decide) (by decide) (by omega) (by omega)⟩
    · have q1 : L 1 = true := dep 1 (by kernel_rfl)
      have e1 : s 1 = VM last A B 1 := hM.hs 1 (by decide) q1
      simp only [VM] at e1
      clear dep
      refine Goes.mono (n := m' + 1) ?_ (by omega)
      refine Goes.step rfl (fun _ h₁ => ?_)
      replace hM := hM.rely h₁
      clear h₁
      refine goes_oper_k rfl rfl (by decide) (fun Kx hKx => ?_)
      have hsz : _ = W.heap.size + n := hM.hw.sz (hp_size W (zr last) n)
      go_simp
      refine hKx _ _ ⟨DF.none ?_, ?_⟩
      · intro e he
        have hm := mem_listed he
        simp [go_sem, *] at hm
      clear hKx Kx
      exact hK _ _ ⟨_, _, _, _, by simp [VM, e1] <;> rfl, hM.made2 hLi⟩
    · clear dep
      refine Goes.mono (n := m' + 1) ?_ (by omega)
      refine Goes.step rfl (fun _ h₁ => ?_)
      replace hM := hM.rely h₁
      clear h₁
      refine goes_oper_k rfl rfl (by decide) (fun Kx hKx => ?_)
      go_simp
      refine hKx _ _ ⟨DF.none ?_, ?_⟩
      · intro e he
        have hm := mem_listed he
        simp [go_sem, *] at hm
      clear hKx Kx
      exact hK _ _ ⟨_, _, _, _, by simp [VM] <;> rfl, hM.set (i := 3) (by decide) (by decide) (by omega) (by omega)⟩
    · have q3 : L 3 = true := dep 3 (by kernel_rfl)
      have e3 : s 3 = VM last A B 3 := hM.hs 3 (by decide) q3
      simp only [VM] at e3
      clear dep
      refine Goes.mono (n := m' + 1) ?_ (by omega)
      refine Goes.step rfl (fun _ h₁ => ?_)
      replace hM := hM.rely h₁
      clear h₁
      refine goes_oper_k rfl rfl (by decide) (fun Kx hKx => ?_)
      go_simp
      refine hKx _ _ ⟨DF.none ?_, ?_⟩
      · intro e he
        have hm := mem_listed he
        simp [go_sem, *] at hm
      clear hKx Kx
      exact hK _ _ ⟨_, _, _, _, by simp [VM, e3] <;> rfl, hM.set (i := 4) (by decide) (by decide) (by omega) (by omega)⟩
    · have q4 : L 4 = true := dep 4 (by kernel_rfl)
      have e4 : s 4 = VM last A B 4 := hM.hs 4 (by decide) q4
      simp only [VM] at e4
      clear dep
      refine Goes.mono (n := m' + 1) ?_ (by omega)
      refine Goes.step rfl (fun _ h₁ => ?_)
      replace hM := hM.rely h₁
      clear h₁
      refine goes_oper_k rfl rfl (by decide) (fun Kx hKx => ?_)
      have hsz : _ = W.heap.size + n := hM.hw.sz (hp_size W (zr last) n)
      go_simp
      refine hKx _ _ ⟨DF.none ?_, ?_⟩
      · intro e he
        have hm := mem_listed he
        simp [go_sem, *] at hm
      clear hKx Kx
      exact hK _ _ ⟨_, _, _, _, by simp [VM, e4] <;> rfl, hM.made5 hLi⟩
    · have q2 : L 2 = true := dep 2 (by kernel_rfl)
      have e2 : s 2 = VM last A B 2 := hM.hs 2 (by decide) q2
      simp only [VM] at e2
      clear dep
      refine Goes.mono (n := m' + 1) ?_ (by omega)
      refine Goes.step rfl (fun _ h₁ => ?_)
      replace hM := hM.rely h₁
      clear h₁
      refine goes_oper_k rfl rfl (by decide) (fun Kx hKx => ?_)
      go_simp
      refine hKx _ _ ⟨DF.none ?_, ?_⟩
      · intro e he
        have hm := mem_listed he
        simp [go_sem, *] at hm
      clear hKx Kx
      exact hK _ _ ⟨_, _, _, _, by simp [VM, e2] <;> rfl, hM.set (i := 6) (by decide) (by decide) (fun _ => q2) (by omega)⟩
    · have q5 : L 5 = true := dep 5 (by kernel_rfl)
      have e5 : s 5 = VM last A B 5 := hM.hs 5 (by decide) q5
      simp only [VM] at e5
      clear dep
      refine Goes.mono (n := m' + 1) ?_ (by omega)
      refine Goes.step rfl (fun _ h₁ => ?_)
      replace hM := hM.rely h₁
      clear h₁
      refine goes_oper_k rfl rfl (by decide) (fun Kx hKx => ?_)
      go_simp
      refine hKx _ _ ⟨DF.none ?_, ?_⟩
      · intro e he
        have hm := mem_listed he
        simp [go_sem, *] at hm
      clear hKx Kx
      exact hK _ _ ⟨_, _, _, _, by simp [VM, e5] <;> rfl, hM.set (i := 7) (by decide) (by decide) (by omega) (fun _ => q5)⟩
end
end Go.Proofs.Ytehmobcfbifocaa
/-
  cellsLeft, walked beside goroutines that only leave: a turn of its loop; its end. Made by gen_cells8.py.
-/
namespace Go.Proofs.Ytehmobcfbifocaa
open Go Go.Conc Go.ConcN Go.RowKit Go.Conc.Lib Go.ConcR.Gen Go.ConcN.Gen
open Go.ConcR (KK wgBlock WgAt stA smA rd wr mk Payload Aside2 DC0 ofEvent_cell)

theorem array39 (T : Array Value) (h : T.size = 39) : ∃ v0 v1 v2 v3 v4 v5 v6 v7 v8 v9 v10 v11 v12 v13 v14 v15 v16 v17 v18 v19 v20 v21 v22 v23 v24 v25 v26 v27 v28 v29 v30 v31 v32 v33 v34 v35 v36 v37 v38, T = (List.toArray (v0 :: v1 :: v2 :: v3 :: v4 :: v5 :: v6 :: v7 :: v8 :: v9 :: v10 :: v11 :: v12 :: v13 :: v14 :: v15 :: v16 :: v17 :: v18 :: v19 :: v20 :: v21 :: v22 :: v23 :: v24 :: v25 :: v26 :: v27 :: v28 :: v29 :: v30 :: v31 :: v32 :: v33 :: v34 :: v35 :: v36 :: v37 :: v38 :: [])) := by
  obtain ⟨l⟩ := T
  rcases l with _ | ⟨v0, l⟩
  · simp at h
  rcases l with _ | ⟨v1, l⟩
  · simp at h
  rcases l with _ | ⟨v2, l⟩
  · simp at h
  rcases l with _ | ⟨v3, l⟩
  · simp at h
  rcases l with _ | ⟨v4, l⟩
  · simp at h
  rcases l with _ | ⟨v5, l⟩
  · simp at h
  rcases l with _ | ⟨v6, l⟩
  · simp at h
  rcases l with _ | ⟨v7, l⟩
  · simp at h
  rcases l with _ | ⟨v8, l⟩
  · simp at h
  rcases l with _ | ⟨v9, l⟩
  · simp at h
  rcases l with _ | ⟨v10, l⟩
  · simp at h
  rcases l with _ | ⟨v11, l⟩
  · simp at h
  rcases l with _ | ⟨v12, l⟩
  · simp at h
  rcases l with _ | ⟨v13, l⟩
  · simp at h
  rcases l with _ | ⟨v14, l⟩
  · simp at h
  rcases l with _ | ⟨v15, l⟩
  · simp at h
  rcases l with _ | ⟨v16, l⟩
  · simp at h
  rcases l with _ | ⟨v17, l⟩
  · simp at h
  rcases l with _ | ⟨v18, l⟩
  · simp at h
  rcases l with _ | ⟨v19, l⟩
  · simp at h
  rcases l with _ | ⟨v20, l⟩
  · simp at h
  rcases l with _ | ⟨v21, l⟩
  · simp at h
  rcases l with _ | ⟨v22, l⟩
  · simp at h
  rcases l with _ | ⟨v23, l⟩
  · simp at h
  rcases l with _ | ⟨v24, l⟩
  · simp at h
  rcases l with _ | ⟨v25, l⟩
  · simp at h
  rcases l with _ | ⟨v26, l⟩
  · simp at h
  rcases l with _ | ⟨v27, l⟩
  · simp at h
  rcases l with _ | ⟨v28, l⟩
  · simp at h
  rcases l with _ | ⟨v29, l⟩
  · simp at h
  rcases l with _ | ⟨v30, l⟩
  · simp at h
  rcases l with _ | ⟨v31, l⟩
  · simp at h
  rcases l with _ | ⟨v32, l⟩
  · simp at h
  rcases l with _ | ⟨v33, l⟩
  · simp at h
  rcases l with _ | ⟨v34, l⟩
  · simp at h
  rcases l with _ | ⟨v35, l⟩
  · simp at h
  rcases l with _ | ⟨v36, l⟩
  · simp at h
  rcases l with _ | ⟨v37, l⟩
  · simp at h
  rcases l with _ | ⟨v38, l⟩
  · simp at h
  rcases l with _ | ⟨x, l⟩
  · exact ⟨v0, v1, v2, v3, v4, v5, v6, v7, v8, v9, v10, v11, v12, v13, v14, v15, v16, v17, v18, v19, v20, v21, v22, v23, v24, v25, v26, v27, v28, v29, v30, v31, v32, v33, v34, v35, v36, v37, v38, rfl⟩
  · simp at h
theorem slice_events {Y n k : Nat} (h : k ≤ n) (w : World) (es : Array Event) : (Instr.sliceAt 37 (.slice (some ⟨Y, 0, none⟩) n n) none (some (.int .i64 (k : Int))) none).events Try.prog w es = es := by
  have h1 : (k : Int) ≤ n := by omega
  have h2 : (0 : Int) ≤ k := by omega
  simp [go_sem, Instr.sliceAt, Instr.slice, Instr.sliceBounds, Instr.sliceBound, *]
theorem nm39 : (Try.f39.name == "runtime.NumGoroutine") = false := by kernel_rfl
def callPart : Code → Code
  | .seq _ (.seq (.block _ (.seq _ (.seq _ c))) _) => c
  | _ => .skip
def stepPart : Code → Code
  | .seq _ (.seq _ c) => c
  | _ => .skip
noncomputable def ops33 : Array Oper := opsOf (callPart L33)
noncomputable def K33 : List Item := [.inBlock 1, .code (stepPart L33), .inLoop L33, .inBlock 0, .code R33]
/-- The values of the region that asks. -/
def VQ (last : Nat) (by' : Int) (X Y q : Nat) (j : Nat) : Value := match j with
  | 0 => .slice (some ⟨Y, 0, none⟩) (last + 1) (last + 1)
  | 1 => .int .i64 ((q : Int) + 1)
  | 2 => .slice (some ⟨Y, 0, none⟩) (q + 1) (last + 1)
  | 3 => .slice (some ⟨X, 0, none⟩) (last + 1) (last + 1)
  | 4 => .int .i64 ((q : Int) + 1)
  | 5 => .slice (some ⟨X, 0, none⟩) (q + 1) (last + 1)
  | 6 => .int .i64 by'
  | _ => undef
structure CLN (N : Nat) (W : World) (Sh₀ Sh : Nat → Prop) (last : Nat) (by' : Int) (X Y m : Nat) (w : World) : Prop where
  cli : CLI W Sh₀ Sh last by' X Y m w
  sz : N ≤ w.heap.size
theorem CLN.at {N : Nat} {W w w₁ : World} {Sh₀ Sh : Nat → Prop} {last X Y m : Nat} {by' : Int} (h : CLN N W Sh₀ Sh last by' X Y m w) (r : AtRel w w₁) : CLN N W Sh₀ Sh last by' X Y m w₁ := ⟨h.cli.at r, by obtain ⟨d, rfl⟩ := r; exact h.sz⟩
structure AK (N : Nat) (W : World) (Sh₀ Sh : Nat → Prop) (last : Nat) (by' : Int) (X Y m q : Nat) (s : Nat → Value) (L : Nat → Bool) (w : World) : Prop where
  cli : CLN N W Sh₀ Sh last by' X Y m w
  hs : ∀ j, j < 7 → L j = true → s j = VQ last by' X Y q j
  d2 : L 2 = true → L 0 = true ∧ L 1 = true
  d5 : L 5 = true → L 3 = true ∧ L 4 = true
  d7 : L 7 = false
section
variable {W w : World} {Sh₀ Sh : Nat → Prop} {N last X Y m q : Nat} {by' : Int} {s : Nat → Value} {L : Nat → Bool}
theorem AK.rely {w₁ : World} (h : AK N W Sh₀ Sh last by' X Y m q s L w) (r : AtRel w w₁) : AK N W Sh₀ Sh last by' X Y m q s L w₁ := { h with cli := h.cli.at r }
theorem AK.set (h : AK N W Sh₀ Sh last by' X Y m q s L w) {i : Nat} (h7 : i ≠ 7) (hi2 : i = 2 → L 0 = true ∧ L 1 = true) (hi5 : i = 5 → L 3 = true ∧ L 4 = true) : AK N W Sh₀ Sh last by' X Y m q (fun j => if j = i then VQ last by' X Y q i else s j) (fun j => if j = i then true else L j) w := by
  have up : ∀ k, L k = true → (if k = i then true else L k) = true := fun k hk => by
    split
    · rfl
    · exact hk
  refine ⟨h.cli, fun j hj hL => ?_, fun x => ?_, fun x => ?_, ?_⟩
  · by_cases e : j = i
    · subst e
      simp only [if_true]
    · simp only [if_neg e] at hL ⊢
      exact h.hs j hj hL
  · have : L 0 = true ∧ L 1 = true := by
      by_cases e : 2 = i
      · exact hi2 e.symm
      · exact h.d2 (by simpa [e] using x)
    exact ⟨up 0 this.1, up 1 this.2⟩
  · have : L 3 = true ∧ L 4 = true := by
      by_cases e : 5 = i
      · exact hi5 e.symm
      · exact h.d5 (by simpa [e] using x)
    exact ⟨up 3 this.1, up 4 this.2⟩
  · show (if 7 = i then true else L 7) = false
    rw [if_neg (Ne.symm h7)]
    exact h.d7
end
section
variable {W : World} {row : Int} {last : Nat} {by' : Int} {cs : List Frame} {Sh₀ Sh : Nat → Prop} {N X Y m made q : Nat} {w : World} {T : Array Value} {B : Nat}
/-- At the call of sumInLots, its frame being entered. -/
def At39 (last : Nat) (by' : Int) (X Y q : Nat) (T : Array Value) (cs : List Frame) (g : Goroutine) : Prop :=
  g = G ((base 39).at ⟨#[.slice (some ⟨Y, 0, none⟩) (q + 1) (last + 1), .slice (some ⟨X, 0, none⟩) (q + 1) (last + 1), .int .i64 by', undef, undef, undef, undef, undef, undef, undef, undef, undef, undef, undef, undef, undef, undef, undef], []⟩ [.code (Try.f39.body.getD .skip)]) ((base 33).at ⟨T, []⟩ (.inRegion ops33 (7 :: []) :: K33) :: cs)
set_option maxRecDepth 100000 in
set_option maxHeartbeats 4000000 in
theorem cells_turn (hT : At33 row last by' X Y made T) (hl : last ≤ 300) (hmade : made ≤ 300) (hrow : (made : Int) ≤ row) (hq : q = min made last) (hF : CLN N W Sh₀ Sh last by' X Y m w) :
    Goes Try.prog true AtRel (DF Sh B) (fun g' w' => ∃ T', At39 last by' X Y q T' cs g' ∧ At33 row last by' Y X made T' ∧ CLN N W Sh₀ Sh last by' X Y m w') 200 (head33 T cs) w := by
  obtain ⟨hT, q0, q1, q2, q7, q8, q9⟩ := hT
  obtain ⟨v0, v1, v2, v3, v4, v5, v6, v7, v8, v9, v10, v11, v12, v13, v14, v15, v16, v17, v18, v19, v20, v21, v22, v23, v24, v25, v26, v27, v28, v29, v30, v31, v32, v33, v34, v35, v36, v37, v38, rfl⟩ := array39 T hT
  simp only [List.getElem?_toArray, List.getElem?_cons_succ, List.getElem?_cons_zero, Option.some.injEq] at q0 q1 q2 q7 q8 q9
  subst q0 q1 q2 q7 q8 q9
  have hmin : (if (last : Int) < (made : Int) then (last : Int) else (made : Int)) = (q : Int) := by
    split <;> omega
  have hmin' : (if last < made then (last : Int) else (made : Int)) = (q : Int) := by
    split <;> omega
  have hw1 : IntKind.wrap .i64 ((q : Int) + 1) = (q : Int) + 1 := byw (by omega) (by omega)
  have hw2 : IntKind.wrap .i64 ((made : Int) + 1) = ((made + 1 : Nat) : Int) := by
    rw [byw (by omega) (by omega)]
    omega
  have hs1 : (q : Int) + 1 ≤ (last : Int) + 1 := by omega
  have hs2 : (0 : Int) ≤ (q : Int) + 1 := by omega
  have hse : ∀ (Z : Nat) (w : World) (es : Array Event), (Instr.sliceAt 37 (.slice (some ⟨Z, 0, none⟩) (last + 1) (last + 1)) none (some (.int .i64 ((q : Int) + 1))) none).events Try.prog w es = es := fun Z w es => by
    have := slice_events (Y := Z) (n := last + 1) (k := q + 1) (by omega) w es
    simpa using this
  clear hq
  simp only [head33, At39, L33, R33, K33, ops33, opsOf, callPart, stepPart, rest33, firstLoop, Try.f33, Option.getD_some]
  refine Goes.step rfl (fun _ h₁ => ?_)
  replace hF := hF.at h₁
  clear h₁
  rw [stepG_seq]
  simp only [goes_go]
  refine ⟨DF.none (by intro e he; simp at he), ?_⟩
  refine Goes.step rfl (fun _ h₁ => ?_)
  replace hF := hF.at h₁
  clear h₁
  rw [stepG_seq]
  simp only [goes_go]
  refine ⟨DF.none (by intro e he; simp at he), ?_⟩
  refine Goes.step rfl (fun _ h₁ => ?_)
  replace hF := hF.at h₁
  clear h₁
  rw [stepG_region]
  simp only [goes_go, List.size_toArray, List.length_cons, List.length_nil, Nat.reduceAdd, Nat.zero_add, List.range, List.range.loop]
  refine ⟨DF.none (by intro e he; simp at he), ?_⟩
  refine Goes.step rfl (fun _ h₁ => ?_)
  replace hF := hF.at h₁
  clear h₁
  refine goes_oper_k rfl rfl (by decide) (fun Kx hKx => ?_)
  go_simp
  refine hKx _ _ ⟨DF.none ?_, ?_⟩
  · intro e he
    have hm := mem_listed he
    simp [go_sem, *] at hm
  clear hKx Kx
  refine Goes.step rfl (fun _ h₁ => ?_)
  replace hF := hF.at h₁
  clear h₁
  refine goes_oper_k rfl rfl (by decide) (fun Kx hKx => ?_)
  go_simp
  refine hKx _ _ ⟨DF.none ?_, ?_⟩
  · intro e he
    have hm := mem_listed he
    simp [go_sem, *] at hm
  clear hKx Kx
  refine Goes.step rfl (fun _ h₁ => ?_)
  replace hF := hF.at h₁
  clear h₁
  refine goes_oper_k rfl rfl (by decide) (fun Kx hKx => ?_)
  go_simp
  refine hKx _ _ ⟨DF.none ?_, ?_⟩
  · intro e he
    have hm := mem_listed he
    simp [go_sem, *] at hm
  clear hKx Kx
  refine Goes.step rfl (fun _ h₁ => ?_)
  replace hF := hF.at h₁
  clear h₁
  rw [stepG_region_end]
  simp only [goes_go]
  refine ⟨DF.none (by intro e he; simp at he), ?_⟩
  refine Goes.step rfl (fun _ h₁ => ?_)
  replace hF := hF.at h₁
  clear h₁
  rw [stepG_cond (t := true) (by first | rfl | (simp [Act.eval]; omega))]
  simp only [goes_go, ↓reduceIte]
  refine ⟨DF.none (by intro e he; simp at he), ?_⟩
  refine Goes.step rfl (fun _ h₁ => ?_)
  replace hF := hF.at h₁
  clear h₁
  rw [stepG_skip]
  simp only [goes_go]
  refine ⟨DF.none (by intro e he; simp at he), ?_⟩
  refine Goes.step rfl (fun _ h₁ => ?_)
  replace hF := hF.at h₁
  clear h₁
  rw [stepG_seq]
  simp only [goes_go]
  refine ⟨DF.none (by intro e he; simp at he), ?_⟩
  refine Goes.step rfl (fun _ h₁ => ?_)
  replace hF := hF.at h₁
  clear h₁
  rw [stepG_block]
  simp only [goes_go]
  refine ⟨DF.none (by intro e he; simp at he), ?_⟩
  refine Goes.step rfl (fun _ h₁ => ?_)
  replace hF := hF.at h₁
  clear h₁
  rw [stepG_seq]
  simp only [goes_go]
  refine ⟨DF.none (by intro e he; simp at he), ?_⟩
  refine Goes.step rfl (fun _ h₁ => ?_)
  replace hF := hF.at h₁
  clear h₁
  rw [stepG_region]
  simp only [goes_go, List.size_toArray, List.length_cons, List.length_nil, Nat.reduceAdd, Nat.zero_add, List.range, List.range.loop]
  refine ⟨DF.none (by intro e he; simp at he), ?_⟩
  refine Goes.step rfl (fun _ h₁ => ?_)
  replace hF := hF.at h₁
  clear h₁
  refine goes_oper_k rfl rfl (by decide) (fun Kx hKx => ?_)
  go_simp
  refine hKx _ _ ⟨DF.none ?_, ?_⟩
  · intro e he
    have hm := mem_listed he
    simp [go_sem, *] at hm
  clear hKx Kx
  refine Goes.step rfl (fun _ h₁ => ?_)
  replace hF := hF.at h₁
  clear h₁
  refine goes_oper_k rfl rfl (by decide) (fun Kx hKx => ?_)
  go_simp
  refine hKx _ _ ⟨DF.none ?_, ?_⟩
  · intro e he
    have hm := mem_listed he
    simp [go_sem, *] at hm
  clear hKx Kx
  refine Goes.step rfl (fun _ h₁ => ?_)
  replace hF := hF.at h₁
  clear h₁
  refine goes_oper_k rfl rfl (by decide) (fun Kx hKx => ?_)
  go_simp
  refine hKx _ _ ⟨DF.none ?_, ?_⟩
  · intro e he
    have hm := mem_listed he
    simp [go_sem, *] at hm
  clear hKx Kx
  refine Goes.step rfl (fun _ h₁ => ?_)
  replace hF := hF.at h₁
  clear h₁
  refine goes_oper_k rfl rfl (by decide) (fun Kx hKx => ?_)
  go_simp
  refine hKx _ _ ⟨DF.none ?_, ?_⟩
  · intro e he
    have hm := mem_listed he
    simp [go_sem, *] at hm
  clear hKx Kx
  refine Goes.step rfl (fun _ h₁ => ?_)
  replace hF := hF.at h₁
  clear h₁
  rw [stepG_region_end]
  simp only [goes_go]
  refine ⟨DF.none (by intro e he; simp at he), ?_⟩
  refine Goes.step rfl (fun _ h₁ => ?_)
  replace hF := hF.at h₁
  clear h₁
  rw [stepG_seq]
  simp only [goes_go]
  refine ⟨DF.none (by intro e he; simp at he), ?_⟩
  refine Goes.step rfl (fun _ h₁ => ?_)
  replace hF := hF.at h₁
  clear h₁
  rw [stepG_region]
  simp only [goes_go, List.size_toArray, List.length_cons, List.length_nil, Nat.reduceAdd, Nat.zero_add, List.range, List.range.loop]
  refine ⟨DF.none (by intro e he; simp at he), ?_⟩
  refine Goes.step rfl (fun _ h₁ => ?_)
  replace hF := hF.at h₁
  clear h₁
  refine goes_oper_k rfl rfl (by decide) (fun Kx hKx => ?_)
  go_simp
  refine hKx _ _ ⟨DF.none ?_, ?_⟩
  · intro e he
    have hm := mem_listed he
    simp [go_sem, *] at hm
  clear hKx Kx
  refine Goes.step rfl (fun _ h₁ => ?_)
  replace hF := hF.at h₁
  clear h₁
  refine goes_oper_k rfl rfl (by decide) (fun Kx hKx => ?_)
  go_simp
  refine hKx _ _ ⟨DF.none ?_, ?_⟩
  · intro e he
    have hm := mem_listed he
    simp [go_sem, *] at hm
  clear hKx Kx
  refine Goes.step rfl (fun _ h₁ => ?_)
  replace hF := hF.at h₁
  clear h₁
  refine goes_oper_k rfl rfl (by decide) (fun Kx hKx => ?_)
  go_simp
  refine hKx _ _ ⟨DF.none ?_, ?_⟩
  · intro e he
    have hm := mem_listed he
    simp [go_sem, ev_min, *] at hm
  clear hKx Kx
  refine Goes.step rfl (fun _ h₁ => ?_)
  replace hF := hF.at h₁
  clear h₁
  refine goes_oper_k rfl rfl (by decide) (fun Kx hKx => ?_)
  go_simp
  refine hKx _ _ ⟨DF.none ?_, ?_⟩
  · intro e he
    have hm := mem_listed he
    simp [go_sem, *] at hm
  clear hKx Kx
  refine Goes.step rfl (fun _ h₁ => ?_)
  replace hF := hF.at h₁
  clear h₁
  refine goes_oper_k rfl rfl (by decide) (fun Kx hKx => ?_)
  go_simp
  refine hKx _ _ ⟨DF.none ?_, ?_⟩
  · intro e he
    have hm := mem_listed he
    simp [go_sem, *] at hm
  clear hKx Kx
  refine Goes.step rfl (fun _ h₁ => ?_)
  replace hF := hF.at h₁
  clear h₁
  rw [stepG_region_end]
  simp only [goes_go]
  refine ⟨DF.none (by intro e he; simp at he), ?_⟩
  refine Goes.mono (goes_drawn2 (s := 4) (m := 60) (by kernel_rfl) (fun _ => DF.none (by intro e he; simp at he)) (by kernel_rfl) (fun L a w => ∃ (s : Nat → Value), a = (⟨(List.toArray (.int .i64 row :: .int .i64 (last : Nat) :: .int .i64 by' :: v3 :: v4 :: v5 :: v6 :: .slice (some ⟨X, 0, none⟩) (last + 1) (last + 1) :: .slice (some ⟨Y, 0, none⟩) (last + 1) (last + 1) :: .int .i64 (made : Nat) :: .int .i64 ((q : Int) + 1) :: v11 :: v12 :: v13 :: v14 :: v15 :: v16 :: v17 :: v18 :: .int .i64 (made : Nat) :: .int .i64 row :: .bool true :: v22 :: v23 :: .slice (some ⟨X, 0, none⟩) (last + 1) (last + 1) :: .slice (some ⟨Y, 0, none⟩) (last + 1) (last + 1) :: .int .i64 (made : Nat) :: .int .i64 (last : Nat) :: .int .i64 (q : Int) :: .int .i64 ((q : Int) + 1) :: s 0 :: s 1 :: s 2 :: s 3 :: s 4 :: s 5 :: s 6 :: s 7 :: v38 :: [])), []⟩ : Act) ∧ AK N W Sh₀ Sh last by' X Y m q s L w) ?step ?hend ?hI) (by simp)
  case hI =>
    intro w₁ h₁
    replace hF := (hF.at h₁).at (w₁ := { w₁ with drawn := w₁.drawn + 1 }) ⟨_, rfl⟩
    exact ⟨fun j => match j with | 0 => v30 | 1 => v31 | 2 => v32 | 3 => v33 | 4 => v34 | 5 => v35 | 6 => v36 | 7 => v37 | _ => undef, rfl, ⟨hF, by simp, by simp, by simp, rfl⟩⟩
  case hend =>
    rintro L a w hL ⟨s, rfl, hM⟩
    have := hL 7 (by simp)
    rw [hM.d7] at this
    cases this
  case step =>
    rintro L a w i' o rest m' ho hLi hde ⟨s, rfl, hM⟩ hrest hK
    have dep := fun k h => dep_of (k := k) ho hde h
    have hi8 : i' < 8 := (Array.getElem?_eq_some_iff.1 ho).1
    have hi : i' = 0 ∨ i' = 1 ∨ i' = 2 ∨ i' = 3 ∨ i' = 4 ∨ i' = 5 ∨ i' = 6 ∨ i' = 7 := by omega
    clear ho hde hi8
    rcases hi with rfl | rfl | rfl | rfl | rfl | rfl | rfl | rfl
    · clear dep
      refine Goes.mono (n := m' + 1) ?_ (by omega)
      refine Goes.step rfl (fun _ h₁ => ?_)
      replace hM := hM.rely h₁
      clear h₁
      refine goes_oper_k rfl rfl (by decide) (fun Kx hKx => ?_)
      go_simp
      refine hKx _ _ ⟨DF.none ?_, ?_⟩
      · intro e he
        have hm := mem_listed he
        simp [go_sem, *] at hm
      clear hKx Kx
      exact hK _ _ ⟨_, by simp [VQ] <;> rfl, hM.set (i := 0) (by decide) (by omega) (by omega)⟩
    · clear dep
      refine Goes.mono (n := m' + 1) ?_ (by omega)
      refine Goes.step rfl (fun _ h₁ => ?_)
      replace hM := hM.rely h₁
      clear h₁
      refine goes_oper_k rfl rfl (by decide) (fun Kx hKx => ?_)
      go_simp
      refine hKx _ _ ⟨DF.none ?_, ?_⟩
      · intro e he
        have hm := mem_listed he
        simp [go_sem, *] at hm
      clear hKx Kx
      exact hK _ _ ⟨_, by simp [VQ] <;> rfl, hM.set (i := 1) (by decide) (by omega) (by omega)⟩
    · have q0 : L 0 = true := dep 0 (by kernel_rfl)
      have e0 : s 0 = VQ last by' X Y q 0 := hM.hs 0 (by decide) q0
      have q1 : L 1 = true := dep 1 (by kernel_rfl)
      have e1 : s 1 = VQ last by' X Y q 1 := hM.hs 1 (by decide) q1
      simp only [VQ] at e0 e1
      clear dep
      refine Goes.mono (n := m' + 1) ?_ (by omega)
      refine Goes.step rfl (fun _ h₁ => ?_)
      replace hM := hM.rely h₁
      clear h₁
      refine goes_oper_k rfl rfl (by decide) (fun Kx hKx => ?_)
      go_simp
      refine hKx _ _ ⟨DF.none ?_, ?_⟩
      · intro e he
        have hm := mem_listed he
        simp [go_sem, *] at hm
      clear hKx Kx
      exact hK _ _ ⟨_, by simp [VQ, e0, e1] <;> rfl, hM.set (i := 2) (by decide) (fun _ => ⟨q0, q1⟩) (by omega)⟩
    · clear dep
      refine Goes.mono (n := m' + 1) ?_ (by omega)
      refine Goes.step rfl (fun _ h₁ => ?_)
      replace hM := hM.rely h₁
      clear h₁
      refine goes_oper_k rfl rfl (by decide) (fun Kx hKx => ?_)
      go_simp
      refine hKx _ _ ⟨DF.none ?_, ?_⟩
      · intro e he
        have hm := mem_listed he
        simp [go_sem, *] at hm
      clear hKx Kx
      exact hK _ _ ⟨_, by simp [VQ] <;> rfl, hM.set (i := 3) (by decide) (by omega) (by omega)⟩
    · clear dep
      refine Goes.mono (n := m' + 1) ?_ (by omega)
      refine Goes.step rfl (fun _ h₁ => ?_)
      replace hM := hM.rely h₁
      clear h₁
      refine goes_oper_k rfl rfl (by decide) (fun Kx hKx => ?_)
      go_simp
      refine hKx _ _ ⟨DF.none ?_, ?_⟩
      · intro e he
        have hm := mem_listed he
        simp [go_sem, *] at hm
      clear hKx Kx
      exact hK _ _ ⟨_, by simp [VQ] <;> rfl, hM.set (i := 4) (by decide) (by omega) (by omega)⟩
    · have q3 : L 3 = true := dep 3 (by kernel_rfl)
      have e3 : s 3 = VQ last by' X Y q 3 := hM.hs 3 (by decide) q3
      have q4 : L 4 = true := dep 4 (by kernel_rfl)
      have e4 : s 4 = VQ last by' X Y q 4 := hM.hs 4 (by decide) q4
      simp only [VQ] at e3 e4
      clear dep
      refine Goes.mono (n := m' + 1) ?_ (by omega)
      refine Goes.step rfl (fun _ h₁ => ?_)
      replace hM := hM.rely h₁
      clear h₁
      refine goes_oper_k rfl rfl (by decide) (fun Kx hKx => ?_)
      go_simp
      refine hKx _ _ ⟨DF.none ?_, ?_⟩
      · intro e he
        have hm := mem_listed he
        simp [go_sem, *] at hm
      clear hKx Kx
      exact hK _ _ ⟨_, by simp [VQ, e3, e4] <;> rfl, hM.set (i := 5) (by decide) (by omega) (fun _ => ⟨q3, q4⟩)⟩
    · clear dep
      refine Goes.mono (n := m' + 1) ?_ (by omega)
      refine Goes.step rfl (fun _ h₁ => ?_)
      replace hM := hM.rely h₁
      clear h₁
      refine goes_oper_k rfl rfl (by decide) (fun Kx hKx => ?_)
      go_simp
      refine hKx _ _ ⟨DF.none ?_, ?_⟩
      · intro e he
        have hm := mem_listed he
        simp [go_sem, *] at hm
      clear hKx Kx
      exact hK _ _ ⟨_, by simp [VQ] <;> rfl, hM.set (i := 6) (by decide) (by omega) (by omega)⟩
    · have q2 : L 2 = true := dep 2 (by kernel_rfl)
      have e2 : s 2 = VQ last by' X Y q 2 := hM.hs 2 (by decide) q2
      have q5 : L 5 = true := dep 5 (by kernel_rfl)
      have e5 : s 5 = VQ last by' X Y q 5 := hM.hs 5 (by decide) q5
      have q6 : L 6 = true := dep 6 (by kernel_rfl)
      have e6 : s 6 = VQ last by' X Y q 6 := hM.hs 6 (by decide) q6
      simp only [VQ] at e2 e5 e6
      clear dep
      have d2 := hM.d2 q2
      have d5 := hM.d5 q5
      obtain rfl := hrest fun j hj hne => by
        have hj8 : j < 8 := hj
        have : j = 0 ∨ j = 1 ∨ j = 2 ∨ j = 3 ∨ j = 4 ∨ j = 5 ∨ j = 6 := by omega
        rcases this with rfl | rfl | rfl | rfl | rfl | rfl | rfl
        · exact d2.1
        · exact d2.2
        · exact q2
        · exact d5.1
        · exact d5.2
        · exact q5
        · exact q6
      refine Goes.mono (n := 0 + 1) ?_ (by omega)
      refine Goes.step rfl (fun _ h₁ => ?_)
      replace hM := hM.rely h₁
      clear h₁
      refine goes_call rfl rfl (by decide) rfl Try.func39 nm39 rfl ⟨DF.none (by intro e he; simp at he), ?_⟩
      walk_nrmf Try.f39
      simp only [e2, e5, e6]
      refine Goes.stop (fun w₁ h₁ => ⟨_, rfl, ?_, (hM.rely h₁).cli⟩)
      exact ⟨by simp, by simp, by simp, by simp, by simp, by simp, by simp⟩
end
end Go.Proofs.Ytehmobcfbifocaa
/-
  cellsLeft, walked beside goroutines that only leave: behind the call; its end. Made by gen_cells9.py.
-/
namespace Go.Proofs.Ytehmobcfbifocaa
open Go Go.Conc Go.ConcN Go.RowKit Go.Conc.Lib Go.ConcR.Gen Go.ConcN.Gen
open Go.ConcR (KK wgBlock WgAt stA smA rd wr mk Payload Aside2 DC0 ofEvent_cell)

section
variable {W : World} {row : Int} {last : Nat} {by' : Int} {cs : List Frame} {Sh₀ Sh : Nat → Prop} {N X Y m made q : Nat} {w : World} {T : Array Value} {B : Nat} {b₀ : Frame} {a₀ : Act} {ops₀ : Array Oper} {i₀ : Nat} {rest₀ : List Nat} {k₀ : List Item}
set_option maxRecDepth 100000 in
set_option maxHeartbeats 4000000 in
theorem cells_back (hT : At33 row last by' X Y made T) (hmade : made ≤ 300) (hF : CLN N W Sh₀ Sh last by' X Y m w) :
    Goes Try.prog true AtRel (DF Sh B) (fun g' w' => ∃ T', g' = head33 T' cs ∧ At33 row last by' X Y (made + 1) T' ∧ CLN N W Sh₀ Sh last by' X Y m w') 20
      (G ((base 33).at (Act.put ⟨T, []⟩ ((ops33[7]?).bind (·.dst)) (.tuple #[])) (.inRegion ops33 [] :: K33)) cs) w := by
  obtain ⟨hT, q0, q1, q2, q7, q8, q9⟩ := hT
  obtain ⟨v0, v1, v2, v3, v4, v5, v6, v7, v8, v9, v10, v11, v12, v13, v14, v15, v16, v17, v18, v19, v20, v21, v22, v23, v24, v25, v26, v27, v28, v29, v30, v31, v32, v33, v34, v35, v36, v37, v38, rfl⟩ := array39 T hT
  simp only [List.getElem?_toArray, List.getElem?_cons_succ, List.getElem?_cons_zero, Option.some.injEq] at q0 q1 q2 q7 q8 q9
  subst q0 q1 q2 q7 q8 q9
  have hw2 : IntKind.wrap .i64 ((made : Int) + 1) = ((made + 1 : Nat) : Int) := by
    rw [byw (by omega) (by omega)]
    omega
  have hd : (ops33[7]?).bind (·.dst) = some 37 := by kernel_rfl
  rw [hd]
  simp only [head33, L33, R33, K33, ops33, opsOf, callPart, stepPart, rest33, firstLoop, Try.f33, Option.getD_some, Act.put, List.setIfInBounds_toArray, List.set_cons_succ, List.set_cons_zero]
  refine Goes.step rfl (fun _ h₁ => ?_)
  replace hF := hF.at h₁
  clear h₁
  rw [stepG_region_end]
  simp only [goes_go]
  refine ⟨DF.none (by intro e he; simp at he), ?_⟩
  refine Goes.step rfl (fun _ h₁ => ?_)
  replace hF := hF.at h₁
  clear h₁
  rw [stepG_inBlock]
  simp only [goes_go]
  refine ⟨DF.none (by intro e he; simp at he), ?_⟩
  refine Goes.step rfl (fun _ h₁ => ?_)
  replace hF := hF.at h₁
  clear h₁
  rw [stepG_region]
  simp only [goes_go, List.size_toArray, List.length_cons, List.length_nil, Nat.reduceAdd, Nat.zero_add, List.range, List.range.loop]
  refine ⟨DF.none (by intro e he; simp at he), ?_⟩
  refine Goes.step rfl (fun _ h₁ => ?_)
  replace hF := hF.at h₁
  clear h₁
  refine goes_oper_k rfl rfl (by decide) (fun Kx hKx => ?_)
  go_simp
  refine hKx _ _ ⟨DF.none ?_, ?_⟩
  · intro e he
    have hm := mem_listed he
    simp [go_sem, *] at hm
  clear hKx Kx
  refine Goes.step rfl (fun _ h₁ => ?_)
  replace hF := hF.at h₁
  clear h₁
  refine goes_oper_k rfl rfl (by decide) (fun Kx hKx => ?_)
  go_simp
  refine hKx _ _ ⟨DF.none ?_, ?_⟩
  · intro e he
    have hm := mem_listed he
    simp [go_sem, *] at hm
  clear hKx Kx
  refine Goes.step rfl (fun _ h₁ => ?_)
  replace hF := hF.at h₁
  clear h₁
  refine goes_oper_k rfl rfl (by decide) (fun Kx hKx => ?_)
  go_simp
  refine hKx _ _ ⟨DF.none ?_, ?_⟩
  · intro e he
    have hm := mem_listed he
    simp [go_sem, *] at hm
  clear hKx Kx
  refine Goes.step rfl (fun _ h₁ => ?_)
  replace hF := hF.at h₁
  clear h₁
  rw [stepG_region_end]
  simp only [goes_go]
  refine ⟨DF.none (by intro e he; simp at he), ?_⟩
  refine Goes.step rfl (fun _ h₁ => ?_)
  replace hF := hF.at h₁
  clear h₁
  rw [stepG_inLoop]
  simp only [goes_go]
  refine ⟨DF.none (by intro e he; simp at he), ?_⟩
  exact Goes.stop (fun w₁ h₁ => ⟨_, rfl, ⟨by simp, by simp, by simp, by simp, by simp, by simp, by simp⟩, hF.at h₁⟩)
set_option maxRecDepth 100000 in
set_option maxHeartbeats 4000000 in
theorem cells_end (hT : At33 row last by' X Y made T) (hrow : row < (made : Int)) (hF : CLN N W Sh₀ Sh last by' X Y m w) :
    Goes Try.prog true AtRel (DF Sh B) (fun g' w' => g' = G (b₀.at (a₀.put ((ops₀[i₀]?).bind (·.dst)) (.slice (some ⟨X, 0, none⟩) (last + 1) (last + 1))) (.inRegion ops₀ rest₀ :: k₀)) cs ∧ CLN N W Sh₀ Sh last by' X Y m w') 40
      (head33 T (b₀.at a₀ (.inRegion ops₀ (i₀ :: rest₀) :: k₀) :: cs)) w := by
  obtain ⟨hT, q0, q1, q2, q7, q8, q9⟩ := hT
  obtain ⟨v0, v1, v2, v3, v4, v5, v6, v7, v8, v9, v10, v11, v12, v13, v14, v15, v16, v17, v18, v19, v20, v21, v22, v23, v24, v25, v26, v27, v28, v29, v30, v31, v32, v33, v34, v35, v36, v37, v38, rfl⟩ := array39 T hT
  simp only [List.getElem?_toArray, List.getElem?_cons_succ, List.getElem?_cons_zero, Option.some.injEq] at q0 q1 q2 q7 q8 q9
  subst q0 q1 q2 q7 q8 q9
  simp only [head33, L33, R33, rest33, firstLoop, Try.f33, Option.getD_some]
  refine Goes.step rfl (fun _ h₁ => ?_)
  replace hF := hF.at h₁
  clear h₁
  rw [stepG_seq]
  simp only [goes_go]
  refine ⟨DF.none (by intro e he; simp at he), ?_⟩
  refine Goes.step rfl (fun _ h₁ => ?_)
  replace hF := hF.at h₁
  clear h₁
  rw [stepG_seq]
  simp only [goes_go]
  refine ⟨DF.none (by intro e he; simp at he), ?_⟩
  refine Goes.step rfl (fun _ h₁ => ?_)
  replace hF := hF.at h₁
  clear h₁
  rw [stepG_region]
  simp only [goes_go, List.size_toArray, List.length_cons, List.length_nil, Nat.reduceAdd, Nat.zero_add, List.range, List.range.loop]
  refine ⟨DF.none (by intro e he; simp at he), ?_⟩
  refine Goes.step rfl (fun _ h₁ => ?_)
  replace hF := hF.at h₁
  clear h₁
  refine goes_oper_k rfl rfl (by decide) (fun Kx hKx => ?_)
  go_simp
  refine hKx _ _ ⟨DF.none ?_, ?_⟩
  · intro e he
    have hm := mem_listed he
    simp [go_sem, *] at hm
  clear hKx Kx
  refine Goes.step rfl (fun _ h₁ => ?_)
  replace hF := hF.at h₁
  clear h₁
  refine goes_oper_k rfl rfl (by decide) (fun Kx hKx => ?_)
  go_simp
  refine hKx _ _ ⟨DF.none ?_, ?_⟩
  · intro e he
    have hm := mem_listed he
    simp [go_sem, *] at hm
  clear hKx Kx
  refine Goes.step rfl (fun _ h₁ => ?_)
  replace hF := hF.at h₁
  clear h₁
  refine goes_oper_k rfl rfl (by decide) (fun Kx hKx => ?_)
  go_simp
  refine hKx _ _ ⟨DF.none ?_, ?_⟩
  · intro e he
    have hm := mem_listed he
    simp [go_sem, *] at hm
  clear hKx Kx
  refine Goes.step rfl (fun _ h₁ => ?_)
  replace hF := hF.at h₁
  clear h₁
  rw [stepG_region_end]
  simp only [goes_go]
  refine ⟨DF.none (by intro e he; simp at he), ?_⟩
  refine Goes.step rfl (fun _ h₁ => ?_)
  replace hF := hF.at h₁
  clear h₁
  rw [stepG_cond (t := false) (by first | rfl | (simp [Act.eval]; omega))]
  simp only [goes_go, Bool.false_eq_true, ↓reduceIte]
  refine ⟨DF.none (by intro e he; simp at he), ?_⟩
  refine Goes.step rfl (fun _ h₁ => ?_)
  replace hF := hF.at h₁
  clear h₁
  refine goes_exit rfl ?_
  refine ⟨DF.none (by intro e he; simp at he), ?_⟩
  refine Goes.step rfl (fun _ h₁ => ?_)
  replace hF := hF.at h₁
  clear h₁
  rw [stepG_seq]
  simp only [goes_go]
  refine ⟨DF.none (by intro e he; simp at he), ?_⟩
  refine Goes.step rfl (fun _ h₁ => ?_)
  replace hF := hF.at h₁
  clear h₁
  rw [stepG_region]
  simp only [goes_go, List.size_toArray, List.length_cons, List.length_nil, Nat.reduceAdd, Nat.zero_add, List.range, List.range.loop]
  refine ⟨DF.none (by intro e he; simp at he), ?_⟩
  refine Goes.step rfl (fun _ h₁ => ?_)
  replace hF := hF.at h₁
  clear h₁
  refine goes_oper_k rfl rfl (by decide) (fun Kx hKx => ?_)
  go_simp
  refine hKx _ _ ⟨DF.none ?_, ?_⟩
  · intro e he
    have hm := mem_listed he
    simp [go_sem, *] at hm
  clear hKx Kx
  refine Goes.step rfl (fun _ h₁ => ?_)
  replace hF := hF.at h₁
  clear h₁
  refine goes_oper_k rfl rfl (by decide) (fun Kx hKx => ?_)
  go_simp
  refine hKx _ _ ⟨DF.none ?_, ?_⟩
  · intro e he
    have hm := mem_listed he
    simp [go_sem, *] at hm
  clear hKx Kx
  refine Goes.step rfl (fun _ h₁ => ?_)
  replace hF := hF.at h₁
  clear h₁
  rw [stepG_region_end]
  simp only [goes_go]
  refine ⟨DF.none (by intro e he; simp at he), ?_⟩
  refine Goes.step rfl (fun _ h₁ => ?_)
  replace hF := hF.at h₁
  clear h₁
  rw [stepG_ret']
  simp only [goes_go]
  refine ⟨DF.none (by intro e he; simp at he), ?_⟩
  refine Goes.step rfl (fun _ h₁ => ?_)
  replace hF := hF.at h₁
  clear h₁
  refine goes_leave1 (t := 6) rfl rfl Try.func33 rfl ⟨DF.none (by intro e he; simp at he), ?_⟩
  exact Goes.stop (fun w₁ h₁ => ⟨by simp, hF.at h₁⟩)
end
end Go.Proofs.Ytehmobcfbifocaa
/-
  cellsLeft, whole: in whatever company of goroutines that only leave.
-/
namespace Go.Proofs.Ytehmobcfbifocaa
open Go Go.Conc Go.ConcN Go.RowKit

section
variable {W : World} {r last : Nat} {by' : Int} {Sh₀ : Nat → Prop} {c : Nat} {b₀ : Frame} {a₀ : Act} {ops₀ : Array Oper} {i₀ : Nat} {rest₀ : List Nat} {k₀ : List Item} {cs : List Frame}
/-- Behind a call of cellsLeft. -/
def CellsAt (c : Nat) (W : World) (Sh₀ : Nat → Prop) (last : Nat) (by' : Int) (r : Nat) (b₀ : Frame) (a₀ : Act) (ops₀ : Array Oper) (i₀ : Nat) (rest₀ : List Nat) (k₀ : List Item) (cs : List Frame) : BStop := fun c' Sh' g' w' =>
  ∃ X Y, c' = c + 16 * r ∧ g' = G (b₀.at (a₀.put ((ops₀[i₀]?).bind (·.dst)) (.slice (some ⟨X, 0, none⟩) (last + 1) (last + 1))) (.inRegion ops₀ rest₀ :: k₀)) cs ∧ CLI W Sh₀ Sh' last by' X Y r w'
theorem cells_loop (hl : last ≤ 300) (hr : r ≤ 300) (hc : c ≤ 90000) (hb : 2 ≤ by' ∧ by' ≤ 100000) (hs : ∀ k, Sh₀ k → k < W.heap.size) :
    ∀ (n m X Y : Nat) (T : Array Value) (Sh : Nat → Prop) (w : World), m + n = r → At33 (r : Nat) last by' X Y (m + 1) T → CLI W Sh₀ Sh last by' X Y m w →
      BW Try.prog (c + 16 * m) Sh (head33 T (b₀.at a₀ (.inRegion ops₀ (i₀ :: rest₀) :: k₀) :: cs)) w (CellsAt c W Sh₀ last by' r b₀ a₀ ops₀ i₀ rest₀ k₀ cs)
  | 0, m, X, Y, T, Sh, w, hn, hT, hF => by
    refine BW.goes' (Nat.le_refl _) (cells_end (B := w.heap.size) hT (by omega) ⟨hF, Nat.le_refl _⟩) fun g' w' h => ⟨h.2.sz, BW.now ⟨X, Y, by omega, h.1, ?_⟩⟩
    have : m = r := by omega
    subst this
    exact h.2.cli
  | n + 1, m, X, Y, T, Sh, w, hn, hT, hF => by
    refine BW.goes' (Nat.le_refl _) (cells_turn (B := w.heap.size) hT hl (by omega) (by omega) rfl ⟨hF, Nat.le_refl _⟩) fun g' w' h => ?_
    obtain ⟨T', rfl, hT', hF'⟩ := h
    refine ⟨hF'.sz, (sum39 (hF'.cli.ask hb hl (c := c + 16 * m) (by omega) hs)).bind fun c2 Sh2 g2 w2 h => ?_⟩
    obtain ⟨rfl, rfl, hp⟩ := h
    refine BW.goes' (Nat.le_refl _) (cells_back (B := w2.heap.size) hT' (by omega) ⟨hF'.cli.next hp, Nat.le_refl _⟩) fun g3 w3 h => ?_
    obtain ⟨T3, rfl, hT3, hF3⟩ := h
    refine ⟨hF3.sz, ?_⟩
    have := cells_loop hl hr hc hb hs n (m + 1) Y X T3 Sh2 w3 (by omega) hT3 hF3.cli
    rwa [show c + 16 * (m + 1) = c + 16 * m + 16 by omega] at this
theorem cells33 (hl : last ≤ 300) (hr : r ≤ 300) (hc : c ≤ 90000) (hb : 2 ≤ by' ∧ by' ≤ 100000) (hs : ∀ k, Sh₀ k → k < W.heap.size) (hrows : Rows1 Sh₀ W) :
    BW Try.prog c Sh₀ (G ((base 33).at ⟨#[.int .i64 (r : Nat), .int .i64 (last : Nat), .int .i64 by', undef, undef, undef, undef, undef, undef, undef, undef, undef, undef, undef, undef, undef, undef, undef, undef, undef, undef, undef, undef, undef, undef, undef, undef, undef, undef, undef, undef, undef, undef, undef, undef, undef, undef, undef, undef], []⟩ [.code (Try.f33.body.getD .skip)]) (b₀.at a₀ (.inRegion ops₀ (i₀ :: rest₀) :: k₀) :: cs)) W
      (CellsAt c W Sh₀ last by' r b₀ a₀ ops₀ i₀ rest₀ k₀ cs) := by
  refine BW.goes' (by omega) (cells_pro (W := W) (row := (r : Nat)) (last := last) (by' := by') hl hs hrows) fun g' w' h => ?_
  obtain ⟨X, Y, T, rfl, hT, hF, hsz⟩ := h
  exact ⟨hsz, cells_loop hl hr hc hb hs r 0 X Y T Sh₀ w' (by omega) hT hF⟩
end
end Go.Proofs.Ytehmobcfbifocaa
