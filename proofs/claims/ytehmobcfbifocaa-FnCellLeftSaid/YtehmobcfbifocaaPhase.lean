/-
  A call of sumInLots, whole: in whatever company of goroutines that only leave.
-/
import Derived.Test.YtehmobcfbifocaaStart7
import Derived.Test.YtehmobcfbifocaaBw
namespace Go.Proofs.Ytehmobcfbifocaa
open Go Go.Conc Go.ConcN Go.RowKit Go.Conc.Lib Go.ConcR.Gen Go.ConcN.Gen
open Go.ConcR (KK wgBlock WgAt stA smA rd wr mk Payload Aside2 DC0 ofEvent_cell)

/-- The heap is just this. -/
structure HW (W : World) (h : Array Obj) (w : World) : Prop where
  tape : w.tape = W.tape
  os : w.os = W.os
  output : w.output = W.output
  heap : w.heap = h
theorem HW.at {W w w₁ : World} {h : Array Obj} (x : HW W h w) (r : AtRel w w₁) : HW W h w₁ := by
  obtain ⟨d, rfl⟩ := r
  exact ⟨x.tape, x.os, x.output, x.heap⟩
theorem HW.sz {W w : World} {h : Array Obj} {k : Nat} (x : HW W h w) (e : h.size = k) : w.heap.size = k := by rw [x.heap]; exact e
theorem HW.push {W w : World} {h : Array Obj} (x : HW W h w) (o : Obj) : HW W (h.push o) (w.alloc o) := ⟨x.tape, x.os, x.output, by show w.heap.push o = _; rw [x.heap]⟩

/-- Behind the call. -/
structure SumPost (W : World) (Sh : Nat → Prop) (C nC n : Nat) (by' : Int) (row : Nat → Int) (rest : Nat → Value) (Sh' : Nat → Prop) (w' : World) : Prop where
  tape : w'.tape = W.tape
  os : w'.os = W.os
  output : w'.output = W.output
  size : W.heap.size ≤ w'.heap.size
  low : ∀ b, b < W.heap.size → b ≠ C → w'.heap[b]? = W.heap[b]?
  sh : ∀ b, Sh' b → Sh b ∨ W.heap.size ≤ b
  rows : ∀ b, Sh' b → ∃ c e fr, w'.heap[b]? = some (.cells c e fr)
  pay : PayAt C nC w'
  cells : ∀ o, o < n → Has C o (.int .i64 ((prevOf row o + row o).tmod by')) w'
  rest : ∀ o, n ≤ o → o < nC → Has C o (rest o) w'

section
variable {W : World} {Sh : Nat → Prop} {c C Bb n nC capC capB : Nat} {by' : Int} {row : Nat → Int} {rest : Nat → Value} {b₀ : Frame} {a₀ : Act} {ops₀ : Array Oper} {i₀ : Nat} {rest₀ : List Nat} {k₀ : List Item} {cs : List Frame}
def stp (W : World) (Sh : Nat → Prop) (C Bb n nC capC capB : Nat) (by' : Int) (row : Nat → Int) (rest : Nat → Value) (j0 t0 : Nat) : StP :=
  ⟨j0, W.heap.size, C, Bb, n, nC, capC, capB, by', row, rest, ShOf Sh, t0⟩
set_option maxRecDepth 100000 in
set_option maxHeartbeats 4000000 in
/-- From its entry to where the first lot's variable is made. -/
theorem pro39 {B : Nat} (cs : List Frame) : Goes Try.prog true AtRel (DF Sh B) (fun g' w' => g' = G ((base 39).at ⟨T39p (stp W Sh C Bb n nC capC capB by' row rest 0 0), []⟩ [.code C39]) cs ∧
      HW W ((((W.heap.push (.cells #[.slice (some ⟨C, 0, none⟩) n capC] 37)).push (.cells #[.slice (some ⟨Bb, 0, none⟩) n capB] 37)).push (.cells #[.int .i64 by'] 3)).push (wgBlock wgl.tWg 0 0)) w') 20
    (G ((base 39).at ⟨#[.slice (some ⟨C, 0, none⟩) n capC, .slice (some ⟨Bb, 0, none⟩) n capB, .int .i64 by', undef, undef, undef, undef, undef, undef, undef, undef, undef, undef, undef, undef, undef, undef, undef], []⟩ [.code (Try.f39.body.getD .skip)]) cs) W := by
  have hF : HW W W.heap W := ⟨rfl, rfl, rfl, rfl⟩
  simp only [C39, stp, Try.f39, Option.getD_some]
  refine Goes.step rfl (fun _ h₁ => ?_)
  replace hF := hF.at h₁
  clear h₁
  rw [stepG_seq]
  simp only [goes_go]
  refine ⟨DF.none (by intro e he; simp at he), ?_⟩
  refine Goes.step rfl (fun _ h₁ => ?_)
  replace hF := hF.at h₁
  clear h₁
  rw [stepG_region]
  simp only [goes_go, List.size_toArray, List.length_cons, List.length_nil, Nat.reduceAdd, Nat.zero_add, List.range, List.range.loop]
  refine ⟨DF.none (by intro e he; simp at he), ?_⟩
  refine Goes.step rfl (fun _ h₁ => ?_)
  replace hF := hF.at h₁
  clear h₁
  refine goes_oper_k rfl rfl (by decide) (fun Kx hKx => ?_)
  have hsz := hF.sz (k := W.heap.size) (by simp)
  go_simp
  refine hKx _ _ ⟨DF.none ?_, ?_⟩
  · intro e he
    have hm := mem_listed he
    simp [go_sem] at hm
  clear hKx Kx hsz
  replace hF := hF.push (.cells #[.slice (some ⟨C, 0, none⟩) n capC] 37)
  refine Goes.step rfl (fun _ h₁ => ?_)
  replace hF := hF.at h₁
  clear h₁
  refine goes_oper_k rfl rfl (by decide) (fun Kx hKx => ?_)
  have hsz := hF.sz (k := W.heap.size + 1) (by simp)
  go_simp
  refine hKx _ _ ⟨DF.none ?_, ?_⟩
  · intro e he
    have hm := mem_listed he
    simp [go_sem] at hm
  clear hKx Kx hsz
  replace hF := hF.push (.cells #[.slice (some ⟨Bb, 0, none⟩) n capB] 37)
  refine Goes.step rfl (fun _ h₁ => ?_)
  replace hF := hF.at h₁
  clear h₁
  refine goes_oper_k rfl rfl (by decide) (fun Kx hKx => ?_)
  have hsz := hF.sz (k := W.heap.size + 2) (by simp)
  go_simp
  refine hKx _ _ ⟨DF.none ?_, ?_⟩
  · intro e he
    have hm := mem_listed he
    simp [go_sem] at hm
  clear hKx Kx hsz
  replace hF := hF.push (.cells #[.int .i64 by'] 3)
  refine Goes.step rfl (fun _ h₁ => ?_)
  replace hF := hF.at h₁
  clear h₁
  rw [stepG_region_end]
  simp only [goes_go]
  refine ⟨DF.none (by intro e he; simp at he), ?_⟩
  refine Goes.step rfl (fun _ h₁ => ?_)
  replace hF := hF.at h₁
  clear h₁
  rw [stepG_seq]
  simp only [goes_go]
  refine ⟨DF.none (by intro e he; simp at he), ?_⟩
  refine Goes.step rfl (fun _ h₁ => ?_)
  replace hF := hF.at h₁
  clear h₁
  rw [stepG_region]
  simp only [goes_go, List.size_toArray, List.length_cons, List.length_nil, Nat.zero_add, List.range, List.range.loop]
  refine ⟨DF.none (by intro e he; simp at he), ?_⟩
  refine Goes.step rfl (fun _ h₁ => ?_)
  replace hF := hF.at h₁
  clear h₁
  refine goes_oper_k rfl rfl (by decide) (fun Kx hKx => ?_)
  have hsz := hF.sz (k := W.heap.size + 3) (by simp)
  go_simp
  refine hKx _ _ ⟨DF.none ?_, ?_⟩
  · intro e he
    have hm := mem_listed he
    simp [go_sem] at hm
  clear hKx Kx hsz
  replace hF := hF.push (wgBlock wgl.tWg 0 0)
  refine Goes.step rfl (fun _ h₁ => ?_)
  replace hF := hF.at h₁
  clear h₁
  rw [stepG_region_end]
  simp only [goes_go]
  refine ⟨DF.none (by intro e he; simp at he), ?_⟩
  exact Goes.stop (fun w₁ h₁ => ⟨rfl, hF.at h₁⟩)
end
end Go.Proofs.Ytehmobcfbifocaa
