/-
  Chapter 7's law of MiddleLeft, walked beside goroutines that only leave: whole runs. Made by gen_laws7g.py.
-/
import Derived.Test.YtehmobcfbifocaaLawKit7
import Derived.Test.YtehmobcfbifocaaReadZ
import Derived.Test.YtehmobcfbifocaaRowY
import Derived.Test.YtehmobcfbifocaaNum7b
namespace Go.Proofs.Ytehmobcfbifocaa
open Go Go.Conc Go.ConcN Go.RowKit Go.Conc.Lib Go.ConcR.Gen Go.ConcN.Gen
open Go.ConcR (KK wgBlock WgAt stA smA rd wr mk Payload Aside2 DC0 ofEvent_cell)

theorem nmd_DrawMiddleLeft : (Try.f27.name == "runtime.NumGoroutine") = false := by kernel_rfl
theorem nm_alive : (Try.f16.name == "runtime.NumGoroutine") = false := by kernel_rfl
theorem ev_eqlD {x y : Bool} {w : World} {es : Array Event} : (binOp BinOp.eql 4 (.bool x) (.bool y)).events Try.prog w es = es := by
  have h : ∀ d : Nat, (Op.equalIn (d + 1) 4 (.bool x) (.bool y)).events Try.prog w es = es := fun d => by
    simp [Op.equalIn, go_sem]
  simp [binOp, Op.equal, Op.maxDepth, go_sem, h 9999]
theorem array46 (T : Array Value) (h : T.size = 46) : ∃ v0 v1 v2 v3 v4 v5 v6 v7 v8 v9 v10 v11 v12 v13 v14 v15 v16 v17 v18 v19 v20 v21 v22 v23 v24 v25 v26 v27 v28 v29 v30 v31 v32 v33 v34 v35 v36 v37 v38 v39 v40 v41 v42 v43 v44 v45, T = (List.toArray (v0 :: v1 :: v2 :: v3 :: v4 :: v5 :: v6 :: v7 :: v8 :: v9 :: v10 :: v11 :: v12 :: v13 :: v14 :: v15 :: v16 :: v17 :: v18 :: v19 :: v20 :: v21 :: v22 :: v23 :: v24 :: v25 :: v26 :: v27 :: v28 :: v29 :: v30 :: v31 :: v32 :: v33 :: v34 :: v35 :: v36 :: v37 :: v38 :: v39 :: v40 :: v41 :: v42 :: v43 :: v44 :: v45 :: [])) := by
  obtain ⟨l⟩ := T
  rcases l with _ | ⟨v0, l⟩
  · simp at h
  rcases l with _ | ⟨v1, l⟩
  · simp at h
  rcases l with _ | ⟨v2, l⟩
  · simp at h
  rcases l with _ | ⟨v3, l⟩
  · simp at h
  rcases l with _ | ⟨v4, l⟩
  · simp at h
  rcases l with _ | ⟨v5, l⟩
  · simp at h
  rcases l with _ | ⟨v6, l⟩
  · simp at h
  rcases l with _ | ⟨v7, l⟩
  · simp at h
  rcases l with _ | ⟨v8, l⟩
  · simp at h
  rcases l with _ | ⟨v9, l⟩
  · simp at h
  rcases l with _ | ⟨v10, l⟩
  · simp at h
  rcases l with _ | ⟨v11, l⟩
  · simp at h
  rcases l with _ | ⟨v12, l⟩
  · simp at h
  rcases l with _ | ⟨v13, l⟩
  · simp at h
  rcases l with _ | ⟨v14, l⟩
  · simp at h
  rcases l with _ | ⟨v15, l⟩
  · simp at h
  rcases l with _ | ⟨v16, l⟩
  · simp at h
  rcases l with _ | ⟨v17, l⟩
  · simp at h
  rcases l with _ | ⟨v18, l⟩
  · simp at h
  rcases l with _ | ⟨v19, l⟩
  · simp at h
  rcases l with _ | ⟨v20, l⟩
  · simp at h
  rcases l with _ | ⟨v21, l⟩
  · simp at h
  rcases l with _ | ⟨v22, l⟩
  · simp at h
  rcases l with _ | ⟨v23, l⟩
  · simp at h
  rcases l with _ | ⟨v24, l⟩
  · simp at h
  rcases l with _ | ⟨v25, l⟩
  · simp at h
  rcases l with _ | ⟨v26, l⟩
  · simp at h
  rcases l with _ | ⟨v27, l⟩
  · simp at h
  rcases l with _ | ⟨v28, l⟩
  · simp at h
  rcases l with _ | ⟨v29, l⟩
  · simp at h
  rcases l with _ | ⟨v30, l⟩
  · simp at h
  rcases l with _ | ⟨v31, l⟩
  · simp at h
  rcases l with _ | ⟨v32, l⟩
  · simp at h
  rcases l with _ | ⟨v33, l⟩
  · simp at h
  rcases l with _ | ⟨v34, l⟩
  · simp at h
  rcases l with _ | ⟨v35, l⟩
  · simp at h
  rcases l with _ | ⟨v36, l⟩
  · simp at h
  rcases l with _ | ⟨v37, l⟩
  · simp at h
  rcases l with _ | ⟨v38, l⟩
  · simp at h
  rcases l with _ | ⟨v39, l⟩
  · simp at h
  rcases l with _ | ⟨v40, l⟩
  · simp at h
  rcases l with _ | ⟨v41, l⟩
  · simp at h
  rcases l with _ | ⟨v42, l⟩
  · simp at h
  rcases l with _ | ⟨v43, l⟩
  · simp at h
  rcases l with _ | ⟨v44, l⟩
  · simp at h
  rcases l with _ | ⟨v45, l⟩
  · simp at h
  rcases l with _ | ⟨x, l⟩
  · exact ⟨v0, v1, v2, v3, v4, v5, v6, v7, v8, v9, v10, v11, v12, v13, v14, v15, v16, v17, v18, v19, v20, v21, v22, v23, v24, v25, v26, v27, v28, v29, v30, v31, v32, v33, v34, v35, v36, v37, v38, v39, v40, v41, v42, v43, v44, v45, rfl⟩
  · simp at h
noncomputable def L6 : Code := firstLoop (Try.f7.body.getD .skip)
def rest6 : Code → Code
  | .seq _ (.seq _ (.seq _ (.seq _ (.seq _ (.seq _ (.seq _ (.seq _ c))))))) => c
  | _ => .skip
noncomputable def R6 : Code := rest6 (Try.f7.body.getD .skip)
def At6 (m : Int) (K : Nat) (T : Array Value) : Prop :=
  T.size = 46 ∧ T[4]? = some (.int .i64 m) ∧ T[5]? = some (.int .i64 (K : Nat))
noncomputable abbrev head6 (T : Array Value) : Goroutine := G ((base 7).at ⟨T, []⟩ [.code L6, .inLoop L6, .inBlock 0, .code R6]) []
section
variable {W : World}
set_option maxRecDepth 100000 in
set_option maxHeartbeats 4000000 in
theorem lawMiddle_big (a : Option Addr) (len cap : Nat) (hl : 1048576 < len) :
    BW Try.prog 1 (fun _ => False) (G (Frame.enter Try.prog 7 #[.slice a len cap] .normal) []) W (EndAt Try.prog (DoneT W)) := by
  have hli : (1048576 : Int) < len := by omega
  have hF : KN W.heap.size W (fun _ => False) (fun _ => False) W := ⟨KF.refl (fun _ h => h.elim), Nat.le_refl _⟩
  rw [enter_at _ Try.func7 rfl]
  refine BW.walk 200 ?_
  walk_nrmf Try.f7
  refine Goes.step rfl (fun _ h₁ => ?_)
  replace hF := hF.at h₁
  clear h₁
  rw [stepG_seq]
  simp only [goes_go]
  refine ⟨DF.none (by intro e he; simp at he), ?_⟩
  refine Goes.step rfl (fun _ h₁ => ?_)
  replace hF := hF.at h₁
  clear h₁
  rw [stepG_region]
  simp only [goes_go, List.size_toArray, List.length_cons, List.length_nil, Nat.zero_add, List.range, List.range.loop]
  refine ⟨DF.none (by intro e he; simp at he), ?_⟩
  refine Goes.step rfl (fun _ h₁ => ?_)
  replace hF := hF.at h₁
  clear h₁
  refine goes_oper_k rfl rfl (by decide) (fun Kx hKx => ?_)
  go_simp
  refine hKx _ _ ⟨DF.none ?_, ?_⟩
  · intro e he
    have hm := mem_listed he
    simp [go_sem, *] at hm
  clear hKx Kx
  refine Goes.step rfl (fun _ h₁ => ?_)
  replace hF := hF.at h₁
  clear h₁
  rw [stepG_region_end]
  simp only [goes_go]
  refine ⟨DF.none (by intro e he; simp at he), ?_⟩
  refine Goes.step rfl (fun _ h₁ => ?_)
  replace hF := hF.at h₁
  clear h₁
  rw [stepG_seq]
  simp only [goes_go]
  refine ⟨DF.none (by intro e he; simp at he), ?_⟩
  refine Goes.step rfl (fun _ h₁ => ?_)
  replace hF := hF.at h₁
  clear h₁
  rw [stepG_seq]
  simp only [goes_go]
  refine ⟨DF.none (by intro e he; simp at he), ?_⟩
  refine Goes.step rfl (fun _ h₁ => ?_)
  replace hF := hF.at h₁
  clear h₁
  rw [stepG_region]
  simp only [goes_go, List.size_toArray, List.length_cons, List.length_nil, Nat.reduceAdd, Nat.zero_add, List.range, List.range.loop]
  refine ⟨DF.none (by intro e he; simp at he), ?_⟩
  refine Goes.step rfl (fun _ h₁ => ?_)
  replace hF := hF.at h₁
  clear h₁
  refine goes_oper_k rfl rfl (by decide) (fun Kx hKx => ?_)
  go_simp
  refine hKx _ _ ⟨DF.none ?_, ?_⟩
  · intro e he
    have hm := mem_listed he
    simp [go_sem, *] at hm
  clear hKx Kx
  refine Goes.step rfl (fun _ h₁ => ?_)
  replace hF := hF.at h₁
  clear h₁
  refine goes_oper_k rfl rfl (by decide) (fun Kx hKx => ?_)
  go_simp
  refine hKx _ _ ⟨DF.none ?_, ?_⟩
  · intro e he
    have hm := mem_listed he
    simp [go_sem, *] at hm
  clear hKx Kx
  refine Goes.step rfl (fun _ h₁ => ?_)
  replace hF := hF.at h₁
  clear h₁
  refine goes_oper_k rfl rfl (by decide) (fun Kx hKx => ?_)
  go_simp
  refine hKx _ _ ⟨DF.none ?_, ?_⟩
  · intro e he
    have hm := mem_listed he
    simp [go_sem, *] at hm
  clear hKx Kx
  refine Goes.step rfl (fun _ h₁ => ?_)
  replace hF := hF.at h₁
  clear h₁
  rw [stepG_region_end]
  simp only [goes_go]
  refine ⟨DF.none (by intro e he; simp at he), ?_⟩
  refine Goes.step rfl (fun _ h₁ => ?_)
  replace hF := hF.at h₁
  clear h₁
  rw [stepG_cond (t := true) (by first | rfl | (simp [Act.eval]; omega))]
  simp only [goes_go, ↓reduceIte]
  refine ⟨DF.none (by intro e he; simp at he), ?_⟩
  refine Goes.step rfl (fun _ h₁ => ?_)
  replace hF := hF.at h₁
  clear h₁
  rw [stepG_seq]
  simp only [goes_go]
  refine ⟨DF.none (by intro e he; simp at he), ?_⟩
  refine Goes.step rfl (fun _ h₁ => ?_)
  replace hF := hF.at h₁
  clear h₁
  rw [stepG_region]
  simp only [goes_go, List.size_toArray, List.length_cons, List.length_nil, Nat.zero_add, List.range, List.range.loop]
  refine ⟨DF.none (by intro e he; simp at he), ?_⟩
  refine Goes.step rfl (fun _ h₁ => ?_)
  replace hF := hF.at h₁
  clear h₁
  refine goes_oper_k rfl rfl (by decide) (fun Kx hKx => ?_)
  go_simp
  refine hKx _ _ ⟨DF.none ?_, ?_⟩
  · intro e he
    have hm := mem_listed he
    simp [go_sem, *] at hm
  clear hKx Kx
  refine Goes.step rfl (fun _ h₁ => ?_)
  replace hF := hF.at h₁
  clear h₁
  rw [stepG_region_end]
  simp only [goes_go]
  refine ⟨DF.none (by intro e he; simp at he), ?_⟩
  refine Goes.step rfl (fun _ h₁ => ?_)
  replace hF := hF.at h₁
  clear h₁
  rw [stepG_ret']
  simp only [goes_go]
  refine ⟨DF.none (by intro e he; simp at he), ?_⟩
  refine Goes.stop (fun w₁ h₁ => ⟨(hF.at h₁).sz, BW.now ⟨.bool true, rfl, fun w => (stepG_done1 (t := 2) rfl rfl Try.func7 rfl (by kernel_rfl) w).trans (by simp), fun w₂ h₂ => ⟨rfl, _, ((hF.at h₁).at h₂).kf⟩⟩⟩)
variable {w : World} {S₂ : Nat → Prop} {c₂ : Nat} {T : Array Value} {m : Int} {K : Nat}
set_option maxRecDepth 100000 in
set_option maxHeartbeats 4000000 in
theorem law6m_end (hT : At6 m K T) (hK : K % 2 = 1) (hm : m = if K = 1 then 2 else 0) (hF : KN w.heap.size W (fun _ => False) S₂ w) :
    BW Try.prog c₂ S₂ (head6 T) w (EndAt Try.prog (DoneT W)) := by
  have hq1 : (K : Int).tmod 2 = ((K % 2 : Nat) : Int) := tmod_n7 K 2
  have hb0 : ((2 : Int) == 0) = false := by decide
  rw [hK] at hq1
  have hw3 : IntKind.i64.wrap ((1 : Nat) : Int) = 1 := by decide
  have hw4 : IntKind.i64.wrap (1 : Int) = 1 := by decide
  clear hK
  obtain ⟨hT, q4, q5⟩ := hT
  obtain ⟨v0, v1, v2, v3, v4, v5, v6, v7, v8, v9, v10, v11, v12, v13, v14, v15, v16, v17, v18, v19, v20, v21, v22, v23, v24, v25, v26, v27, v28, v29, v30, v31, v32, v33, v34, v35, v36, v37, v38, v39, v40, v41, v42, v43, v44, v45, rfl⟩ := array46 T hT
  simp only [List.getElem?_toArray, List.getElem?_cons_succ, List.getElem?_cons_zero, Option.some.injEq] at q4 q5
  subst q4 q5
  simp only [head6, L6, R6, rest6, firstLoop, Try.f7, Option.getD_some]
  by_cases hK1 : K = 1
  · subst hK1
    simp only [if_true] at hm
    subst hm
    refine BW.walk 300 ?_
    refine Goes.step rfl (fun _ h₁ => ?_)
    replace hF := hF.at h₁
    clear h₁
    rw [stepG_seq]
    simp only [goes_go]
    refine ⟨DF.none (by intro e he; simp at he), ?_⟩
    refine Goes.step rfl (fun _ h₁ => ?_)
    replace hF := hF.at h₁
    clear h₁
    rw [stepG_seq]
    simp only [goes_go]
    refine ⟨DF.none (by intro e he; simp at he), ?_⟩
    refine Goes.step rfl (fun _ h₁ => ?_)
    replace hF := hF.at h₁
    clear h₁
    rw [stepG_region]
    simp only [goes_go, List.size_toArray, List.length_cons, List.length_nil, Nat.reduceAdd, Nat.zero_add, List.range, List.range.loop]
    refine ⟨DF.none (by intro e he; simp at he), ?_⟩
    refine Goes.step rfl (fun _ h₁ => ?_)
    replace hF := hF.at h₁
    clear h₁
    refine goes_oper_k rfl rfl (by decide) (fun Kx hKx => ?_)
    go_simp
    refine hKx _ _ ⟨DF.none ?_, ?_⟩
    · intro e he
      have hm := mem_listed he
      simp [go_sem, *] at hm
    clear hKx Kx
    refine Goes.step rfl (fun _ h₁ => ?_)
    replace hF := hF.at h₁
    clear h₁
    refine goes_oper_k rfl rfl (by decide) (fun Kx hKx => ?_)
    go_simp
    refine hKx _ _ ⟨DF.none ?_, ?_⟩
    · intro e he
      have hm := mem_listed he
      simp [go_sem, *] at hm
    clear hKx Kx
    refine Goes.step rfl (fun _ h₁ => ?_)
    replace hF := hF.at h₁
    clear h₁
    refine goes_oper_k rfl rfl (by decide) (fun Kx hKx => ?_)
    go_simp
    refine hKx _ _ ⟨DF.none ?_, ?_⟩
    · intro e he
      have hm := mem_listed he
      simp [go_sem, *] at hm
    clear hKx Kx
    refine Goes.step rfl (fun _ h₁ => ?_)
    replace hF := hF.at h₁
    clear h₁
    rw [stepG_region_end]
    simp only [goes_go]
    refine ⟨DF.none (by intro e he; simp at he), ?_⟩
    refine Goes.step rfl (fun _ h₁ => ?_)
    replace hF := hF.at h₁
    clear h₁
    rw [stepG_cond (t := false) (by first | rfl | (simp [Act.eval]; omega))]
    simp only [goes_go, Bool.false_eq_true, ↓reduceIte]
    refine ⟨DF.none (by intro e he; simp at he), ?_⟩
    refine Goes.step rfl (fun _ h₁ => ?_)
    replace hF := hF.at h₁
    clear h₁
    refine goes_exit rfl ?_
    refine ⟨DF.none (by intro e he; simp at he), ?_⟩
    refine Goes.step rfl (fun _ h₁ => ?_)
    replace hF := hF.at h₁
    clear h₁
    rw [stepG_seq]
    simp only [goes_go]
    refine ⟨DF.none (by intro e he; simp at he), ?_⟩
    refine Goes.step rfl (fun _ h₁ => ?_)
    replace hF := hF.at h₁
    clear h₁
    rw [stepG_region]
    simp only [goes_go, List.size_toArray, List.length_cons, List.length_nil, Nat.reduceAdd, Nat.zero_add, List.range, List.range.loop]
    refine ⟨DF.none (by intro e he; simp at he), ?_⟩
    refine Goes.step rfl (fun _ h₁ => ?_)
    replace hF := hF.at h₁
    clear h₁
    refine goes_oper_k rfl rfl (by decide) (fun Kx hKx => ?_)
    go_simp
    refine hKx _ _ ⟨DF.none ?_, ?_⟩
    · intro e he
      have hm := mem_listed he
      simp [go_sem, *] at hm
    clear hKx Kx
    refine Goes.step rfl (fun _ h₁ => ?_)
    replace hF := hF.at h₁
    clear h₁
    refine goes_oper_k rfl rfl (by decide) (fun Kx hKx => ?_)
    go_simp
    refine hKx _ _ ⟨DF.none ?_, ?_⟩
    · intro e he
      have hm := mem_listed he
      simp [go_sem, *] at hm
    clear hKx Kx
    refine Goes.step rfl (fun _ h₁ => ?_)
    replace hF := hF.at h₁
    clear h₁
    refine goes_oper_k rfl rfl (by decide) (fun Kx hKx => ?_)
    go_simp
    refine hKx _ _ ⟨DF.none ?_, ?_⟩
    · intro e he
      have hm := mem_listed he
      simp [go_sem, *] at hm
    clear hKx Kx
    refine Goes.step rfl (fun _ h₁ => ?_)
    replace hF := hF.at h₁
    clear h₁
    refine goes_oper_k rfl rfl (by decide) (fun Kx hKx => ?_)
    go_simp
    refine hKx _ _ ⟨DF.none ?_, ?_⟩
    · intro e he
      have hm := mem_listed he
      simp [go_sem, *] at hm
    clear hKx Kx
    refine Goes.step rfl (fun _ h₁ => ?_)
    replace hF := hF.at h₁
    clear h₁
    refine goes_oper_k rfl rfl (by decide) (fun Kx hKx => ?_)
    go_simp
    refine hKx _ _ ⟨DF.none ?_, ?_⟩
    · intro e he
      have hm := mem_listed he
      simp [go_sem, ev_eqlD, *] at hm
    clear hKx Kx
    refine Goes.step rfl (fun _ h₁ => ?_)
    replace hF := hF.at h₁
    clear h₁
    refine goes_oper_k rfl rfl (by decide) (fun Kx hKx => ?_)
    go_simp
    refine hKx _ _ ⟨DF.none ?_, ?_⟩
    · intro e he
      have hm := mem_listed he
      simp [go_sem, *] at hm
    clear hKx Kx
    refine Goes.step rfl (fun _ h₁ => ?_)
    replace hF := hF.at h₁
    clear h₁
    refine goes_oper_k rfl rfl (by decide) (fun Kx hKx => ?_)
    go_simp
    refine hKx _ _ ⟨DF.none ?_, ?_⟩
    · intro e he
      have hm := mem_listed he
      simp [go_sem, *] at hm
    clear hKx Kx
    refine Goes.step rfl (fun _ h₁ => ?_)
    replace hF := hF.at h₁
    clear h₁
    refine goes_oper_k rfl rfl (by decide) (fun Kx hKx => ?_)
    go_simp
    refine hKx _ _ ⟨DF.none ?_, ?_⟩
    · intro e he
      have hm := mem_listed he
      simp [go_sem, *] at hm
    clear hKx Kx
    refine Goes.step rfl (fun _ h₁ => ?_)
    replace hF := hF.at h₁
    clear h₁
    refine goes_oper_k rfl rfl (by decide) (fun Kx hKx => ?_)
    go_simp
    refine hKx _ _ ⟨DF.none ?_, ?_⟩
    · intro e he
      have hm := mem_listed he
      simp [go_sem, *] at hm
    clear hKx Kx
    refine Goes.step rfl (fun _ h₁ => ?_)
    replace hF := hF.at h₁
    clear h₁
    rw [stepG_unwanted rfl rfl]
    simp only [goes_go]
    refine ⟨DF.none (by intro e he; simp at he), ?_⟩
    walk_nrm
    refine Goes.step rfl (fun _ h₁ => ?_)
    replace hF := hF.at h₁
    clear h₁
    rw [stepG_unwanted rfl rfl]
    simp only [goes_go]
    refine ⟨DF.none (by intro e he; simp at he), ?_⟩
    walk_nrm
    refine Goes.step rfl (fun _ h₁ => ?_)
    replace hF := hF.at h₁
    clear h₁
    refine goes_oper_k rfl rfl (by decide) (fun Kx hKx => ?_)
    go_simp
    refine hKx _ _ ⟨DF.none ?_, ?_⟩
    · intro e he
      have hm := mem_listed he
      simp [go_sem, *] at hm
    clear hKx Kx
    refine Goes.step rfl (fun _ h₁ => ?_)
    replace hF := hF.at h₁
    clear h₁
    refine goes_oper_k rfl rfl (by decide) (fun Kx hKx => ?_)
    go_simp
    refine hKx _ _ ⟨DF.none ?_, ?_⟩
    · intro e he
      have hm := mem_listed he
      simp [go_sem, *] at hm
    clear hKx Kx
    refine Goes.step rfl (fun _ h₁ => ?_)
    replace hF := hF.at h₁
    clear h₁
    refine goes_oper_k rfl rfl (by decide) (fun Kx hKx => ?_)
    go_simp
    refine hKx _ _ ⟨DF.none ?_, ?_⟩
    · intro e he
      have hm := mem_listed he
      simp [go_sem, *] at hm
    clear hKx Kx
    refine Goes.step rfl (fun _ h₁ => ?_)
    replace hF := hF.at h₁
    clear h₁
    refine goes_callF rfl rfl (by decide) rfl Try.func16 nm_alive rfl ⟨DF.none (by intro e he; simp at he), ?_⟩
    walk_nrm
    refine Goes.stop (fun w₁ h₁ => ⟨(hF.at h₁).sz, ?_⟩)
    replace hF := hF.at h₁
    clear h₁
    refine (aliveB hF.kf.rows).bind fun c2 S2 g2 w2 hp => ?_
    obtain ⟨hc4, rfl, hpk⟩ := hp
    replace hF := KN.mk (hF.kf.trans hpk) (Nat.le_refl _)
    clear hpk
    rw [Frame.finish_at]
    refine BW.walk 300 ?_
    walk_nrm
    refine Goes.step rfl (fun _ h₁ => ?_)
    replace hF := hF.at h₁
    clear h₁
    refine goes_oper_k rfl rfl (by decide) (fun Kx hKx => ?_)
    go_simp
    refine hKx _ _ ⟨DF.none ?_, ?_⟩
    · intro e he
      have hm := mem_listed he
      simp [go_sem, *] at hm
    clear hKx Kx
    refine Goes.step rfl (fun _ h₁ => ?_)
    replace hF := hF.at h₁
    clear h₁
    refine goes_oper_k rfl rfl (by decide) (fun Kx hKx => ?_)
    go_simp
    refine hKx _ _ ⟨DF.none ?_, ?_⟩
    · intro e he
      have hm := mem_listed he
      simp [go_sem, *] at hm
    clear hKx Kx
    refine Goes.step rfl (fun _ h₁ => ?_)
    replace hF := hF.at h₁
    clear h₁
    rw [stepG_region_end]
    simp only [goes_go]
    refine ⟨DF.none (by intro e he; simp at he), ?_⟩
    refine Goes.step rfl (fun _ h₁ => ?_)
    replace hF := hF.at h₁
    clear h₁
    rw [stepG_ret']
    simp only [goes_go]
    refine ⟨DF.none (by intro e he; simp at he), ?_⟩
    refine Goes.stop (fun w₁ h₁ => ⟨(hF.at h₁).sz, BW.now ⟨.bool true, rfl, fun w => (stepG_done1 (t := 2) rfl rfl Try.func7 rfl (by kernel_rfl) w).trans (by simp), fun w₂ h₂ => ⟨rfl, _, ((hF.at h₁).at h₂).kf⟩⟩⟩)
  · rw [if_neg hK1] at hm
    subst hm
    have hK2 : ((K : Int) == 1) = false := by simp; omega
    have hK3 : ¬ (K : Int) = 1 := by omega
    refine BW.walk 300 ?_
    refine Goes.step rfl (fun _ h₁ => ?_)
    replace hF := hF.at h₁
    clear h₁
    rw [stepG_seq]
    simp only [goes_go]
    refine ⟨DF.none (by intro e he; simp at he), ?_⟩
    refine Goes.step rfl (fun _ h₁ => ?_)
    replace hF := hF.at h₁
    clear h₁
    rw [stepG_seq]
    simp only [goes_go]
    refine ⟨DF.none (by intro e he; simp at he), ?_⟩
    refine Goes.step rfl (fun _ h₁ => ?_)
    replace hF := hF.at h₁
    clear h₁
    rw [stepG_region]
    simp only [goes_go, List.size_toArray, List.length_cons, List.length_nil, Nat.reduceAdd, Nat.zero_add, List.range, List.range.loop]
    refine ⟨DF.none (by intro e he; simp at he), ?_⟩
    refine Goes.step rfl (fun _ h₁ => ?_)
    replace hF := hF.at h₁
    clear h₁
    refine goes_oper_k rfl rfl (by decide) (fun Kx hKx => ?_)
    go_simp
    refine hKx _ _ ⟨DF.none ?_, ?_⟩
    · intro e he
      have hm := mem_listed he
      simp [go_sem, *] at hm
    clear hKx Kx
    refine Goes.step rfl (fun _ h₁ => ?_)
    replace hF := hF.at h₁
    clear h₁
    refine goes_oper_k rfl rfl (by decide) (fun Kx hKx => ?_)
    go_simp
    refine hKx _ _ ⟨DF.none ?_, ?_⟩
    · intro e he
      have hm := mem_listed he
      simp [go_sem, *] at hm
    clear hKx Kx
    refine Goes.step rfl (fun _ h₁ => ?_)
    replace hF := hF.at h₁
    clear h₁
    refine goes_oper_k rfl rfl (by decide) (fun Kx hKx => ?_)
    go_simp
    refine hKx _ _ ⟨DF.none ?_, ?_⟩
    · intro e he
      have hm := mem_listed he
      simp [go_sem, *] at hm
    clear hKx Kx
    refine Goes.step rfl (fun _ h₁ => ?_)
    replace hF := hF.at h₁
    clear h₁
    rw [stepG_region_end]
    simp only [goes_go]
    refine ⟨DF.none (by intro e he; simp at he), ?_⟩
    refine Goes.step rfl (fun _ h₁ => ?_)
    replace hF := hF.at h₁
    clear h₁
    rw [stepG_cond (t := false) (by first | rfl | (simp [Act.eval]; omega))]
    simp only [goes_go, Bool.false_eq_true, ↓reduceIte]
    refine ⟨DF.none (by intro e he; simp at he), ?_⟩
    refine Goes.step rfl (fun _ h₁ => ?_)
    replace hF := hF.at h₁
    clear h₁
    refine goes_exit rfl ?_
    refine ⟨DF.none (by intro e he; simp at he), ?_⟩
    refine Goes.step rfl (fun _ h₁ => ?_)
    replace hF := hF.at h₁
    clear h₁
    rw [stepG_seq]
    simp only [goes_go]
    refine ⟨DF.none (by intro e he; simp at he), ?_⟩
    refine Goes.step rfl (fun _ h₁ => ?_)
    replace hF := hF.at h₁
    clear h₁
    rw [stepG_region]
    simp only [goes_go, List.size_toArray, List.length_cons, List.length_nil, Nat.reduceAdd, Nat.zero_add, List.range, List.range.loop]
    refine ⟨DF.none (by intro e he; simp at he), ?_⟩
    refine Goes.step rfl (fun _ h₁ => ?_)
    replace hF := hF.at h₁
    clear h₁
    refine goes_oper_k rfl rfl (by decide) (fun Kx hKx => ?_)
    go_simp
    refine hKx _ _ ⟨DF.none ?_, ?_⟩
    · intro e he
      have hm := mem_listed he
      simp [go_sem, *] at hm
    clear hKx Kx
    refine Goes.step rfl (fun _ h₁ => ?_)
    replace hF := hF.at h₁
    clear h₁
    refine goes_oper_k rfl rfl (by decide) (fun Kx hKx => ?_)
    go_simp
    refine hKx _ _ ⟨DF.none ?_, ?_⟩
    · intro e he
      have hm := mem_listed he
      simp [go_sem, *] at hm
    clear hKx Kx
    refine Goes.step rfl (fun _ h₁ => ?_)
    replace hF := hF.at h₁
    clear h₁
    refine goes_oper_k rfl rfl (by decide) (fun Kx hKx => ?_)
    go_simp
    refine hKx _ _ ⟨DF.none ?_, ?_⟩
    · intro e he
      have hm := mem_listed he
      simp [go_sem, *] at hm
    clear hKx Kx
    refine Goes.step rfl (fun _ h₁ => ?_)
    replace hF := hF.at h₁
    clear h₁
    refine goes_oper_k rfl rfl (by decide) (fun Kx hKx => ?_)
    go_simp
    refine hKx _ _ ⟨DF.none ?_, ?_⟩
    · intro e he
      have hm := mem_listed he
      simp [go_sem, *] at hm
    clear hKx Kx
    refine Goes.step rfl (fun _ h₁ => ?_)
    replace hF := hF.at h₁
    clear h₁
    refine goes_oper_k rfl rfl (by decide) (fun Kx hKx => ?_)
    go_simp
    refine hKx _ _ ⟨DF.none ?_, ?_⟩
    · intro e he
      have hm := mem_listed he
      simp [go_sem, ev_eqlD, *] at hm
    clear hKx Kx
    refine Goes.step rfl (fun _ h₁ => ?_)
    replace hF := hF.at h₁
    clear h₁
    refine goes_oper_k rfl rfl (by decide) (fun Kx hKx => ?_)
    go_simp
    refine hKx _ _ ⟨DF.none ?_, ?_⟩
    · intro e he
      have hm := mem_listed he
      simp [go_sem, *] at hm
    clear hKx Kx
    refine Goes.step rfl (fun _ h₁ => ?_)
    replace hF := hF.at h₁
    clear h₁
    refine goes_oper_k rfl rfl (by decide) (fun Kx hKx => ?_)
    go_simp
    refine hKx _ _ ⟨DF.none ?_, ?_⟩
    · intro e he
      have hm := mem_listed he
      simp [go_sem, *] at hm
    clear hKx Kx
    refine Goes.step rfl (fun _ h₁ => ?_)
    replace hF := hF.at h₁
    clear h₁
    refine goes_oper_k rfl rfl (by decide) (fun Kx hKx => ?_)
    go_simp
    refine hKx _ _ ⟨DF.none ?_, ?_⟩
    · intro e he
      have hm := mem_listed he
      simp [go_sem, *] at hm
    clear hKx Kx
    refine Goes.step rfl (fun _ h₁ => ?_)
    replace hF := hF.at h₁
    clear h₁
    refine goes_oper_k rfl rfl (by decide) (fun Kx hKx => ?_)
    go_simp
    refine hKx _ _ ⟨DF.none ?_, ?_⟩
    · intro e he
      have hm := mem_listed he
      simp [go_sem, *] at hm
    clear hKx Kx
    refine Goes.step rfl (fun _ h₁ => ?_)
    replace hF := hF.at h₁
    clear h₁
    refine goes_oper_k rfl rfl (by decide) (fun Kx hKx => ?_)
    go_simp
    refine hKx _ _ ⟨DF.none ?_, ?_⟩
    · intro e he
      have hm := mem_listed he
      simp [go_sem, *] at hm
    clear hKx Kx
    refine Goes.step rfl (fun _ h₁ => ?_)
    replace hF := hF.at h₁
    clear h₁
    refine goes_oper_k rfl rfl (by decide) (fun Kx hKx => ?_)
    go_simp
    refine hKx _ _ ⟨DF.none ?_, ?_⟩
    · intro e he
      have hm := mem_listed he
      simp [go_sem, *] at hm
    clear hKx Kx
    refine Goes.step rfl (fun _ h₁ => ?_)
    replace hF := hF.at h₁
    clear h₁
    refine goes_oper_k rfl rfl (by decide) (fun Kx hKx => ?_)
    go_simp
    refine hKx _ _ ⟨DF.none ?_, ?_⟩
    · intro e he
      have hm := mem_listed he
      simp [go_sem, *] at hm
    clear hKx Kx
    refine Goes.step rfl (fun _ h₁ => ?_)
    replace hF := hF.at h₁
    clear h₁
    refine goes_oper_k rfl rfl (by decide) (fun Kx hKx => ?_)
    go_simp
    refine hKx _ _ ⟨DF.none ?_, ?_⟩
    · intro e he
      have hm := mem_listed he
      simp [go_sem, *] at hm
    clear hKx Kx
    refine Goes.step rfl (fun _ h₁ => ?_)
    replace hF := hF.at h₁
    clear h₁
    refine goes_oper_k rfl rfl (by decide) (fun Kx hKx => ?_)
    go_simp
    refine hKx _ _ ⟨DF.none ?_, ?_⟩
    · intro e he
      have hm := mem_listed he
      simp [go_sem, *] at hm
    clear hKx Kx
    refine Goes.step rfl (fun _ h₁ => ?_)
    replace hF := hF.at h₁
    clear h₁
    refine goes_callF rfl rfl (by decide) rfl Try.func16 nm_alive rfl ⟨DF.none (by intro e he; simp at he), ?_⟩
    walk_nrm
    refine Goes.stop (fun w₁ h₁ => ⟨(hF.at h₁).sz, ?_⟩)
    replace hF := hF.at h₁
    clear h₁
    refine (aliveB hF.kf.rows).bind fun c2 S2 g2 w2 hp => ?_
    obtain ⟨hc4, rfl, hpk⟩ := hp
    replace hF := KN.mk (hF.kf.trans hpk) (Nat.le_refl _)
    clear hpk
    rw [Frame.finish_at]
    refine BW.walk 300 ?_
    walk_nrm
    refine Goes.step rfl (fun _ h₁ => ?_)
    replace hF := hF.at h₁
    clear h₁
    refine goes_oper_k rfl rfl (by decide) (fun Kx hKx => ?_)
    go_simp
    refine hKx _ _ ⟨DF.none ?_, ?_⟩
    · intro e he
      have hm := mem_listed he
      simp [go_sem, *] at hm
    clear hKx Kx
    refine Goes.step rfl (fun _ h₁ => ?_)
    replace hF := hF.at h₁
    clear h₁
    refine goes_oper_k rfl rfl (by decide) (fun Kx hKx => ?_)
    go_simp
    refine hKx _ _ ⟨DF.none ?_, ?_⟩
    · intro e he
      have hm := mem_listed he
      simp [go_sem, *] at hm
    clear hKx Kx
    refine Goes.step rfl (fun _ h₁ => ?_)
    replace hF := hF.at h₁
    clear h₁
    rw [stepG_region_end]
    simp only [goes_go]
    refine ⟨DF.none (by intro e he; simp at he), ?_⟩
    refine Goes.step rfl (fun _ h₁ => ?_)
    replace hF := hF.at h₁
    clear h₁
    rw [stepG_ret']
    simp only [goes_go]
    refine ⟨DF.none (by intro e he; simp at he), ?_⟩
    refine Goes.stop (fun w₁ h₁ => ⟨(hF.at h₁).sz, BW.now ⟨.bool true, rfl, fun w => (stepG_done1 (t := 2) rfl rfl Try.func7 rfl (by kernel_rfl) w).trans (by simp), fun w₂ h₂ => ⟨rfl, _, ((hF.at h₁).at h₂).kf⟩⟩⟩)
set_option maxRecDepth 100000 in
set_option maxHeartbeats 4000000 in
theorem law6m_turn (hT : At6 m K T) (hK : K % 2 = 0) (hs : K ≤ 1000) (hF : KN w.heap.size W (fun _ => False) S₂ w) {Stop : BStop}
    (hN : ∀ T' w', At6 m (K / 2) T' → KN w.heap.size W (fun _ => False) S₂ w' → BW Try.prog c₂ S₂ (head6 T') w' Stop) : BW Try.prog c₂ S₂ (head6 T) w Stop := by
  have hd : (K : Int).tdiv 2 = ((K / 2 : Nat) : Int) := by
    rw [Int.tdiv_eq_ediv_of_nonneg (by omega)]
    omega
  have hw2 : IntKind.i64.wrap ((K / 2 : Nat) : Int) = ((K / 2 : Nat) : Int) := byw (by omega) (by omega)
  have hq1 : (K : Int).tmod 2 = ((K % 2 : Nat) : Int) := tmod_n7 K 2
  have hb0 : ((2 : Int) == 0) = false := by decide
  rw [hK] at hq1
  have hw3 : IntKind.i64.wrap ((0 : Nat) : Int) = 0 := by decide
  have hw4 : IntKind.i64.wrap (0 : Int) = 0 := by decide
  clear hK
  revert hN
  generalize K / 2 = H at *
  intro hN
  obtain ⟨hT, q4, q5⟩ := hT
  obtain ⟨v0, v1, v2, v3, v4, v5, v6, v7, v8, v9, v10, v11, v12, v13, v14, v15, v16, v17, v18, v19, v20, v21, v22, v23, v24, v25, v26, v27, v28, v29, v30, v31, v32, v33, v34, v35, v36, v37, v38, v39, v40, v41, v42, v43, v44, v45, rfl⟩ := array46 T hT
  simp only [List.getElem?_toArray, List.getElem?_cons_succ, List.getElem?_cons_zero, Option.some.injEq] at q4 q5
  subst q4 q5
  simp only [head6, L6, R6, rest6, firstLoop, Try.f7, Option.getD_some]
  refine BW.walk 300 ?_
  refine Goes.step rfl (fun _ h₁ => ?_)
  replace hF := hF.at h₁
  clear h₁
  rw [stepG_seq]
  simp only [goes_go]
  refine ⟨DF.none (by intro e he; simp at he), ?_⟩
  refine Goes.step rfl (fun _ h₁ => ?_)
  replace hF := hF.at h₁
  clear h₁
  rw [stepG_seq]
  simp only [goes_go]
  refine ⟨DF.none (by intro e he; simp at he), ?_⟩
  refine Goes.step rfl (fun _ h₁ => ?_)
  replace hF := hF.at h₁
  clear h₁
  rw [stepG_region]
  simp only [goes_go, List.size_toArray, List.length_cons, List.length_nil, Nat.reduceAdd, Nat.zero_add, List.range, List.range.loop]
  refine ⟨DF.none (by intro e he; simp at he), ?_⟩
  refine Goes.step rfl (fun _ h₁ => ?_)
  replace hF := hF.at h₁
  clear h₁
  refine goes_oper_k rfl rfl (by decide) (fun Kx hKx => ?_)
  go_simp
  refine hKx _ _ ⟨DF.none ?_, ?_⟩
  · intro e he
    have hm := mem_listed he
    simp [go_sem, *] at hm
  clear hKx Kx
  refine Goes.step rfl (fun _ h₁ => ?_)
  replace hF := hF.at h₁
  clear h₁
  refine goes_oper_k rfl rfl (by decide) (fun Kx hKx => ?_)
  go_simp
  refine hKx _ _ ⟨DF.none ?_, ?_⟩
  · intro e he
    have hm := mem_listed he
    simp [go_sem, *] at hm
  clear hKx Kx
  refine Goes.step rfl (fun _ h₁ => ?_)
  replace hF := hF.at h₁
  clear h₁
  refine goes_oper_k rfl rfl (by decide) (fun Kx hKx => ?_)
  go_simp
  refine hKx _ _ ⟨DF.none ?_, ?_⟩
  · intro e he
    have hm := mem_listed he
    simp [go_sem, *] at hm
  clear hKx Kx
  refine Goes.step rfl (fun _ h₁ => ?_)
  replace hF := hF.at h₁
  clear h₁
  rw [stepG_region_end]
  simp only [goes_go]
  refine ⟨DF.none (by intro e he; simp at he), ?_⟩
  refine Goes.step rfl (fun _ h₁ => ?_)
  replace hF := hF.at h₁
  clear h₁
  rw [stepG_cond (t := true) (by first | rfl | (simp [Act.eval]; omega))]
  simp only [goes_go, ↓reduceIte]
  refine ⟨DF.none (by intro e he; simp at he), ?_⟩
  refine Goes.step rfl (fun _ h₁ => ?_)
  replace hF := hF.at h₁
  clear h₁
  rw [stepG_skip]
  simp only [goes_go]
  refine ⟨DF.none (by intro e he; simp at he), ?_⟩
  refine Goes.step rfl (fun _ h₁ => ?_)
  replace hF := hF.at h₁
  clear h₁
  rw [stepG_block]
  simp only [goes_go]
  refine ⟨DF.none (by intro e he; simp at he), ?_⟩
  refine Goes.step rfl (fun _ h₁ => ?_)
  replace hF := hF.at h₁
  clear h₁
  rw [stepG_region]
  simp only [goes_go, List.size_toArray, List.length_cons, List.length_nil, Nat.reduceAdd, Nat.zero_add, List.range, List.range.loop]
  refine ⟨DF.none (by intro e he; simp at he), ?_⟩
  refine Goes.step rfl (fun _ h₁ => ?_)
  replace hF := hF.at h₁
  clear h₁
  refine goes_oper_k rfl rfl (by decide) (fun Kx hKx => ?_)
  go_simp
  refine hKx _ _ ⟨DF.none ?_, ?_⟩
  · intro e he
    have hm := mem_listed he
    simp [go_sem, *] at hm
  clear hKx Kx
  refine Goes.step rfl (fun _ h₁ => ?_)
  replace hF := hF.at h₁
  clear h₁
  refine goes_oper_k rfl rfl (by decide) (fun Kx hKx => ?_)
  go_simp
  refine hKx _ _ ⟨DF.none ?_, ?_⟩
  · intro e he
    have hm := mem_listed he
    simp [go_sem, *] at hm
  clear hKx Kx
  refine Goes.step rfl (fun _ h₁ => ?_)
  replace hF := hF.at h₁
  clear h₁
  refine goes_oper_k rfl rfl (by decide) (fun Kx hKx => ?_)
  go_simp
  refine hKx _ _ ⟨DF.none ?_, ?_⟩
  · intro e he
    have hm := mem_listed he
    simp [go_sem, *] at hm
  clear hKx Kx
  refine Goes.step rfl (fun _ h₁ => ?_)
  replace hF := hF.at h₁
  clear h₁
  rw [stepG_region_end]
  simp only [goes_go]
  refine ⟨DF.none (by intro e he; simp at he), ?_⟩
  refine Goes.step rfl (fun _ h₁ => ?_)
  replace hF := hF.at h₁
  clear h₁
  rw [stepG_inBlock]
  simp only [goes_go]
  refine ⟨DF.none (by intro e he; simp at he), ?_⟩
  refine Goes.step rfl (fun _ h₁ => ?_)
  replace hF := hF.at h₁
  clear h₁
  rw [stepG_inLoop]
  simp only [goes_go]
  refine ⟨DF.none (by intro e he; simp at he), ?_⟩
  exact Goes.stop (fun w₁ h₁ => ⟨(hF.at h₁).sz, hN _ w₁ ⟨by simp, by simp, by simp⟩ (hF.at h₁)⟩)
theorem law6m_loop : ∀ (f K : Nat) (T : Array Value) (w : World), 1 ≤ K → K < 2 ^ f → K ≤ 1000 → m = (if oddP f K = 1 then 2 else 0) → At6 m K T → KN w.heap.size W (fun _ => False) S₂ w → BW Try.prog c₂ S₂ (head6 T) w (EndAt Try.prog (DoneT W))
  | 0, K, T, w, h1, h2, _, _, _, _ => by
    simp at h2
    omega
  | f + 1, K, T, w, h1, h2, h3, hm, hT, hF => by
    by_cases hK : K % 2 = 0
    · rw [show oddP (f + 1) K = oddP f (K / 2) by rw [oddP, if_pos hK]] at hm
      exact law6m_turn hT hK h3 hF fun T' w' hT' hF' => law6m_loop f (K / 2) T' w' (by omega) (by rw [Nat.pow_succ] at h2; omega) (by omega) hm hT' ⟨hF'.kf, Nat.le_refl _⟩
    · rw [show oddP (f + 1) K = K by rw [oddP, if_neg hK]] at hm
      exact law6m_end hT (by omega) hm hF
set_option maxRecDepth 100000 in
set_option maxHeartbeats 4000000 in
theorem lawMiddle_in (a : Option Addr) (len cap : Nat) (zs : List Int) (h : IsRow .u8 W a len cap zs) (hl : ¬ 1048576 < len) :
    BW Try.prog 1 (fun _ => False) (G (Frame.enter Try.prog 7 #[.slice a len cap] .normal) []) W (EndAt Try.prog (DoneT W)) := by
  have hli : ¬ (1048576 : Int) < len := by omega
  have hF : KN W.heap.size W (fun _ => False) (fun _ => False) W := ⟨KF.refl (fun _ h => h.elim), Nat.le_refl _⟩
  rw [enter_at _ Try.func7 rfl]
  refine BW.walk 200 ?_
  walk_nrmf Try.f7
  refine Goes.step rfl (fun _ h₁ => ?_)
  replace hF := hF.at h₁
  clear h₁
  rw [stepG_seq]
  simp only [goes_go]
  refine ⟨DF.none (by intro e he; simp at he), ?_⟩
  refine Goes.step rfl (fun _ h₁ => ?_)
  replace hF := hF.at h₁
  clear h₁
  rw [stepG_region]
  simp only [goes_go, List.size_toArray, List.length_cons, List.length_nil, Nat.zero_add, List.range, List.range.loop]
  refine ⟨DF.none (by intro e he; simp at he), ?_⟩
  refine Goes.step rfl (fun _ h₁ => ?_)
  replace hF := hF.at h₁
  clear h₁
  refine goes_oper_k rfl rfl (by decide) (fun Kx hKx => ?_)
  go_simp
  refine hKx _ _ ⟨DF.none ?_, ?_⟩
  · intro e he
    have hm := mem_listed he
    simp [go_sem, *] at hm
  clear hKx Kx
  refine Goes.step rfl (fun _ h₁ => ?_)
  replace hF := hF.at h₁
  clear h₁
  rw [stepG_region_end]
  simp only [goes_go]
  refine ⟨DF.none (by intro e he; simp at he), ?_⟩
  refine Goes.step rfl (fun _ h₁ => ?_)
  replace hF := hF.at h₁
  clear h₁
  rw [stepG_seq]
  simp only [goes_go]
  refine ⟨DF.none (by intro e he; simp at he), ?_⟩
  refine Goes.step rfl (fun _ h₁ => ?_)
  replace hF := hF.at h₁
  clear h₁
  rw [stepG_seq]
  simp only [goes_go]
  refine ⟨DF.none (by intro e he; simp at he), ?_⟩
  refine Goes.step rfl (fun _ h₁ => ?_)
  replace hF := hF.at h₁
  clear h₁
  rw [stepG_region]
  simp only [goes_go, List.size_toArray, List.length_cons, List.length_nil, Nat.reduceAdd, Nat.zero_add, List.range, List.range.loop]
  refine ⟨DF.none (by intro e he; simp at he), ?_⟩
  refine Goes.step rfl (fun _ h₁ => ?_)
  replace hF := hF.at h₁
  clear h₁
  refine goes_oper_k rfl rfl (by decide) (fun Kx hKx => ?_)
  go_simp
  refine hKx _ _ ⟨DF.none ?_, ?_⟩
  · intro e he
    have hm := mem_listed he
    simp [go_sem, *] at hm
  clear hKx Kx
  refine Goes.step rfl (fun _ h₁ => ?_)
  replace hF := hF.at h₁
  clear h₁
  refine goes_oper_k rfl rfl (by decide) (fun Kx hKx => ?_)
  go_simp
  refine hKx _ _ ⟨DF.none ?_, ?_⟩
  · intro e he
    have hm := mem_listed he
    simp [go_sem, *] at hm
  clear hKx Kx
  refine Goes.step rfl (fun _ h₁ => ?_)
  replace hF := hF.at h₁
  clear h₁
  refine goes_oper_k rfl rfl (by decide) (fun Kx hKx => ?_)
  go_simp
  refine hKx _ _ ⟨DF.none ?_, ?_⟩
  · intro e he
    have hm := mem_listed he
    simp [go_sem, *] at hm
  clear hKx Kx
  refine Goes.step rfl (fun _ h₁ => ?_)
  replace hF := hF.at h₁
  clear h₁
  rw [stepG_region_end]
  simp only [goes_go]
  refine ⟨DF.none (by intro e he; simp at he), ?_⟩
  refine Goes.step rfl (fun _ h₁ => ?_)
  replace hF := hF.at h₁
  clear h₁
  rw [stepG_cond (t := false) (by first | rfl | (simp [Act.eval]; omega))]
  simp only [goes_go, Bool.false_eq_true, ↓reduceIte]
  refine ⟨DF.none (by intro e he; simp at he), ?_⟩
  refine Goes.step rfl (fun _ h₁ => ?_)
  replace hF := hF.at h₁
  clear h₁
  rw [stepG_skip]
  simp only [goes_go]
  refine ⟨DF.none (by intro e he; simp at he), ?_⟩
  refine Goes.step rfl (fun _ h₁ => ?_)
  replace hF := hF.at h₁
  clear h₁
  rw [stepG_seq]
  simp only [goes_go]
  refine ⟨DF.none (by intro e he; simp at he), ?_⟩
  refine Goes.step rfl (fun _ h₁ => ?_)
  replace hF := hF.at h₁
  clear h₁
  rw [stepG_region]
  simp only [goes_go, List.size_toArray, List.length_cons, List.length_nil, Nat.reduceAdd, Nat.zero_add, List.range, List.range.loop]
  refine ⟨DF.none (by intro e he; simp at he), ?_⟩
  refine Goes.step rfl (fun _ h₁ => ?_)
  replace hF := hF.at h₁
  clear h₁
  refine goes_oper_k rfl rfl (by decide) (fun Kx hKx => ?_)
  go_simp
  refine hKx _ _ ⟨DF.none ?_, ?_⟩
  · intro e he
    have hm := mem_listed he
    simp [go_sem, *] at hm
  clear hKx Kx
  refine Goes.step rfl (fun _ h₁ => ?_)
  replace hF := hF.at h₁
  clear h₁
  refine goes_callF rfl rfl (by decide) rfl Try.func27 nmd_DrawMiddleLeft rfl ⟨DF.none (by intro e he; simp at he), ?_⟩
  walk_nrm
  refine Goes.stop (fun w₁ h₁ => ⟨(hF.at h₁).sz, ?_⟩)
  replace hF := hF.at h₁
  clear h₁
  refine (pureQ_beside kokD rfl (Q := fun v => ∃ z : Int, Fits z ∧ v = .int .i64 z) (fun v hv => (drawMiddle v a len cap zs (isRow_at h hF.kf hv)).mono fun e w' x => let ⟨⟨z, hz, he⟩, hB⟩ := x; ⟨_, ⟨z, hz, rfl⟩, he, hB⟩) hF.kf.rows).bind fun c2 S2 g2 w2 hp => ?_
  have hpk := hp.kf
  obtain ⟨x, hx, hg⟩ := hp.eg
  obtain rfl := hp.ec
  obtain rfl := hp.eS
  subst hg
  clear hp
  replace hF := KN.mk (hF.kf.trans hpk) (Nat.le_refl _)
  clear hpk
  obtain ⟨n, hnf, rfl⟩ := hx
  clear hnf
  obtain ⟨z, hz⟩ : ∃ z, middleLV n = z := ⟨_, rfl⟩
  have hS := fun v => specMiddle n v
  have hI := fun c S b₀ a₀ ops₀ i₀ rest₀ k₀ cs W hc => @implMiddle W c S b₀ a₀ ops₀ i₀ rest₀ k₀ cs hc n
  simp only [hz] at hS hI
  have hzh := hide hz
  clear hz
  rw [Frame.finish_at]
  refine BW.walk 300 ?_
  walk_nrm
  refine Goes.step rfl (fun _ h₁ => ?_)
  replace hF := hF.at h₁
  clear h₁
  refine goes_oper_k rfl rfl (by decide) (fun Kx hKx => ?_)
  go_simp
  refine hKx _ _ ⟨DF.none ?_, ?_⟩
  · intro e he
    have hm := mem_listed he
    simp [go_sem, *] at hm
  clear hKx Kx
  refine Goes.step rfl (fun _ h₁ => ?_)
  replace hF := hF.at h₁
  clear h₁
  rw [stepG_region_end]
  simp only [goes_go]
  refine ⟨DF.none (by intro e he; simp at he), ?_⟩
  refine Goes.step rfl (fun _ h₁ => ?_)
  replace hF := hF.at h₁
  clear h₁
  rw [stepG_seq]
  simp only [goes_go]
  refine ⟨DF.none (by intro e he; simp at he), ?_⟩
  refine Goes.step rfl (fun _ h₁ => ?_)
  replace hF := hF.at h₁
  clear h₁
  rw [stepG_region]
  simp only [goes_go, List.size_toArray, List.length_cons, List.length_nil, Nat.reduceAdd, Nat.zero_add, List.range, List.range.loop]
  refine ⟨DF.none (by intro e he; simp at he), ?_⟩
  refine Goes.step rfl (fun _ h₁ => ?_)
  replace hF := hF.at h₁
  clear h₁
  refine goes_oper_k rfl rfl (by decide) (fun Kx hKx => ?_)
  go_simp
  refine hKx _ _ ⟨DF.none ?_, ?_⟩
  · intro e he
    have hm := mem_listed he
    simp [go_sem, *] at hm
  clear hKx Kx
  refine Goes.step rfl (fun _ h₁ => ?_)
  replace hF := hF.at h₁
  clear h₁
  refine goes_callF rfl rfl (by decide) rfl Try.func28 nm_MiddleLeft rfl ⟨DF.none (by intro e he; simp at he), ?_⟩
  walk_nrm
  refine Goes.stop (fun w₁ h₁ => ⟨(hF.at h₁).sz, ?_⟩)
  replace hF := hF.at h₁
  clear h₁
  refine (hI _ _ _ _ _ _ _ _ _ _ (by omega) hF.kf.rows).bind fun c2 S2 g2 w2 hp => ?_
  obtain ⟨hc2, rfl, hpk⟩ := hp
  replace hF := KN.mk (hF.kf.trans hpk) (Nat.le_refl _)
  clear hpk
  rw [Frame.finish_at]
  refine BW.walk 300 ?_
  walk_nrm
  refine Goes.step rfl (fun _ h₁ => ?_)
  replace hF := hF.at h₁
  clear h₁
  refine goes_oper_k rfl rfl (by decide) (fun Kx hKx => ?_)
  go_simp
  refine hKx _ _ ⟨DF.none ?_, ?_⟩
  · intro e he
    have hm := mem_listed he
    simp [go_sem, *] at hm
  clear hKx Kx
  refine Goes.step rfl (fun _ h₁ => ?_)
  replace hF := hF.at h₁
  clear h₁
  rw [stepG_region_end]
  simp only [goes_go]
  refine ⟨DF.none (by intro e he; simp at he), ?_⟩
  refine Goes.step rfl (fun _ h₁ => ?_)
  replace hF := hF.at h₁
  clear h₁
  rw [stepG_seq]
  simp only [goes_go]
  refine ⟨DF.none (by intro e he; simp at he), ?_⟩
  refine Goes.step rfl (fun _ h₁ => ?_)
  replace hF := hF.at h₁
  clear h₁
  rw [stepG_seq]
  simp only [goes_go]
  refine ⟨DF.none (by intro e he; simp at he), ?_⟩
  refine Goes.step rfl (fun _ h₁ => ?_)
  replace hF := hF.at h₁
  clear h₁
  rw [stepG_region]
  simp only [goes_go, List.size_toArray, List.length_cons, List.length_nil, Nat.reduceAdd, Nat.zero_add, List.range, List.range.loop]
  refine ⟨DF.none (by intro e he; simp at he), ?_⟩
  refine Goes.step rfl (fun _ h₁ => ?_)
  replace hF := hF.at h₁
  clear h₁
  refine goes_oper_k rfl rfl (by decide) (fun Kx hKx => ?_)
  go_simp
  refine hKx _ _ ⟨DF.none ?_, ?_⟩
  · intro e he
    have hm := mem_listed he
    simp [go_sem, *] at hm
  clear hKx Kx
  refine Goes.step rfl (fun _ h₁ => ?_)
  replace hF := hF.at h₁
  clear h₁
  refine goes_oper_k rfl rfl (by decide) (fun Kx hKx => ?_)
  go_simp
  refine hKx _ _ ⟨DF.none ?_, ?_⟩
  · intro e he
    have hm := mem_listed he
    simp [go_sem, *] at hm
  clear hKx Kx
  refine Goes.step rfl (fun _ h₁ => ?_)
  replace hF := hF.at h₁
  clear h₁
  refine goes_callF rfl rfl (by decide) rfl Try.func29 nms_MiddleLeft rfl ⟨DF.none (by intro e he; simp at he), ?_⟩
  walk_nrm
  refine Goes.stop (fun w₁ h₁ => ⟨(hF.at h₁).sz, ?_⟩)
  replace hF := hF.at h₁
  clear h₁
  refine (pure_beside kok7 rfl (fun v => hS v) hF.kf.rows).bind fun c2 S2 g2 w2 hp => ?_
  have hpk := hp.kf
  obtain rfl := hp.ec
  obtain rfl := hp.eS
  obtain rfl := hp.eg
  clear hp
  replace hF := KN.mk (hF.kf.trans hpk) (Nat.le_refl _)
  clear hpk
  rw [Frame.finish_at]
  refine BW.walk 300 ?_
  walk_nrm
  refine Goes.step rfl (fun _ h₁ => ?_)
  replace hF := hF.at h₁
  clear h₁
  refine goes_oper_k rfl rfl (by decide) (fun Kx hKx => ?_)
  go_simp
  refine hKx _ _ ⟨DF.none ?_, ?_⟩
  · intro e he
    have hm := mem_listed he
    simp [go_sem, *] at hm
  clear hKx Kx
  refine Goes.step rfl (fun _ h₁ => ?_)
  replace hF := hF.at h₁
  clear h₁
  rw [stepG_region_end]
  simp only [goes_go]
  refine ⟨DF.none (by intro e he; simp at he), ?_⟩
  refine Goes.step rfl (fun _ h₁ => ?_)
  replace hF := hF.at h₁
  clear h₁
  rw [stepG_cond (t := false) (by first | rfl | (simp [Act.eval]; omega))]
  simp only [goes_go, Bool.false_eq_true, ↓reduceIte]
  refine ⟨DF.none (by intro e he; simp at he), ?_⟩
  refine Goes.step rfl (fun _ h₁ => ?_)
  replace hF := hF.at h₁
  clear h₁
  rw [stepG_skip]
  simp only [goes_go]
  refine ⟨DF.none (by intro e he; simp at he), ?_⟩
  refine Goes.step rfl (fun _ h₁ => ?_)
  replace hF := hF.at h₁
  clear h₁
  rw [stepG_seq]
  simp only [goes_go]
  refine ⟨DF.none (by intro e he; simp at he), ?_⟩
  refine Goes.step rfl (fun _ h₁ => ?_)
  replace hF := hF.at h₁
  clear h₁
  rw [stepG_seq]
  simp only [goes_go]
  refine ⟨DF.none (by intro e he; simp at he), ?_⟩
  refine Goes.step rfl (fun _ h₁ => ?_)
  replace hF := hF.at h₁
  clear h₁
  rw [stepG_region]
  simp only [goes_go, List.size_toArray, List.length_cons, List.length_nil, Nat.reduceAdd, Nat.zero_add, List.range, List.range.loop]
  refine ⟨DF.none (by intro e he; simp at he), ?_⟩
  by_cases hin : 1 ≤ n ∧ n ≤ 150
  · obtain ⟨N, rfl⟩ : ∃ N : Nat, n = N := ⟨n.toNat, by omega⟩
    have hzz : z = if oddP 8 N = 1 then 2 else 0 := by
      have := hzh.out
      unfold middleLV at this
      rw [if_pos hin, show (2 * (N : Int)) = ((2 * N : Nat) : Int) by omega, show (4 : Int) = ((4 : Nat) : Int) by rfl, cellLV_in (by omega) (by omega) (by omega) (by omega), mid_fact (by omega) (by omega)] at this
      rw [← this]
      split <;> rfl
    have hz0 : ¬ z < 0 := by
      rw [hzz]
      split <;> omega
    have hzg := hide hzz
    clear hzh hS hI hzz
    refine Goes.step rfl (fun _ h₁ => ?_)
    replace hF := hF.at h₁
    clear h₁
    refine goes_oper_k rfl rfl (by decide) (fun Kx hKx => ?_)
    go_simp
    refine hKx _ _ ⟨DF.none ?_, ?_⟩
    · intro e he
      have hm := mem_listed he
      simp [go_sem, *] at hm
    clear hKx Kx
    refine Goes.step rfl (fun _ h₁ => ?_)
    replace hF := hF.at h₁
    clear h₁
    refine goes_oper_k rfl rfl (by decide) (fun Kx hKx => ?_)
    go_simp
    refine hKx _ _ ⟨DF.none ?_, ?_⟩
    · intro e he
      have hm := mem_listed he
      simp [go_sem, *] at hm
    clear hKx Kx
    refine Goes.step rfl (fun _ h₁ => ?_)
    replace hF := hF.at h₁
    clear h₁
    rw [stepG_region_end]
    simp only [goes_go]
    refine ⟨DF.none (by intro e he; simp at he), ?_⟩
    refine Goes.step rfl (fun _ h₁ => ?_)
    replace hF := hF.at h₁
    clear h₁
    rw [stepG_cond (t := false) (by first | rfl | (simp [Act.eval]; omega))]
    simp only [goes_go, Bool.false_eq_true, ↓reduceIte]
    refine ⟨DF.none (by intro e he; simp at he), ?_⟩
    refine Goes.step rfl (fun _ h₁ => ?_)
    replace hF := hF.at h₁
    clear h₁
    rw [stepG_skip]
    simp only [goes_go]
    refine ⟨DF.none (by intro e he; simp at he), ?_⟩
    refine Goes.step rfl (fun _ h₁ => ?_)
    replace hF := hF.at h₁
    clear h₁
    rw [stepG_seq]
    simp only [goes_go]
    refine ⟨DF.none (by intro e he; simp at he), ?_⟩
    refine Goes.step rfl (fun _ h₁ => ?_)
    replace hF := hF.at h₁
    clear h₁
    rw [stepG_region]
    simp only [goes_go, List.size_toArray, List.length_cons, List.length_nil, Nat.reduceAdd, Nat.zero_add, List.range, List.range.loop]
    refine ⟨DF.none (by intro e he; simp at he), ?_⟩
    refine Goes.step rfl (fun _ h₁ => ?_)
    replace hF := hF.at h₁
    clear h₁
    refine goes_oper_k rfl rfl (by decide) (fun Kx hKx => ?_)
    go_simp
    refine hKx _ _ ⟨DF.none ?_, ?_⟩
    · intro e he
      have hm := mem_listed he
      simp [go_sem, *] at hm
    clear hKx Kx
    refine Goes.step rfl (fun _ h₁ => ?_)
    replace hF := hF.at h₁
    clear h₁
    refine goes_oper_k rfl rfl (by decide) (fun Kx hKx => ?_)
    go_simp
    refine hKx _ _ ⟨DF.none ?_, ?_⟩
    · intro e he
      have hm := mem_listed he
      simp [go_sem, *] at hm
    clear hKx Kx
    refine Goes.step rfl (fun _ h₁ => ?_)
    replace hF := hF.at h₁
    clear h₁
    rw [stepG_region_end]
    simp only [goes_go]
    refine ⟨DF.none (by intro e he; simp at he), ?_⟩
    refine Goes.step rfl (fun _ h₁ => ?_)
    replace hF := hF.at h₁
    clear h₁
    rw [stepG_seq]
    simp only [goes_go]
    refine ⟨DF.none (by intro e he; simp at he), ?_⟩
    refine Goes.step rfl (fun _ h₁ => ?_)
    replace hF := hF.at h₁
    clear h₁
    rw [stepG_block]
    simp only [goes_go]
    refine ⟨DF.none (by intro e he; simp at he), ?_⟩
    refine Goes.step rfl (fun _ h₁ => ?_)
    replace hF := hF.at h₁
    clear h₁
    rw [stepG_loop]
    simp only [goes_go]
    refine ⟨DF.none (by intro e he; simp at he), ?_⟩
    exact Goes.stop (fun w₁ h₁ => ⟨(hF.at h₁).sz, law6m_loop (m := z) 8 N _ w₁ (by omega) (by omega) (by omega) hzg.out ⟨by simp, by simp, by simp⟩ ⟨(hF.at h₁).kf, Nat.le_refl _⟩⟩)
  · have hzz : z = -1 := by have := hzh.out; unfold middleLV at this; rw [if_neg hin] at this; exact this.symm
    subst hzz
    refine Goes.step rfl (fun _ h₁ => ?_)
    replace hF := hF.at h₁
    clear h₁
    refine goes_oper_k rfl rfl (by decide) (fun Kx hKx => ?_)
    go_simp
    refine hKx _ _ ⟨DF.none ?_, ?_⟩
    · intro e he
      have hm := mem_listed he
      simp [go_sem, *] at hm
    clear hKx Kx
    refine Goes.step rfl (fun _ h₁ => ?_)
    replace hF := hF.at h₁
    clear h₁
    refine goes_oper_k rfl rfl (by decide) (fun Kx hKx => ?_)
    go_simp
    refine hKx _ _ ⟨DF.none ?_, ?_⟩
    · intro e he
      have hm := mem_listed he
      simp [go_sem, *] at hm
    clear hKx Kx
    refine Goes.step rfl (fun _ h₁ => ?_)
    replace hF := hF.at h₁
    clear h₁
    rw [stepG_region_end]
    simp only [goes_go]
    refine ⟨DF.none (by intro e he; simp at he), ?_⟩
    refine Goes.step rfl (fun _ h₁ => ?_)
    replace hF := hF.at h₁
    clear h₁
    rw [stepG_cond (t := true) (by first | rfl | (simp [Act.eval]; omega))]
    simp only [goes_go, ↓reduceIte]
    refine ⟨DF.none (by intro e he; simp at he), ?_⟩
    refine Goes.step rfl (fun _ h₁ => ?_)
    replace hF := hF.at h₁
    clear h₁
    rw [stepG_seq]
    simp only [goes_go]
    refine ⟨DF.none (by intro e he; simp at he), ?_⟩
    refine Goes.step rfl (fun _ h₁ => ?_)
    replace hF := hF.at h₁
    clear h₁
    rw [stepG_region]
    simp only [goes_go, List.size_toArray, List.length_cons, List.length_nil, Nat.reduceAdd, Nat.zero_add, List.range, List.range.loop]
    refine ⟨DF.none (by intro e he; simp at he), ?_⟩
    refine Goes.step rfl (fun _ h₁ => ?_)
    replace hF := hF.at h₁
    clear h₁
    refine goes_oper_k rfl rfl (by decide) (fun Kx hKx => ?_)
    go_simp
    refine hKx _ _ ⟨DF.none ?_, ?_⟩
    · intro e he
      have hm := mem_listed he
      simp [go_sem, *] at hm
    clear hKx Kx
    refine Goes.step rfl (fun _ h₁ => ?_)
    replace hF := hF.at h₁
    clear h₁
    refine goes_oper_k rfl rfl (by decide) (fun Kx hKx => ?_)
    go_simp
    refine hKx _ _ ⟨DF.none ?_, ?_⟩
    · intro e he
      have hm := mem_listed he
      simp [go_sem, *] at hm
    clear hKx Kx
    refine Goes.step rfl (fun _ h₁ => ?_)
    replace hF := hF.at h₁
    clear h₁
    refine goes_oper_k rfl rfl (by decide) (fun Kx hKx => ?_)
    go_simp
    refine hKx _ _ ⟨DF.none ?_, ?_⟩
    · intro e he
      have hm := mem_listed he
      simp [go_sem, *] at hm
    clear hKx Kx
    refine Goes.step rfl (fun _ h₁ => ?_)
    replace hF := hF.at h₁
    clear h₁
    refine goes_callF rfl rfl (by decide) rfl Try.func16 nm_alive rfl ⟨DF.none (by intro e he; simp at he), ?_⟩
    walk_nrm
    refine Goes.stop (fun w₁ h₁ => ⟨(hF.at h₁).sz, ?_⟩)
    replace hF := hF.at h₁
    clear h₁
    refine (aliveB hF.kf.rows).bind fun c2 S2 g2 w2 hp => ?_
    obtain ⟨hc4, rfl, hpk⟩ := hp
    replace hF := KN.mk (hF.kf.trans hpk) (Nat.le_refl _)
    clear hpk
    rw [Frame.finish_at]
    refine BW.walk 300 ?_
    walk_nrm
    refine Goes.step rfl (fun _ h₁ => ?_)
    replace hF := hF.at h₁
    clear h₁
    refine goes_oper_k rfl rfl (by decide) (fun Kx hKx => ?_)
    go_simp
    refine hKx _ _ ⟨DF.none ?_, ?_⟩
    · intro e he
      have hm := mem_listed he
      simp [go_sem, *] at hm
    clear hKx Kx
    refine Goes.step rfl (fun _ h₁ => ?_)
    replace hF := hF.at h₁
    clear h₁
    refine goes_oper_k rfl rfl (by decide) (fun Kx hKx => ?_)
    go_simp
    refine hKx _ _ ⟨DF.none ?_, ?_⟩
    · intro e he
      have hm := mem_listed he
      simp [go_sem, *] at hm
    clear hKx Kx
    refine Goes.step rfl (fun _ h₁ => ?_)
    replace hF := hF.at h₁
    clear h₁
    rw [stepG_region_end]
    simp only [goes_go]
    refine ⟨DF.none (by intro e he; simp at he), ?_⟩
    refine Goes.step rfl (fun _ h₁ => ?_)
    replace hF := hF.at h₁
    clear h₁
    rw [stepG_ret']
    simp only [goes_go]
    refine ⟨DF.none (by intro e he; simp at he), ?_⟩
    refine Goes.stop (fun w₁ h₁ => ⟨(hF.at h₁).sz, BW.now ⟨.bool true, rfl, fun w => (stepG_done1 (t := 2) rfl rfl Try.func7 rfl (by kernel_rfl) w).trans (by simp), fun w₂ h₂ => ⟨rfl, _, ((hF.at h₁).at h₂).kf⟩⟩⟩)
theorem lawMiddle (a : Option Addr) (len cap : Nat) (zs : List Int) (h : IsRow .u8 W a len cap zs) :
    BW Try.prog 1 (fun _ => False) (G (Frame.enter Try.prog 7 #[.slice a len cap] .normal) []) W (EndAt Try.prog (DoneT W)) := by
  by_cases hl : 1048576 < len
  · exact lawMiddle_big a len cap hl
  · exact lawMiddle_in a len cap zs h hl
end
end Go.Proofs.Ytehmobcfbifocaa
