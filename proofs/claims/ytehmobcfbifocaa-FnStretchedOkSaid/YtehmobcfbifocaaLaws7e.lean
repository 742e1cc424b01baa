/-
  Chapter 7's law of StretchedOk, walked beside goroutines that only leave: whole runs. Made by gen_laws7e.py.
-/
import Derived.Test.YtehmobcfbifocaaLawKit7
import Derived.Test.YtehmobcfbifocaaDraw7b
namespace Go.Proofs.Ytehmobcfbifocaa
open Go Go.Conc Go.ConcN Go.RowKit Go.Conc.Lib Go.ConcR.Gen Go.ConcN.Gen
open Go.ConcR (KK wgBlock WgAt stA smA rd wr mk Payload Aside2 DC0 ofEvent_cell)

theorem nmd_DrawStretchedOk : (Try.f24.name == "runtime.NumGoroutine") = false := by kernel_rfl
theorem ev_eqlC {x y : Bool} {w : World} {es : Array Event} : (binOp BinOp.eql 4 (.bool x) (.bool y)).events Try.prog w es = es := by
  have h : ∀ d : Nat, (Op.equalIn (d + 1) 4 (.bool x) (.bool y)).events Try.prog w es = es := fun d => by
    simp [Op.equalIn, go_sem]
  simp [binOp, Op.equal, Op.maxDepth, go_sem, h 9999]
/-- The six primes from 3 to 17. -/
def six (p : Int) : Bool := decide (p = 3 ∨ p = 5 ∨ p = 7 ∨ p = 11 ∨ p = 13 ∨ p = 17)
def inAll (row place p : Int) : Bool := six p && (decide (0 ≤ row) && (decide (row ≤ 16) && (decide (0 ≤ place) && decide (place ≤ row))))
theorem stretch_val (row place p : Int) : stretchV row place p = inAll row place p := by
  have h6 : (decide (3 ≤ p ∧ p ≤ 17) && isP p.toNat) = six p := by
    by_cases h : 3 ≤ p ∧ p ≤ 17
    · obtain ⟨P, rfl⟩ : ∃ N : Nat, p = N := ⟨p.toNat, by omega⟩
      have ht : (List.range 18).all (fun p => decide (p < 3) || (isP p == six (p : Nat))) = true := by decide
      have := List.all_eq_true.1 ht P (List.mem_range.2 (by omega))
      rw [decide_eq_false (by omega), Bool.false_or, beq_iff_eq] at this
      rw [decide_eq_true h, Bool.true_and, Int.toNat_natCast, this]
    · rw [decide_eq_false h, Bool.false_and]
      unfold six
      rw [decide_eq_false (by omega)]
  unfold stretchV stretchIn inAll
  rw [h6]
  cases hs : six p with
  | false => rfl
  | true =>
    unfold six at hs
    simp only [decide_eq_true_eq] at hs
    by_cases h1 : 0 ≤ row
    · by_cases h2 : row ≤ 16
      · by_cases h3 : 0 ≤ place
        · by_cases h4 : place ≤ row
          · obtain ⟨R, rfl⟩ : ∃ N : Nat, row = N := ⟨row.toNat, by omega⟩
            obtain ⟨K, rfl⟩ : ∃ N : Nat, place = N := ⟨place.toNat, by omega⟩
            obtain ⟨P, rfl⟩ : ∃ N : Nat, p = N := ⟨p.toNat, by omega⟩
            have hp : P = 3 ∨ P = 5 ∨ P = 7 ∨ P = 11 ∨ P = 13 ∨ P = 17 := by omega
            have hk : K ≤ R := by omega
            have hle : R * P ≤ 16 * 17 := Nat.mul_le_mul (by omega) (by omega)
            have hq2 : P * P ≤ 17 * 17 := Nat.mul_le_mul (by omega) (by omega)
            have hq1 : 3 * 3 ≤ P * P := Nat.mul_le_mul (by omega) (by omega)
            rw [← Int.natCast_mul, ← Int.natCast_mul, ← Int.natCast_mul, cellLV_in (by omega) (Nat.mul_le_mul_right P hk) (by omega) (by omega), cellLV_in (by omega) hk (by omega) (by omega), str_fact (by omega) hk hp]
            simp [h1, h2, h3, h4]
          · simp [h1, h2, h3, h4]
        · simp [h1, h2, h3]
      · simp [h1, h2]
    · simp [h1]
theorem stretch_two : stretchV 2 1 5 = true := (stretch_val 2 1 5).trans (by decide)
theorem array72 (T : Array Value) (h : T.size = 72) : ∃ v0 v1 v2 v3 v4 v5 v6 v7 v8 v9 v10 v11 v12 v13 v14 v15 v16 v17 v18 v19 v20 v21 v22 v23 v24 v25 v26 v27 v28 v29 v30 v31 v32 v33 v34 v35 v36 v37 v38 v39 v40 v41 v42 v43 v44 v45 v46 v47 v48 v49 v50 v51 v52 v53 v54 v55 v56 v57 v58 v59 v60 v61 v62 v63 v64 v65 v66 v67 v68 v69 v70 v71, T = (List.toArray (v0 :: v1 :: v2 :: v3 :: v4 :: v5 :: v6 :: v7 :: v8 :: v9 :: v10 :: v11 :: v12 :: v13 :: v14 :: v15 :: v16 :: v17 :: v18 :: v19 :: v20 :: v21 :: v22 :: v23 :: v24 :: v25 :: v26 :: v27 :: v28 :: v29 :: v30 :: v31 :: v32 :: v33 :: v34 :: v35 :: v36 :: v37 :: v38 :: v39 :: v40 :: v41 :: v42 :: v43 :: v44 :: v45 :: v46 :: v47 :: v48 :: v49 :: v50 :: v51 :: v52 :: v53 :: v54 :: v55 :: v56 :: v57 :: v58 :: v59 :: v60 :: v61 :: v62 :: v63 :: v64 :: v65 :: v66 :: v67 :: v68 :: v69 :: v70 :: v71 :: [])) := by
  obtain ⟨l⟩ := T
  rcases l with _ | ⟨v0, l⟩
  · simp at h
  rcases l with _ | ⟨v1, l⟩
  · simp at h
  rcases l with _ | ⟨v2, l⟩
  · simp at h
  rcases l with _ | ⟨v3, l⟩
  · simp at h
  rcases l with _ | ⟨v4, l⟩
  · simp at h
  rcases l with _ | ⟨v5, l⟩
  · simp at h
  rcases l with _ | ⟨v6, l⟩
  · simp at h
  rcases l with _ | ⟨v7, l⟩
  · simp at h
  rcases l with _ | ⟨v8, l⟩
  · simp at h
  rcases l with _ | ⟨v9, l⟩
  · simp at h
  rcases l with _ | ⟨v10, l⟩
  · simp at h
  rcases l with _ | ⟨v11, l⟩
  · simp at h
  rcases l with _ | ⟨v12, l⟩
  · simp at h
  rcases l with _ | ⟨v13, l⟩
  · simp at h
  rcases l with _ | ⟨v14, l⟩
  · simp at h
  rcases l with _ | ⟨v15, l⟩
  · simp at h
  rcases l with _ | ⟨v16, l⟩
  · simp at h
  rcases l with _ | ⟨v17, l⟩
  · simp at h
  rcases l with _ | ⟨v18, l⟩
  · simp at h
  rcases l with _ | ⟨v19, l⟩
  · simp at h
  rcases l with _ | ⟨v20, l⟩
  · simp at h
  rcases l with _ | ⟨v21, l⟩
  · simp at h
  rcases l with _ | ⟨v22, l⟩
  · simp at h
  rcases l with _ | ⟨v23, l⟩
  · simp at h
  rcases l with _ | ⟨v24, l⟩
  · simp at h
  rcases l with _ | ⟨v25, l⟩
  · simp at h
  rcases l with _ | ⟨v26, l⟩
  · simp at h
  rcases l with _ | ⟨v27, l⟩
  · simp at h
  rcases l with _ | ⟨v28, l⟩
  · simp at h
  rcases l with _ | ⟨v29, l⟩
  · simp at h
  rcases l with _ | ⟨v30, l⟩
  · simp at h
  rcases l with _ | ⟨v31, l⟩
  · simp at h
  rcases l with _ | ⟨v32, l⟩
  · simp at h
  rcases l with _ | ⟨v33, l⟩
  · simp at h
  rcases l with _ | ⟨v34, l⟩
  · simp at h
  rcases l with _ | ⟨v35, l⟩
  · simp at h
  rcases l with _ | ⟨v36, l⟩
  · simp at h
  rcases l with _ | ⟨v37, l⟩
  · simp at h
  rcases l with _ | ⟨v38, l⟩
  · simp at h
  rcases l with _ | ⟨v39, l⟩
  · simp at h
  rcases l with _ | ⟨v40, l⟩
  · simp at h
  rcases l with _ | ⟨v41, l⟩
  · simp at h
  rcases l with _ | ⟨v42, l⟩
  · simp at h
  rcases l with _ | ⟨v43, l⟩
  · simp at h
  rcases l with _ | ⟨v44, l⟩
  · simp at h
  rcases l with _ | ⟨v45, l⟩
  · simp at h
  rcases l with _ | ⟨v46, l⟩
  · simp at h
  rcases l with _ | ⟨v47, l⟩
  · simp at h
  rcases l with _ | ⟨v48, l⟩
  · simp at h
  rcases l with _ | ⟨v49, l⟩
  · simp at h
  rcases l with _ | ⟨v50, l⟩
  · simp at h
  rcases l with _ | ⟨v51, l⟩
  · simp at h
  rcases l with _ | ⟨v52, l⟩
  · simp at h
  rcases l with _ | ⟨v53, l⟩
  · simp at h
  rcases l with _ | ⟨v54, l⟩
  · simp at h
  rcases l with _ | ⟨v55, l⟩
  · simp at h
  rcases l with _ | ⟨v56, l⟩
  · simp at h
  rcases l with _ | ⟨v57, l⟩
  · simp at h
  rcases l with _ | ⟨v58, l⟩
  · simp at h
  rcases l with _ | ⟨v59, l⟩
  · simp at h
  rcases l with _ | ⟨v60, l⟩
  · simp at h
  rcases l with _ | ⟨v61, l⟩
  · simp at h
  rcases l with _ | ⟨v62, l⟩
  · simp at h
  rcases l with _ | ⟨v63, l⟩
  · simp at h
  rcases l with _ | ⟨v64, l⟩
  · simp at h
  rcases l with _ | ⟨v65, l⟩
  · simp at h
  rcases l with _ | ⟨v66, l⟩
  · simp at h
  rcases l with _ | ⟨v67, l⟩
  · simp at h
  rcases l with _ | ⟨v68, l⟩
  · simp at h
  rcases l with _ | ⟨v69, l⟩
  · simp at h
  rcases l with _ | ⟨v70, l⟩
  · simp at h
  rcases l with _ | ⟨v71, l⟩
  · simp at h
  rcases l with _ | ⟨x, l⟩
  · exact ⟨v0, v1, v2, v3, v4, v5, v6, v7, v8, v9, v10, v11, v12, v13, v14, v15, v16, v17, v18, v19, v20, v21, v22, v23, v24, v25, v26, v27, v28, v29, v30, v31, v32, v33, v34, v35, v36, v37, v38, v39, v40, v41, v42, v43, v44, v45, v46, v47, v48, v49, v50, v51, v52, v53, v54, v55, v56, v57, v58, v59, v60, v61, v62, v63, v64, v65, v66, v67, v68, v69, v70, v71, rfl⟩
  · simp at h
def rest7 : Code → Code
  | .seq _ (.seq _ (.seq _ (.seq _ (.seq _ c)))) => c
  | _ => .skip
noncomputable def R7 : Code := rest7 (Try.f6.body.getD .skip)
def fst7 : Code → Code
  | .seq c _ => c
  | _ => .skip
def snd7 : Code → Code
  | .seq _ c => c
  | _ => .skip
noncomputable def ops7 : Array Oper := opsOf (fst7 R7)
noncomputable def R8 : Code := snd7 R7
def AtA (row place p : Int) (B : Bool) (T : Array Value) : Prop := T.size = 72 ∧ T[3]? = some (.int .i64 row) ∧ T[4]? = some (.int .i64 place) ∧ T[5]? = some (.int .i64 p) ∧ T[6]? = some (.bool B)
def AtB (row place : Int) (B s : Bool) (T : Array Value) : Prop := T.size = 72 ∧ T[3]? = some (.int .i64 row) ∧ T[4]? = some (.int .i64 place) ∧ T[6]? = some (.bool B) ∧ T[49]? = some (.bool s)
def AtC (B s : Bool) (T : Array Value) : Prop := T.size = 72 ∧ T[6]? = some (.bool B) ∧ T[7]? = some (.bool s)
section
variable {W w : World} {S₂ : Nat → Prop} {c₂ : Nat} {T : Array Value} {row place p : Int} {B s : Bool} {Stop : BStop}
set_option maxRecDepth 100000 in
set_option maxHeartbeats 4000000 in
theorem law6_or (hT : AtA row place p B T) (hF : KN w.heap.size W (fun _ => False) S₂ w)
    (hK : ∀ T' w', AtB row place B (six p) T' → KN w.heap.size W (fun _ => False) S₂ w' → BW Try.prog c₂ S₂ (G ((base 6).at ⟨T', []⟩ (.inRegion ops7 [23, 24, 25, 26, 27, 28, 29, 30, 31, 32, 33, 34, 35, 36, 37, 38, 39] :: [.code R8])) []) w' Stop) : BW Try.prog c₂ S₂ (G ((base 6).at ⟨T, []⟩ [.code R7]) []) w Stop := by
  obtain ⟨hT, q3, q4, q5, q6⟩ := hT
  obtain ⟨v0, v1, v2, v3, v4, v5, v6, v7, v8, v9, v10, v11, v12, v13, v14, v15, v16, v17, v18, v19, v20, v21, v22, v23, v24, v25, v26, v27, v28, v29, v30, v31, v32, v33, v34, v35, v36, v37, v38, v39, v40, v41, v42, v43, v44, v45, v46, v47, v48, v49, v50, v51, v52, v53, v54, v55, v56, v57, v58, v59, v60, v61, v62, v63, v64, v65, v66, v67, v68, v69, v70, v71, rfl⟩ := array72 T hT
  simp only [List.getElem?_toArray, List.getElem?_cons_succ, List.getElem?_cons_zero, Option.some.injEq] at q3 q4 q5 q6
  subst q3 q4 q5 q6
  by_cases h0 : p = 3
  · subst h0
    have hsx : six 3 = true := by decide
    rw [hsx] at hK
    clear hsx
    revert hK
    simp only [R8, snd7, ops7, fst7, opsOf, R7, rest7, Try.f6, Option.getD_some]
    intro hK
    refine BW.walk 300 ?_
    refine Goes.step rfl (fun _ h₁ => ?_)
    replace hF := hF.at h₁
    clear h₁
    rw [stepG_seq]
    simp only [goes_go]
    refine ⟨DF.none (by intro e he; simp at he), ?_⟩
    refine Goes.step rfl (fun _ h₁ => ?_)
    replace hF := hF.at h₁
    clear h₁
    rw [stepG_region]
    simp only [goes_go, List.size_toArray, List.length_cons, List.length_nil, Nat.reduceAdd, Nat.zero_add, List.range, List.range.loop]
    refine ⟨DF.none (by intro e he; simp at he), ?_⟩
    refine Goes.step rfl (fun _ h₁ => ?_)
    replace hF := hF.at h₁
    clear h₁
    refine goes_oper_k rfl rfl (by decide) (fun Kx hKx => ?_)
    go_simp
    refine hKx _ _ ⟨DF.none ?_, ?_⟩
    · intro e he
      have hm := mem_listed he
      simp [go_sem, *] at hm
    clear hKx Kx
    refine Goes.step rfl (fun _ h₁ => ?_)
    replace hF := hF.at h₁
    clear h₁
    refine goes_oper_k rfl rfl (by decide) (fun Kx hKx => ?_)
    go_simp
    refine hKx _ _ ⟨DF.none ?_, ?_⟩
    · intro e he
      have hm := mem_listed he
      simp [go_sem, *] at hm
    clear hKx Kx
    refine Goes.step rfl (fun _ h₁ => ?_)
    replace hF := hF.at h₁
    clear h₁
    refine goes_oper_k rfl rfl (by decide) (fun Kx hKx => ?_)
    go_simp
    refine hKx _ _ ⟨DF.none ?_, ?_⟩
    · intro e he
      have hm := mem_listed he
      simp [go_sem, *] at hm
    clear hKx Kx
    refine Goes.step rfl (fun _ h₁ => ?_)
    replace hF := hF.at h₁
    clear h₁
    rw [stepG_unwanted rfl rfl]
    simp only [goes_go]
    refine ⟨DF.none (by intro e he; simp at he), ?_⟩
    walk_nrm
    refine Goes.step rfl (fun _ h₁ => ?_)
    replace hF := hF.at h₁
    clear h₁
    rw [stepG_unwanted rfl rfl]
    simp only [goes_go]
    refine ⟨DF.none (by intro e he; simp at he), ?_⟩
    walk_nrm
    refine Goes.step rfl (fun _ h₁ => ?_)
    replace hF := hF.at h₁
    clear h₁
    refine goes_oper_k rfl rfl (by decide) (fun Kx hKx => ?_)
    go_simp
    refine hKx _ _ ⟨DF.none ?_, ?_⟩
    · intro e he
      have hm := mem_listed he
      simp [go_sem, *] at hm
    clear hKx Kx
    refine Goes.step rfl (fun _ h₁ => ?_)
    replace hF := hF.at h₁
    clear h₁
    refine goes_oper_k rfl rfl (by decide) (fun Kx hKx => ?_)
    go_simp
    refine hKx _ _ ⟨DF.none ?_, ?_⟩
    · intro e he
      have hm := mem_listed he
      simp [go_sem, *] at hm
    clear hKx Kx
    refine Goes.step rfl (fun _ h₁ => ?_)
    replace hF := hF.at h₁
    clear h₁
    rw [stepG_unwanted rfl rfl]
    simp only [goes_go]
    refine ⟨DF.none (by intro e he; simp at he), ?_⟩
    walk_nrm
    refine Goes.step rfl (fun _ h₁ => ?_)
    replace hF := hF.at h₁
    clear h₁
    rw [stepG_unwanted rfl rfl]
    simp only [goes_go]
    refine ⟨DF.none (by intro e he; simp at he), ?_⟩
    walk_nrm
    refine Goes.step rfl (fun _ h₁ => ?_)
    replace hF := hF.at h₁
    clear h₁
    refine goes_oper_k rfl rfl (by decide) (fun Kx hKx => ?_)
    go_simp
    refine hKx _ _ ⟨DF.none ?_, ?_⟩
    · intro e he
      have hm := mem_listed he
      simp [go_sem, *] at hm
    clear hKx Kx
    refine Goes.step rfl (fun _ h₁ => ?_)
    replace hF := hF.at h₁
    clear h₁
    refine goes_oper_k rfl rfl (by decide) (fun Kx hKx => ?_)
    go_simp
    refine hKx _ _ ⟨DF.none ?_, ?_⟩
    · intro e he
      have hm := mem_listed he
      simp [go_sem, *] at hm
    clear hKx Kx
    refine Goes.step rfl (fun _ h₁ => ?_)
    replace hF := hF.at h₁
    clear h₁
    rw [stepG_unwanted rfl rfl]
    simp only [goes_go]
    refine ⟨DF.none (by intro e he; simp at he), ?_⟩
    walk_nrm
    refine Goes.step rfl (fun _ h₁ => ?_)
    replace hF := hF.at h₁
    clear h₁
    rw [stepG_unwanted rfl rfl]
    simp only [goes_go]
    refine ⟨DF.none (by intro e he; simp at he), ?_⟩
    walk_nrm
    refine Goes.step rfl (fun _ h₁ => ?_)
    replace hF := hF.at h₁
    clear h₁
    refine goes_oper_k rfl rfl (by decide) (fun Kx hKx => ?_)
    go_simp
    refine hKx _ _ ⟨DF.none ?_, ?_⟩
    · intro e he
      have hm := mem_listed he
      simp [go_sem, *] at hm
    clear hKx Kx
    refine Goes.step rfl (fun _ h₁ => ?_)
    replace hF := hF.at h₁
    clear h₁
    refine goes_oper_k rfl rfl (by decide) (fun Kx hKx => ?_)
    go_simp
    refine hKx _ _ ⟨DF.none ?_, ?_⟩
    · intro e he
      have hm := mem_listed he
      simp [go_sem, *] at hm
    clear hKx Kx
    refine Goes.step rfl (fun _ h₁ => ?_)
    replace hF := hF.at h₁
    clear h₁
    rw [stepG_unwanted rfl rfl]
    simp only [goes_go]
    refine ⟨DF.none (by intro e he; simp at he), ?_⟩
    walk_nrm
    refine Goes.step rfl (fun _ h₁ => ?_)
    replace hF := hF.at h₁
    clear h₁
    rw [stepG_unwanted rfl rfl]
    simp only [goes_go]
    refine ⟨DF.none (by intro e he; simp at he), ?_⟩
    walk_nrm
    refine Goes.step rfl (fun _ h₁ => ?_)
    replace hF := hF.at h₁
    clear h₁
    refine goes_oper_k rfl rfl (by decide) (fun Kx hKx => ?_)
    go_simp
    refine hKx _ _ ⟨DF.none ?_, ?_⟩
    · intro e he
      have hm := mem_listed he
      simp [go_sem, *] at hm
    clear hKx Kx
    refine Goes.step rfl (fun _ h₁ => ?_)
    replace hF := hF.at h₁
    clear h₁
    refine goes_oper_k rfl rfl (by decide) (fun Kx hKx => ?_)
    go_simp
    refine hKx _ _ ⟨DF.none ?_, ?_⟩
    · intro e he
      have hm := mem_listed he
      simp [go_sem, *] at hm
    clear hKx Kx
    refine Goes.step rfl (fun _ h₁ => ?_)
    replace hF := hF.at h₁
    clear h₁
    rw [stepG_unwanted rfl rfl]
    simp only [goes_go]
    refine ⟨DF.none (by intro e he; simp at he), ?_⟩
    walk_nrm
    refine Goes.step rfl (fun _ h₁ => ?_)
    replace hF := hF.at h₁
    clear h₁
    rw [stepG_unwanted rfl rfl]
    simp only [goes_go]
    refine ⟨DF.none (by intro e he; simp at he), ?_⟩
    walk_nrm
    refine Goes.step rfl (fun _ h₁ => ?_)
    replace hF := hF.at h₁
    clear h₁
    refine goes_oper_k rfl rfl (by decide) (fun Kx hKx => ?_)
    go_simp
    refine hKx _ _ ⟨DF.none ?_, ?_⟩
    · intro e he
      have hm := mem_listed he
      simp [go_sem, *] at hm
    clear hKx Kx
    refine Goes.step rfl (fun _ h₁ => ?_)
    replace hF := hF.at h₁
    clear h₁
    refine goes_oper_k rfl rfl (by decide) (fun Kx hKx => ?_)
    go_simp
    refine hKx _ _ ⟨DF.none ?_, ?_⟩
    · intro e he
      have hm := mem_listed he
      simp [go_sem, *] at hm
    clear hKx Kx
    exact Goes.stop (fun w₁ h₁ => ⟨(hF.at h₁).sz, hK _ w₁ ⟨by simp, by simp, by simp, by simp, by simp⟩ (hF.at h₁)⟩)
  by_cases h1 : p = 5
  · subst h1
    have hsx : six 5 = true := by decide
    rw [hsx] at hK
    clear hsx
    revert hK
    simp only [R8, snd7, ops7, fst7, opsOf, R7, rest7, Try.f6, Option.getD_some]
    intro hK
    refine BW.walk 300 ?_
    refine Goes.step rfl (fun _ h₁ => ?_)
    replace hF := hF.at h₁
    clear h₁
    rw [stepG_seq]
    simp only [goes_go]
    refine ⟨DF.none (by intro e he; simp at he), ?_⟩
    refine Goes.step rfl (fun _ h₁ => ?_)
    replace hF := hF.at h₁
    clear h₁
    rw [stepG_region]
    simp only [goes_go, List.size_toArray, List.length_cons, List.length_nil, Nat.reduceAdd, Nat.zero_add, List.range, List.range.loop]
    refine ⟨DF.none (by intro e he; simp at he), ?_⟩
    refine Goes.step rfl (fun _ h₁ => ?_)
    replace hF := hF.at h₁
    clear h₁
    refine goes_oper_k rfl rfl (by decide) (fun Kx hKx => ?_)
    go_simp
    refine hKx _ _ ⟨DF.none ?_, ?_⟩
    · intro e he
      have hm := mem_listed he
      simp [go_sem, *] at hm
    clear hKx Kx
    refine Goes.step rfl (fun _ h₁ => ?_)
    replace hF := hF.at h₁
    clear h₁
    refine goes_oper_k rfl rfl (by decide) (fun Kx hKx => ?_)
    go_simp
    refine hKx _ _ ⟨DF.none ?_, ?_⟩
    · intro e he
      have hm := mem_listed he
      simp [go_sem, *] at hm
    clear hKx Kx
    refine Goes.step rfl (fun _ h₁ => ?_)
    replace hF := hF.at h₁
    clear h₁
    refine goes_oper_k rfl rfl (by decide) (fun Kx hKx => ?_)
    go_simp
    refine hKx _ _ ⟨DF.none ?_, ?_⟩
    · intro e he
      have hm := mem_listed he
      simp [go_sem, *] at hm
    clear hKx Kx
    refine Goes.step rfl (fun _ h₁ => ?_)
    replace hF := hF.at h₁
    clear h₁
    refine goes_oper_k rfl rfl (by decide) (fun Kx hKx => ?_)
    go_simp
    refine hKx _ _ ⟨DF.none ?_, ?_⟩
    · intro e he
      have hm := mem_listed he
      simp [go_sem, *] at hm
    clear hKx Kx
    refine Goes.step rfl (fun _ h₁ => ?_)
    replace hF := hF.at h₁
    clear h₁
    refine goes_oper_k rfl rfl (by decide) (fun Kx hKx => ?_)
    go_simp
    refine hKx _ _ ⟨DF.none ?_, ?_⟩
    · intro e he
      have hm := mem_listed he
      simp [go_sem, *] at hm
    clear hKx Kx
    refine Goes.step rfl (fun _ h₁ => ?_)
    replace hF := hF.at h₁
    clear h₁
    refine goes_oper_k rfl rfl (by decide) (fun Kx hKx => ?_)
    go_simp
    refine hKx _ _ ⟨DF.none ?_, ?_⟩
    · intro e he
      have hm := mem_listed he
      simp [go_sem, *] at hm
    clear hKx Kx
    refine Goes.step rfl (fun _ h₁ => ?_)
    replace hF := hF.at h₁
    clear h₁
    refine goes_oper_k rfl rfl (by decide) (fun Kx hKx => ?_)
    go_simp
    refine hKx _ _ ⟨DF.none ?_, ?_⟩
    · intro e he
      have hm := mem_listed he
      simp [go_sem, *] at hm
    clear hKx Kx
    refine Goes.step rfl (fun _ h₁ => ?_)
    replace hF := hF.at h₁
    clear h₁
    rw [stepG_unwanted rfl rfl]
    simp only [goes_go]
    refine ⟨DF.none (by intro e he; simp at he), ?_⟩
    walk_nrm
    refine Goes.step rfl (fun _ h₁ => ?_)
    replace hF := hF.at h₁
    clear h₁
    rw [stepG_unwanted rfl rfl]
    simp only [goes_go]
    refine ⟨DF.none (by intro e he; simp at he), ?_⟩
    walk_nrm
    refine Goes.step rfl (fun _ h₁ => ?_)
    replace hF := hF.at h₁
    clear h₁
    refine goes_oper_k rfl rfl (by decide) (fun Kx hKx => ?_)
    go_simp
    refine hKx _ _ ⟨DF.none ?_, ?_⟩
    · intro e he
      have hm := mem_listed he
      simp [go_sem, *] at hm
    clear hKx Kx
    refine Goes.step rfl (fun _ h₁ => ?_)
    replace hF := hF.at h₁
    clear h₁
    refine goes_oper_k rfl rfl (by decide) (fun Kx hKx => ?_)
    go_simp
    refine hKx _ _ ⟨DF.none ?_, ?_⟩
    · intro e he
      have hm := mem_listed he
      simp [go_sem, *] at hm
    clear hKx Kx
    refine Goes.step rfl (fun _ h₁ => ?_)
    replace hF := hF.at h₁
    clear h₁
    rw [stepG_unwanted rfl rfl]
    simp only [goes_go]
    refine ⟨DF.none (by intro e he; simp at he), ?_⟩
    walk_nrm
    refine Goes.step rfl (fun _ h₁ => ?_)
    replace hF := hF.at h₁
    clear h₁
    rw [stepG_unwanted rfl rfl]
    simp only [goes_go]
    refine ⟨DF.none (by intro e he; simp at he), ?_⟩
    walk_nrm
    refine Goes.step rfl (fun _ h₁ => ?_)
    replace hF := hF.at h₁
    clear h₁
    refine goes_oper_k rfl rfl (by decide) (fun Kx hKx => ?_)
    go_simp
    refine hKx _ _ ⟨DF.none ?_, ?_⟩
    · intro e he
      have hm := mem_listed he
      simp [go_sem, *] at hm
    clear hKx Kx
    refine Goes.step rfl (fun _ h₁ => ?_)
    replace hF := hF.at h₁
    clear h₁
    refine goes_oper_k rfl rfl (by decide) (fun Kx hKx => ?_)
    go_simp
    refine hKx _ _ ⟨DF.none ?_, ?_⟩
    · intro e he
      have hm := mem_listed he
      simp [go_sem, *] at hm
    clear hKx Kx
    refine Goes.step rfl (fun _ h₁ => ?_)
    replace hF := hF.at h₁
    clear h₁
    rw [stepG_unwanted rfl rfl]
    simp only [goes_go]
    refine ⟨DF.none (by intro e he; simp at he), ?_⟩
    walk_nrm
    refine Goes.step rfl (fun _ h₁ => ?_)
    replace hF := hF.at h₁
    clear h₁
    rw [stepG_unwanted rfl rfl]
    simp only [goes_go]
    refine ⟨DF.none (by intro e he; simp at he), ?_⟩
    walk_nrm
    refine Goes.step rfl (fun _ h₁ => ?_)
    replace hF := hF.at h₁
    clear h₁
    refine goes_oper_k rfl rfl (by decide) (fun Kx hKx => ?_)
    go_simp
    refine hKx _ _ ⟨DF.none ?_, ?_⟩
    · intro e he
      have hm := mem_listed he
      simp [go_sem, *] at hm
    clear hKx Kx
    refine Goes.step rfl (fun _ h₁ => ?_)
    replace hF := hF.at h₁
    clear h₁
    refine goes_oper_k rfl rfl (by decide) (fun Kx hKx => ?_)
    go_simp
    refine hKx _ _ ⟨DF.none ?_, ?_⟩
    · intro e he
      have hm := mem_listed he
      simp [go_sem, *] at hm
    clear hKx Kx
    refine Goes.step rfl (fun _ h₁ => ?_)
    replace hF := hF.at h₁
    clear h₁
    rw [stepG_unwanted rfl rfl]
    simp only [goes_go]
    refine ⟨DF.none (by intro e he; simp at he), ?_⟩
    walk_nrm
    refine Goes.step rfl (fun _ h₁ => ?_)
    replace hF := hF.at h₁
    clear h₁
    rw [stepG_unwanted rfl rfl]
    simp only [goes_go]
    refine ⟨DF.none (by intro e he; simp at he), ?_⟩
    walk_nrm
    refine Goes.step rfl (fun _ h₁ => ?_)
    replace hF := hF.at h₁
    clear h₁
    refine goes_oper_k rfl rfl (by decide) (fun Kx hKx => ?_)
    go_simp
    refine hKx _ _ ⟨DF.none ?_, ?_⟩
    · intro e he
      have hm := mem_listed he
      simp [go_sem, *] at hm
    clear hKx Kx
    refine Goes.step rfl (fun _ h₁ => ?_)
    replace hF := hF.at h₁
    clear h₁
    refine goes_oper_k rfl rfl (by decide) (fun Kx hKx => ?_)
    go_simp
    refine hKx _ _ ⟨DF.none ?_, ?_⟩
    · intro e he
      have hm := mem_listed he
      simp [go_sem, *] at hm
    clear hKx Kx
    exact Goes.stop (fun w₁ h₁ => ⟨(hF.at h₁).sz, hK _ w₁ ⟨by simp, by simp, by simp, by simp, by simp⟩ (hF.at h₁)⟩)
  by_cases h2 : p = 7
  · subst h2
    have hsx : six 7 = true := by decide
    rw [hsx] at hK
    clear hsx
    revert hK
    simp only [R8, snd7, ops7, fst7, opsOf, R7, rest7, Try.f6, Option.getD_some]
    intro hK
    refine BW.walk 300 ?_
    refine Goes.step rfl (fun _ h₁ => ?_)
    replace hF := hF.at h₁
    clear h₁
    rw [stepG_seq]
    simp only [goes_go]
    refine ⟨DF.none (by intro e he; simp at he), ?_⟩
    refine Goes.step rfl (fun _ h₁ => ?_)
    replace hF := hF.at h₁
    clear h₁
    rw [stepG_region]
    simp only [goes_go, List.size_toArray, List.length_cons, List.length_nil, Nat.reduceAdd, Nat.zero_add, List.range, List.range.loop]
    refine ⟨DF.none (by intro e he; simp at he), ?_⟩
    refine Goes.step rfl (fun _ h₁ => ?_)
    replace hF := hF.at h₁
    clear h₁
    refine goes_oper_k rfl rfl (by decide) (fun Kx hKx => ?_)
    go_simp
    refine hKx _ _ ⟨DF.none ?_, ?_⟩
    · intro e he
      have hm := mem_listed he
      simp [go_sem, *] at hm
    clear hKx Kx
    refine Goes.step rfl (fun _ h₁ => ?_)
    replace hF := hF.at h₁
    clear h₁
    refine goes_oper_k rfl rfl (by decide) (fun Kx hKx => ?_)
    go_simp
    refine hKx _ _ ⟨DF.none ?_, ?_⟩
    · intro e he
      have hm := mem_listed he
      simp [go_sem, *] at hm
    clear hKx Kx
    refine Goes.step rfl (fun _ h₁ => ?_)
    replace hF := hF.at h₁
    clear h₁
    refine goes_oper_k rfl rfl (by decide) (fun Kx hKx => ?_)
    go_simp
    refine hKx _ _ ⟨DF.none ?_, ?_⟩
    · intro e he
      have hm := mem_listed he
      simp [go_sem, *] at hm
    clear hKx Kx
    refine Goes.step rfl (fun _ h₁ => ?_)
    replace hF := hF.at h₁
    clear h₁
    refine goes_oper_k rfl rfl (by decide) (fun Kx hKx => ?_)
    go_simp
    refine hKx _ _ ⟨DF.none ?_, ?_⟩
    · intro e he
      have hm := mem_listed he
      simp [go_sem, *] at hm
    clear hKx Kx
    refine Goes.step rfl (fun _ h₁ => ?_)
    replace hF := hF.at h₁
    clear h₁
    refine goes_oper_k rfl rfl (by decide) (fun Kx hKx => ?_)
    go_simp
    refine hKx _ _ ⟨DF.none ?_, ?_⟩
    · intro e he
      have hm := mem_listed he
      simp [go_sem, *] at hm
    clear hKx Kx
    refine Goes.step rfl (fun _ h₁ => ?_)
    replace hF := hF.at h₁
    clear h₁
    refine goes_oper_k rfl rfl (by decide) (fun Kx hKx => ?_)
    go_simp
    refine hKx _ _ ⟨DF.none ?_, ?_⟩
    · intro e he
      have hm := mem_listed he
      simp [go_sem, *] at hm
    clear hKx Kx
    refine Goes.step rfl (fun _ h₁ => ?_)
    replace hF := hF.at h₁
    clear h₁
    refine goes_oper_k rfl rfl (by decide) (fun Kx hKx => ?_)
    go_simp
    refine hKx _ _ ⟨DF.none ?_, ?_⟩
    · intro e he
      have hm := mem_listed he
      simp [go_sem, *] at hm
    clear hKx Kx
    refine Goes.step rfl (fun _ h₁ => ?_)
    replace hF := hF.at h₁
    clear h₁
    refine goes_oper_k rfl rfl (by decide) (fun Kx hKx => ?_)
    go_simp
    refine hKx _ _ ⟨DF.none ?_, ?_⟩
    · intro e he
      have hm := mem_listed he
      simp [go_sem, *] at hm
    clear hKx Kx
    refine Goes.step rfl (fun _ h₁ => ?_)
    replace hF := hF.at h₁
    clear h₁
    refine goes_oper_k rfl rfl (by decide) (fun Kx hKx => ?_)
    go_simp
    refine hKx _ _ ⟨DF.none ?_, ?_⟩
    · intro e he
      have hm := mem_listed he
      simp [go_sem, *] at hm
    clear hKx Kx
    refine Goes.step rfl (fun _ h₁ => ?_)
    replace hF := hF.at h₁
    clear h₁
    refine goes_oper_k rfl rfl (by decide) (fun Kx hKx => ?_)
    go_simp
    refine hKx _ _ ⟨DF.none ?_, ?_⟩
    · intro e he
      have hm := mem_listed he
      simp [go_sem, *] at hm
    clear hKx Kx
    refine Goes.step rfl (fun _ h₁ => ?_)
    replace hF := hF.at h₁
    clear h₁
    refine goes_oper_k rfl rfl (by decide) (fun Kx hKx => ?_)
    go_simp
    refine hKx _ _ ⟨DF.none ?_, ?_⟩
    · intro e he
      have hm := mem_listed he
      simp [go_sem, *] at hm
    clear hKx Kx
    refine Goes.step rfl (fun _ h₁ => ?_)
    replace hF := hF.at h₁
    clear h₁
    rw [stepG_unwanted rfl rfl]
    simp only [goes_go]
    refine ⟨DF.none (by intro e he; simp at he), ?_⟩
    walk_nrm
    refine Goes.step rfl (fun _ h₁ => ?_)
    replace hF := hF.at h₁
    clear h₁
    rw [stepG_unwanted rfl rfl]
    simp only [goes_go]
    refine ⟨DF.none (by intro e he; simp at he), ?_⟩
    walk_nrm
    refine Goes.step rfl (fun _ h₁ => ?_)
    replace hF := hF.at h₁
    clear h₁
    refine goes_oper_k rfl rfl (by decide) (fun Kx hKx => ?_)
    go_simp
    refine hKx _ _ ⟨DF.none ?_, ?_⟩
    · intro e he
      have hm := mem_listed he
      simp [go_sem, *] at hm
    clear hKx Kx
    refine Goes.step rfl (fun _ h₁ => ?_)
    replace hF := hF.at h₁
    clear h₁
    refine goes_oper_k rfl rfl (by decide) (fun Kx hKx => ?_)
    go_simp
    refine hKx _ _ ⟨DF.none ?_, ?_⟩
    · intro e he
      have hm := mem_listed he
      simp [go_sem, *] at hm
    clear hKx Kx
    refine Goes.step rfl (fun _ h₁ => ?_)
    replace hF := hF.at h₁
    clear h₁
    rw [stepG_unwanted rfl rfl]
    simp only [goes_go]
    refine ⟨DF.none (by intro e he; simp at he), ?_⟩
    walk_nrm
    refine Goes.step rfl (fun _ h₁ => ?_)
    replace hF := hF.at h₁
    clear h₁
    rw [stepG_unwanted rfl rfl]
    simp only [goes_go]
    refine ⟨DF.none (by intro e he; simp at he), ?_⟩
    walk_nrm
    refine Goes.step rfl (fun _ h₁ => ?_)
    replace hF := hF.at h₁
    clear h₁
    refine goes_oper_k rfl rfl (by decide) (fun Kx hKx => ?_)
    go_simp
    refine hKx _ _ ⟨DF.none ?_, ?_⟩
    · intro e he
      have hm := mem_listed he
      simp [go_sem, *] at hm
    clear hKx Kx
    refine Goes.step rfl (fun _ h₁ => ?_)
    replace hF := hF.at h₁
    clear h₁
    refine goes_oper_k rfl rfl (by decide) (fun Kx hKx => ?_)
    go_simp
    refine hKx _ _ ⟨DF.none ?_, ?_⟩
    · intro e he
      have hm := mem_listed he
      simp [go_sem, *] at hm
    clear hKx Kx
    refine Goes.step rfl (fun _ h₁ => ?_)
    replace hF := hF.at h₁
    clear h₁
    rw [stepG_unwanted rfl rfl]
    simp only [goes_go]
    refine ⟨DF.none (by intro e he; simp at he), ?_⟩
    walk_nrm
    refine Goes.step rfl (fun _ h₁ => ?_)
    replace hF := hF.at h₁
    clear h₁
    rw [stepG_unwanted rfl rfl]
    simp only [goes_go]
    refine ⟨DF.none (by intro e he; simp at he), ?_⟩
    walk_nrm
    refine Goes.step rfl (fun _ h₁ => ?_)
    replace hF := hF.at h₁
    clear h₁
    refine goes_oper_k rfl rfl (by decide) (fun Kx hKx => ?_)
    go_simp
    refine hKx _ _ ⟨DF.none ?_, ?_⟩
    · intro e he
      have hm := mem_listed he
      simp [go_sem, *] at hm
    clear hKx Kx
    refine Goes.step rfl (fun _ h₁ => ?_)
    replace hF := hF.at h₁
    clear h₁
    refine goes_oper_k rfl rfl (by decide) (fun Kx hKx => ?_)
    go_simp
    refine hKx _ _ ⟨DF.none ?_, ?_⟩
    · intro e he
      have hm := mem_listed he
      simp [go_sem, *] at hm
    clear hKx Kx
    exact Goes.stop (fun w₁ h₁ => ⟨(hF.at h₁).sz, hK _ w₁ ⟨by simp, by simp, by simp, by simp, by simp⟩ (hF.at h₁)⟩)
  by_cases h3 : p = 11
  · subst h3
    have hsx : six 11 = true := by decide
    rw [hsx] at hK
    clear hsx
    revert hK
    simp only [R8, snd7, ops7, fst7, opsOf, R7, rest7, Try.f6, Option.getD_some]
    intro hK
    refine BW.walk 300 ?_
    refine Goes.step rfl (fun _ h₁ => ?_)
    replace hF := hF.at h₁
    clear h₁
    rw [stepG_seq]
    simp only [goes_go]
    refine ⟨DF.none (by intro e he; simp at he), ?_⟩
    refine Goes.step rfl (fun _ h₁ => ?_)
    replace hF := hF.at h₁
    clear h₁
    rw [stepG_region]
    simp only [goes_go, List.size_toArray, List.length_cons, List.length_nil, Nat.reduceAdd, Nat.zero_add, List.range, List.range.loop]
    refine ⟨DF.none (by intro e he; simp at he), ?_⟩
    refine Goes.step rfl (fun _ h₁ => ?_)
    replace hF := hF.at h₁
    clear h₁
    refine goes_oper_k rfl rfl (by decide) (fun Kx hKx => ?_)
    go_simp
    refine hKx _ _ ⟨DF.none ?_, ?_⟩
    · intro e he
      have hm := mem_listed he
      simp [go_sem, *] at hm
    clear hKx Kx
    refine Goes.step rfl (fun _ h₁ => ?_)
    replace hF := hF.at h₁
    clear h₁
    refine goes_oper_k rfl rfl (by decide) (fun Kx hKx => ?_)
    go_simp
    refine hKx _ _ ⟨DF.none ?_, ?_⟩
    · intro e he
      have hm := mem_listed he
      simp [go_sem, *] at hm
    clear hKx Kx
    refine Goes.step rfl (fun _ h₁ => ?_)
    replace hF := hF.at h₁
    clear h₁
    refine goes_oper_k rfl rfl (by decide) (fun Kx hKx => ?_)
    go_simp
    refine hKx _ _ ⟨DF.none ?_, ?_⟩
    · intro e he
      have hm := mem_listed he
      simp [go_sem, *] at hm
    clear hKx Kx
    refine Goes.step rfl (fun _ h₁ => ?_)
    replace hF := hF.at h₁
    clear h₁
    refine goes_oper_k rfl rfl (by decide) (fun Kx hKx => ?_)
    go_simp
    refine hKx _ _ ⟨DF.none ?_, ?_⟩
    · intro e he
      have hm := mem_listed he
      simp [go_sem, *] at hm
    clear hKx Kx
    refine Goes.step rfl (fun _ h₁ => ?_)
    replace hF := hF.at h₁
    clear h₁
    refine goes_oper_k rfl rfl (by decide) (fun Kx hKx => ?_)
    go_simp
    refine hKx _ _ ⟨DF.none ?_, ?_⟩
    · intro e he
      have hm := mem_listed he
      simp [go_sem, *] at hm
    clear hKx Kx
    refine Goes.step rfl (fun _ h₁ => ?_)
    replace hF := hF.at h₁
    clear h₁
    refine goes_oper_k rfl rfl (by decide) (fun Kx hKx => ?_)
    go_simp
    refine hKx _ _ ⟨DF.none ?_, ?_⟩
    · intro e he
      have hm := mem_listed he
      simp [go_sem, *] at hm
    clear hKx Kx
    refine Goes.step rfl (fun _ h₁ => ?_)
    replace hF := hF.at h₁
    clear h₁
    refine goes_oper_k rfl rfl (by decide) (fun Kx hKx => ?_)
    go_simp
    refine hKx _ _ ⟨DF.none ?_, ?_⟩
    · intro e he
      have hm := mem_listed he
      simp [go_sem, *] at hm
    clear hKx Kx
    refine Goes.step rfl (fun _ h₁ => ?_)
    replace hF := hF.at h₁
    clear h₁
    refine goes_oper_k rfl rfl (by decide) (fun Kx hKx => ?_)
    go_simp
    refine hKx _ _ ⟨DF.none ?_, ?_⟩
    · intro e he
      have hm := mem_listed he
      simp [go_sem, *] at hm
    clear hKx Kx
    refine Goes.step rfl (fun _ h₁ => ?_)
    replace hF := hF.at h₁
    clear h₁
    refine goes_oper_k rfl rfl (by decide) (fun Kx hKx => ?_)
    go_simp
    refine hKx _ _ ⟨DF.none ?_, ?_⟩
    · intro e he
      have hm := mem_listed he
      simp [go_sem, *] at hm
    clear hKx Kx
    refine Goes.step rfl (fun _ h₁ => ?_)
    replace hF := hF.at h₁
    clear h₁
    refine goes_oper_k rfl rfl (by decide) (fun Kx hKx => ?_)
    go_simp
    refine hKx _ _ ⟨DF.none ?_, ?_⟩
    · intro e he
      have hm := mem_listed he
      simp [go_sem, *] at hm
    clear hKx Kx
    refine Goes.step rfl (fun _ h₁ => ?_)
    replace hF := hF.at h₁
    clear h₁
    refine goes_oper_k rfl rfl (by decide) (fun Kx hKx => ?_)
    go_simp
    refine hKx _ _ ⟨DF.none ?_, ?_⟩
    · intro e he
      have hm := mem_listed he
      simp [go_sem, *] at hm
    clear hKx Kx
    refine Goes.step rfl (fun _ h₁ => ?_)
    replace hF := hF.at h₁
    clear h₁
    refine goes_oper_k rfl rfl (by decide) (fun Kx hKx => ?_)
    go_simp
    refine hKx _ _ ⟨DF.none ?_, ?_⟩
    · intro e he
      have hm := mem_listed he
      simp [go_sem, *] at hm
    clear hKx Kx
    refine Goes.step rfl (fun _ h₁ => ?_)
    replace hF := hF.at h₁
    clear h₁
    refine goes_oper_k rfl rfl (by decide) (fun Kx hKx => ?_)
    go_simp
    refine hKx _ _ ⟨DF.none ?_, ?_⟩
    · intro e he
      have hm := mem_listed he
      simp [go_sem, *] at hm
    clear hKx Kx
    refine Goes.step rfl (fun _ h₁ => ?_)
    replace hF := hF.at h₁
    clear h₁
    refine goes_oper_k rfl rfl (by decide) (fun Kx hKx => ?_)
    go_simp
    refine hKx _ _ ⟨DF.none ?_, ?_⟩
    · intro e he
      have hm := mem_listed he
      simp [go_sem, *] at hm
    clear hKx Kx
    refine Goes.step rfl (fun _ h₁ => ?_)
    replace hF := hF.at h₁
    clear h₁
    refine goes_oper_k rfl rfl (by decide) (fun Kx hKx => ?_)
    go_simp
    refine hKx _ _ ⟨DF.none ?_, ?_⟩
    · intro e he
      have hm := mem_listed he
      simp [go_sem, *] at hm
    clear hKx Kx
    refine Goes.step rfl (fun _ h₁ => ?_)
    replace hF := hF.at h₁
    clear h₁
    rw [stepG_unwanted rfl rfl]
    simp only [goes_go]
    refine ⟨DF.none (by intro e he; simp at he), ?_⟩
    walk_nrm
    refine Goes.step rfl (fun _ h₁ => ?_)
    replace hF := hF.at h₁
    clear h₁
    rw [stepG_unwanted rfl rfl]
    simp only [goes_go]
    refine ⟨DF.none (by intro e he; simp at he), ?_⟩
    walk_nrm
    refine Goes.step rfl (fun _ h₁ => ?_)
    replace hF := hF.at h₁
    clear h₁
    refine goes_oper_k rfl rfl (by decide) (fun Kx hKx => ?_)
    go_simp
    refine hKx _ _ ⟨DF.none ?_, ?_⟩
    · intro e he
      have hm := mem_listed he
      simp [go_sem, *] at hm
    clear hKx Kx
    refine Goes.step rfl (fun _ h₁ => ?_)
    replace hF := hF.at h₁
    clear h₁
    refine goes_oper_k rfl rfl (by decide) (fun Kx hKx => ?_)
    go_simp
    refine hKx _ _ ⟨DF.none ?_, ?_⟩
    · intro e he
      have hm := mem_listed he
      simp [go_sem, *] at hm
    clear hKx Kx
    refine Goes.step rfl (fun _ h₁ => ?_)
    replace hF := hF.at h₁
    clear h₁
    rw [stepG_unwanted rfl rfl]
    simp only [goes_go]
    refine ⟨DF.none (by intro e he; simp at he), ?_⟩
    walk_nrm
    refine Goes.step rfl (fun _ h₁ => ?_)
    replace hF := hF.at h₁
    clear h₁
    rw [stepG_unwanted rfl rfl]
    simp only [goes_go]
    refine ⟨DF.none (by intro e he; simp at he), ?_⟩
    walk_nrm
    refine Goes.step rfl (fun _ h₁ => ?_)
    replace hF := hF.at h₁
    clear h₁
    refine goes_oper_k rfl rfl (by decide) (fun Kx hKx => ?_)
    go_simp
    refine hKx _ _ ⟨DF.none ?_, ?_⟩
    · intro e he
      have hm := mem_listed he
      simp [go_sem, *] at hm
    clear hKx Kx
    refine Goes.step rfl (fun _ h₁ => ?_)
    replace hF := hF.at h₁
    clear h₁
    refine goes_oper_k rfl rfl (by decide) (fun Kx hKx => ?_)
    go_simp
    refine hKx _ _ ⟨DF.none ?_, ?_⟩
    · intro e he
      have hm := mem_listed he
      simp [go_sem, *] at hm
    clear hKx Kx
    exact Goes.stop (fun w₁ h₁ => ⟨(hF.at h₁).sz, hK _ w₁ ⟨by simp, by simp, by simp, by simp, by simp⟩ (hF.at h₁)⟩)
  by_cases h4 : p = 13
  · subst h4
    have hsx : six 13 = true := by decide
    rw [hsx] at hK
    clear hsx
    revert hK
    simp only [R8, snd7, ops7, fst7, opsOf, R7, rest7, Try.f6, Option.getD_some]
    intro hK
    refine BW.walk 300 ?_
    refine Goes.step rfl (fun _ h₁ => ?_)
    replace hF := hF.at h₁
    clear h₁
    rw [stepG_seq]
    simp only [goes_go]
    refine ⟨DF.none (by intro e he; simp at he), ?_⟩
    refine Goes.step rfl (fun _ h₁ => ?_)
    replace hF := hF.at h₁
    clear h₁
    rw [stepG_region]
    simp only [goes_go, List.size_toArray, List.length_cons, List.length_nil, Nat.reduceAdd, Nat.zero_add, List.range, List.range.loop]
    refine ⟨DF.none (by intro e he; simp at he), ?_⟩
    refine Goes.step rfl (fun _ h₁ => ?_)
    replace hF := hF.at h₁
    clear h₁
    refine goes_oper_k rfl rfl (by decide) (fun Kx hKx => ?_)
    go_simp
    refine hKx _ _ ⟨DF.none ?_, ?_⟩
    · intro e he
      have hm := mem_listed he
      simp [go_sem, *] at hm
    clear hKx Kx
    refine Goes.step rfl (fun _ h₁ => ?_)
    replace hF := hF.at h₁
    clear h₁
    refine goes_oper_k rfl rfl (by decide) (fun Kx hKx => ?_)
    go_simp
    refine hKx _ _ ⟨DF.none ?_, ?_⟩
    · intro e he
      have hm := mem_listed he
      simp [go_sem, *] at hm
    clear hKx Kx
    refine Goes.step rfl (fun _ h₁ => ?_)
    replace hF := hF.at h₁
    clear h₁
    refine goes_oper_k rfl rfl (by decide) (fun Kx hKx => ?_)
    go_simp
    refine hKx _ _ ⟨DF.none ?_, ?_⟩
    · intro e he
      have hm := mem_listed he
      simp [go_sem, *] at hm
    clear hKx Kx
    refine Goes.step rfl (fun _ h₁ => ?_)
    replace hF := hF.at h₁
    clear h₁
    refine goes_oper_k rfl rfl (by decide) (fun Kx hKx => ?_)
    go_simp
    refine hKx _ _ ⟨DF.none ?_, ?_⟩
    · intro e he
      have hm := mem_listed he
      simp [go_sem, *] at hm
    clear hKx Kx
    refine Goes.step rfl (fun _ h₁ => ?_)
    replace hF := hF.at h₁
    clear h₁
    refine goes_oper_k rfl rfl (by decide) (fun Kx hKx => ?_)
    go_simp
    refine hKx _ _ ⟨DF.none ?_, ?_⟩
    · intro e he
      have hm := mem_listed he
      simp [go_sem, *] at hm
    clear hKx Kx
    refine Goes.step rfl (fun _ h₁ => ?_)
    replace hF := hF.at h₁
    clear h₁
    refine goes_oper_k rfl rfl (by decide) (fun Kx hKx => ?_)
    go_simp
    refine hKx _ _ ⟨DF.none ?_, ?_⟩
    · intro e he
      have hm := mem_listed he
      simp [go_sem, *] at hm
    clear hKx Kx
    refine Goes.step rfl (fun _ h₁ => ?_)
    replace hF := hF.at h₁
    clear h₁
    refine goes_oper_k rfl rfl (by decide) (fun Kx hKx => ?_)
    go_simp
    refine hKx _ _ ⟨DF.none ?_, ?_⟩
    · intro e he
      have hm := mem_listed he
      simp [go_sem, *] at hm
    clear hKx Kx
    refine Goes.step rfl (fun _ h₁ => ?_)
    replace hF := hF.at h₁
    clear h₁
    refine goes_oper_k rfl rfl (by decide) (fun Kx hKx => ?_)
    go_simp
    refine hKx _ _ ⟨DF.none ?_, ?_⟩
    · intro e he
      have hm := mem_listed he
      simp [go_sem, *] at hm
    clear hKx Kx
    refine Goes.step rfl (fun _ h₁ => ?_)
    replace hF := hF.at h₁
    clear h₁
    refine goes_oper_k rfl rfl (by decide) (fun Kx hKx => ?_)
    go_simp
    refine hKx _ _ ⟨DF.none ?_, ?_⟩
    · intro e he
      have hm := mem_listed he
      simp [go_sem, *] at hm
    clear hKx Kx
    refine Goes.step rfl (fun _ h₁ => ?_)
    replace hF := hF.at h₁
    clear h₁
    refine goes_oper_k rfl rfl (by decide) (fun Kx hKx => ?_)
    go_simp
    refine hKx _ _ ⟨DF.none ?_, ?_⟩
    · intro e he
      have hm := mem_listed he
      simp [go_sem, *] at hm
    clear hKx Kx
    refine Goes.step rfl (fun _ h₁ => ?_)
    replace hF := hF.at h₁
    clear h₁
    refine goes_oper_k rfl rfl (by decide) (fun Kx hKx => ?_)
    go_simp
    refine hKx _ _ ⟨DF.none ?_, ?_⟩
    · intro e he
      have hm := mem_listed he
      simp [go_sem, *] at hm
    clear hKx Kx
    refine Goes.step rfl (fun _ h₁ => ?_)
    replace hF := hF.at h₁
    clear h₁
    refine goes_oper_k rfl rfl (by decide) (fun Kx hKx => ?_)
    go_simp
    refine hKx _ _ ⟨DF.none ?_, ?_⟩
    · intro e he
      have hm := mem_listed he
      simp [go_sem, *] at hm
    clear hKx Kx
    refine Goes.step rfl (fun _ h₁ => ?_)
    replace hF := hF.at h₁
    clear h₁
    refine goes_oper_k rfl rfl (by decide) (fun Kx hKx => ?_)
    go_simp
    refine hKx _ _ ⟨DF.none ?_, ?_⟩
    · intro e he
      have hm := mem_listed he
      simp [go_sem, *] at hm
    clear hKx Kx
    refine Goes.step rfl (fun _ h₁ => ?_)
    replace hF := hF.at h₁
    clear h₁
    refine goes_oper_k rfl rfl (by decide) (fun Kx hKx => ?_)
    go_simp
    refine hKx _ _ ⟨DF.none ?_, ?_⟩
    · intro e he
      have hm := mem_listed he
      simp [go_sem, *] at hm
    clear hKx Kx
    refine Goes.step rfl (fun _ h₁ => ?_)
    replace hF := hF.at h₁
    clear h₁
    refine goes_oper_k rfl rfl (by decide) (fun Kx hKx => ?_)
    go_simp
    refine hKx _ _ ⟨DF.none ?_, ?_⟩
    · intro e he
      have hm := mem_listed he
      simp [go_sem, *] at hm
    clear hKx Kx
    refine Goes.step rfl (fun _ h₁ => ?_)
    replace hF := hF.at h₁
    clear h₁
    refine goes_oper_k rfl rfl (by decide) (fun Kx hKx => ?_)
    go_simp
    refine hKx _ _ ⟨DF.none ?_, ?_⟩
    · intro e he
      have hm := mem_listed he
      simp [go_sem, *] at hm
    clear hKx Kx
    refine Goes.step rfl (fun _ h₁ => ?_)
    replace hF := hF.at h₁
    clear h₁
    refine goes_oper_k rfl rfl (by decide) (fun Kx hKx => ?_)
    go_simp
    refine hKx _ _ ⟨DF.none ?_, ?_⟩
    · intro e he
      have hm := mem_listed he
      simp [go_sem, *] at hm
    clear hKx Kx
    refine Goes.step rfl (fun _ h₁ => ?_)
    replace hF := hF.at h₁
    clear h₁
    refine goes_oper_k rfl rfl (by decide) (fun Kx hKx => ?_)
    go_simp
    refine hKx _ _ ⟨DF.none ?_, ?_⟩
    · intro e he
      have hm := mem_listed he
      simp [go_sem, *] at hm
    clear hKx Kx
    refine Goes.step rfl (fun _ h₁ => ?_)
    replace hF := hF.at h₁
    clear h₁
    refine goes_oper_k rfl rfl (by decide) (fun Kx hKx => ?_)
    go_simp
    refine hKx _ _ ⟨DF.none ?_, ?_⟩
    · intro e he
      have hm := mem_listed he
      simp [go_sem, *] at hm
    clear hKx Kx
    refine Goes.step rfl (fun _ h₁ => ?_)
    replace hF := hF.at h₁
    clear h₁
    rw [stepG_unwanted rfl rfl]
    simp only [goes_go]
    refine ⟨DF.none (by intro e he; simp at he), ?_⟩
    walk_nrm
    refine Goes.step rfl (fun _ h₁ => ?_)
    replace hF := hF.at h₁
    clear h₁
    rw [stepG_unwanted rfl rfl]
    simp only [goes_go]
    refine ⟨DF.none (by intro e he; simp at he), ?_⟩
    walk_nrm
    refine Goes.step rfl (fun _ h₁ => ?_)
    replace hF := hF.at h₁
    clear h₁
    refine goes_oper_k rfl rfl (by decide) (fun Kx hKx => ?_)
    go_simp
    refine hKx _ _ ⟨DF.none ?_, ?_⟩
    · intro e he
      have hm := mem_listed he
      simp [go_sem, *] at hm
    clear hKx Kx
    refine Goes.step rfl (fun _ h₁ => ?_)
    replace hF := hF.at h₁
    clear h₁
    refine goes_oper_k rfl rfl (by decide) (fun Kx hKx => ?_)
    go_simp
    refine hKx _ _ ⟨DF.none ?_, ?_⟩
    · intro e he
      have hm := mem_listed he
      simp [go_sem, *] at hm
    clear hKx Kx
    exact Goes.stop (fun w₁ h₁ => ⟨(hF.at h₁).sz, hK _ w₁ ⟨by simp, by simp, by simp, by simp, by simp⟩ (hF.at h₁)⟩)
  by_cases h5 : p = 17
  · subst h5
    have hsx : six 17 = true := by decide
    rw [hsx] at hK
    clear hsx
    revert hK
    simp only [R8, snd7, ops7, fst7, opsOf, R7, rest7, Try.f6, Option.getD_some]
    intro hK
    refine BW.walk 300 ?_
    refine Goes.step rfl (fun _ h₁ => ?_)
    replace hF := hF.at h₁
    clear h₁
    rw [stepG_seq]
    simp only [goes_go]
    refine ⟨DF.none (by intro e he; simp at he), ?_⟩
    refine Goes.step rfl (fun _ h₁ => ?_)
    replace hF := hF.at h₁
    clear h₁
    rw [stepG_region]
    simp only [goes_go, List.size_toArray, List.length_cons, List.length_nil, Nat.reduceAdd, Nat.zero_add, List.range, List.range.loop]
    refine ⟨DF.none (by intro e he; simp at he), ?_⟩
    refine Goes.step rfl (fun _ h₁ => ?_)
    replace hF := hF.at h₁
    clear h₁
    refine goes_oper_k rfl rfl (by decide) (fun Kx hKx => ?_)
    go_simp
    refine hKx _ _ ⟨DF.none ?_, ?_⟩
    · intro e he
      have hm := mem_listed he
      simp [go_sem, *] at hm
    clear hKx Kx
    refine Goes.step rfl (fun _ h₁ => ?_)
    replace hF := hF.at h₁
    clear h₁
    refine goes_oper_k rfl rfl (by decide) (fun Kx hKx => ?_)
    go_simp
    refine hKx _ _ ⟨DF.none ?_, ?_⟩
    · intro e he
      have hm := mem_listed he
      simp [go_sem, *] at hm
    clear hKx Kx
    refine Goes.step rfl (fun _ h₁ => ?_)
    replace hF := hF.at h₁
    clear h₁
    refine goes_oper_k rfl rfl (by decide) (fun Kx hKx => ?_)
    go_simp
    refine hKx _ _ ⟨DF.none ?_, ?_⟩
    · intro e he
      have hm := mem_listed he
      simp [go_sem, *] at hm
    clear hKx Kx
    refine Goes.step rfl (fun _ h₁ => ?_)
    replace hF := hF.at h₁
    clear h₁
    refine goes_oper_k rfl rfl (by decide) (fun Kx hKx => ?_)
    go_simp
    refine hKx _ _ ⟨DF.none ?_, ?_⟩
    · intro e he
      have hm := mem_listed he
      simp [go_sem, *] at hm
    clear hKx Kx
    refine Goes.step rfl (fun _ h₁ => ?_)
    replace hF := hF.at h₁
    clear h₁
    refine goes_oper_k rfl rfl (by decide) (fun Kx hKx => ?_)
    go_simp
    refine hKx _ _ ⟨DF.none ?_, ?_⟩
    · intro e he
      have hm := mem_listed he
      simp [go_sem, *] at hm
    clear hKx Kx
    refine Goes.step rfl (fun _ h₁ => ?_)
    replace hF := hF.at h₁
    clear h₁
    refine goes_oper_k rfl rfl (by decide) (fun Kx hKx => ?_)
    go_simp
    refine hKx _ _ ⟨DF.none ?_, ?_⟩
    · intro e he
      have hm := mem_listed he
      simp [go_sem, *] at hm
    clear hKx Kx
    refine Goes.step rfl (fun _ h₁ => ?_)
    replace hF := hF.at h₁
    clear h₁
    refine goes_oper_k rfl rfl (by decide) (fun Kx hKx => ?_)
    go_simp
    refine hKx _ _ ⟨DF.none ?_, ?_⟩
    · intro e he
      have hm := mem_listed he
      simp [go_sem, *] at hm
    clear hKx Kx
    refine Goes.step rfl (fun _ h₁ => ?_)
    replace hF := hF.at h₁
    clear h₁
    refine goes_oper_k rfl rfl (by decide) (fun Kx hKx => ?_)
    go_simp
    refine hKx _ _ ⟨DF.none ?_, ?_⟩
    · intro e he
      have hm := mem_listed he
      simp [go_sem, *] at hm
    clear hKx Kx
    refine Goes.step rfl (fun _ h₁ => ?_)
    replace hF := hF.at h₁
    clear h₁
    refine goes_oper_k rfl rfl (by decide) (fun Kx hKx => ?_)
    go_simp
    refine hKx _ _ ⟨DF.none ?_, ?_⟩
    · intro e he
      have hm := mem_listed he
      simp [go_sem, *] at hm
    clear hKx Kx
    refine Goes.step rfl (fun _ h₁ => ?_)
    replace hF := hF.at h₁
    clear h₁
    refine goes_oper_k rfl rfl (by decide) (fun Kx hKx => ?_)
    go_simp
    refine hKx _ _ ⟨DF.none ?_, ?_⟩
    · intro e he
      have hm := mem_listed he
      simp [go_sem, *] at hm
    clear hKx Kx
    refine Goes.step rfl (fun _ h₁ => ?_)
    replace hF := hF.at h₁
    clear h₁
    refine goes_oper_k rfl rfl (by decide) (fun Kx hKx => ?_)
    go_simp
    refine hKx _ _ ⟨DF.none ?_, ?_⟩
    · intro e he
      have hm := mem_listed he
      simp [go_sem, *] at hm
    clear hKx Kx
    refine Goes.step rfl (fun _ h₁ => ?_)
    replace hF := hF.at h₁
    clear h₁
    refine goes_oper_k rfl rfl (by decide) (fun Kx hKx => ?_)
    go_simp
    refine hKx _ _ ⟨DF.none ?_, ?_⟩
    · intro e he
      have hm := mem_listed he
      simp [go_sem, *] at hm
    clear hKx Kx
    refine Goes.step rfl (fun _ h₁ => ?_)
    replace hF := hF.at h₁
    clear h₁
    refine goes_oper_k rfl rfl (by decide) (fun Kx hKx => ?_)
    go_simp
    refine hKx _ _ ⟨DF.none ?_, ?_⟩
    · intro e he
      have hm := mem_listed he
      simp [go_sem, *] at hm
    clear hKx Kx
    refine Goes.step rfl (fun _ h₁ => ?_)
    replace hF := hF.at h₁
    clear h₁
    refine goes_oper_k rfl rfl (by decide) (fun Kx hKx => ?_)
    go_simp
    refine hKx _ _ ⟨DF.none ?_, ?_⟩
    · intro e he
      have hm := mem_listed he
      simp [go_sem, *] at hm
    clear hKx Kx
    refine Goes.step rfl (fun _ h₁ => ?_)
    replace hF := hF.at h₁
    clear h₁
    refine goes_oper_k rfl rfl (by decide) (fun Kx hKx => ?_)
    go_simp
    refine hKx _ _ ⟨DF.none ?_, ?_⟩
    · intro e he
      have hm := mem_listed he
      simp [go_sem, *] at hm
    clear hKx Kx
    refine Goes.step rfl (fun _ h₁ => ?_)
    replace hF := hF.at h₁
    clear h₁
    refine goes_oper_k rfl rfl (by decide) (fun Kx hKx => ?_)
    go_simp
    refine hKx _ _ ⟨DF.none ?_, ?_⟩
    · intro e he
      have hm := mem_listed he
      simp [go_sem, *] at hm
    clear hKx Kx
    refine Goes.step rfl (fun _ h₁ => ?_)
    replace hF := hF.at h₁
    clear h₁
    refine goes_oper_k rfl rfl (by decide) (fun Kx hKx => ?_)
    go_simp
    refine hKx _ _ ⟨DF.none ?_, ?_⟩
    · intro e he
      have hm := mem_listed he
      simp [go_sem, *] at hm
    clear hKx Kx
    refine Goes.step rfl (fun _ h₁ => ?_)
    replace hF := hF.at h₁
    clear h₁
    refine goes_oper_k rfl rfl (by decide) (fun Kx hKx => ?_)
    go_simp
    refine hKx _ _ ⟨DF.none ?_, ?_⟩
    · intro e he
      have hm := mem_listed he
      simp [go_sem, *] at hm
    clear hKx Kx
    refine Goes.step rfl (fun _ h₁ => ?_)
    replace hF := hF.at h₁
    clear h₁
    refine goes_oper_k rfl rfl (by decide) (fun Kx hKx => ?_)
    go_simp
    refine hKx _ _ ⟨DF.none ?_, ?_⟩
    · intro e he
      have hm := mem_listed he
      simp [go_sem, *] at hm
    clear hKx Kx
    refine Goes.step rfl (fun _ h₁ => ?_)
    replace hF := hF.at h₁
    clear h₁
    refine goes_oper_k rfl rfl (by decide) (fun Kx hKx => ?_)
    go_simp
    refine hKx _ _ ⟨DF.none ?_, ?_⟩
    · intro e he
      have hm := mem_listed he
      simp [go_sem, *] at hm
    clear hKx Kx
    refine Goes.step rfl (fun _ h₁ => ?_)
    replace hF := hF.at h₁
    clear h₁
    refine goes_oper_k rfl rfl (by decide) (fun Kx hKx => ?_)
    go_simp
    refine hKx _ _ ⟨DF.none ?_, ?_⟩
    · intro e he
      have hm := mem_listed he
      simp [go_sem, *] at hm
    clear hKx Kx
    refine Goes.step rfl (fun _ h₁ => ?_)
    replace hF := hF.at h₁
    clear h₁
    refine goes_oper_k rfl rfl (by decide) (fun Kx hKx => ?_)
    go_simp
    refine hKx _ _ ⟨DF.none ?_, ?_⟩
    · intro e he
      have hm := mem_listed he
      simp [go_sem, *] at hm
    clear hKx Kx
    refine Goes.step rfl (fun _ h₁ => ?_)
    replace hF := hF.at h₁
    clear h₁
    refine goes_oper_k rfl rfl (by decide) (fun Kx hKx => ?_)
    go_simp
    refine hKx _ _ ⟨DF.none ?_, ?_⟩
    · intro e he
      have hm := mem_listed he
      simp [go_sem, *] at hm
    clear hKx Kx
    exact Goes.stop (fun w₁ h₁ => ⟨(hF.at h₁).sz, hK _ w₁ ⟨by simp, by simp, by simp, by simp, by simp⟩ (hF.at h₁)⟩)
  have e0 : (p == 3) = false := by simpa using h0
  have e1 : (p == 5) = false := by simpa using h1
  have e2 : (p == 7) = false := by simpa using h2
  have e3 : (p == 11) = false := by simpa using h3
  have e4 : (p == 13) = false := by simpa using h4
  have e5 : (p == 17) = false := by simpa using h5
  have hsx : six p = false := by unfold six; rw [decide_eq_false (by omega)]
  rw [hsx] at hK
  clear hsx
  revert hK
  simp only [R8, snd7, ops7, fst7, opsOf, R7, rest7, Try.f6, Option.getD_some]
  intro hK
  refine BW.walk 300 ?_
  refine Goes.step rfl (fun _ h₁ => ?_)
  replace hF := hF.at h₁
  clear h₁
  rw [stepG_seq]
  simp only [goes_go]
  refine ⟨DF.none (by intro e he; simp at he), ?_⟩
  refine Goes.step rfl (fun _ h₁ => ?_)
  replace hF := hF.at h₁
  clear h₁
  rw [stepG_region]
  simp only [goes_go, List.size_toArray, List.length_cons, List.length_nil, Nat.reduceAdd, Nat.zero_add, List.range, List.range.loop]
  refine ⟨DF.none (by intro e he; simp at he), ?_⟩
  refine Goes.step rfl (fun _ h₁ => ?_)
  replace hF := hF.at h₁
  clear h₁
  refine goes_oper_k rfl rfl (by decide) (fun Kx hKx => ?_)
  go_simp
  refine hKx _ _ ⟨DF.none ?_, ?_⟩
  · intro e he
    have hm := mem_listed he
    simp [go_sem, *] at hm
  clear hKx Kx
  refine Goes.step rfl (fun _ h₁ => ?_)
  replace hF := hF.at h₁
  clear h₁
  refine goes_oper_k rfl rfl (by decide) (fun Kx hKx => ?_)
  go_simp
  refine hKx _ _ ⟨DF.none ?_, ?_⟩
  · intro e he
    have hm := mem_listed he
    simp [go_sem, *] at hm
  clear hKx Kx
  refine Goes.step rfl (fun _ h₁ => ?_)
  replace hF := hF.at h₁
  clear h₁
  refine goes_oper_k rfl rfl (by decide) (fun Kx hKx => ?_)
  go_simp
  refine hKx _ _ ⟨DF.none ?_, ?_⟩
  · intro e he
    have hm := mem_listed he
    simp [go_sem, *] at hm
  clear hKx Kx
  refine Goes.step rfl (fun _ h₁ => ?_)
  replace hF := hF.at h₁
  clear h₁
  refine goes_oper_k rfl rfl (by decide) (fun Kx hKx => ?_)
  go_simp
  refine hKx _ _ ⟨DF.none ?_, ?_⟩
  · intro e he
    have hm := mem_listed he
    simp [go_sem, *] at hm
  clear hKx Kx
  refine Goes.step rfl (fun _ h₁ => ?_)
  replace hF := hF.at h₁
  clear h₁
  refine goes_oper_k rfl rfl (by decide) (fun Kx hKx => ?_)
  go_simp
  refine hKx _ _ ⟨DF.none ?_, ?_⟩
  · intro e he
    have hm := mem_listed he
    simp [go_sem, *] at hm
  clear hKx Kx
  refine Goes.step rfl (fun _ h₁ => ?_)
  replace hF := hF.at h₁
  clear h₁
  refine goes_oper_k rfl rfl (by decide) (fun Kx hKx => ?_)
  go_simp
  refine hKx _ _ ⟨DF.none ?_, ?_⟩
  · intro e he
    have hm := mem_listed he
    simp [go_sem, *] at hm
  clear hKx Kx
  refine Goes.step rfl (fun _ h₁ => ?_)
  replace hF := hF.at h₁
  clear h₁
  refine goes_oper_k rfl rfl (by decide) (fun Kx hKx => ?_)
  go_simp
  refine hKx _ _ ⟨DF.none ?_, ?_⟩
  · intro e he
    have hm := mem_listed he
    simp [go_sem, *] at hm
  clear hKx Kx
  refine Goes.step rfl (fun _ h₁ => ?_)
  replace hF := hF.at h₁
  clear h₁
  refine goes_oper_k rfl rfl (by decide) (fun Kx hKx => ?_)
  go_simp
  refine hKx _ _ ⟨DF.none ?_, ?_⟩
  · intro e he
    have hm := mem_listed he
    simp [go_sem, *] at hm
  clear hKx Kx
  refine Goes.step rfl (fun _ h₁ => ?_)
  replace hF := hF.at h₁
  clear h₁
  refine goes_oper_k rfl rfl (by decide) (fun Kx hKx => ?_)
  go_simp
  refine hKx _ _ ⟨DF.none ?_, ?_⟩
  · intro e he
    have hm := mem_listed he
    simp [go_sem, *] at hm
  clear hKx Kx
  refine Goes.step rfl (fun _ h₁ => ?_)
  replace hF := hF.at h₁
  clear h₁
  refine goes_oper_k rfl rfl (by decide) (fun Kx hKx => ?_)
  go_simp
  refine hKx _ _ ⟨DF.none ?_, ?_⟩
  · intro e he
    have hm := mem_listed he
    simp [go_sem, *] at hm
  clear hKx Kx
  refine Goes.step rfl (fun _ h₁ => ?_)
  replace hF := hF.at h₁
  clear h₁
  refine goes_oper_k rfl rfl (by decide) (fun Kx hKx => ?_)
  go_simp
  refine hKx _ _ ⟨DF.none ?_, ?_⟩
  · intro e he
    have hm := mem_listed he
    simp [go_sem, *] at hm
  clear hKx Kx
  refine Goes.step rfl (fun _ h₁ => ?_)
  replace hF := hF.at h₁
  clear h₁
  refine goes_oper_k rfl rfl (by decide) (fun Kx hKx => ?_)
  go_simp
  refine hKx _ _ ⟨DF.none ?_, ?_⟩
  · intro e he
    have hm := mem_listed he
    simp [go_sem, *] at hm
  clear hKx Kx
  refine Goes.step rfl (fun _ h₁ => ?_)
  replace hF := hF.at h₁
  clear h₁
  refine goes_oper_k rfl rfl (by decide) (fun Kx hKx => ?_)
  go_simp
  refine hKx _ _ ⟨DF.none ?_, ?_⟩
  · intro e he
    have hm := mem_listed he
    simp [go_sem, *] at hm
  clear hKx Kx
  refine Goes.step rfl (fun _ h₁ => ?_)
  replace hF := hF.at h₁
  clear h₁
  refine goes_oper_k rfl rfl (by decide) (fun Kx hKx => ?_)
  go_simp
  refine hKx _ _ ⟨DF.none ?_, ?_⟩
  · intro e he
    have hm := mem_listed he
    simp [go_sem, *] at hm
  clear hKx Kx
  refine Goes.step rfl (fun _ h₁ => ?_)
  replace hF := hF.at h₁
  clear h₁
  refine goes_oper_k rfl rfl (by decide) (fun Kx hKx => ?_)
  go_simp
  refine hKx _ _ ⟨DF.none ?_, ?_⟩
  · intro e he
    have hm := mem_listed he
    simp [go_sem, *] at hm
  clear hKx Kx
  refine Goes.step rfl (fun _ h₁ => ?_)
  replace hF := hF.at h₁
  clear h₁
  refine goes_oper_k rfl rfl (by decide) (fun Kx hKx => ?_)
  go_simp
  refine hKx _ _ ⟨DF.none ?_, ?_⟩
  · intro e he
    have hm := mem_listed he
    simp [go_sem, *] at hm
  clear hKx Kx
  refine Goes.step rfl (fun _ h₁ => ?_)
  replace hF := hF.at h₁
  clear h₁
  refine goes_oper_k rfl rfl (by decide) (fun Kx hKx => ?_)
  go_simp
  refine hKx _ _ ⟨DF.none ?_, ?_⟩
  · intro e he
    have hm := mem_listed he
    simp [go_sem, *] at hm
  clear hKx Kx
  refine Goes.step rfl (fun _ h₁ => ?_)
  replace hF := hF.at h₁
  clear h₁
  refine goes_oper_k rfl rfl (by decide) (fun Kx hKx => ?_)
  go_simp
  refine hKx _ _ ⟨DF.none ?_, ?_⟩
  · intro e he
    have hm := mem_listed he
    simp [go_sem, *] at hm
  clear hKx Kx
  refine Goes.step rfl (fun _ h₁ => ?_)
  replace hF := hF.at h₁
  clear h₁
  refine goes_oper_k rfl rfl (by decide) (fun Kx hKx => ?_)
  go_simp
  refine hKx _ _ ⟨DF.none ?_, ?_⟩
  · intro e he
    have hm := mem_listed he
    simp [go_sem, *] at hm
  clear hKx Kx
  refine Goes.step rfl (fun _ h₁ => ?_)
  replace hF := hF.at h₁
  clear h₁
  refine goes_oper_k rfl rfl (by decide) (fun Kx hKx => ?_)
  go_simp
  refine hKx _ _ ⟨DF.none ?_, ?_⟩
  · intro e he
    have hm := mem_listed he
    simp [go_sem, *] at hm
  clear hKx Kx
  refine Goes.step rfl (fun _ h₁ => ?_)
  replace hF := hF.at h₁
  clear h₁
  refine goes_oper_k rfl rfl (by decide) (fun Kx hKx => ?_)
  go_simp
  refine hKx _ _ ⟨DF.none ?_, ?_⟩
  · intro e he
    have hm := mem_listed he
    simp [go_sem, *] at hm
  clear hKx Kx
  refine Goes.step rfl (fun _ h₁ => ?_)
  replace hF := hF.at h₁
  clear h₁
  refine goes_oper_k rfl rfl (by decide) (fun Kx hKx => ?_)
  go_simp
  refine hKx _ _ ⟨DF.none ?_, ?_⟩
  · intro e he
    have hm := mem_listed he
    simp [go_sem, *] at hm
  clear hKx Kx
  refine Goes.step rfl (fun _ h₁ => ?_)
  replace hF := hF.at h₁
  clear h₁
  refine goes_oper_k rfl rfl (by decide) (fun Kx hKx => ?_)
  go_simp
  refine hKx _ _ ⟨DF.none ?_, ?_⟩
  · intro e he
    have hm := mem_listed he
    simp [go_sem, *] at hm
  clear hKx Kx
  exact Goes.stop (fun w₁ h₁ => ⟨(hF.at h₁).sz, hK _ w₁ ⟨by simp, by simp, by simp, by simp, by simp⟩ (hF.at h₁)⟩)
set_option maxRecDepth 100000 in
set_option maxHeartbeats 4000000 in
theorem law6_and (hT : AtB row place B s T) (hF : KN w.heap.size W (fun _ => False) S₂ w)
    (hK : ∀ T' w', AtC B (s && (decide (0 ≤ row) && (decide (row ≤ 16) && (decide (0 ≤ place) && decide (place ≤ row))))) T' → KN w.heap.size W (fun _ => False) S₂ w' → BW Try.prog c₂ S₂ (G ((base 6).at ⟨T', []⟩ [.code R8]) []) w' Stop) : BW Try.prog c₂ S₂ (G ((base 6).at ⟨T, []⟩ (.inRegion ops7 [23, 24, 25, 26, 27, 28, 29, 30, 31, 32, 33, 34, 35, 36, 37, 38, 39] :: [.code R8])) []) w Stop := by
  obtain ⟨hT, q3, q4, q6, q49⟩ := hT
  obtain ⟨v0, v1, v2, v3, v4, v5, v6, v7, v8, v9, v10, v11, v12, v13, v14, v15, v16, v17, v18, v19, v20, v21, v22, v23, v24, v25, v26, v27, v28, v29, v30, v31, v32, v33, v34, v35, v36, v37, v38, v39, v40, v41, v42, v43, v44, v45, v46, v47, v48, v49, v50, v51, v52, v53, v54, v55, v56, v57, v58, v59, v60, v61, v62, v63, v64, v65, v66, v67, v68, v69, v70, v71, rfl⟩ := array72 T hT
  simp only [List.getElem?_toArray, List.getElem?_cons_succ, List.getElem?_cons_zero, Option.some.injEq] at q3 q4 q6 q49
  subst q3 q4 q6 q49
  revert hK
  simp only [R8, snd7, ops7, fst7, opsOf, R7, rest7, Try.f6, Option.getD_some]
  intro hK
  cases s with
  | false =>
    simp only [Bool.false_and] at hK
    refine BW.walk 300 ?_
    refine Goes.step rfl (fun _ h₁ => ?_)
    replace hF := hF.at h₁
    clear h₁
    rw [stepG_unwanted rfl rfl]
    simp only [goes_go]
    refine ⟨DF.none (by intro e he; simp at he), ?_⟩
    walk_nrm
    refine Goes.step rfl (fun _ h₁ => ?_)
    replace hF := hF.at h₁
    clear h₁
    rw [stepG_unwanted rfl rfl]
    simp only [goes_go]
    refine ⟨DF.none (by intro e he; simp at he), ?_⟩
    walk_nrm
    refine Goes.step rfl (fun _ h₁ => ?_)
    replace hF := hF.at h₁
    clear h₁
    refine goes_oper_k rfl rfl (by decide) (fun Kx hKx => ?_)
    go_simp
    refine hKx _ _ ⟨DF.none ?_, ?_⟩
    · intro e he
      have hm := mem_listed he
      simp [go_sem, *] at hm
    clear hKx Kx
    refine Goes.step rfl (fun _ h₁ => ?_)
    replace hF := hF.at h₁
    clear h₁
    refine goes_oper_k rfl rfl (by decide) (fun Kx hKx => ?_)
    go_simp
    refine hKx _ _ ⟨DF.none ?_, ?_⟩
    · intro e he
      have hm := mem_listed he
      simp [go_sem, *] at hm
    clear hKx Kx
    refine Goes.step rfl (fun _ h₁ => ?_)
    replace hF := hF.at h₁
    clear h₁
    rw [stepG_unwanted rfl rfl]
    simp only [goes_go]
    refine ⟨DF.none (by intro e he; simp at he), ?_⟩
    walk_nrm
    refine Goes.step rfl (fun _ h₁ => ?_)
    replace hF := hF.at h₁
    clear h₁
    rw [stepG_unwanted rfl rfl]
    simp only [goes_go]
    refine ⟨DF.none (by intro e he; simp at he), ?_⟩
    walk_nrm
    refine Goes.step rfl (fun _ h₁ => ?_)
    replace hF := hF.at h₁
    clear h₁
    refine goes_oper_k rfl rfl (by decide) (fun Kx hKx => ?_)
    go_simp
    refine hKx _ _ ⟨DF.none ?_, ?_⟩
    · intro e he
      have hm := mem_listed he
      simp [go_sem, *] at hm
    clear hKx Kx
    refine Goes.step rfl (fun _ h₁ => ?_)
    replace hF := hF.at h₁
    clear h₁
    refine goes_oper_k rfl rfl (by decide) (fun Kx hKx => ?_)
    go_simp
    refine hKx _ _ ⟨DF.none ?_, ?_⟩
    · intro e he
      have hm := mem_listed he
      simp [go_sem, *] at hm
    clear hKx Kx
    refine Goes.step rfl (fun _ h₁ => ?_)
    replace hF := hF.at h₁
    clear h₁
    rw [stepG_unwanted rfl rfl]
    simp only [goes_go]
    refine ⟨DF.none (by intro e he; simp at he), ?_⟩
    walk_nrm
    refine Goes.step rfl (fun _ h₁ => ?_)
    replace hF := hF.at h₁
    clear h₁
    rw [stepG_unwanted rfl rfl]
    simp only [goes_go]
    refine ⟨DF.none (by intro e he; simp at he), ?_⟩
    walk_nrm
    refine Goes.step rfl (fun _ h₁ => ?_)
    replace hF := hF.at h₁
    clear h₁
    refine goes_oper_k rfl rfl (by decide) (fun Kx hKx => ?_)
    go_simp
    refine hKx _ _ ⟨DF.none ?_, ?_⟩
    · intro e he
      have hm := mem_listed he
      simp [go_sem, *] at hm
    clear hKx Kx
    refine Goes.step rfl (fun _ h₁ => ?_)
    replace hF := hF.at h₁
    clear h₁
    refine goes_oper_k rfl rfl (by decide) (fun Kx hKx => ?_)
    go_simp
    refine hKx _ _ ⟨DF.none ?_, ?_⟩
    · intro e he
      have hm := mem_listed he
      simp [go_sem, *] at hm
    clear hKx Kx
    refine Goes.step rfl (fun _ h₁ => ?_)
    replace hF := hF.at h₁
    clear h₁
    rw [stepG_unwanted rfl rfl]
    simp only [goes_go]
    refine ⟨DF.none (by intro e he; simp at he), ?_⟩
    walk_nrm
    refine Goes.step rfl (fun _ h₁ => ?_)
    replace hF := hF.at h₁
    clear h₁
    rw [stepG_unwanted rfl rfl]
    simp only [goes_go]
    refine ⟨DF.none (by intro e he; simp at he), ?_⟩
    walk_nrm
    refine Goes.step rfl (fun _ h₁ => ?_)
    replace hF := hF.at h₁
    clear h₁
    rw [stepG_unwanted rfl rfl]
    simp only [goes_go]
    refine ⟨DF.none (by intro e he; simp at he), ?_⟩
    walk_nrm
    refine Goes.step rfl (fun _ h₁ => ?_)
    replace hF := hF.at h₁
    clear h₁
    refine goes_oper_k rfl rfl (by decide) (fun Kx hKx => ?_)
    go_simp
    refine hKx _ _ ⟨DF.none ?_, ?_⟩
    · intro e he
      have hm := mem_listed he
      simp [go_sem, *] at hm
    clear hKx Kx
    refine Goes.step rfl (fun _ h₁ => ?_)
    replace hF := hF.at h₁
    clear h₁
    refine goes_oper_k rfl rfl (by decide) (fun Kx hKx => ?_)
    go_simp
    refine hKx _ _ ⟨DF.none ?_, ?_⟩
    · intro e he
      have hm := mem_listed he
      simp [go_sem, *] at hm
    clear hKx Kx
    refine Goes.step rfl (fun _ h₁ => ?_)
    replace hF := hF.at h₁
    clear h₁
    rw [stepG_region_end]
    simp only [goes_go]
    refine ⟨DF.none (by intro e he; simp at he), ?_⟩
    exact Goes.stop (fun w₁ h₁ => ⟨(hF.at h₁).sz, hK _ w₁ ⟨by simp, by simp, by simp⟩ (hF.at h₁)⟩)
  | true =>
    simp only [Bool.true_and] at hK
    by_cases g0 : 0 ≤ row
    · by_cases g1 : row ≤ 16
      · by_cases g2 : 0 ≤ place
        · by_cases g3 : place ≤ row
          · simp only [g0, g1, g2, g3, decide_true, Bool.true_and] at hK
            refine BW.walk 300 ?_
            refine Goes.step rfl (fun _ h₁ => ?_)
            replace hF := hF.at h₁
            clear h₁
            refine goes_oper_k rfl rfl (by decide) (fun Kx hKx => ?_)
            go_simp
            refine hKx _ _ ⟨DF.none ?_, ?_⟩
            · intro e he
              have hm := mem_listed he
              simp [go_sem, *] at hm
            clear hKx Kx
            refine Goes.step rfl (fun _ h₁ => ?_)
            replace hF := hF.at h₁
            clear h₁
            refine goes_oper_k rfl rfl (by decide) (fun Kx hKx => ?_)
            go_simp
            refine hKx _ _ ⟨DF.none ?_, ?_⟩
            · intro e he
              have hm := mem_listed he
              simp [go_sem, *] at hm
            clear hKx Kx
            refine Goes.step rfl (fun _ h₁ => ?_)
            replace hF := hF.at h₁
            clear h₁
            refine goes_oper_k rfl rfl (by decide) (fun Kx hKx => ?_)
            go_simp
            refine hKx _ _ ⟨DF.none ?_, ?_⟩
            · intro e he
              have hm := mem_listed he
              simp [go_sem, *] at hm
            clear hKx Kx
            refine Goes.step rfl (fun _ h₁ => ?_)
            replace hF := hF.at h₁
            clear h₁
            refine goes_oper_k rfl rfl (by decide) (fun Kx hKx => ?_)
            go_simp
            refine hKx _ _ ⟨DF.none ?_, ?_⟩
            · intro e he
              have hm := mem_listed he
              simp [go_sem, *] at hm
            clear hKx Kx
            refine Goes.step rfl (fun _ h₁ => ?_)
            replace hF := hF.at h₁
            clear h₁
            refine goes_oper_k rfl rfl (by decide) (fun Kx hKx => ?_)
            go_simp
            refine hKx _ _ ⟨DF.none ?_, ?_⟩
            · intro e he
              have hm := mem_listed he
              simp [go_sem, *] at hm
            clear hKx Kx
            refine Goes.step rfl (fun _ h₁ => ?_)
            replace hF := hF.at h₁
            clear h₁
            refine goes_oper_k rfl rfl (by decide) (fun Kx hKx => ?_)
            go_simp
            refine hKx _ _ ⟨DF.none ?_, ?_⟩
            · intro e he
              have hm := mem_listed he
              simp [go_sem, *] at hm
            clear hKx Kx
            refine Goes.step rfl (fun _ h₁ => ?_)
            replace hF := hF.at h₁
            clear h₁
            refine goes_oper_k rfl rfl (by decide) (fun Kx hKx => ?_)
            go_simp
            refine hKx _ _ ⟨DF.none ?_, ?_⟩
            · intro e he
              have hm := mem_listed he
              simp [go_sem, *] at hm
            clear hKx Kx
            refine Goes.step rfl (fun _ h₁ => ?_)
            replace hF := hF.at h₁
            clear h₁
            refine goes_oper_k rfl rfl (by decide) (fun Kx hKx => ?_)
            go_simp
            refine hKx _ _ ⟨DF.none ?_, ?_⟩
            · intro e he
              have hm := mem_listed he
              simp [go_sem, *] at hm
            clear hKx Kx
            refine Goes.step rfl (fun _ h₁ => ?_)
            replace hF := hF.at h₁
            clear h₁
            refine goes_oper_k rfl rfl (by decide) (fun Kx hKx => ?_)
            go_simp
            refine hKx _ _ ⟨DF.none ?_, ?_⟩
            · intro e he
              have hm := mem_listed he
              simp [go_sem, *] at hm
            clear hKx Kx
            refine Goes.step rfl (fun _ h₁ => ?_)
            replace hF := hF.at h₁
            clear h₁
            refine goes_oper_k rfl rfl (by decide) (fun Kx hKx => ?_)
            go_simp
            refine hKx _ _ ⟨DF.none ?_, ?_⟩
            · intro e he
              have hm := mem_listed he
              simp [go_sem, *] at hm
            clear hKx Kx
            refine Goes.step rfl (fun _ h₁ => ?_)
            replace hF := hF.at h₁
            clear h₁
            refine goes_oper_k rfl rfl (by decide) (fun Kx hKx => ?_)
            go_simp
            refine hKx _ _ ⟨DF.none ?_, ?_⟩
            · intro e he
              have hm := mem_listed he
              simp [go_sem, *] at hm
            clear hKx Kx
            refine Goes.step rfl (fun _ h₁ => ?_)
            replace hF := hF.at h₁
            clear h₁
            refine goes_oper_k rfl rfl (by decide) (fun Kx hKx => ?_)
            go_simp
            refine hKx _ _ ⟨DF.none ?_, ?_⟩
            · intro e he
              have hm := mem_listed he
              simp [go_sem, *] at hm
            clear hKx Kx
            refine Goes.step rfl (fun _ h₁ => ?_)
            replace hF := hF.at h₁
            clear h₁
            refine goes_oper_k rfl rfl (by decide) (fun Kx hKx => ?_)
            go_simp
            refine hKx _ _ ⟨DF.none ?_, ?_⟩
            · intro e he
              have hm := mem_listed he
              simp [go_sem, *] at hm
            clear hKx Kx
            refine Goes.step rfl (fun _ h₁ => ?_)
            replace hF := hF.at h₁
            clear h₁
            refine goes_oper_k rfl rfl (by decide) (fun Kx hKx => ?_)
            go_simp
            refine hKx _ _ ⟨DF.none ?_, ?_⟩
            · intro e he
              have hm := mem_listed he
              simp [go_sem, *] at hm
            clear hKx Kx
            refine Goes.step rfl (fun _ h₁ => ?_)
            replace hF := hF.at h₁
            clear h₁
            refine goes_oper_k rfl rfl (by decide) (fun Kx hKx => ?_)
            go_simp
            refine hKx _ _ ⟨DF.none ?_, ?_⟩
            · intro e he
              have hm := mem_listed he
              simp [go_sem, *] at hm
            clear hKx Kx
            refine Goes.step rfl (fun _ h₁ => ?_)
            replace hF := hF.at h₁
            clear h₁
            refine goes_oper_k rfl rfl (by decide) (fun Kx hKx => ?_)
            go_simp
            refine hKx _ _ ⟨DF.none ?_, ?_⟩
            · intro e he
              have hm := mem_listed he
              simp [go_sem, *] at hm
            clear hKx Kx
            refine Goes.step rfl (fun _ h₁ => ?_)
            replace hF := hF.at h₁
            clear h₁
            refine goes_oper_k rfl rfl (by decide) (fun Kx hKx => ?_)
            go_simp
            refine hKx _ _ ⟨DF.none ?_, ?_⟩
            · intro e he
              have hm := mem_listed he
              simp [go_sem, *] at hm
            clear hKx Kx
            refine Goes.step rfl (fun _ h₁ => ?_)
            replace hF := hF.at h₁
            clear h₁
            rw [stepG_region_end]
            simp only [goes_go]
            refine ⟨DF.none (by intro e he; simp at he), ?_⟩
            exact Goes.stop (fun w₁ h₁ => ⟨(hF.at h₁).sz, hK _ w₁ ⟨by simp, by simp, by simp⟩ (hF.at h₁)⟩)
          · simp only [g0, g1, g2, g3, decide_true, decide_false, Bool.and_false] at hK
            refine BW.walk 300 ?_
            refine Goes.step rfl (fun _ h₁ => ?_)
            replace hF := hF.at h₁
            clear h₁
            refine goes_oper_k rfl rfl (by decide) (fun Kx hKx => ?_)
            go_simp
            refine hKx _ _ ⟨DF.none ?_, ?_⟩
            · intro e he
              have hm := mem_listed he
              simp [go_sem, *] at hm
            clear hKx Kx
            refine Goes.step rfl (fun _ h₁ => ?_)
            replace hF := hF.at h₁
            clear h₁
            refine goes_oper_k rfl rfl (by decide) (fun Kx hKx => ?_)
            go_simp
            refine hKx _ _ ⟨DF.none ?_, ?_⟩
            · intro e he
              have hm := mem_listed he
              simp [go_sem, *] at hm
            clear hKx Kx
            refine Goes.step rfl (fun _ h₁ => ?_)
            replace hF := hF.at h₁
            clear h₁
            refine goes_oper_k rfl rfl (by decide) (fun Kx hKx => ?_)
            go_simp
            refine hKx _ _ ⟨DF.none ?_, ?_⟩
            · intro e he
              have hm := mem_listed he
              simp [go_sem, *] at hm
            clear hKx Kx
            refine Goes.step rfl (fun _ h₁ => ?_)
            replace hF := hF.at h₁
            clear h₁
            refine goes_oper_k rfl rfl (by decide) (fun Kx hKx => ?_)
            go_simp
            refine hKx _ _ ⟨DF.none ?_, ?_⟩
            · intro e he
              have hm := mem_listed he
              simp [go_sem, *] at hm
            clear hKx Kx
            refine Goes.step rfl (fun _ h₁ => ?_)
            replace hF := hF.at h₁
            clear h₁
            refine goes_oper_k rfl rfl (by decide) (fun Kx hKx => ?_)
            go_simp
            refine hKx _ _ ⟨DF.none ?_, ?_⟩
            · intro e he
              have hm := mem_listed he
              simp [go_sem, *] at hm
            clear hKx Kx
            refine Goes.step rfl (fun _ h₁ => ?_)
            replace hF := hF.at h₁
            clear h₁
            refine goes_oper_k rfl rfl (by decide) (fun Kx hKx => ?_)
            go_simp
            refine hKx _ _ ⟨DF.none ?_, ?_⟩
            · intro e he
              have hm := mem_listed he
              simp [go_sem, *] at hm
            clear hKx Kx
            refine Goes.step rfl (fun _ h₁ => ?_)
            replace hF := hF.at h₁
            clear h₁
            refine goes_oper_k rfl rfl (by decide) (fun Kx hKx => ?_)
            go_simp
            refine hKx _ _ ⟨DF.none ?_, ?_⟩
            · intro e he
              have hm := mem_listed he
              simp [go_sem, *] at hm
            clear hKx Kx
            refine Goes.step rfl (fun _ h₁ => ?_)
            replace hF := hF.at h₁
            clear h₁
            refine goes_oper_k rfl rfl (by decide) (fun Kx hKx => ?_)
            go_simp
            refine hKx _ _ ⟨DF.none ?_, ?_⟩
            · intro e he
              have hm := mem_listed he
              simp [go_sem, *] at hm
            clear hKx Kx
            refine Goes.step rfl (fun _ h₁ => ?_)
            replace hF := hF.at h₁
            clear h₁
            refine goes_oper_k rfl rfl (by decide) (fun Kx hKx => ?_)
            go_simp
            refine hKx _ _ ⟨DF.none ?_, ?_⟩
            · intro e he
              have hm := mem_listed he
              simp [go_sem, *] at hm
            clear hKx Kx
            refine Goes.step rfl (fun _ h₁ => ?_)
            replace hF := hF.at h₁
            clear h₁
            refine goes_oper_k rfl rfl (by decide) (fun Kx hKx => ?_)
            go_simp
            refine hKx _ _ ⟨DF.none ?_, ?_⟩
            · intro e he
              have hm := mem_listed he
              simp [go_sem, *] at hm
            clear hKx Kx
            refine Goes.step rfl (fun _ h₁ => ?_)
            replace hF := hF.at h₁
            clear h₁
            refine goes_oper_k rfl rfl (by decide) (fun Kx hKx => ?_)
            go_simp
            refine hKx _ _ ⟨DF.none ?_, ?_⟩
            · intro e he
              have hm := mem_listed he
              simp [go_sem, *] at hm
            clear hKx Kx
            refine Goes.step rfl (fun _ h₁ => ?_)
            replace hF := hF.at h₁
            clear h₁
            refine goes_oper_k rfl rfl (by decide) (fun Kx hKx => ?_)
            go_simp
            refine hKx _ _ ⟨DF.none ?_, ?_⟩
            · intro e he
              have hm := mem_listed he
              simp [go_sem, *] at hm
            clear hKx Kx
            refine Goes.step rfl (fun _ h₁ => ?_)
            replace hF := hF.at h₁
            clear h₁
            refine goes_oper_k rfl rfl (by decide) (fun Kx hKx => ?_)
            go_simp
            refine hKx _ _ ⟨DF.none ?_, ?_⟩
            · intro e he
              have hm := mem_listed he
              simp [go_sem, *] at hm
            clear hKx Kx
            refine Goes.step rfl (fun _ h₁ => ?_)
            replace hF := hF.at h₁
            clear h₁
            refine goes_oper_k rfl rfl (by decide) (fun Kx hKx => ?_)
            go_simp
            refine hKx _ _ ⟨DF.none ?_, ?_⟩
            · intro e he
              have hm := mem_listed he
              simp [go_sem, *] at hm
            clear hKx Kx
            refine Goes.step rfl (fun _ h₁ => ?_)
            replace hF := hF.at h₁
            clear h₁
            refine goes_oper_k rfl rfl (by decide) (fun Kx hKx => ?_)
            go_simp
            refine hKx _ _ ⟨DF.none ?_, ?_⟩
            · intro e he
              have hm := mem_listed he
              simp [go_sem, *] at hm
            clear hKx Kx
            refine Goes.step rfl (fun _ h₁ => ?_)
            replace hF := hF.at h₁
            clear h₁
            refine goes_oper_k rfl rfl (by decide) (fun Kx hKx => ?_)
            go_simp
            refine hKx _ _ ⟨DF.none ?_, ?_⟩
            · intro e he
              have hm := mem_listed he
              simp [go_sem, *] at hm
            clear hKx Kx
            refine Goes.step rfl (fun _ h₁ => ?_)
            replace hF := hF.at h₁
            clear h₁
            refine goes_oper_k rfl rfl (by decide) (fun Kx hKx => ?_)
            go_simp
            refine hKx _ _ ⟨DF.none ?_, ?_⟩
            · intro e he
              have hm := mem_listed he
              simp [go_sem, *] at hm
            clear hKx Kx
            refine Goes.step rfl (fun _ h₁ => ?_)
            replace hF := hF.at h₁
            clear h₁
            rw [stepG_region_end]
            simp only [goes_go]
            refine ⟨DF.none (by intro e he; simp at he), ?_⟩
            exact Goes.stop (fun w₁ h₁ => ⟨(hF.at h₁).sz, hK _ w₁ ⟨by simp, by simp, by simp⟩ (hF.at h₁)⟩)
        · simp only [g0, g1, g2, decide_true, decide_false, Bool.false_and, Bool.and_false] at hK
          refine BW.walk 300 ?_
          refine Goes.step rfl (fun _ h₁ => ?_)
          replace hF := hF.at h₁
          clear h₁
          refine goes_oper_k rfl rfl (by decide) (fun Kx hKx => ?_)
          go_simp
          refine hKx _ _ ⟨DF.none ?_, ?_⟩
          · intro e he
            have hm := mem_listed he
            simp [go_sem, *] at hm
          clear hKx Kx
          refine Goes.step rfl (fun _ h₁ => ?_)
          replace hF := hF.at h₁
          clear h₁
          refine goes_oper_k rfl rfl (by decide) (fun Kx hKx => ?_)
          go_simp
          refine hKx _ _ ⟨DF.none ?_, ?_⟩
          · intro e he
            have hm := mem_listed he
            simp [go_sem, *] at hm
          clear hKx Kx
          refine Goes.step rfl (fun _ h₁ => ?_)
          replace hF := hF.at h₁
          clear h₁
          refine goes_oper_k rfl rfl (by decide) (fun Kx hKx => ?_)
          go_simp
          refine hKx _ _ ⟨DF.none ?_, ?_⟩
          · intro e he
            have hm := mem_listed he
            simp [go_sem, *] at hm
          clear hKx Kx
          refine Goes.step rfl (fun _ h₁ => ?_)
          replace hF := hF.at h₁
          clear h₁
          refine goes_oper_k rfl rfl (by decide) (fun Kx hKx => ?_)
          go_simp
          refine hKx _ _ ⟨DF.none ?_, ?_⟩
          · intro e he
            have hm := mem_listed he
            simp [go_sem, *] at hm
          clear hKx Kx
          refine Goes.step rfl (fun _ h₁ => ?_)
          replace hF := hF.at h₁
          clear h₁
          refine goes_oper_k rfl rfl (by decide) (fun Kx hKx => ?_)
          go_simp
          refine hKx _ _ ⟨DF.none ?_, ?_⟩
          · intro e he
            have hm := mem_listed he
            simp [go_sem, *] at hm
          clear hKx Kx
          refine Goes.step rfl (fun _ h₁ => ?_)
          replace hF := hF.at h₁
          clear h₁
          refine goes_oper_k rfl rfl (by decide) (fun Kx hKx => ?_)
          go_simp
          refine hKx _ _ ⟨DF.none ?_, ?_⟩
          · intro e he
            have hm := mem_listed he
            simp [go_sem, *] at hm
          clear hKx Kx
          refine Goes.step rfl (fun _ h₁ => ?_)
          replace hF := hF.at h₁
          clear h₁
          refine goes_oper_k rfl rfl (by decide) (fun Kx hKx => ?_)
          go_simp
          refine hKx _ _ ⟨DF.none ?_, ?_⟩
          · intro e he
            have hm := mem_listed he
            simp [go_sem, *] at hm
          clear hKx Kx
          refine Goes.step rfl (fun _ h₁ => ?_)
          replace hF := hF.at h₁
          clear h₁
          refine goes_oper_k rfl rfl (by decide) (fun Kx hKx => ?_)
          go_simp
          refine hKx _ _ ⟨DF.none ?_, ?_⟩
          · intro e he
            have hm := mem_listed he
            simp [go_sem, *] at hm
          clear hKx Kx
          refine Goes.step rfl (fun _ h₁ => ?_)
          replace hF := hF.at h₁
          clear h₁
          refine goes_oper_k rfl rfl (by decide) (fun Kx hKx => ?_)
          go_simp
          refine hKx _ _ ⟨DF.none ?_, ?_⟩
          · intro e he
            have hm := mem_listed he
            simp [go_sem, *] at hm
          clear hKx Kx
          refine Goes.step rfl (fun _ h₁ => ?_)
          replace hF := hF.at h₁
          clear h₁
          refine goes_oper_k rfl rfl (by decide) (fun Kx hKx => ?_)
          go_simp
          refine hKx _ _ ⟨DF.none ?_, ?_⟩
          · intro e he
            have hm := mem_listed he
            simp [go_sem, *] at hm
          clear hKx Kx
          refine Goes.step rfl (fun _ h₁ => ?_)
          replace hF := hF.at h₁
          clear h₁
          refine goes_oper_k rfl rfl (by decide) (fun Kx hKx => ?_)
          go_simp
          refine hKx _ _ ⟨DF.none ?_, ?_⟩
          · intro e he
            have hm := mem_listed he
            simp [go_sem, *] at hm
          clear hKx Kx
          refine Goes.step rfl (fun _ h₁ => ?_)
          replace hF := hF.at h₁
          clear h₁
          refine goes_oper_k rfl rfl (by decide) (fun Kx hKx => ?_)
          go_simp
          refine hKx _ _ ⟨DF.none ?_, ?_⟩
          · intro e he
            have hm := mem_listed he
            simp [go_sem, *] at hm
          clear hKx Kx
          refine Goes.step rfl (fun _ h₁ => ?_)
          replace hF := hF.at h₁
          clear h₁
          rw [stepG_unwanted rfl rfl]
          simp only [goes_go]
          refine ⟨DF.none (by intro e he; simp at he), ?_⟩
          walk_nrm
          refine Goes.step rfl (fun _ h₁ => ?_)
          replace hF := hF.at h₁
          clear h₁
          rw [stepG_unwanted rfl rfl]
          simp only [goes_go]
          refine ⟨DF.none (by intro e he; simp at he), ?_⟩
          walk_nrm
          refine Goes.step rfl (fun _ h₁ => ?_)
          replace hF := hF.at h₁
          clear h₁
          rw [stepG_unwanted rfl rfl]
          simp only [goes_go]
          refine ⟨DF.none (by intro e he; simp at he), ?_⟩
          walk_nrm
          refine Goes.step rfl (fun _ h₁ => ?_)
          replace hF := hF.at h₁
          clear h₁
          refine goes_oper_k rfl rfl (by decide) (fun Kx hKx => ?_)
          go_simp
          refine hKx _ _ ⟨DF.none ?_, ?_⟩
          · intro e he
            have hm := mem_listed he
            simp [go_sem, *] at hm
          clear hKx Kx
          refine Goes.step rfl (fun _ h₁ => ?_)
          replace hF := hF.at h₁
          clear h₁
          refine goes_oper_k rfl rfl (by decide) (fun Kx hKx => ?_)
          go_simp
          refine hKx _ _ ⟨DF.none ?_, ?_⟩
          · intro e he
            have hm := mem_listed he
            simp [go_sem, *] at hm
          clear hKx Kx
          refine Goes.step rfl (fun _ h₁ => ?_)
          replace hF := hF.at h₁
          clear h₁
          rw [stepG_region_end]
          simp only [goes_go]
          refine ⟨DF.none (by intro e he; simp at he), ?_⟩
          exact Goes.stop (fun w₁ h₁ => ⟨(hF.at h₁).sz, hK _ w₁ ⟨by simp, by simp, by simp⟩ (hF.at h₁)⟩)
      · simp only [g0, g1, decide_true, decide_false, Bool.false_and, Bool.and_false] at hK
        refine BW.walk 300 ?_
        refine Goes.step rfl (fun _ h₁ => ?_)
        replace hF := hF.at h₁
        clear h₁
        refine goes_oper_k rfl rfl (by decide) (fun Kx hKx => ?_)
        go_simp
        refine hKx _ _ ⟨DF.none ?_, ?_⟩
        · intro e he
          have hm := mem_listed he
          simp [go_sem, *] at hm
        clear hKx Kx
        refine Goes.step rfl (fun _ h₁ => ?_)
        replace hF := hF.at h₁
        clear h₁
        refine goes_oper_k rfl rfl (by decide) (fun Kx hKx => ?_)
        go_simp
        refine hKx _ _ ⟨DF.none ?_, ?_⟩
        · intro e he
          have hm := mem_listed he
          simp [go_sem, *] at hm
        clear hKx Kx
        refine Goes.step rfl (fun _ h₁ => ?_)
        replace hF := hF.at h₁
        clear h₁
        refine goes_oper_k rfl rfl (by decide) (fun Kx hKx => ?_)
        go_simp
        refine hKx _ _ ⟨DF.none ?_, ?_⟩
        · intro e he
          have hm := mem_listed he
          simp [go_sem, *] at hm
        clear hKx Kx
        refine Goes.step rfl (fun _ h₁ => ?_)
        replace hF := hF.at h₁
        clear h₁
        refine goes_oper_k rfl rfl (by decide) (fun Kx hKx => ?_)
        go_simp
        refine hKx _ _ ⟨DF.none ?_, ?_⟩
        · intro e he
          have hm := mem_listed he
          simp [go_sem, *] at hm
        clear hKx Kx
        refine Goes.step rfl (fun _ h₁ => ?_)
        replace hF := hF.at h₁
        clear h₁
        refine goes_oper_k rfl rfl (by decide) (fun Kx hKx => ?_)
        go_simp
        refine hKx _ _ ⟨DF.none ?_, ?_⟩
        · intro e he
          have hm := mem_listed he
          simp [go_sem, *] at hm
        clear hKx Kx
        refine Goes.step rfl (fun _ h₁ => ?_)
        replace hF := hF.at h₁
        clear h₁
        refine goes_oper_k rfl rfl (by decide) (fun Kx hKx => ?_)
        go_simp
        refine hKx _ _ ⟨DF.none ?_, ?_⟩
        · intro e he
          have hm := mem_listed he
          simp [go_sem, *] at hm
        clear hKx Kx
        refine Goes.step rfl (fun _ h₁ => ?_)
        replace hF := hF.at h₁
        clear h₁
        refine goes_oper_k rfl rfl (by decide) (fun Kx hKx => ?_)
        go_simp
        refine hKx _ _ ⟨DF.none ?_, ?_⟩
        · intro e he
          have hm := mem_listed he
          simp [go_sem, *] at hm
        clear hKx Kx
        refine Goes.step rfl (fun _ h₁ => ?_)
        replace hF := hF.at h₁
        clear h₁
        refine goes_oper_k rfl rfl (by decide) (fun Kx hKx => ?_)
        go_simp
        refine hKx _ _ ⟨DF.none ?_, ?_⟩
        · intro e he
          have hm := mem_listed he
          simp [go_sem, *] at hm
        clear hKx Kx
        refine Goes.step rfl (fun _ h₁ => ?_)
        replace hF := hF.at h₁
        clear h₁
        rw [stepG_unwanted rfl rfl]
        simp only [goes_go]
        refine ⟨DF.none (by intro e he; simp at he), ?_⟩
        walk_nrm
        refine Goes.step rfl (fun _ h₁ => ?_)
        replace hF := hF.at h₁
        clear h₁
        rw [stepG_unwanted rfl rfl]
        simp only [goes_go]
        refine ⟨DF.none (by intro e he; simp at he), ?_⟩
        walk_nrm
        refine Goes.step rfl (fun _ h₁ => ?_)
        replace hF := hF.at h₁
        clear h₁
        refine goes_oper_k rfl rfl (by decide) (fun Kx hKx => ?_)
        go_simp
        refine hKx _ _ ⟨DF.none ?_, ?_⟩
        · intro e he
          have hm := mem_listed he
          simp [go_sem, *] at hm
        clear hKx Kx
        refine Goes.step rfl (fun _ h₁ => ?_)
        replace hF := hF.at h₁
        clear h₁
        refine goes_oper_k rfl rfl (by decide) (fun Kx hKx => ?_)
        go_simp
        refine hKx _ _ ⟨DF.none ?_, ?_⟩
        · intro e he
          have hm := mem_listed he
          simp [go_sem, *] at hm
        clear hKx Kx
        refine Goes.step rfl (fun _ h₁ => ?_)
        replace hF := hF.at h₁
        clear h₁
        rw [stepG_unwanted rfl rfl]
        simp only [goes_go]
        refine ⟨DF.none (by intro e he; simp at he), ?_⟩
        walk_nrm
        refine Goes.step rfl (fun _ h₁ => ?_)
        replace hF := hF.at h₁
        clear h₁
        rw [stepG_unwanted rfl rfl]
        simp only [goes_go]
        refine ⟨DF.none (by intro e he; simp at he), ?_⟩
        walk_nrm
        refine Goes.step rfl (fun _ h₁ => ?_)
        replace hF := hF.at h₁
        clear h₁
        rw [stepG_unwanted rfl rfl]
        simp only [goes_go]
        refine ⟨DF.none (by intro e he; simp at he), ?_⟩
        walk_nrm
        refine Goes.step rfl (fun _ h₁ => ?_)
        replace hF := hF.at h₁
        clear h₁
        refine goes_oper_k rfl rfl (by decide) (fun Kx hKx => ?_)
        go_simp
        refine hKx _ _ ⟨DF.none ?_, ?_⟩
        · intro e he
          have hm := mem_listed he
          simp [go_sem, *] at hm
        clear hKx Kx
        refine Goes.step rfl (fun _ h₁ => ?_)
        replace hF := hF.at h₁
        clear h₁
        refine goes_oper_k rfl rfl (by decide) (fun Kx hKx => ?_)
        go_simp
        refine hKx _ _ ⟨DF.none ?_, ?_⟩
        · intro e he
          have hm := mem_listed he
          simp [go_sem, *] at hm
        clear hKx Kx
        refine Goes.step rfl (fun _ h₁ => ?_)
        replace hF := hF.at h₁
        clear h₁
        rw [stepG_region_end]
        simp only [goes_go]
        refine ⟨DF.none (by intro e he; simp at he), ?_⟩
        exact Goes.stop (fun w₁ h₁ => ⟨(hF.at h₁).sz, hK _ w₁ ⟨by simp, by simp, by simp⟩ (hF.at h₁)⟩)
    · simp only [g0, decide_false, Bool.false_and] at hK
      refine BW.walk 300 ?_
      refine Goes.step rfl (fun _ h₁ => ?_)
      replace hF := hF.at h₁
      clear h₁
      refine goes_oper_k rfl rfl (by decide) (fun Kx hKx => ?_)
      go_simp
      refine hKx _ _ ⟨DF.none ?_, ?_⟩
      · intro e he
        have hm := mem_listed he
        simp [go_sem, *] at hm
      clear hKx Kx
      refine Goes.step rfl (fun _ h₁ => ?_)
      replace hF := hF.at h₁
      clear h₁
      refine goes_oper_k rfl rfl (by decide) (fun Kx hKx => ?_)
      go_simp
      refine hKx _ _ ⟨DF.none ?_, ?_⟩
      · intro e he
        have hm := mem_listed he
        simp [go_sem, *] at hm
      clear hKx Kx
      refine Goes.step rfl (fun _ h₁ => ?_)
      replace hF := hF.at h₁
      clear h₁
      refine goes_oper_k rfl rfl (by decide) (fun Kx hKx => ?_)
      go_simp
      refine hKx _ _ ⟨DF.none ?_, ?_⟩
      · intro e he
        have hm := mem_listed he
        simp [go_sem, *] at hm
      clear hKx Kx
      refine Goes.step rfl (fun _ h₁ => ?_)
      replace hF := hF.at h₁
      clear h₁
      refine goes_oper_k rfl rfl (by decide) (fun Kx hKx => ?_)
      go_simp
      refine hKx _ _ ⟨DF.none ?_, ?_⟩
      · intro e he
        have hm := mem_listed he
        simp [go_sem, *] at hm
      clear hKx Kx
      refine Goes.step rfl (fun _ h₁ => ?_)
      replace hF := hF.at h₁
      clear h₁
      rw [stepG_unwanted rfl rfl]
      simp only [goes_go]
      refine ⟨DF.none (by intro e he; simp at he), ?_⟩
      walk_nrm
      refine Goes.step rfl (fun _ h₁ => ?_)
      replace hF := hF.at h₁
      clear h₁
      rw [stepG_unwanted rfl rfl]
      simp only [goes_go]
      refine ⟨DF.none (by intro e he; simp at he), ?_⟩
      walk_nrm
      refine Goes.step rfl (fun _ h₁ => ?_)
      replace hF := hF.at h₁
      clear h₁
      refine goes_oper_k rfl rfl (by decide) (fun Kx hKx => ?_)
      go_simp
      refine hKx _ _ ⟨DF.none ?_, ?_⟩
      · intro e he
        have hm := mem_listed he
        simp [go_sem, *] at hm
      clear hKx Kx
      refine Goes.step rfl (fun _ h₁ => ?_)
      replace hF := hF.at h₁
      clear h₁
      refine goes_oper_k rfl rfl (by decide) (fun Kx hKx => ?_)
      go_simp
      refine hKx _ _ ⟨DF.none ?_, ?_⟩
      · intro e he
        have hm := mem_listed he
        simp [go_sem, *] at hm
      clear hKx Kx
      refine Goes.step rfl (fun _ h₁ => ?_)
      replace hF := hF.at h₁
      clear h₁
      rw [stepG_unwanted rfl rfl]
      simp only [goes_go]
      refine ⟨DF.none (by intro e he; simp at he), ?_⟩
      walk_nrm
      refine Goes.step rfl (fun _ h₁ => ?_)
      replace hF := hF.at h₁
      clear h₁
      rw [stepG_unwanted rfl rfl]
      simp only [goes_go]
      refine ⟨DF.none (by intro e he; simp at he), ?_⟩
      walk_nrm
      refine Goes.step rfl (fun _ h₁ => ?_)
      replace hF := hF.at h₁
      clear h₁
      refine goes_oper_k rfl rfl (by decide) (fun Kx hKx => ?_)
      go_simp
      refine hKx _ _ ⟨DF.none ?_, ?_⟩
      · intro e he
        have hm := mem_listed he
        simp [go_sem, *] at hm
      clear hKx Kx
      refine Goes.step rfl (fun _ h₁ => ?_)
      replace hF := hF.at h₁
      clear h₁
      refine goes_oper_k rfl rfl (by decide) (fun Kx hKx => ?_)
      go_simp
      refine hKx _ _ ⟨DF.none ?_, ?_⟩
      · intro e he
        have hm := mem_listed he
        simp [go_sem, *] at hm
      clear hKx Kx
      refine Goes.step rfl (fun _ h₁ => ?_)
      replace hF := hF.at h₁
      clear h₁
      rw [stepG_unwanted rfl rfl]
      simp only [goes_go]
      refine ⟨DF.none (by intro e he; simp at he), ?_⟩
      walk_nrm
      refine Goes.step rfl (fun _ h₁ => ?_)
      replace hF := hF.at h₁
      clear h₁
      rw [stepG_unwanted rfl rfl]
      simp only [goes_go]
      refine ⟨DF.none (by intro e he; simp at he), ?_⟩
      walk_nrm
      refine Goes.step rfl (fun _ h₁ => ?_)
      replace hF := hF.at h₁
      clear h₁
      rw [stepG_unwanted rfl rfl]
      simp only [goes_go]
      refine ⟨DF.none (by intro e he; simp at he), ?_⟩
      walk_nrm
      refine Goes.step rfl (fun _ h₁ => ?_)
      replace hF := hF.at h₁
      clear h₁
      refine goes_oper_k rfl rfl (by decide) (fun Kx hKx => ?_)
      go_simp
      refine hKx _ _ ⟨DF.none ?_, ?_⟩
      · intro e he
        have hm := mem_listed he
        simp [go_sem, *] at hm
      clear hKx Kx
      refine Goes.step rfl (fun _ h₁ => ?_)
      replace hF := hF.at h₁
      clear h₁
      refine goes_oper_k rfl rfl (by decide) (fun Kx hKx => ?_)
      go_simp
      refine hKx _ _ ⟨DF.none ?_, ?_⟩
      · intro e he
        have hm := mem_listed he
        simp [go_sem, *] at hm
      clear hKx Kx
      refine Goes.step rfl (fun _ h₁ => ?_)
      replace hF := hF.at h₁
      clear h₁
      rw [stepG_region_end]
      simp only [goes_go]
      refine ⟨DF.none (by intro e he; simp at he), ?_⟩
      exact Goes.stop (fun w₁ h₁ => ⟨(hF.at h₁).sz, hK _ w₁ ⟨by simp, by simp, by simp⟩ (hF.at h₁)⟩)
set_option maxRecDepth 100000 in
set_option maxHeartbeats 4000000 in
theorem law6_end (hc : c₂ ≤ 20000) (hT : AtC B B T) (hF : KN w.heap.size W (fun _ => False) S₂ w) : BW Try.prog c₂ S₂ (G ((base 6).at ⟨T, []⟩ [.code R8]) []) w (EndAt Try.prog (DoneT W)) := by
  have hI7 := fun c S b₀ a₀ ops₀ i₀ rest₀ k₀ cs W hc => @implStretched W c S b₀ a₀ ops₀ i₀ rest₀ k₀ cs hc 2 1 5
  simp only [stretch_two] at hI7
  obtain ⟨hT, q6, q7⟩ := hT
  obtain ⟨v0, v1, v2, v3, v4, v5, v6, v7, v8, v9, v10, v11, v12, v13, v14, v15, v16, v17, v18, v19, v20, v21, v22, v23, v24, v25, v26, v27, v28, v29, v30, v31, v32, v33, v34, v35, v36, v37, v38, v39, v40, v41, v42, v43, v44, v45, v46, v47, v48, v49, v50, v51, v52, v53, v54, v55, v56, v57, v58, v59, v60, v61, v62, v63, v64, v65, v66, v67, v68, v69, v70, v71, rfl⟩ := array72 T hT
  simp only [List.getElem?_toArray, List.getElem?_cons_succ, List.getElem?_cons_zero, Option.some.injEq] at q6 q7
  subst q6 q7
  simp only [R8, snd7, R7, rest7, Try.f6, Option.getD_some]
  refine BW.walk 300 ?_
  refine Goes.step rfl (fun _ h₁ => ?_)
  replace hF := hF.at h₁
  clear h₁
  rw [stepG_seq]
  simp only [goes_go]
  refine ⟨DF.none (by intro e he; simp at he), ?_⟩
  refine Goes.step rfl (fun _ h₁ => ?_)
  replace hF := hF.at h₁
  clear h₁
  rw [stepG_region]
  simp only [goes_go, List.size_toArray, List.length_cons, List.length_nil, Nat.reduceAdd, Nat.zero_add, List.range, List.range.loop]
  refine ⟨DF.none (by intro e he; simp at he), ?_⟩
  refine Goes.step rfl (fun _ h₁ => ?_)
  replace hF := hF.at h₁
  clear h₁
  refine goes_oper_k rfl rfl (by decide) (fun Kx hKx => ?_)
  go_simp
  refine hKx _ _ ⟨DF.none ?_, ?_⟩
  · intro e he
    have hm := mem_listed he
    simp [go_sem, *] at hm
  clear hKx Kx
  refine Goes.step rfl (fun _ h₁ => ?_)
  replace hF := hF.at h₁
  clear h₁
  refine goes_oper_k rfl rfl (by decide) (fun Kx hKx => ?_)
  go_simp
  refine hKx _ _ ⟨DF.none ?_, ?_⟩
  · intro e he
    have hm := mem_listed he
    simp [go_sem, *] at hm
  clear hKx Kx
  refine Goes.step rfl (fun _ h₁ => ?_)
  replace hF := hF.at h₁
  clear h₁
  refine goes_oper_k rfl rfl (by decide) (fun Kx hKx => ?_)
  go_simp
  refine hKx _ _ ⟨DF.none ?_, ?_⟩
  · intro e he
    have hm := mem_listed he
    simp [go_sem, ev_eqlC, *] at hm
  clear hKx Kx
  refine Goes.step rfl (fun _ h₁ => ?_)
  replace hF := hF.at h₁
  clear h₁
  refine goes_oper_k rfl rfl (by decide) (fun Kx hKx => ?_)
  go_simp
  refine hKx _ _ ⟨DF.none ?_, ?_⟩
  · intro e he
    have hm := mem_listed he
    simp [go_sem, *] at hm
  clear hKx Kx
  refine Goes.step rfl (fun _ h₁ => ?_)
  replace hF := hF.at h₁
  clear h₁
  refine goes_callF rfl rfl (by decide) rfl Try.func25 nm_StretchedOk rfl ⟨DF.none (by intro e he; simp at he), ?_⟩
  walk_nrm
  refine Goes.stop (fun w₁ h₁ => ⟨(hF.at h₁).sz, ?_⟩)
  replace hF := hF.at h₁
  clear h₁
  refine (hI7 _ _ _ _ _ _ _ _ _ _ (by omega) hF.kf.rows).bind fun c2 S2 g2 w2 hp => ?_
  obtain ⟨hc3, rfl, hpk⟩ := hp
  replace hF := KN.mk (hF.kf.trans hpk) (Nat.le_refl _)
  clear hpk
  rw [Frame.finish_at]
  refine BW.walk 300 ?_
  walk_nrm
  refine Goes.step rfl (fun _ h₁ => ?_)
  replace hF := hF.at h₁
  clear h₁
  refine goes_oper_k rfl rfl (by decide) (fun Kx hKx => ?_)
  go_simp
  refine hKx _ _ ⟨DF.none ?_, ?_⟩
  · intro e he
    have hm := mem_listed he
    simp [go_sem, *] at hm
  clear hKx Kx
  refine Goes.step rfl (fun _ h₁ => ?_)
  replace hF := hF.at h₁
  clear h₁
  refine goes_oper_k rfl rfl (by decide) (fun Kx hKx => ?_)
  go_simp
  refine hKx _ _ ⟨DF.none ?_, ?_⟩
  · intro e he
    have hm := mem_listed he
    simp [go_sem, *] at hm
  clear hKx Kx
  refine Goes.step rfl (fun _ h₁ => ?_)
  replace hF := hF.at h₁
  clear h₁
  rw [stepG_region_end]
  simp only [goes_go]
  refine ⟨DF.none (by intro e he; simp at he), ?_⟩
  refine Goes.step rfl (fun _ h₁ => ?_)
  replace hF := hF.at h₁
  clear h₁
  rw [stepG_ret']
  simp only [goes_go]
  refine ⟨DF.none (by intro e he; simp at he), ?_⟩
  refine Goes.stop (fun w₁ h₁ => ⟨(hF.at h₁).sz, BW.now ⟨.bool true, rfl, fun w => (stepG_done1 (t := 2) rfl rfl Try.func6 rfl (by kernel_rfl) w).trans (by simp), fun w₂ h₂ => ⟨rfl, _, ((hF.at h₁).at h₂).kf⟩⟩⟩)
set_option maxRecDepth 100000 in
set_option maxHeartbeats 4000000 in
theorem lawStretched_big (a : Option Addr) (len cap : Nat) (hl : 1048576 < len) :
    BW Try.prog 1 (fun _ => False) (G (Frame.enter Try.prog 6 #[.slice a len cap] .normal) []) W (EndAt Try.prog (DoneT W)) := by
  have hli : (1048576 : Int) < len := by omega
  have hF : KN W.heap.size W (fun _ => False) (fun _ => False) W := ⟨KF.refl (fun _ h => h.elim), Nat.le_refl _⟩
  rw [enter_at _ Try.func6 rfl]
  refine BW.walk 200 ?_
  walk_nrmf Try.f6
  refine Goes.step rfl (fun _ h₁ => ?_)
  replace hF := hF.at h₁
  clear h₁
  rw [stepG_seq]
  simp only [goes_go]
  refine ⟨DF.none (by intro e he; simp at he), ?_⟩
  refine Goes.step rfl (fun _ h₁ => ?_)
  replace hF := hF.at h₁
  clear h₁
  rw [stepG_region]
  simp only [goes_go, List.size_toArray, List.length_cons, List.length_nil, Nat.zero_add, List.range, List.range.loop]
  refine ⟨DF.none (by intro e he; simp at he), ?_⟩
  refine Goes.step rfl (fun _ h₁ => ?_)
  replace hF := hF.at h₁
  clear h₁
  refine goes_oper_k rfl rfl (by decide) (fun Kx hKx => ?_)
  go_simp
  refine hKx _ _ ⟨DF.none ?_, ?_⟩
  · intro e he
    have hm := mem_listed he
    simp [go_sem, *] at hm
  clear hKx Kx
  refine Goes.step rfl (fun _ h₁ => ?_)
  replace hF := hF.at h₁
  clear h₁
  rw [stepG_region_end]
  simp only [goes_go]
  refine ⟨DF.none (by intro e he; simp at he), ?_⟩
  refine Goes.step rfl (fun _ h₁ => ?_)
  replace hF := hF.at h₁
  clear h₁
  rw [stepG_seq]
  simp only [goes_go]
  refine ⟨DF.none (by intro e he; simp at he), ?_⟩
  refine Goes.step rfl (fun _ h₁ => ?_)
  replace hF := hF.at h₁
  clear h₁
  rw [stepG_seq]
  simp only [goes_go]
  refine ⟨DF.none (by intro e he; simp at he), ?_⟩
  refine Goes.step rfl (fun _ h₁ => ?_)
  replace hF := hF.at h₁
  clear h₁
  rw [stepG_region]
  simp only [goes_go, List.size_toArray, List.length_cons, List.length_nil, Nat.reduceAdd, Nat.zero_add, List.range, List.range.loop]
  refine ⟨DF.none (by intro e he; simp at he), ?_⟩
  refine Goes.step rfl (fun _ h₁ => ?_)
  replace hF := hF.at h₁
  clear h₁
  refine goes_oper_k rfl rfl (by decide) (fun Kx hKx => ?_)
  go_simp
  refine hKx _ _ ⟨DF.none ?_, ?_⟩
  · intro e he
    have hm := mem_listed he
    simp [go_sem, *] at hm
  clear hKx Kx
  refine Goes.step rfl (fun _ h₁ => ?_)
  replace hF := hF.at h₁
  clear h₁
  refine goes_oper_k rfl rfl (by decide) (fun Kx hKx => ?_)
  go_simp
  refine hKx _ _ ⟨DF.none ?_, ?_⟩
  · intro e he
    have hm := mem_listed he
    simp [go_sem, *] at hm
  clear hKx Kx
  refine Goes.step rfl (fun _ h₁ => ?_)
  replace hF := hF.at h₁
  clear h₁
  refine goes_oper_k rfl rfl (by decide) (fun Kx hKx => ?_)
  go_simp
  refine hKx _ _ ⟨DF.none ?_, ?_⟩
  · intro e he
    have hm := mem_listed he
    simp [go_sem, *] at hm
  clear hKx Kx
  refine Goes.step rfl (fun _ h₁ => ?_)
  replace hF := hF.at h₁
  clear h₁
  rw [stepG_region_end]
  simp only [goes_go]
  refine ⟨DF.none (by intro e he; simp at he), ?_⟩
  refine Goes.step rfl (fun _ h₁ => ?_)
  replace hF := hF.at h₁
  clear h₁
  rw [stepG_cond (t := true) (by first | rfl | (simp [Act.eval]; omega))]
  simp only [goes_go, ↓reduceIte]
  refine ⟨DF.none (by intro e he; simp at he), ?_⟩
  refine Goes.step rfl (fun _ h₁ => ?_)
  replace hF := hF.at h₁
  clear h₁
  rw [stepG_seq]
  simp only [goes_go]
  refine ⟨DF.none (by intro e he; simp at he), ?_⟩
  refine Goes.step rfl (fun _ h₁ => ?_)
  replace hF := hF.at h₁
  clear h₁
  rw [stepG_region]
  simp only [goes_go, List.size_toArray, List.length_cons, List.length_nil, Nat.zero_add, List.range, List.range.loop]
  refine ⟨DF.none (by intro e he; simp at he), ?_⟩
  refine Goes.step rfl (fun _ h₁ => ?_)
  replace hF := hF.at h₁
  clear h₁
  refine goes_oper_k rfl rfl (by decide) (fun Kx hKx => ?_)
  go_simp
  refine hKx _ _ ⟨DF.none ?_, ?_⟩
  · intro e he
    have hm := mem_listed he
    simp [go_sem, *] at hm
  clear hKx Kx
  refine Goes.step rfl (fun _ h₁ => ?_)
  replace hF := hF.at h₁
  clear h₁
  rw [stepG_region_end]
  simp only [goes_go]
  refine ⟨DF.none (by intro e he; simp at he), ?_⟩
  refine Goes.step rfl (fun _ h₁ => ?_)
  replace hF := hF.at h₁
  clear h₁
  rw [stepG_ret']
  simp only [goes_go]
  refine ⟨DF.none (by intro e he; simp at he), ?_⟩
  refine Goes.stop (fun w₁ h₁ => ⟨(hF.at h₁).sz, BW.now ⟨.bool true, rfl, fun w => (stepG_done1 (t := 2) rfl rfl Try.func6 rfl (by kernel_rfl) w).trans (by simp), fun w₂ h₂ => ⟨rfl, _, ((hF.at h₁).at h₂).kf⟩⟩⟩)
set_option maxRecDepth 100000 in
set_option maxHeartbeats 4000000 in
theorem lawStretched_in (a : Option Addr) (len cap : Nat) (zs : List Int) (h : IsRow .u8 W a len cap zs) (hl : ¬ 1048576 < len) :
    BW Try.prog 1 (fun _ => False) (G (Frame.enter Try.prog 6 #[.slice a len cap] .normal) []) W (EndAt Try.prog (DoneT W)) := by
  have hli : ¬ (1048576 : Int) < len := by omega
  have hF : KN W.heap.size W (fun _ => False) (fun _ => False) W := ⟨KF.refl (fun _ h => h.elim), Nat.le_refl _⟩
  rw [enter_at _ Try.func6 rfl]
  refine BW.walk 200 ?_
  walk_nrmf Try.f6
  refine Goes.step rfl (fun _ h₁ => ?_)
  replace hF := hF.at h₁
  clear h₁
  rw [stepG_seq]
  simp only [goes_go]
  refine ⟨DF.none (by intro e he; simp at he), ?_⟩
  refine Goes.step rfl (fun _ h₁ => ?_)
  replace hF := hF.at h₁
  clear h₁
  rw [stepG_region]
  simp only [goes_go, List.size_toArray, List.length_cons, List.length_nil, Nat.zero_add, List.range, List.range.loop]
  refine ⟨DF.none (by intro e he; simp at he), ?_⟩
  refine Goes.step rfl (fun _ h₁ => ?_)
  replace hF := hF.at h₁
  clear h₁
  refine goes_oper_k rfl rfl (by decide) (fun Kx hKx => ?_)
  go_simp
  refine hKx _ _ ⟨DF.none ?_, ?_⟩
  · intro e he
    have hm := mem_listed he
    simp [go_sem, *] at hm
  clear hKx Kx
  refine Goes.step rfl (fun _ h₁ => ?_)
  replace hF := hF.at h₁
  clear h₁
  rw [stepG_region_end]
  simp only [goes_go]
  refine ⟨DF.none (by intro e he; simp at he), ?_⟩
  refine Goes.step rfl (fun _ h₁ => ?_)
  replace hF := hF.at h₁
  clear h₁
  rw [stepG_seq]
  simp only [goes_go]
  refine ⟨DF.none (by intro e he; simp at he), ?_⟩
  refine Goes.step rfl (fun _ h₁ => ?_)
  replace hF := hF.at h₁
  clear h₁
  rw [stepG_seq]
  simp only [goes_go]
  refine ⟨DF.none (by intro e he; simp at he), ?_⟩
  refine Goes.step rfl (fun _ h₁ => ?_)
  replace hF := hF.at h₁
  clear h₁
  rw [stepG_region]
  simp only [goes_go, List.size_toArray, List.length_cons, List.length_nil, Nat.reduceAdd, Nat.zero_add, List.range, List.range.loop]
  refine ⟨DF.none (by intro e he; simp at he), ?_⟩
  refine Goes.step rfl (fun _ h₁ => ?_)
  replace hF := hF.at h₁
  clear h₁
  refine goes_oper_k rfl rfl (by decide) (fun Kx hKx => ?_)
  go_simp
  refine hKx _ _ ⟨DF.none ?_, ?_⟩
  · intro e he
    have hm := mem_listed he
    simp [go_sem, *] at hm
  clear hKx Kx
  refine Goes.step rfl (fun _ h₁ => ?_)
  replace hF := hF.at h₁
  clear h₁
  refine goes_oper_k rfl rfl (by decide) (fun Kx hKx => ?_)
  go_simp
  refine hKx _ _ ⟨DF.none ?_, ?_⟩
  · intro e he
    have hm := mem_listed he
    simp [go_sem, *] at hm
  clear hKx Kx
  refine Goes.step rfl (fun _ h₁ => ?_)
  replace hF := hF.at h₁
  clear h₁
  refine goes_oper_k rfl rfl (by decide) (fun Kx hKx => ?_)
  go_simp
  refine hKx _ _ ⟨DF.none ?_, ?_⟩
  · intro e he
    have hm := mem_listed he
    simp [go_sem, *] at hm
  clear hKx Kx
  refine Goes.step rfl (fun _ h₁ => ?_)
  replace hF := hF.at h₁
  clear h₁
  rw [stepG_region_end]
  simp only [goes_go]
  refine ⟨DF.none (by intro e he; simp at he), ?_⟩
  refine Goes.step rfl (fun _ h₁ => ?_)
  replace hF := hF.at h₁
  clear h₁
  rw [stepG_cond (t := false) (by first | rfl | (simp [Act.eval]; omega))]
  simp only [goes_go, Bool.false_eq_true, ↓reduceIte]
  refine ⟨DF.none (by intro e he; simp at he), ?_⟩
  refine Goes.step rfl (fun _ h₁ => ?_)
  replace hF := hF.at h₁
  clear h₁
  rw [stepG_skip]
  simp only [goes_go]
  refine ⟨DF.none (by intro e he; simp at he), ?_⟩
  refine Goes.step rfl (fun _ h₁ => ?_)
  replace hF := hF.at h₁
  clear h₁
  rw [stepG_seq]
  simp only [goes_go]
  refine ⟨DF.none (by intro e he; simp at he), ?_⟩
  refine Goes.step rfl (fun _ h₁ => ?_)
  replace hF := hF.at h₁
  clear h₁
  rw [stepG_region]
  simp only [goes_go, List.size_toArray, List.length_cons, List.length_nil, Nat.reduceAdd, Nat.zero_add, List.range, List.range.loop]
  refine ⟨DF.none (by intro e he; simp at he), ?_⟩
  refine Goes.step rfl (fun _ h₁ => ?_)
  replace hF := hF.at h₁
  clear h₁
  refine goes_oper_k rfl rfl (by decide) (fun Kx hKx => ?_)
  go_simp
  refine hKx _ _ ⟨DF.none ?_, ?_⟩
  · intro e he
    have hm := mem_listed he
    simp [go_sem, *] at hm
  clear hKx Kx
  refine Goes.step rfl (fun _ h₁ => ?_)
  replace hF := hF.at h₁
  clear h₁
  refine goes_callF rfl rfl (by decide) rfl Try.func24 nmd_DrawStretchedOk rfl ⟨DF.none (by intro e he; simp at he), ?_⟩
  walk_nrm
  refine Goes.stop (fun w₁ h₁ => ⟨(hF.at h₁).sz, ?_⟩)
  replace hF := hF.at h₁
  clear h₁
  refine (pureQ_beside kokD rfl (Q := fun v => ∃ x y z : Int, v = .tuple #[.int .i64 x, .int .i64 y, .int .i64 z]) (fun v hv => (drawStretched v a len cap zs (isRow_at h hF.kf hv)).mono fun e w' x => let ⟨⟨x, y, z, _, _, _, he⟩, hB⟩ := x; ⟨_, ⟨x, y, z, rfl⟩, he, hB⟩) hF.kf.rows).bind fun c2 S2 g2 w2 hp => ?_
  have hpk := hp.kf
  obtain ⟨x, hx, hg⟩ := hp.eg
  obtain rfl := hp.ec
  obtain rfl := hp.eS
  subst hg
  clear hp
  replace hF := KN.mk (hF.kf.trans hpk) (Nat.le_refl _)
  clear hpk
  obtain ⟨row, place, p, rfl⟩ := hx
  obtain ⟨B, hB⟩ : ∃ z, stretchV row place p = z := ⟨_, rfl⟩
  have hS := fun v => specStretched row place p v
  have hI := fun c S b₀ a₀ ops₀ i₀ rest₀ k₀ cs W hc => @implStretched W c S b₀ a₀ ops₀ i₀ rest₀ k₀ cs hc row place p
  simp only [hB] at hS hI
  have hBh := hide ((stretch_val row place p).symm.trans hB)
  clear hB
  rw [Frame.finish_at]
  refine BW.walk 300 ?_
  walk_nrm
  refine Goes.step rfl (fun _ h₁ => ?_)
  replace hF := hF.at h₁
  clear h₁
  refine goes_oper_k rfl rfl (by decide) (fun Kx hKx => ?_)
  go_simp
  refine hKx _ _ ⟨DF.none ?_, ?_⟩
  · intro e he
    have hm := mem_listed he
    simp [go_sem, *] at hm
  clear hKx Kx
  refine Goes.step rfl (fun _ h₁ => ?_)
  replace hF := hF.at h₁
  clear h₁
  refine goes_oper_k rfl rfl (by decide) (fun Kx hKx => ?_)
  go_simp
  refine hKx _ _ ⟨DF.none ?_, ?_⟩
  · intro e he
    have hm := mem_listed he
    simp [go_sem, *] at hm
  clear hKx Kx
  refine Goes.step rfl (fun _ h₁ => ?_)
  replace hF := hF.at h₁
  clear h₁
  refine goes_oper_k rfl rfl (by decide) (fun Kx hKx => ?_)
  go_simp
  refine hKx _ _ ⟨DF.none ?_, ?_⟩
  · intro e he
    have hm := mem_listed he
    simp [go_sem, *] at hm
  clear hKx Kx
  refine Goes.step rfl (fun _ h₁ => ?_)
  replace hF := hF.at h₁
  clear h₁
  refine goes_oper_k rfl rfl (by decide) (fun Kx hKx => ?_)
  go_simp
  refine hKx _ _ ⟨DF.none ?_, ?_⟩
  · intro e he
    have hm := mem_listed he
    simp [go_sem, *] at hm
  clear hKx Kx
  refine Goes.step rfl (fun _ h₁ => ?_)
  replace hF := hF.at h₁
  clear h₁
  refine goes_oper_k rfl rfl (by decide) (fun Kx hKx => ?_)
  go_simp
  refine hKx _ _ ⟨DF.none ?_, ?_⟩
  · intro e he
    have hm := mem_listed he
    simp [go_sem, *] at hm
  clear hKx Kx
  refine Goes.step rfl (fun _ h₁ => ?_)
  replace hF := hF.at h₁
  clear h₁
  refine goes_oper_k rfl rfl (by decide) (fun Kx hKx => ?_)
  go_simp
  refine hKx _ _ ⟨DF.none ?_, ?_⟩
  · intro e he
    have hm := mem_listed he
    simp [go_sem, *] at hm
  clear hKx Kx
  refine Goes.step rfl (fun _ h₁ => ?_)
  replace hF := hF.at h₁
  clear h₁
  refine goes_oper_k rfl rfl (by decide) (fun Kx hKx => ?_)
  go_simp
  refine hKx _ _ ⟨DF.none ?_, ?_⟩
  · intro e he
    have hm := mem_listed he
    simp [go_sem, *] at hm
  clear hKx Kx
  refine Goes.step rfl (fun _ h₁ => ?_)
  replace hF := hF.at h₁
  clear h₁
  rw [stepG_region_end]
  simp only [goes_go]
  refine ⟨DF.none (by intro e he; simp at he), ?_⟩
  refine Goes.step rfl (fun _ h₁ => ?_)
  replace hF := hF.at h₁
  clear h₁
  rw [stepG_seq]
  simp only [goes_go]
  refine ⟨DF.none (by intro e he; simp at he), ?_⟩
  refine Goes.step rfl (fun _ h₁ => ?_)
  replace hF := hF.at h₁
  clear h₁
  rw [stepG_region]
  simp only [goes_go, List.size_toArray, List.length_cons, List.length_nil, Nat.reduceAdd, Nat.zero_add, List.range, List.range.loop]
  refine ⟨DF.none (by intro e he; simp at he), ?_⟩
  refine Goes.step rfl (fun _ h₁ => ?_)
  replace hF := hF.at h₁
  clear h₁
  refine goes_oper_k rfl rfl (by decide) (fun Kx hKx => ?_)
  go_simp
  refine hKx _ _ ⟨DF.none ?_, ?_⟩
  · intro e he
    have hm := mem_listed he
    simp [go_sem, *] at hm
  clear hKx Kx
  refine Goes.step rfl (fun _ h₁ => ?_)
  replace hF := hF.at h₁
  clear h₁
  refine goes_oper_k rfl rfl (by decide) (fun Kx hKx => ?_)
  go_simp
  refine hKx _ _ ⟨DF.none ?_, ?_⟩
  · intro e he
    have hm := mem_listed he
    simp [go_sem, *] at hm
  clear hKx Kx
  refine Goes.step rfl (fun _ h₁ => ?_)
  replace hF := hF.at h₁
  clear h₁
  refine goes_oper_k rfl rfl (by decide) (fun Kx hKx => ?_)
  go_simp
  refine hKx _ _ ⟨DF.none ?_, ?_⟩
  · intro e he
    have hm := mem_listed he
    simp [go_sem, *] at hm
  clear hKx Kx
  refine Goes.step rfl (fun _ h₁ => ?_)
  replace hF := hF.at h₁
  clear h₁
  refine goes_callF rfl rfl (by decide) rfl Try.func25 nm_StretchedOk rfl ⟨DF.none (by intro e he; simp at he), ?_⟩
  walk_nrm
  refine Goes.stop (fun w₁ h₁ => ⟨(hF.at h₁).sz, ?_⟩)
  replace hF := hF.at h₁
  clear h₁
  refine (hI _ _ _ _ _ _ _ _ _ _ (by omega) hF.kf.rows).bind fun c2 S2 g2 w2 hp => ?_
  obtain ⟨hc2, rfl, hpk⟩ := hp
  replace hF := KN.mk (hF.kf.trans hpk) (Nat.le_refl _)
  clear hpk
  rw [Frame.finish_at]
  refine BW.walk 300 ?_
  walk_nrm
  refine Goes.step rfl (fun _ h₁ => ?_)
  replace hF := hF.at h₁
  clear h₁
  refine goes_oper_k rfl rfl (by decide) (fun Kx hKx => ?_)
  go_simp
  refine hKx _ _ ⟨DF.none ?_, ?_⟩
  · intro e he
    have hm := mem_listed he
    simp [go_sem, *] at hm
  clear hKx Kx
  refine Goes.step rfl (fun _ h₁ => ?_)
  replace hF := hF.at h₁
  clear h₁
  rw [stepG_region_end]
  simp only [goes_go]
  refine ⟨DF.none (by intro e he; simp at he), ?_⟩
  refine Goes.step rfl (fun _ h₁ => ?_)
  replace hF := hF.at h₁
  clear h₁
  rw [stepG_seq]
  simp only [goes_go]
  refine ⟨DF.none (by intro e he; simp at he), ?_⟩
  refine Goes.step rfl (fun _ h₁ => ?_)
  replace hF := hF.at h₁
  clear h₁
  rw [stepG_seq]
  simp only [goes_go]
  refine ⟨DF.none (by intro e he; simp at he), ?_⟩
  refine Goes.step rfl (fun _ h₁ => ?_)
  replace hF := hF.at h₁
  clear h₁
  rw [stepG_region]
  simp only [goes_go, List.size_toArray, List.length_cons, List.length_nil, Nat.reduceAdd, Nat.zero_add, List.range, List.range.loop]
  refine ⟨DF.none (by intro e he; simp at he), ?_⟩
  refine Goes.step rfl (fun _ h₁ => ?_)
  replace hF := hF.at h₁
  clear h₁
  refine goes_oper_k rfl rfl (by decide) (fun Kx hKx => ?_)
  go_simp
  refine hKx _ _ ⟨DF.none ?_, ?_⟩
  · intro e he
    have hm := mem_listed he
    simp [go_sem, *] at hm
  clear hKx Kx
  refine Goes.step rfl (fun _ h₁ => ?_)
  replace hF := hF.at h₁
  clear h₁
  refine goes_oper_k rfl rfl (by decide) (fun Kx hKx => ?_)
  go_simp
  refine hKx _ _ ⟨DF.none ?_, ?_⟩
  · intro e he
    have hm := mem_listed he
    simp [go_sem, *] at hm
  clear hKx Kx
  refine Goes.step rfl (fun _ h₁ => ?_)
  replace hF := hF.at h₁
  clear h₁
  refine goes_oper_k rfl rfl (by decide) (fun Kx hKx => ?_)
  go_simp
  refine hKx _ _ ⟨DF.none ?_, ?_⟩
  · intro e he
    have hm := mem_listed he
    simp [go_sem, *] at hm
  clear hKx Kx
  refine Goes.step rfl (fun _ h₁ => ?_)
  replace hF := hF.at h₁
  clear h₁
  refine goes_oper_k rfl rfl (by decide) (fun Kx hKx => ?_)
  go_simp
  refine hKx _ _ ⟨DF.none ?_, ?_⟩
  · intro e he
    have hm := mem_listed he
    simp [go_sem, *] at hm
  clear hKx Kx
  refine Goes.step rfl (fun _ h₁ => ?_)
  replace hF := hF.at h₁
  clear h₁
  refine goes_callF rfl rfl (by decide) rfl Try.func26 nms_StretchedOk rfl ⟨DF.none (by intro e he; simp at he), ?_⟩
  walk_nrm
  refine Goes.stop (fun w₁ h₁ => ⟨(hF.at h₁).sz, ?_⟩)
  replace hF := hF.at h₁
  clear h₁
  refine (pure_beside kok7 rfl (fun v => hS v) hF.kf.rows).bind fun c2 S2 g2 w2 hp => ?_
  have hpk := hp.kf
  obtain rfl := hp.ec
  obtain rfl := hp.eS
  obtain rfl := hp.eg
  clear hp
  replace hF := KN.mk (hF.kf.trans hpk) (Nat.le_refl _)
  clear hpk
  rw [Frame.finish_at]
  refine BW.walk 300 ?_
  walk_nrm
  refine Goes.step rfl (fun _ h₁ => ?_)
  replace hF := hF.at h₁
  clear h₁
  refine goes_oper_k rfl rfl (by decide) (fun Kx hKx => ?_)
  go_simp
  refine hKx _ _ ⟨DF.none ?_, ?_⟩
  · intro e he
    have hm := mem_listed he
    simp [go_sem, ev_neqB, *] at hm
  clear hKx Kx
  refine Goes.step rfl (fun _ h₁ => ?_)
  replace hF := hF.at h₁
  clear h₁
  rw [stepG_region_end]
  simp only [goes_go]
  refine ⟨DF.none (by intro e he; simp at he), ?_⟩
  refine Goes.step rfl (fun _ h₁ => ?_)
  replace hF := hF.at h₁
  clear h₁
  rw [stepG_cond (t := false) (by first | rfl | (simp [Act.eval]; omega))]
  simp only [goes_go, Bool.false_eq_true, ↓reduceIte]
  refine ⟨DF.none (by intro e he; simp at he), ?_⟩
  refine Goes.step rfl (fun _ h₁ => ?_)
  replace hF := hF.at h₁
  clear h₁
  rw [stepG_skip]
  simp only [goes_go]
  refine ⟨DF.none (by intro e he; simp at he), ?_⟩
  refine Goes.stop (fun w₁ h₁ => ⟨(hF.at h₁).sz, law6_or (row := row) (place := place) (p := p) (B := B) ⟨by simp, by simp, by simp, by simp, by simp⟩ ⟨(hF.at h₁).kf, Nat.le_refl _⟩ fun T' w' hT' hF' => law6_and hT' ⟨hF'.kf, Nat.le_refl _⟩ fun T2 w2 hT2 hF2 => law6_end (B := B) (by omega) ?_ ⟨hF2.kf, Nat.le_refl _⟩⟩)
  have := hBh.out
  unfold inAll at this
  rwa [this] at hT2
theorem lawStretched (a : Option Addr) (len cap : Nat) (zs : List Int) (h : IsRow .u8 W a len cap zs) :
    BW Try.prog 1 (fun _ => False) (G (Frame.enter Try.prog 6 #[.slice a len cap] .normal) []) W (EndAt Try.prog (DoneT W)) := by
  by_cases hl : 1048576 < len
  · exact lawStretched_big a len cap hl
  · exact lawStretched_in a len cap zs h hl
end
end Go.Proofs.Ytehmobcfbifocaa
