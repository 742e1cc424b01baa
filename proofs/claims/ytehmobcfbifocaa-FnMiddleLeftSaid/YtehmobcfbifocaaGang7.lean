/-
  The walk through (*WaitGroup).Wait with the stops of XGang1: between two stops a loop over the library's words. Made by gen_gang6.py.
-/
import Derived.Test.YtehmobcfbifocaaGang6
namespace Go.Proofs.Ytehmobcfbifocaa
open Go Go.Conc Go.ConcN Go.ConcN.Gen Go.ConcR.Gen Go.RowKit Go.Conc.Lib
open Go.ConcR (KK wgBlock WgAt stA smA rd wr mk Payload Aside2 DC0)
variable [Payload] {L : WgLink}

/-- Wait has let it go on: from here on it walks alone to where Wait was called. -/
def finW (P : Program) (F : World → Prop) (r : Goroutine) (g : Goroutine) (w : World) : Prop := ∃ m, Goes P true AtRel DC0 (fun g w => g = r ∧ F w) m g w

section
variable {X : Ph} {F : World → Prop} {b₀ : Frame} {a₀ : Act} {ops₀ : Array Oper} {i₀ : Nat} {rest₀ : List Nat} {k₀ : List Item} {cs : List Frame}
omit [Payload] in
theorem fa_at {Wg C : Nat} (hF2 : ∀ w w', Aside2 C Wg w w' → F w → F w') {w w₁ : World} (h : F w) (r : AtRel w w₁) : F w₁ := by
  obtain ⟨d, rfl⟩ := r
  exact hF2 w (w.at d) ⟨rfl, rfl, rfl, rfl, fun _ _ _ => rfl⟩ h

omit [Payload] in
set_option maxRecDepth 100000 in
set_option maxHeartbeats 16000000 in
/-- From the head of Wait's loop. -/
theorem wait_round (H : WgLib X.P L) (hty : X.ty = L.tWg) (hF2 : ∀ w w', Aside2 X.C X.Wg w w' → F w → F w')
    (g : Goroutine) (w : World) (h : AnchWN L F X.Wg (b₀.at a₀ (.inRegion ops₀ (i₀ :: rest₀) :: k₀)) cs g w) :
    thenJ X X.N (w1K X (finW X.P F (G (b₀.at (a₀.put ((ops₀[i₀]?).bind (·.dst)) (.tuple #[])) (.inRegion ops₀ rest₀ :: k₀)) cs)) (AnchWN L F X.Wg (b₀.at a₀ (.inRegion ops₀ (i₀ :: rest₀) :: k₀)) cs)) g w := by
  obtain ⟨P, ty, Wg, C, nC, j0, n, B, t0, Low, lot, rep, val, Own, Rd, ShA, Bad⟩ := X
  simp only at H hty hF2 h
  subst hty
  lib_facts
  obtain ⟨T, rfl, hT84, t0, hF⟩ := h
  obtain ⟨v0, v1, v2, v3, v4, v5, v6, v7, v8, v9, v10, v11, v12, v13, v14, v15, v16, v17, v18, v19, v20, v21, v22, v23, v24, v25, v26, v27, v28, v29, v30, v31, v32, v33, v34, v35, v36, v37, v38, v39, v40, v41, v42, v43, v44, v45, v46, v47, v48, v49, v50, v51, v52, v53, v54, v55, v56, v57, v58, v59, v60, v61, v62, v63, v64, v65, v66, v67, v68, v69, v70, v71, v72, v73, v74, v75, v76, v77, v78, v79, v80, v81, v82, v83, rfl⟩ := array84 T hT84
  simp only [List.getElem?_toArray, List.getElem?_cons_zero, Option.some.injEq] at t0
  subst t0
  refine ⟨30, ?_⟩
  unfold GP
  simp only [L7, body_wait, waitFn, Option.getD_some]
  u_c stepG_block (fl_rely hF2) hF
  u_c stepG_seq (fl_rely hF2) hF
  u_reg (fl_rely hF2) hF
  iterate 3 u_op (fl_rely hF2) hF
  u_call H.f_uLoad (nm_uLoad L) uLoadFn (fl_rely hF2) hF
  u_c stepG_seq (fl_rely hF2) hF
  u_reg (fl_rely hF2) hF
  u_op (fl_rely hF2) hF
  u_c stepG_region_end (fl_rely hF2) hF
  u_c stepG_seq (fl_rely hF2) hF
  u_reg (fl_rely hF2) hF
  iterate 3 u_op (fl_rely hF2) hF
  refine Goes.stop (fun w₁ h₁ => ?_)
  replace hF := fl_rely hF2 hF h₁
  clear h₁
  refine ⟨rfl, fun v hv hw => ?_⟩
  rcases Nat.eq_zero_or_pos v with rfl | hvp
  · replace hw : WgAt L.tWg Wg w₁ 0 0 := by simpa using hw
    refine ⟨_, stepG_load_atomic (v := 0) rfl rfl (by k_ne) rfl H.f_loadU64 (x_loadU64_n L) (x_loadU64_b L) (x_loadU64_x L) .u64 (x_loadU64_f L) rfl hw.cellSt, fun _ => ⟨50, ?_⟩, fun h => absurd rfl h⟩
    clear hw
    walk_nrm
    u_op (fl_rely hF2) hF
    u_c stepG_region_end (fl_rely hF2) hF
    u_c stepG_ret' (fl_rely hF2) hF
    u_leave1 H.f_uLoad (fl_rely hF2) hF
    u_op (fl_rely hF2) hF
    u_c stepG_region_end (fl_rely hF2) hF
    u_c stepG_seq (fl_rely hF2) hF
    u_reg (fl_rely hF2) hF
    iterate 4 u_op (fl_rely hF2) hF
    u_c stepG_region_end (fl_rely hF2) hF
    u_c stepG_seq (fl_rely hF2) hF
    u_reg (fl_rely hF2) hF
    iterate 4 u_op (fl_rely hF2) hF
    u_c stepG_region_end (fl_rely hF2) hF
    iterate 2 u_c stepG_seq (fl_rely hF2) hF
    u_reg (fl_rely hF2) hF
    iterate 2 u_op (fl_rely hF2) hF
    u_c stepG_region_end (fl_rely hF2) hF
    u_cond true (fl_rely hF2) hF
    u_c stepG_seq (fl_rely hF2) hF
    u_cond true (fl_rely hF2) hF
    u_c stepG_seq (fl_rely hF2) hF
    u_reg (fl_rely hF2) hF
    refine Goes.stop (fun w₅ h₁ => ?_)
    replace hF := fl_rely hF2 hF h₁
    clear h₁
    refine ⟨rfl, _, stepG_mark0 .enable (by simp) rfl rfl (by k_ne) rfl H.f_enable (x_enable_n L) (x_enable_b L) (x_enable_x L) (x_enable_f L), 12, ?_⟩
    walk_nrm
    u_c stepG_region_end (fl_rely hF2) hF
    u_reg (fl_rely hF2) hF
    u_op (fl_rely hF2) hF
    u_conv H.underlying_tWgP H.room_tWg (WgLive.cell0 hF.2).choose_spec (fl_rely hF2) hF
    refine Goes.stop (fun w₆ h₁ => ?_)
    replace hF := fl_rely hF2 hF h₁
    clear h₁
    refine ⟨rfl, _, stepG_markAt .acquire (by simp) rfl rfl (by k_ne) rfl H.f_acquire (x_acquire_n L) (x_acquire_b L) (x_acquire_x L) (x_acquire_f L) (by simp [Act.eval, stA]), 20, ?_⟩
    replace hF := hF.1
    walk_nrm
    u_c stepG_region_end (fa_at hF2) hF
    iterate 2 u_c stepG_seq (fa_at hF2) hF
    u_reg (fa_at hF2) hF
    iterate 8 u_op (fa_at hF2) hF
    iterate 2 u_skip (fa_at hF2) hF
    u_op (fa_at hF2) hF
    u_c stepG_region_end (fa_at hF2) hF
    u_cond false (fa_at hF2) hF
    u_c stepG_skip (fa_at hF2) hF
    u_c stepG_ret' (fa_at hF2) hF
    u_leave0 H.f_wait (fa_at hF2) hF
    exact Goes.stop (fun w₉ h₉ => ⟨rfl, fa_at hF2 hF h₉⟩)
  · obtain ⟨S, hS⟩ : ∃ S : Int, (v : Int) * KK = S := ⟨_, rfl⟩
    have hW := word_of (V := (v : Int)) (by omega) (by omega) hS.symm
    obtain ⟨a1, b1, b2, c1, w1, q3, q4, q5, q6⟩ := hW
    rw [hS] at hw
    refine ⟨_, stepG_load_atomic (v := S) rfl rfl (by k_ne) rfl H.f_loadU64 (x_loadU64_n L) (x_loadU64_b L) (x_loadU64_x L) .u64 (x_loadU64_f L) rfl hw.cellSt, fun h0 => absurd h0 (by omega), fun _ => ⟨60, ?_⟩⟩
    clear hw
    walk_nrm
    u_op (fl_rely hF2) hF
    u_c stepG_region_end (fl_rely hF2) hF
    u_c stepG_ret' (fl_rely hF2) hF
    u_leave1 H.f_uLoad (fl_rely hF2) hF
    u_op (fl_rely hF2) hF
    u_c stepG_region_end (fl_rely hF2) hF
    u_c stepG_seq (fl_rely hF2) hF
    u_reg (fl_rely hF2) hF
    iterate 4 u_op (fl_rely hF2) hF
    u_c stepG_region_end (fl_rely hF2) hF
    u_c stepG_seq (fl_rely hF2) hF
    u_reg (fl_rely hF2) hF
    iterate 4 u_op (fl_rely hF2) hF
    u_c stepG_region_end (fl_rely hF2) hF
    iterate 2 u_c stepG_seq (fl_rely hF2) hF
    u_reg (fl_rely hF2) hF
    iterate 2 u_op (fl_rely hF2) hF
    u_c stepG_region_end (fl_rely hF2) hF
    u_cnd false (fl_rely hF2) hF
    u_c stepG_skip (fl_rely hF2) hF
    u_c stepG_seq (fl_rely hF2) hF
    u_reg (fl_rely hF2) hF
    iterate 6 u_op (fl_rely hF2) hF
    u_call H.f_uCas (nm_uCas L) uCasFn (fl_rely hF2) hF
    u_c stepG_seq (fl_rely hF2) hF
    u_reg (fl_rely hF2) hF
    u_op (fl_rely hF2) hF
    u_c stepG_region_end (fl_rely hF2) hF
    u_c stepG_seq (fl_rely hF2) hF
    u_reg (fl_rely hF2) hF
    iterate 5 u_op (fl_rely hF2) hF
    refine Goes.stop (fun w₂ h₁ => ?_)
    replace hF := fl_rely hF2 hF h₁
    clear h₁
    refine ⟨rfl, fun v' hv' hw => ⟨fun e => ?_, fun e => ?_⟩⟩
    · subst e
      rw [hS] at hw ⊢
      refine ⟨_, (stepG_cas_hit (v := S) (n := S + 1) rfl rfl (by k_ne) rfl H.f_casU64 (x_casU64_n L) (x_casU64_b L) (x_casU64_x L) .u64 (x_casU64_f L) rfl rfl rfl hw.cellSt (hw.thaw 0)).trans (by rfl), 70, ?_⟩
      replace hF : F (w₂.setCell (stA Wg) (.int .u64 (S + 1))) ∧ WgLive L.tWg Wg (w₂.setCell (stA Wg) (.int .u64 (S + 1))) := ⟨hF2 _ _ (.of_Wg (aside_setCell w₂ (stA Wg) _)) hF.1, ⟨_, _, hw.setSt _⟩⟩
      clear hw
      walk_nrm
      u_op (fl_rely hF2) hF
      u_c stepG_region_end (fl_rely hF2) hF
      u_c stepG_ret' (fl_rely hF2) hF
      u_leave1 H.f_uCas (fl_rely hF2) hF
      u_c stepG_region_end (fl_rely hF2) hF
      u_cond true (fl_rely hF2) hF
      iterate 2 u_c stepG_seq (fl_rely hF2) hF
      u_reg (fl_rely hF2) hF
      iterate 4 u_op (fl_rely hF2) hF
      u_c stepG_region_end (fl_rely hF2) hF
      u_cond true (fl_rely hF2) hF
      u_reg (fl_rely hF2) hF
      iterate 3 u_op (fl_rely hF2) hF
      u_conv H.underlying_tPU32 H.room_tU32 (WgLive.cell1 hF.2).choose_spec (fl_rely hF2) hF
      u_wrn (fl_rely hF2) hF
      u_c stepG_region_end (fl_rely hF2) hF
      u_c stepG_seq (fl_rely hF2) hF
      u_reg (fl_rely hF2) hF
      u_op (fl_rely hF2) hF
      u_c stepG_region_end (fl_rely hF2) hF
      iterate 2 u_c stepG_seq (fl_rely hF2) hF
      u_reg (fl_rely hF2) hF
      iterate 4 u_op (fl_rely hF2) hF
      u_skip (fl_rely hF2) hF
      u_op (fl_rely hF2) hF
      u_c stepG_region_end (fl_rely hF2) hF
      u_cond false (fl_rely hF2) hF
      u_c stepG_skip (fl_rely hF2) hF
      u_c stepG_seq (fl_rely hF2) hF
      u_reg (fl_rely hF2) hF
      iterate 4 u_op (fl_rely hF2) hF
      refine Goes.stop (fun w₃ h₁ => ?_)
      replace hF := fl_rely hF2 hF h₁
      clear h₁
      refine ⟨rfl, rfl, fun ⟨st, hw⟩ => stepG_semacquire_wait rfl rfl rfl H.f_semacquire (x_semacquire_n L) (x_semacquire_b L) (x_semacquire_x L) (x_semacquire_f L) (by simp [Act.eval, smA]) hw.cellSm, fun hf => ?_⟩
      refine ⟨_, (stepG_semacquire (n := 1) rfl rfl (by k_ne) rfl H.f_semacquire (x_semacquire_n L) (x_semacquire_b L) (x_semacquire_x L) (x_semacquire_f L) (by simp [Act.eval, smA]) hf.cellSm (by k_ne) (hf.thaw 1)).trans (by rfl), 30, ?_⟩
      replace hF : F (w₃.setCell (smA Wg) (.int .u32 0)) ∧ WgLive L.tWg Wg (w₃.setCell (smA Wg) (.int .u32 0)) := ⟨hF2 _ _ (.of_Wg (aside_setCell w₃ (smA Wg) _)) hF.1, ⟨_, _, hf.setSm 0⟩⟩
      clear hf
      walk_nrm
      u_c stepG_region_end (fl_rely hF2) hF
      u_c stepG_seq (fl_rely hF2) hF
      u_reg (fl_rely hF2) hF
      iterate 3 u_op (fl_rely hF2) hF
      u_call H.f_uLoad (nm_uLoad L) uLoadFn (fl_rely hF2) hF
      u_c stepG_seq (fl_rely hF2) hF
      u_reg (fl_rely hF2) hF
      u_op (fl_rely hF2) hF
      u_c stepG_region_end (fl_rely hF2) hF
      u_c stepG_seq (fl_rely hF2) hF
      u_reg (fl_rely hF2) hF
      iterate 3 u_op (fl_rely hF2) hF
      refine Goes.stop (fun w₄ h₁ => ?_)
      replace hF := fl_rely hF2 hF h₁
      clear h₁
      refine ⟨rfl, fun hw => ⟨_, stepG_load_atomic (v := 0) rfl rfl (by k_ne) rfl H.f_loadU64 (x_loadU64_n L) (x_loadU64_b L) (x_loadU64_x L) .u64 (x_loadU64_f L) rfl hw.cellSt, 30, ?_⟩⟩
      clear hw
      walk_nrm
      u_op (fl_rely hF2) hF
      u_c stepG_region_end (fl_rely hF2) hF
      u_c stepG_ret' (fl_rely hF2) hF
      u_leave1 H.f_uLoad (fl_rely hF2) hF
      iterate 2 u_op (fl_rely hF2) hF
      u_c stepG_region_end (fl_rely hF2) hF
      u_c stepG_seq (fl_rely hF2) hF
      u_cond true (fl_rely hF2) hF
      u_c stepG_seq (fl_rely hF2) hF
      u_reg (fl_rely hF2) hF
      refine Goes.stop (fun w₅ h₁ => ?_)
      replace hF := fl_rely hF2 hF h₁
      clear h₁
      refine ⟨rfl, _, stepG_mark0 .enable (by simp) rfl rfl (by k_ne) rfl H.f_enable (x_enable_n L) (x_enable_b L) (x_enable_x L) (x_enable_f L), 12, ?_⟩
      walk_nrm
      u_c stepG_region_end (fl_rely hF2) hF
      u_reg (fl_rely hF2) hF
      u_op (fl_rely hF2) hF
      u_conv H.underlying_tWgP H.room_tWg (WgLive.cell0 hF.2).choose_spec (fl_rely hF2) hF
      refine Goes.stop (fun w₆ h₁ => ?_)
      replace hF := fl_rely hF2 hF h₁
      clear h₁
      refine ⟨rfl, _, stepG_markAt .acquire (by simp) rfl rfl (by k_ne) rfl H.f_acquire (x_acquire_n L) (x_acquire_b L) (x_acquire_x L) (x_acquire_f L) (by simp [Act.eval, stA]), 20, ?_⟩
      replace hF := hF.1
      walk_nrm
      u_c stepG_region_end (fa_at hF2) hF
      iterate 2 u_c stepG_seq (fa_at hF2) hF
      u_reg (fa_at hF2) hF
      u_op (fa_at hF2) hF
      u_c stepG_region_end (fa_at hF2) hF
      u_cond false (fa_at hF2) hF
      u_c stepG_skip (fa_at hF2) hF
      u_c stepG_ret' (fa_at hF2) hF
      u_leave0 H.f_wait (fa_at hF2) hF
      exact Goes.stop (fun w₉ h₉ => ⟨rfl, fa_at hF2 hF h₉⟩)
    · refine ⟨_, stepG_cas_miss (v := (v' : Int) * KK) (old := S) (n := S + 1) rfl rfl (by k_ne) rfl H.f_casU64 (x_casU64_n L) (x_casU64_b L) (x_casU64_x L) .u64 (x_casU64_f L) rfl rfl rfl hw.cellSt (hw.thaw 0) (by rw [← hS]; simp only [KK]; omega), 20, ?_⟩
      clear hw
      walk_nrm
      u_op (fl_rely hF2) hF
      u_c stepG_region_end (fl_rely hF2) hF
      u_c stepG_ret' (fl_rely hF2) hF
      u_leave1 H.f_uCas (fl_rely hF2) hF
      u_c stepG_region_end (fl_rely hF2) hF
      u_cond false (fl_rely hF2) hF
      u_c stepG_skip (fl_rely hF2) hF
      u_c stepG_inBlock (fl_rely hF2) hF
      u_c stepG_inLoop (fl_rely hF2) hF
      refine Goes.stop (fun w₃ h₁ => ?_)
      replace hF := fl_rely hF2 hF h₁
      clear h₁
      exact ⟨_, rfl, by simp, by simp, hF⟩

omit [Payload] in
set_option maxRecDepth 100000 in
/-- From Wait's entry to the head of its loop. -/
theorem wait_start (H : WgLib X.P L) (hty : X.ty = L.tWg) (hF2 : ∀ w w', Aside2 X.C X.Wg w w' → F w → F w') (w : World) (hF : F w ∧ WgLive L.tWg X.Wg w) :
    GP X X.N (kdK X (AnchWN L F X.Wg (b₀.at a₀ (.inRegion ops₀ (i₀ :: rest₀) :: k₀)) cs)) 3 (G ((base L.wait).at ⟨#[.pointer (some ⟨X.Wg, 0, none⟩), undef, undef, undef, undef, undef, undef, undef, undef, undef, undef, undef, undef, undef, undef, undef, undef, undef, undef, undef, undef, undef, undef, undef, undef, undef, undef, undef, undef, undef, undef, undef, undef, undef, undef, undef, undef, undef, undef, undef, undef, undef, undef, undef, undef, undef, undef, undef, undef, undef, undef, undef, undef, undef, undef, undef, undef, undef, undef, undef, undef, undef, undef, undef, undef, undef, undef, undef, undef, undef, undef, undef, undef, undef, undef, undef, undef, undef, undef, undef, undef, undef, undef, undef], []⟩ [.code (body_wait L)]) (b₀.at a₀ (.inRegion ops₀ (i₀ :: rest₀) :: k₀) :: cs)) w := by
  obtain ⟨P, ty, Wg, C, nC, j0, n, B, t0, Low, lot, rep, val, Own, Rd, ShA, Bad⟩ := X
  simp only at H hty hF2 hF
  subst hty
  lib_facts
  unfold GP
  simp only [body_wait, waitFn, Option.getD_some]
  u_c stepG_seq (fl_rely hF2) hF
  u_cond true (fl_rely hF2) hF
  u_reg (fl_rely hF2) hF
  refine Goes.stop (fun w₁ h₁ => ?_)
  replace hF := fl_rely hF2 hF h₁
  clear h₁
  refine ⟨rfl, _, stepG_mark0 .disable (by simp) rfl rfl (by k_ne) rfl H.f_disable (x_disable_n L) (x_disable_b L) (x_disable_x L) (x_disable_f L), 3, ?_⟩
  walk_nrm
  u_c stepG_region_end (fl_rely hF2) hF
  u_c stepG_block (fl_rely hF2) hF
  u_c stepG_loop (fl_rely hF2) hF
  exact Goes.stop (fun w₂ h₂ => ⟨_, rfl, by simp, by simp, fl_rely hF2 hF h₂⟩)
end
end Go.Proofs.Ytehmobcfbifocaa
