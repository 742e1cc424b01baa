/-
  The walk through (*WaitGroup).Add by one with the stops of XGang1: between two stops a loop over the library's words. Made by gen_gang6.py.
-/
import Derived.Test.YtehmobcfbifocaaGang6
namespace Go.Proofs.Ytehmobcfbifocaa
open Go Go.Conc Go.ConcN Go.ConcN.Gen Go.ConcR.Gen Go.RowKit Go.Conc.Lib
open Go.ConcR (KK wgBlock WgAt stA smA rd wr mk Payload Aside2 DC0)
variable [Payload] {L : WgLink}

section
variable {X : Ph} {F : World → Prop} {b₀ : Frame} {a₀ : Act} {ops₀ : Array Oper} {i₀ : Nat} {rest₀ : List Nat} {k₀ : List Item} {cs : List Frame} {J : Nat}

omit [Payload] in
set_option maxRecDepth 100000 in
set_option maxHeartbeats 16000000 in
theorem add_one (H : WgLib X.P L) (hty : X.ty = L.tWg) (hF2 : ∀ w w', Aside2 X.C X.Wg w w' → F w → F w') {K : Goroutine → World → Prop}
    (hT : ∀ w, F w → WgLive L.tWg X.Wg w → thenJ X J K (G (b₀.at (a₀.put ((ops₀[i₀]?).bind (·.dst)) (.tuple #[])) (.inRegion ops₀ rest₀ :: k₀)) cs) w)
    (w : World) (hF : F w ∧ WgLive L.tWg X.Wg w) :
    GP X J (sayK X (mk .disable) (thenJ X J (addK X (thenJ X J (sayK X (mk .enable) (thenJ X J K)))))) 12
      (G ((base L.add).at ⟨#[.pointer (some ⟨X.Wg, 0, none⟩), .int .i64 1, undef, undef, undef, undef, undef, undef, undef, undef, undef, undef, undef, undef, undef, undef, undef, undef, undef, undef, undef, undef, undef, undef, undef, undef, undef, undef, undef, undef, undef, undef, undef, undef, undef, undef, undef, undef, undef, undef, undef, undef, undef, undef, undef, undef, undef, undef, undef, undef, undef, undef, undef, undef, undef, undef, undef, undef, undef, undef, undef, undef, undef, undef, undef, undef, undef, undef, undef, undef, undef, undef, undef, undef, undef, undef, undef, undef, undef, undef, undef, undef, undef, undef, undef, undef, undef, undef, undef, undef, undef, undef, undef, undef, undef, undef, undef, undef, undef, undef, undef, undef, undef, undef, undef, undef, undef, undef, undef, undef, undef, undef, undef, undef, undef, undef, undef], []⟩ [.code (body_add L)]) (b₀.at a₀ (.inRegion ops₀ (i₀ :: rest₀) :: k₀) :: cs)) w := by
  obtain ⟨P, ty, Wg, C, nC, j0, n, B, t0, Low, lot, rep, val, Own, Rd, ShA, Bad⟩ := X
  simp only at H hty hF2 hF hT
  subst hty
  lib_facts
  unfold GP
  simp only [body_add, addFn, Option.getD_some]
  u_c stepG_seq (fl_rely hF2) hF
  u_cond true (fl_rely hF2) hF
  iterate 2 u_c stepG_seq (fl_rely hF2) hF
  u_reg (fl_rely hF2) hF
  iterate 2 u_op (fl_rely hF2) hF
  u_c stepG_region_end (fl_rely hF2) hF
  u_cond false (fl_rely hF2) hF
  u_c stepG_skip (fl_rely hF2) hF
  u_c stepG_seq (fl_rely hF2) hF
  u_reg (fl_rely hF2) hF
  refine Goes.stop (fun w₁ h₁ => ?_)
  replace hF := fl_rely hF2 hF h₁
  clear h₁
  refine ⟨rfl, _, stepG_mark0 .disable (by simp) rfl rfl (by k_ne) rfl H.f_disable (x_disable_n L) (x_disable_b L) (x_disable_x L) (x_disable_f L), 40, ?_⟩
  walk_nrm
  u_c stepG_region_end (fl_rely hF2) hF
  u_reg (fl_rely hF2) hF
  u_defer (fl_rely hF2) hF
  u_c stepG_region_end (fl_rely hF2) hF
  u_c stepG_seq (fl_rely hF2) hF
  u_reg (fl_rely hF2) hF
  u_op (fl_rely hF2) hF
  u_c stepG_region_end (fl_rely hF2) hF
  iterate 2 u_c stepG_seq (fl_rely hF2) hF
  u_reg (fl_rely hF2) hF
  u_bub (fl_rely hF2) hF
  u_c stepG_region_end (fl_rely hF2) hF
  u_cond false (fl_rely hF2) hF
  u_c stepG_skip (fl_rely hF2) hF
  u_c stepG_seq (fl_rely hF2) hF
  u_reg (fl_rely hF2) hF
  iterate 6 u_op (fl_rely hF2) hF
  u_call H.f_uAdd (nm_uAdd L) uAddFn (fl_rely hF2) hF
  u_c stepG_seq (fl_rely hF2) hF
  u_reg (fl_rely hF2) hF
  u_op (fl_rely hF2) hF
  u_c stepG_region_end (fl_rely hF2) hF
  u_c stepG_seq (fl_rely hF2) hF
  u_reg (fl_rely hF2) hF
  iterate 4 u_op (fl_rely hF2) hF
  refine Goes.stop (fun w₂ h₁ => ?_)
  replace hF := fl_rely hF2 hF h₁
  clear h₁
  refine ⟨rfl, fun v hv hw => ?_⟩
  rcases Nat.eq_zero_or_pos v with rfl | hvp
  · replace hw : WgAt L.tWg Wg w₂ 0 0 := by simpa using hw
    have z : (((0 : Nat) : Int) + 1) * KK = KK := by simp
    rw [z]
    have e0 : IntKind.u64.wrap (0 + 4294967296) = KK := by decide
    refine ⟨_, (stepG_add_atomic rfl rfl (by k_ne) rfl H.f_addU64 (x_addU64_n L) (x_addU64_b L) (x_addU64_x L) .u64 (x_addU64_f L) rfl rfl hw.cellSt (hw.thaw 0)).trans (by rw [e0]; rfl), 110, ?_⟩
    replace hF : F (w₂.setCell (stA Wg) (.int .u64 KK)) ∧ WgLive L.tWg Wg (w₂.setCell (stA Wg) (.int .u64 KK)) := ⟨hF2 _ _ (.of_Wg (aside_setCell w₂ (stA Wg) _)) hF.1, ⟨_, _, hw.setSt _⟩⟩
    clear hw
    simp only [KK] at hF ⊢
    walk_nrm
    u_op (fl_rely hF2) hF
    u_c stepG_region_end (fl_rely hF2) hF
    u_c stepG_ret' (fl_rely hF2) hF
    u_leave1 H.f_uAdd (fl_rely hF2) hF
    u_op (fl_rely hF2) hF
    u_c stepG_region_end (fl_rely hF2) hF
    iterate 2 u_c stepG_seq (fl_rely hF2) hF
    u_reg (fl_rely hF2) hF
    iterate 4 u_op (fl_rely hF2) hF
    iterate 2 u_skip (fl_rely hF2) hF
    u_op (fl_rely hF2) hF
    u_c stepG_region_end (fl_rely hF2) hF
    u_cond false (fl_rely hF2) hF
    u_c stepG_skip (fl_rely hF2) hF
    u_c stepG_seq (fl_rely hF2) hF
    u_reg (fl_rely hF2) hF
    iterate 4 u_op (fl_rely hF2) hF
    u_c stepG_region_end (fl_rely hF2) hF
    u_c stepG_seq (fl_rely hF2) hF
    u_reg (fl_rely hF2) hF
    iterate 4 u_op (fl_rely hF2) hF
    u_c stepG_region_end (fl_rely hF2) hF
    iterate 2 u_c stepG_seq (fl_rely hF2) hF
    u_reg (fl_rely hF2) hF
    iterate 10 u_op (fl_rely hF2) hF
    u_c stepG_region_end (fl_rely hF2) hF
    u_cond true (fl_rely hF2) hF
    u_reg (fl_rely hF2) hF
    iterate 3 u_op (fl_rely hF2) hF
    u_conv H.underlying_tPU32 H.room_tU32 (WgLive.cell1 hF.2).choose_spec (fl_rely hF2) hF
    u_in (fl_rely hF2) hF
    rw [stepG_markAt .read (by simp) rfl rfl (by k_ne) rfl H.f_raceRead (x_raceRead_n L) (x_raceRead_b L) (x_raceRead_x L) (x_raceRead_f L) (ad := ⟨Wg, 1, none⟩) (by simp [Act.eval])]
    simp only [goes_go]
    refine ⟨⟨fun _ _ => rfl, fun e he => ?_⟩, ?_⟩
    · rw [Array.mem_singleton] at he
      subst he
      exact ev0_said_read _ rfl
    walk_nrm
    u_c stepG_region_end (fl_rely hF2) hF
    iterate 2 u_c stepG_seq (fl_rely hF2) hF
    u_reg (fl_rely hF2) hF
    iterate 2 u_op (fl_rely hF2) hF
    u_c stepG_region_end (fl_rely hF2) hF
    u_cond false (fl_rely hF2) hF
    u_c stepG_skip (fl_rely hF2) hF
    iterate 2 u_c stepG_seq (fl_rely hF2) hF
    u_reg (fl_rely hF2) hF
    iterate 3 u_op (fl_rely hF2) hF
    iterate 2 u_skip (fl_rely hF2) hF
    iterate 2 u_op (fl_rely hF2) hF
    iterate 4 u_skip (fl_rely hF2) hF
    u_op (fl_rely hF2) hF
    u_c stepG_region_end (fl_rely hF2) hF
    u_cond false (fl_rely hF2) hF
    u_c stepG_skip (fl_rely hF2) hF
    iterate 2 u_c stepG_seq (fl_rely hF2) hF
    u_reg (fl_rely hF2) hF
    iterate 3 u_op (fl_rely hF2) hF
    iterate 2 u_skip (fl_rely hF2) hF
    u_op (fl_rely hF2) hF
    u_c stepG_region_end (fl_rely hF2) hF
    u_cond true (fl_rely hF2) hF
    u_c stepG_ret' (fl_rely hF2) hF
    refine Goes.stop (fun w₃ h₁ => ?_)
    replace hF := fl_rely hF2 hF h₁
    clear h₁
    refine ⟨rfl, _, stepG_unwind_entry (v := .tuple #[]) (evs := #[mk .enable]) rfl H.f_enable (x_enable_n L) (x_enable_b L) (x_enable_x L) (x_enable_f L) (by simp [Extern.Race.none_]) (by simp [mk]) (by simp [mk]), ?_⟩
    obtain ⟨m, hm⟩ := hT w₃ hF.1 hF.2
    refine ⟨m + 1, ?_⟩
    unfold GP at hm ⊢
    refine Goes.step rfl (fun _ h₁ => ?_)
    replace hm := Goes.rely rc_trans hm h₁
    clear h₁
    refine goes_leave0 rfl rfl H.f_add rfl ⟨by u_nil, ?_⟩
    walk_nrm
    exact hm
  · obtain ⟨V, hV⟩ : ∃ V : Int, V = (v : Int) + 1 := ⟨_, rfl⟩
    obtain ⟨S, hS⟩ : ∃ S : Int, S = V * KK := ⟨_, rfl⟩
    have hV1 : 1 < V := by omega
    have hV2 : V < 2147483648 := by omega
    have eS : IntKind.u64.wrap ((v : Int) * KK + 4294967296) = S := by
      subst hS hV
      rw [IntKind.wrap_u64]
      simp only [KK]
      omega
    obtain ⟨a1, b1, b2, c1, _, q3, q4, q5, q6⟩ := word_of (V := V) (by omega) hV2 hS
    have q1 : (V == 1) = false := beq_false_of_ne (by omega)
    have q2 : decide (V = 1) = false := decide_eq_false (by omega)
    rw [← hV, ← hS]
    refine ⟨_, (stepG_add_atomic rfl rfl (by k_ne) rfl H.f_addU64 (x_addU64_n L) (x_addU64_b L) (x_addU64_x L) .u64 (x_addU64_f L) rfl rfl hw.cellSt (hw.thaw 0)).trans (by rw [eS]; rfl), 110, ?_⟩
    replace hF : F (w₂.setCell (stA Wg) (.int .u64 S)) ∧ WgLive L.tWg Wg (w₂.setCell (stA Wg) (.int .u64 S)) := ⟨hF2 _ _ (.of_Wg (aside_setCell w₂ (stA Wg) _)) hF.1, ⟨_, _, hw.setSt _⟩⟩
    clear hw hS hV eS
    walk_nrm
    u_op (fl_rely hF2) hF
    u_c stepG_region_end (fl_rely hF2) hF
    u_c stepG_ret' (fl_rely hF2) hF
    u_leave1 H.f_uAdd (fl_rely hF2) hF
    u_op (fl_rely hF2) hF
    u_c stepG_region_end (fl_rely hF2) hF
    iterate 2 u_c stepG_seq (fl_rely hF2) hF
    u_reg (fl_rely hF2) hF
    iterate 4 u_op (fl_rely hF2) hF
    iterate 2 u_skip (fl_rely hF2) hF
    u_op (fl_rely hF2) hF
    u_c stepG_region_end (fl_rely hF2) hF
    u_cnd false (fl_rely hF2) hF
    u_c stepG_skip (fl_rely hF2) hF
    u_c stepG_seq (fl_rely hF2) hF
    u_reg (fl_rely hF2) hF
    iterate 4 u_op (fl_rely hF2) hF
    u_c stepG_region_end (fl_rely hF2) hF
    u_c stepG_seq (fl_rely hF2) hF
    u_reg (fl_rely hF2) hF
    iterate 4 u_op (fl_rely hF2) hF
    u_c stepG_region_end (fl_rely hF2) hF
    iterate 2 u_c stepG_seq (fl_rely hF2) hF
    u_reg (fl_rely hF2) hF
    iterate 10 u_op (fl_rely hF2) hF
    u_c stepG_region_end (fl_rely hF2) hF
    u_cnd false (fl_rely hF2) hF
    u_c stepG_skip (fl_rely hF2) hF
    iterate 2 u_c stepG_seq (fl_rely hF2) hF
    u_reg (fl_rely hF2) hF
    iterate 2 u_op (fl_rely hF2) hF
    u_c stepG_region_end (fl_rely hF2) hF
    u_cnd false (fl_rely hF2) hF
    u_c stepG_skip (fl_rely hF2) hF
    iterate 2 u_c stepG_seq (fl_rely hF2) hF
    u_reg (fl_rely hF2) hF
    iterate 3 u_op (fl_rely hF2) hF
    iterate 2 u_skip (fl_rely hF2) hF
    iterate 2 u_op (fl_rely hF2) hF
    iterate 4 u_skip (fl_rely hF2) hF
    u_op (fl_rely hF2) hF
    u_c stepG_region_end (fl_rely hF2) hF
    u_cnd false (fl_rely hF2) hF
    u_c stepG_skip (fl_rely hF2) hF
    iterate 2 u_c stepG_seq (fl_rely hF2) hF
    u_reg (fl_rely hF2) hF
    iterate 3 u_op (fl_rely hF2) hF
    iterate 2 u_skip (fl_rely hF2) hF
    u_op (fl_rely hF2) hF
    u_c stepG_region_end (fl_rely hF2) hF
    u_cnd true (fl_rely hF2) hF
    u_c stepG_ret' (fl_rely hF2) hF
    refine Goes.stop (fun w₃ h₁ => ?_)
    replace hF := fl_rely hF2 hF h₁
    clear h₁
    refine ⟨rfl, _, stepG_unwind_entry (v := .tuple #[]) (evs := #[mk .enable]) rfl H.f_enable (x_enable_n L) (x_enable_b L) (x_enable_x L) (x_enable_f L) (by simp [Extern.Race.none_]) (by simp [mk]) (by simp [mk]), ?_⟩
    obtain ⟨m, hm⟩ := hT w₃ hF.1 hF.2
    refine ⟨m + 1, ?_⟩
    unfold GP at hm ⊢
    refine Goes.step rfl (fun _ h₁ => ?_)
    replace hm := Goes.rely rc_trans hm h₁
    clear h₁
    refine goes_leave0 rfl rfl H.f_add rfl ⟨by u_nil, ?_⟩
    walk_nrm
    exact hm
end
end Go.Proofs.Ytehmobcfbifocaa
