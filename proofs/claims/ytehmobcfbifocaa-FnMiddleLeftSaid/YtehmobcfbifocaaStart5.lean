/-
  The starter of sumInLots: the loop that starts the workers, by induction on how many lots are still to be started.
-/
import Derived.Test.YtehmobcfbifocaaStart4
namespace Go.Proofs.Ytehmobcfbifocaa
open Go Go.Conc Go.ConcN Go.RowKit Go.Conc.Lib Go.ConcR.Gen Go.ConcN.Gen
open Go.ConcR (KK wgBlock WgAt stA smA rd wr mk Payload Aside2 DC0 ofEvent_cell)

section
variable {S : StP} {W w w₁ : World} {k : Nat} {cs : List Frame}
theorem gp_of {K : Goroutine → World → Prop} {m : Nat} {g : Goroutine} (h : Goes Try.prog true (RC wgl.tWg (S.N0 + 3) S.C) (DP (S.N0 + 3) (ownX S.ph) (rdX S.ph) (S.j0 + k + 1) (S.N0 + 4 + k)) K m g w) : GP S.ph (S.j0 + k) K m g w := by
  have e : S.ph.Low (S.j0 + k) = S.N0 + 4 + k := by
    show S.N0 + 4 + (S.j0 + k - S.j0) = _
    omega
  unfold GP
  rw [e]
  exact h
theorem of_gp {K : Goroutine → World → Prop} {m : Nat} {g : Goroutine} (h : GP S.ph (S.j0 + k) K m g w) : Goes Try.prog true (RC wgl.tWg (S.N0 + 3) S.C) (DP (S.N0 + 3) (ownX S.ph) (rdX S.ph) (S.j0 + k + 1) (S.N0 + 4 + k)) K m g w := by
  have e : S.ph.Low (S.j0 + k) = S.N0 + 4 + k := by
    show S.N0 + 4 + (S.j0 + k - S.j0) = _
    omega
  unfold GP at h
  rw [e] at h
  exact h
theorem rl39 (F : S.Fit) (h : SF S W k w ∧ WgLive wgl.tWg (S.N0 + 3) w) (r : RC wgl.tWg (S.N0 + 3) S.C w w₁) : SF S W k w₁ ∧ WgLive wgl.tWg (S.N0 + 3) w₁ := ⟨h.1.aside2 F r.aside, r.live h.2⟩
theorem SF.cf (h : SF S W k w) : w.cell? ⟨S.N0 + 4 + k, 0, none⟩ = some (.int .i64 (64 * k : Nat)) := cell_one (h.f k (Nat.le_refl k))
theorem SF.cc (h : SF S W k w) : w.cell? ⟨S.N0, 0, none⟩ = some (.slice (some ⟨S.C, 0, none⟩) S.n S.capC) := cell_one h.c

set_option maxRecDepth 100000 in
set_option maxHeartbeats 8000000 in
/-- All are started: into Wait. -/
theorem start_end (F : S.Fit) (t8 t9 t10 t11 t12 t13 t14 t15 t16 t17 : Value) (w : World) (hF : SF S W S.lots w ∧ WgLive wgl.tWg (S.N0 + 3) w) :
    GP S.ph S.ph.N (kdK S.ph (Anch39 S W cs)) 20 (G ((base 39).at ⟨T39 S S.lots t8 t9 t10 t11 t12 t13 t14 t15 t16 t17, []⟩ [.code L39, .inLoop L39, .inBlock 0, .code R39]) cs) w := by
  have hl := S.lots_spec F
  have hB : S.N0 + 4 + S.lots < S.B := by unfold StP.B; omega
  have hlt : ¬ (((64 * S.lots : Nat) : Int) < (S.n : Int)) := by omega
  have hA := fun (t8 t9 t10 t11 t12 t13 t14 t15 t16 t17 : Value) => wait_start (X := S.ph) (L := wgl) (F := SF S W S.lots) (b₀ := base 39) (a₀ := ⟨T39 S S.lots t8 t9 t10 t11 t12 t13 t14 t15 t16 t17, []⟩) (ops₀ := ops39) (i₀ := 0) (rest₀ := []) (k₀ := []) (cs := cs) wgLib rfl (sf2 F)
  have hAn := fun (t8 t9 t10 t11 t12 t13 t14 t15 t16 t17 : Value) (g : Goroutine) (w : World) (h : AnchWN wgl (SF S W S.lots) (S.N0 + 3) (fr39 S t8 t9 t10 t11 t12 t13 t14 t15 t16 t17) cs g w) => (show Anch39 S W cs g w from ⟨t8, t9, t10, t11, t12, t13, t14, t15, t16, t17, h⟩)
  refine gp_of (k := S.lots) ?_
  simp only [L39, R39, ops39, opsOf, lastPart, firstLoop, body_wait, Try.f39, waitFn, Option.getD_some] at hA hAn ⊢
  u_c stepG_seq (rl39 F) hF
  u_c stepG_seq (rl39 F) hF
  u_reg (rl39 F) hF
  u_in (rl39 F) hF
  refine goes_oper_k rfl rfl (by decide) (fun Kx hKx => ?_)
  have hz := hF.1.cf
  go_simp
  refine hKx _ _ ⟨⟨fun _ _ => rfl, fun e he => ?_⟩, ?_⟩
  · have hm := mem_listed he
    simp [go_sem, *] at hm
    subst hm
    exact S.ev0_rd F (by omega) hB (by omega) _
  clear hKx Kx hz
  u_in (rl39 F) hF
  refine goes_oper_k rfl rfl (by decide) (fun Kx hKx => ?_)
  have hz := hF.1.cc
  go_simp
  refine hKx _ _ ⟨⟨fun _ _ => rfl, fun e he => ?_⟩, ?_⟩
  · have hm := mem_listed he
    simp [go_sem, *] at hm
    subst hm
    exact S.ev0_rd F (by omega) (by omega) (by omega) _
  clear hKx Kx hz
  u_op (rl39 F) hF
  u_op (rl39 F) hF
  u_c stepG_region_end (rl39 F) hF
  u_cnd false (rl39 F) hF
  u_exit (rl39 F) hF
  u_reg (rl39 F) hF
  u_in (rl39 F) hF
  refine goes_call rfl rfl (by decide) rfl Try.func45 (nm_wait wgl) rfl ⟨by u_nil, ?_⟩
  walk_nrmf Try.f45
  exact (goes_mono (fun _ _ h => sayK_mono (fun _ _ h => thenJ_mono (hAn _ _ _ _ _ _ _ _ _ _) h) h) (of_gp (k := S.lots) (hA _ _ _ _ _ _ _ _ _ _ _ hF))).mono (by omega)
end
end Go.Proofs.Ytehmobcfbifocaa
