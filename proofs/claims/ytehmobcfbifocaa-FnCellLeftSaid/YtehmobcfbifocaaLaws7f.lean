/-
  Chapter 7's law of CellLeft, walked beside goroutines that only leave: whole runs. Made by gen_laws7f.py.
-/
import Derived.Test.YtehmobcfbifocaaLawKit7
import Derived.Test.YtehmobcfbifocaaReadZ
import Derived.Test.YtehmobcfbifocaaRowY
namespace Go.Proofs.Ytehmobcfbifocaa
open Go Go.Conc Go.ConcN Go.RowKit Go.Conc.Lib Go.ConcR.Gen Go.ConcN.Gen
open Go.ConcR (KK wgBlock WgAt stA smA rd wr mk Payload Aside2 DC0 ofEvent_cell)

theorem nmd_DrawCellLeft : (Try.f13.name == "runtime.NumGoroutine") = false := by kernel_rfl
theorem nm_alive : (Try.f16.name == "runtime.NumGoroutine") = false := by kernel_rfl
theorem cellLV_out {row place by' : Int} (h : ¬ (0 ≤ row ∧ row ≤ 300 ∧ 0 ≤ place ∧ place ≤ row ∧ 2 ≤ by' ∧ by' ≤ 100000)) : cellLV row place by' = -1 := by
  unfold cellLV
  rw [if_neg h]
section
variable {W : World}
set_option maxRecDepth 100000 in
set_option maxHeartbeats 4000000 in
theorem lawCell_big (a : Option Addr) (len cap : Nat) (hl : 1048576 < len) :
    BW Try.prog 1 (fun _ => False) (G (Frame.enter Try.prog 3 #[.slice a len cap] .normal) []) W (EndAt Try.prog (DoneT W)) := by
  have hli : (1048576 : Int) < len := by omega
  have hF : KN W.heap.size W (fun _ => False) (fun _ => False) W := ⟨KF.refl (fun _ h => h.elim), Nat.le_refl _⟩
  rw [enter_at _ Try.func3 rfl]
  refine BW.walk 200 ?_
  walk_nrmf Try.f3
  refine Goes.step rfl (fun _ h₁ => ?_)
  replace hF := hF.at h₁
  clear h₁
  rw [stepG_seq]
  simp only [goes_go]
  refine ⟨DF.none (by intro e he; simp at he), ?_⟩
  refine Goes.step rfl (fun _ h₁ => ?_)
  replace hF := hF.at h₁
  clear h₁
  rw [stepG_region]
  simp only [goes_go, List.size_toArray, List.length_cons, List.length_nil, Nat.zero_add, List.range, List.range.loop]
  refine ⟨DF.none (by intro e he; simp at he), ?_⟩
  refine Goes.step rfl (fun _ h₁ => ?_)
  replace hF := hF.at h₁
  clear h₁
  refine goes_oper_k rfl rfl (by decide) (fun Kx hKx => ?_)
  go_simp
  refine hKx _ _ ⟨DF.none ?_, ?_⟩
  · intro e he
    have hm := mem_listed he
    simp [go_sem, *] at hm
  clear hKx Kx
  refine Goes.step rfl (fun _ h₁ => ?_)
  replace hF := hF.at h₁
  clear h₁
  rw [stepG_region_end]
  simp only [goes_go]
  refine ⟨DF.none (by intro e he; simp at he), ?_⟩
  refine Goes.step rfl (fun _ h₁ => ?_)
  replace hF := hF.at h₁
  clear h₁
  rw [stepG_seq]
  simp only [goes_go]
  refine ⟨DF.none (by intro e he; simp at he), ?_⟩
  refine Goes.step rfl (fun _ h₁ => ?_)
  replace hF := hF.at h₁
  clear h₁
  rw [stepG_seq]
  simp only [goes_go]
  refine ⟨DF.none (by intro e he; simp at he), ?_⟩
  refine Goes.step rfl (fun _ h₁ => ?_)
  replace hF := hF.at h₁
  clear h₁
  rw [stepG_region]
  simp only [goes_go, List.size_toArray, List.length_cons, List.length_nil, Nat.reduceAdd, Nat.zero_add, List.range, List.range.loop]
  refine ⟨DF.none (by intro e he; simp at he), ?_⟩
  refine Goes.step rfl (fun _ h₁ => ?_)
  replace hF := hF.at h₁
  clear h₁
  refine goes_oper_k rfl rfl (by decide) (fun Kx hKx => ?_)
  go_simp
  refine hKx _ _ ⟨DF.none ?_, ?_⟩
  · intro e he
    have hm := mem_listed he
    simp [go_sem, *] at hm
  clear hKx Kx
  refine Goes.step rfl (fun _ h₁ => ?_)
  replace hF := hF.at h₁
  clear h₁
  refine goes_oper_k rfl rfl (by decide) (fun Kx hKx => ?_)
  go_simp
  refine hKx _ _ ⟨DF.none ?_, ?_⟩
  · intro e he
    have hm := mem_listed he
    simp [go_sem, *] at hm
  clear hKx Kx
  refine Goes.step rfl (fun _ h₁ => ?_)
  replace hF := hF.at h₁
  clear h₁
  refine goes_oper_k rfl rfl (by decide) (fun Kx hKx => ?_)
  go_simp
  refine hKx _ _ ⟨DF.none ?_, ?_⟩
  · intro e he
    have hm := mem_listed he
    simp [go_sem, *] at hm
  clear hKx Kx
  refine Goes.step rfl (fun _ h₁ => ?_)
  replace hF := hF.at h₁
  clear h₁
  rw [stepG_region_end]
  simp only [goes_go]
  refine ⟨DF.none (by intro e he; simp at he), ?_⟩
  refine Goes.step rfl (fun _ h₁ => ?_)
  replace hF := hF.at h₁
  clear h₁
  rw [stepG_cond (t := true) (by first | rfl | (simp [Act.eval]; omega))]
  simp only [goes_go, ↓reduceIte]
  refine ⟨DF.none (by intro e he; simp at he), ?_⟩
  refine Goes.step rfl (fun _ h₁ => ?_)
  replace hF := hF.at h₁
  clear h₁
  rw [stepG_seq]
  simp only [goes_go]
  refine ⟨DF.none (by intro e he; simp at he), ?_⟩
  refine Goes.step rfl (fun _ h₁ => ?_)
  replace hF := hF.at h₁
  clear h₁
  rw [stepG_region]
  simp only [goes_go, List.size_toArray, List.length_cons, List.length_nil, Nat.zero_add, List.range, List.range.loop]
  refine ⟨DF.none (by intro e he; simp at he), ?_⟩
  refine Goes.step rfl (fun _ h₁ => ?_)
  replace hF := hF.at h₁
  clear h₁
  refine goes_oper_k rfl rfl (by decide) (fun Kx hKx => ?_)
  go_simp
  refine hKx _ _ ⟨DF.none ?_, ?_⟩
  · intro e he
    have hm := mem_listed he
    simp [go_sem, *] at hm
  clear hKx Kx
  refine Goes.step rfl (fun _ h₁ => ?_)
  replace hF := hF.at h₁
  clear h₁
  rw [stepG_region_end]
  simp only [goes_go]
  refine ⟨DF.none (by intro e he; simp at he), ?_⟩
  refine Goes.step rfl (fun _ h₁ => ?_)
  replace hF := hF.at h₁
  clear h₁
  rw [stepG_ret']
  simp only [goes_go]
  refine ⟨DF.none (by intro e he; simp at he), ?_⟩
  refine Goes.stop (fun w₁ h₁ => ⟨(hF.at h₁).sz, BW.now ⟨.bool true, rfl, fun w => (stepG_done1 (t := 2) rfl rfl Try.func3 rfl (by kernel_rfl) w).trans (by simp), fun w₂ h₂ => ⟨rfl, _, ((hF.at h₁).at h₂).kf⟩⟩⟩)
set_option maxRecDepth 100000 in
set_option maxHeartbeats 4000000 in
theorem lawCell_in (a : Option Addr) (len cap : Nat) (zs : List Int) (h : IsRow .u8 W a len cap zs) (hl : ¬ 1048576 < len) :
    BW Try.prog 1 (fun _ => False) (G (Frame.enter Try.prog 3 #[.slice a len cap] .normal) []) W (EndAt Try.prog (DoneT W)) := by
  have hli : ¬ (1048576 : Int) < len := by omega
  have hF : KN W.heap.size W (fun _ => False) (fun _ => False) W := ⟨KF.refl (fun _ h => h.elim), Nat.le_refl _⟩
  rw [enter_at _ Try.func3 rfl]
  refine BW.walk 200 ?_
  walk_nrmf Try.f3
  refine Goes.step rfl (fun _ h₁ => ?_)
  replace hF := hF.at h₁
  clear h₁
  rw [stepG_seq]
  simp only [goes_go]
  refine ⟨DF.none (by intro e he; simp at he), ?_⟩
  refine Goes.step rfl (fun _ h₁ => ?_)
  replace hF := hF.at h₁
  clear h₁
  rw [stepG_region]
  simp only [goes_go, List.size_toArray, List.length_cons, List.length_nil, Nat.zero_add, List.range, List.range.loop]
  refine ⟨DF.none (by intro e he; simp at he), ?_⟩
  refine Goes.step rfl (fun _ h₁ => ?_)
  replace hF := hF.at h₁
  clear h₁
  refine goes_oper_k rfl rfl (by decide) (fun Kx hKx => ?_)
  go_simp
  refine hKx _ _ ⟨DF.none ?_, ?_⟩
  · intro e he
    have hm := mem_listed he
    simp [go_sem, *] at hm
  clear hKx Kx
  refine Goes.step rfl (fun _ h₁ => ?_)
  replace hF := hF.at h₁
  clear h₁
  rw [stepG_region_end]
  simp only [goes_go]
  refine ⟨DF.none (by intro e he; simp at he), ?_⟩
  refine Goes.step rfl (fun _ h₁ => ?_)
  replace hF := hF.at h₁
  clear h₁
  rw [stepG_seq]
  simp only [goes_go]
  refine ⟨DF.none (by intro e he; simp at he), ?_⟩
  refine Goes.step rfl (fun _ h₁ => ?_)
  replace hF := hF.at h₁
  clear h₁
  rw [stepG_seq]
  simp only [goes_go]
  refine ⟨DF.none (by intro e he; simp at he), ?_⟩
  refine Goes.step rfl (fun _ h₁ => ?_)
  replace hF := hF.at h₁
  clear h₁
  rw [stepG_region]
  simp only [goes_go, List.size_toArray, List.length_cons, List.length_nil, Nat.reduceAdd, Nat.zero_add, List.range, List.range.loop]
  refine ⟨DF.none (by intro e he; simp at he), ?_⟩
  refine Goes.step rfl (fun _ h₁ => ?_)
  replace hF := hF.at h₁
  clear h₁
  refine goes_oper_k rfl rfl (by decide) (fun Kx hKx => ?_)
  go_simp
  refine hKx _ _ ⟨DF.none ?_, ?_⟩
  · intro e he
    have hm := mem_listed he
    simp [go_sem, *] at hm
  clear hKx Kx
  refine Goes.step rfl (fun _ h₁ => ?_)
  replace hF := hF.at h₁
  clear h₁
  refine goes_oper_k rfl rfl (by decide) (fun Kx hKx => ?_)
  go_simp
  refine hKx _ _ ⟨DF.none ?_, ?_⟩
  · intro e he
    have hm := mem_listed he
    simp [go_sem, *] at hm
  clear hKx Kx
  refine Goes.step rfl (fun _ h₁ => ?_)
  replace hF := hF.at h₁
  clear h₁
  refine goes_oper_k rfl rfl (by decide) (fun Kx hKx => ?_)
  go_simp
  refine hKx _ _ ⟨DF.none ?_, ?_⟩
  · intro e he
    have hm := mem_listed he
    simp [go_sem, *] at hm
  clear hKx Kx
  refine Goes.step rfl (fun _ h₁ => ?_)
  replace hF := hF.at h₁
  clear h₁
  rw [stepG_region_end]
  simp only [goes_go]
  refine ⟨DF.none (by intro e he; simp at he), ?_⟩
  refine Goes.step rfl (fun _ h₁ => ?_)
  replace hF := hF.at h₁
  clear h₁
  rw [stepG_cond (t := false) (by first | rfl | (simp [Act.eval]; omega))]
  simp only [goes_go, Bool.false_eq_true, ↓reduceIte]
  refine ⟨DF.none (by intro e he; simp at he), ?_⟩
  refine Goes.step rfl (fun _ h₁ => ?_)
  replace hF := hF.at h₁
  clear h₁
  rw [stepG_skip]
  simp only [goes_go]
  refine ⟨DF.none (by intro e he; simp at he), ?_⟩
  refine Goes.step rfl (fun _ h₁ => ?_)
  replace hF := hF.at h₁
  clear h₁
  rw [stepG_seq]
  simp only [goes_go]
  refine ⟨DF.none (by intro e he; simp at he), ?_⟩
  refine Goes.step rfl (fun _ h₁ => ?_)
  replace hF := hF.at h₁
  clear h₁
  rw [stepG_region]
  simp only [goes_go, List.size_toArray, List.length_cons, List.length_nil, Nat.reduceAdd, Nat.zero_add, List.range, List.range.loop]
  refine ⟨DF.none (by intro e he; simp at he), ?_⟩
  refine Goes.step rfl (fun _ h₁ => ?_)
  replace hF := hF.at h₁
  clear h₁
  refine goes_oper_k rfl rfl (by decide) (fun Kx hKx => ?_)
  go_simp
  refine hKx _ _ ⟨DF.none ?_, ?_⟩
  · intro e he
    have hm := mem_listed he
    simp [go_sem, *] at hm
  clear hKx Kx
  refine Goes.step rfl (fun _ h₁ => ?_)
  replace hF := hF.at h₁
  clear h₁
  refine goes_callF rfl rfl (by decide) rfl Try.func13 nmd_DrawCellLeft rfl ⟨DF.none (by intro e he; simp at he), ?_⟩
  walk_nrm
  refine Goes.stop (fun w₁ h₁ => ⟨(hF.at h₁).sz, ?_⟩)
  replace hF := hF.at h₁
  clear h₁
  refine (pureQ_beside kokD rfl (Q := fun v => ∃ x y z : Int, v = .tuple #[.int .i64 x, .int .i64 y, .int .i64 z]) (fun v hv => (drawCell v a len cap zs (isRow_at h hF.kf hv)).mono fun e w' x => let ⟨⟨x, y, z, _, _, _, he⟩, hB⟩ := x; ⟨_, ⟨x, y, z, rfl⟩, he, hB⟩) hF.kf.rows).bind fun c2 S2 g2 w2 hp => ?_
  have hpk := hp.kf
  obtain ⟨x, hx, hg⟩ := hp.eg
  obtain rfl := hp.ec
  obtain rfl := hp.eS
  subst hg
  clear hp
  replace hF := KN.mk (hF.kf.trans hpk) (Nat.le_refl _)
  clear hpk
  obtain ⟨row, place, by', rfl⟩ := hx
  obtain ⟨z, hz⟩ : ∃ z, cellLV row place by' = z := ⟨_, rfl⟩
  have hS := fun v => specCell row place by' v
  simp only [hz] at hS
  have hzh := hide hz
  clear hz
  rw [Frame.finish_at]
  refine BW.walk 300 ?_
  walk_nrm
  refine Goes.step rfl (fun _ h₁ => ?_)
  replace hF := hF.at h₁
  clear h₁
  refine goes_oper_k rfl rfl (by decide) (fun Kx hKx => ?_)
  go_simp
  refine hKx _ _ ⟨DF.none ?_, ?_⟩
  · intro e he
    have hm := mem_listed he
    simp [go_sem, *] at hm
  clear hKx Kx
  refine Goes.step rfl (fun _ h₁ => ?_)
  replace hF := hF.at h₁
  clear h₁
  refine goes_oper_k rfl rfl (by decide) (fun Kx hKx => ?_)
  go_simp
  refine hKx _ _ ⟨DF.none ?_, ?_⟩
  · intro e he
    have hm := mem_listed he
    simp [go_sem, *] at hm
  clear hKx Kx
  refine Goes.step rfl (fun _ h₁ => ?_)
  replace hF := hF.at h₁
  clear h₁
  refine goes_oper_k rfl rfl (by decide) (fun Kx hKx => ?_)
  go_simp
  refine hKx _ _ ⟨DF.none ?_, ?_⟩
  · intro e he
    have hm := mem_listed he
    simp [go_sem, *] at hm
  clear hKx Kx
  refine Goes.step rfl (fun _ h₁ => ?_)
  replace hF := hF.at h₁
  clear h₁
  refine goes_oper_k rfl rfl (by decide) (fun Kx hKx => ?_)
  go_simp
  refine hKx _ _ ⟨DF.none ?_, ?_⟩
  · intro e he
    have hm := mem_listed he
    simp [go_sem, *] at hm
  clear hKx Kx
  refine Goes.step rfl (fun _ h₁ => ?_)
  replace hF := hF.at h₁
  clear h₁
  refine goes_oper_k rfl rfl (by decide) (fun Kx hKx => ?_)
  go_simp
  refine hKx _ _ ⟨DF.none ?_, ?_⟩
  · intro e he
    have hm := mem_listed he
    simp [go_sem, *] at hm
  clear hKx Kx
  refine Goes.step rfl (fun _ h₁ => ?_)
  replace hF := hF.at h₁
  clear h₁
  refine goes_oper_k rfl rfl (by decide) (fun Kx hKx => ?_)
  go_simp
  refine hKx _ _ ⟨DF.none ?_, ?_⟩
  · intro e he
    have hm := mem_listed he
    simp [go_sem, *] at hm
  clear hKx Kx
  refine Goes.step rfl (fun _ h₁ => ?_)
  replace hF := hF.at h₁
  clear h₁
  refine goes_oper_k rfl rfl (by decide) (fun Kx hKx => ?_)
  go_simp
  refine hKx _ _ ⟨DF.none ?_, ?_⟩
  · intro e he
    have hm := mem_listed he
    simp [go_sem, *] at hm
  clear hKx Kx
  refine Goes.step rfl (fun _ h₁ => ?_)
  replace hF := hF.at h₁
  clear h₁
  rw [stepG_region_end]
  simp only [goes_go]
  refine ⟨DF.none (by intro e he; simp at he), ?_⟩
  refine Goes.step rfl (fun _ h₁ => ?_)
  replace hF := hF.at h₁
  clear h₁
  rw [stepG_seq]
  simp only [goes_go]
  refine ⟨DF.none (by intro e he; simp at he), ?_⟩
  refine Goes.step rfl (fun _ h₁ => ?_)
  replace hF := hF.at h₁
  clear h₁
  rw [stepG_region]
  simp only [goes_go, List.size_toArray, List.length_cons, List.length_nil, Nat.reduceAdd, Nat.zero_add, List.range, List.range.loop]
  refine ⟨DF.none (by intro e he; simp at he), ?_⟩
  refine Goes.step rfl (fun _ h₁ => ?_)
  replace hF := hF.at h₁
  clear h₁
  refine goes_oper_k rfl rfl (by decide) (fun Kx hKx => ?_)
  go_simp
  refine hKx _ _ ⟨DF.none ?_, ?_⟩
  · intro e he
    have hm := mem_listed he
    simp [go_sem, *] at hm
  clear hKx Kx
  refine Goes.step rfl (fun _ h₁ => ?_)
  replace hF := hF.at h₁
  clear h₁
  refine goes_oper_k rfl rfl (by decide) (fun Kx hKx => ?_)
  go_simp
  refine hKx _ _ ⟨DF.none ?_, ?_⟩
  · intro e he
    have hm := mem_listed he
    simp [go_sem, *] at hm
  clear hKx Kx
  refine Goes.step rfl (fun _ h₁ => ?_)
  replace hF := hF.at h₁
  clear h₁
  refine goes_oper_k rfl rfl (by decide) (fun Kx hKx => ?_)
  go_simp
  refine hKx _ _ ⟨DF.none ?_, ?_⟩
  · intro e he
    have hm := mem_listed he
    simp [go_sem, *] at hm
  clear hKx Kx
  refine Goes.step rfl (fun _ h₁ => ?_)
  replace hF := hF.at h₁
  clear h₁
  refine goes_callF rfl rfl (by decide) rfl Try.func14 nm_CellLeft rfl ⟨DF.none (by intro e he; simp at he), ?_⟩
  walk_nrm
  refine Goes.stop (fun w₁ h₁ => ⟨(hF.at h₁).sz, ?_⟩)
  replace hF := hF.at h₁
  clear h₁
  refine (cellLeftIs (by omega) hzh.out hF.kf.rows).bind fun c2 S2 g2 w2 hp => ?_
  obtain ⟨hc2, rfl, hpk⟩ := hp
  replace hF := KN.mk (hF.kf.trans hpk) (Nat.le_refl _)
  clear hpk
  rw [Frame.finish_at]
  refine BW.walk 300 ?_
  walk_nrm
  refine Goes.step rfl (fun _ h₁ => ?_)
  replace hF := hF.at h₁
  clear h₁
  refine goes_oper_k rfl rfl (by decide) (fun Kx hKx => ?_)
  go_simp
  refine hKx _ _ ⟨DF.none ?_, ?_⟩
  · intro e he
    have hm := mem_listed he
    simp [go_sem, *] at hm
  clear hKx Kx
  refine Goes.step rfl (fun _ h₁ => ?_)
  replace hF := hF.at h₁
  clear h₁
  rw [stepG_region_end]
  simp only [goes_go]
  refine ⟨DF.none (by intro e he; simp at he), ?_⟩
  refine Goes.step rfl (fun _ h₁ => ?_)
  replace hF := hF.at h₁
  clear h₁
  rw [stepG_seq]
  simp only [goes_go]
  refine ⟨DF.none (by intro e he; simp at he), ?_⟩
  refine Goes.step rfl (fun _ h₁ => ?_)
  replace hF := hF.at h₁
  clear h₁
  rw [stepG_seq]
  simp only [goes_go]
  refine ⟨DF.none (by intro e he; simp at he), ?_⟩
  refine Goes.step rfl (fun _ h₁ => ?_)
  replace hF := hF.at h₁
  clear h₁
  rw [stepG_region]
  simp only [goes_go, List.size_toArray, List.length_cons, List.length_nil, Nat.reduceAdd, Nat.zero_add, List.range, List.range.loop]
  refine ⟨DF.none (by intro e he; simp at he), ?_⟩
  refine Goes.step rfl (fun _ h₁ => ?_)
  replace hF := hF.at h₁
  clear h₁
  refine goes_oper_k rfl rfl (by decide) (fun Kx hKx => ?_)
  go_simp
  refine hKx _ _ ⟨DF.none ?_, ?_⟩
  · intro e he
    have hm := mem_listed he
    simp [go_sem, *] at hm
  clear hKx Kx
  refine Goes.step rfl (fun _ h₁ => ?_)
  replace hF := hF.at h₁
  clear h₁
  refine goes_oper_k rfl rfl (by decide) (fun Kx hKx => ?_)
  go_simp
  refine hKx _ _ ⟨DF.none ?_, ?_⟩
  · intro e he
    have hm := mem_listed he
    simp [go_sem, *] at hm
  clear hKx Kx
  refine Goes.step rfl (fun _ h₁ => ?_)
  replace hF := hF.at h₁
  clear h₁
  refine goes_oper_k rfl rfl (by decide) (fun Kx hKx => ?_)
  go_simp
  refine hKx _ _ ⟨DF.none ?_, ?_⟩
  · intro e he
    have hm := mem_listed he
    simp [go_sem, *] at hm
  clear hKx Kx
  refine Goes.step rfl (fun _ h₁ => ?_)
  replace hF := hF.at h₁
  clear h₁
  refine goes_oper_k rfl rfl (by decide) (fun Kx hKx => ?_)
  go_simp
  refine hKx _ _ ⟨DF.none ?_, ?_⟩
  · intro e he
    have hm := mem_listed he
    simp [go_sem, *] at hm
  clear hKx Kx
  refine Goes.step rfl (fun _ h₁ => ?_)
  replace hF := hF.at h₁
  clear h₁
  refine goes_callF rfl rfl (by decide) rfl Try.func15 nms_CellLeft rfl ⟨DF.none (by intro e he; simp at he), ?_⟩
  walk_nrm
  refine Goes.stop (fun w₁ h₁ => ⟨(hF.at h₁).sz, ?_⟩)
  replace hF := hF.at h₁
  clear h₁
  refine (pure_beside kok7 rfl (fun v => hS v) hF.kf.rows).bind fun c2 S2 g2 w2 hp => ?_
  have hpk := hp.kf
  obtain rfl := hp.ec
  obtain rfl := hp.eS
  obtain rfl := hp.eg
  clear hp
  replace hF := KN.mk (hF.kf.trans hpk) (Nat.le_refl _)
  clear hpk
  rw [Frame.finish_at]
  refine BW.walk 300 ?_
  walk_nrm
  refine Goes.step rfl (fun _ h₁ => ?_)
  replace hF := hF.at h₁
  clear h₁
  refine goes_oper_k rfl rfl (by decide) (fun Kx hKx => ?_)
  go_simp
  refine hKx _ _ ⟨DF.none ?_, ?_⟩
  · intro e he
    have hm := mem_listed he
    simp [go_sem, *] at hm
  clear hKx Kx
  refine Goes.step rfl (fun _ h₁ => ?_)
  replace hF := hF.at h₁
  clear h₁
  rw [stepG_region_end]
  simp only [goes_go]
  refine ⟨DF.none (by intro e he; simp at he), ?_⟩
  refine Goes.step rfl (fun _ h₁ => ?_)
  replace hF := hF.at h₁
  clear h₁
  rw [stepG_cond (t := false) (by first | rfl | (simp [Act.eval]; omega))]
  simp only [goes_go, Bool.false_eq_true, ↓reduceIte]
  refine ⟨DF.none (by intro e he; simp at he), ?_⟩
  refine Goes.step rfl (fun _ h₁ => ?_)
  replace hF := hF.at h₁
  clear h₁
  rw [stepG_skip]
  simp only [goes_go]
  refine ⟨DF.none (by intro e he; simp at he), ?_⟩
  refine Goes.step rfl (fun _ h₁ => ?_)
  replace hF := hF.at h₁
  clear h₁
  rw [stepG_seq]
  simp only [goes_go]
  refine ⟨DF.none (by intro e he; simp at he), ?_⟩
  refine Goes.step rfl (fun _ h₁ => ?_)
  replace hF := hF.at h₁
  clear h₁
  rw [stepG_seq]
  simp only [goes_go]
  refine ⟨DF.none (by intro e he; simp at he), ?_⟩
  refine Goes.step rfl (fun _ h₁ => ?_)
  replace hF := hF.at h₁
  clear h₁
  rw [stepG_region]
  simp only [goes_go, List.size_toArray, List.length_cons, List.length_nil, Nat.reduceAdd, Nat.zero_add, List.range, List.range.loop]
  refine ⟨DF.none (by intro e he; simp at he), ?_⟩
  by_cases hin : 0 ≤ row ∧ row ≤ 300 ∧ 0 ≤ place ∧ place ≤ row ∧ 2 ≤ by' ∧ by' ≤ 100000
  · obtain ⟨r, rfl⟩ : ∃ r : Nat, row = r := ⟨row.toNat, by omega⟩
    obtain ⟨p, rfl⟩ : ∃ p : Nat, place = p := ⟨place.toNat, by omega⟩
    obtain ⟨q, rfl⟩ : ∃ q : Nat, by' = q := ⟨by'.toNat, by omega⟩
    have hzz := (cellLV_in (r := r) (p := p) (q := q) (by omega) (by omega) (by omega) (by omega)).symm.trans hzh.out
    subst hzz
    have hrem := Nat.mod_lt (bin r p) (show 0 < q by omega)
    have hz2 : cellLV (r : Nat) ((r : Int) - p) (q : Nat) = (bin r p % q : Nat) := by
      rw [show (r : Int) - p = ((r - p : Nat) : Int) by omega, cellLV_in (by omega) (by omega) (by omega) (by omega), bin_ends r (r - p) p (by omega)]
    have hsub : IntKind.i64.wrap ((r : Int) - p) = (r : Int) - p := byw (by omega) (by omega)
    have hcv : r ≤ 60 → cellV r p = (bin r p : Nat) := fun h => cellV_nat h
    have hq1 := tmod_n7 (bin r p) q
    have hb0 : ((q : Int) == 0) = false := by simp; omega
    have hb1 : ¬ q = 0 := by omega
    clear hzh hS
    generalize bin r p = C at *
    generalize hm : C % q = m at *
    have hw3 : IntKind.i64.wrap (m : Int) = m := byw (by omega) (by omega)
    clear hm
    have hm0 : ¬ (m : Int) < 0 := by omega
    have hmq : (m : Int) < (q : Int) := by omega
    have hin' : (q : Int) ≤ 100000 := hin.2.2.2.2.2
    clear hin
    refine Goes.step rfl (fun _ h₁ => ?_)
    replace hF := hF.at h₁
    clear h₁
    refine goes_oper_k rfl rfl (by decide) (fun Kx hKx => ?_)
    go_simp
    refine hKx _ _ ⟨DF.none ?_, ?_⟩
    · intro e he
      have hm := mem_listed he
      simp [go_sem, *] at hm
    clear hKx Kx
    refine Goes.step rfl (fun _ h₁ => ?_)
    replace hF := hF.at h₁
    clear h₁
    refine goes_oper_k rfl rfl (by decide) (fun Kx hKx => ?_)
    go_simp
    refine hKx _ _ ⟨DF.none ?_, ?_⟩
    · intro e he
      have hm := mem_listed he
      simp [go_sem, *] at hm
    clear hKx Kx
    refine Goes.step rfl (fun _ h₁ => ?_)
    replace hF := hF.at h₁
    clear h₁
    rw [stepG_region_end]
    simp only [goes_go]
    refine ⟨DF.none (by intro e he; simp at he), ?_⟩
    refine Goes.step rfl (fun _ h₁ => ?_)
    replace hF := hF.at h₁
    clear h₁
    rw [stepG_cond (t := false) (by first | rfl | (simp [Act.eval]; omega))]
    simp only [goes_go, Bool.false_eq_true, ↓reduceIte]
    refine ⟨DF.none (by intro e he; simp at he), ?_⟩
    refine Goes.step rfl (fun _ h₁ => ?_)
    replace hF := hF.at h₁
    clear h₁
    rw [stepG_skip]
    simp only [goes_go]
    refine ⟨DF.none (by intro e he; simp at he), ?_⟩
    by_cases h60 : 60 < r
    · have h60i : (60 : Int) < r := by omega
      refine Goes.step rfl (fun _ h₁ => ?_)
      replace hF := hF.at h₁
      clear h₁
      rw [stepG_seq]
      simp only [goes_go]
      refine ⟨DF.none (by intro e he; simp at he), ?_⟩
      refine Goes.step rfl (fun _ h₁ => ?_)
      replace hF := hF.at h₁
      clear h₁
      rw [stepG_region]
      simp only [goes_go, List.size_toArray, List.length_cons, List.length_nil, Nat.reduceAdd, Nat.zero_add, List.range, List.range.loop]
      refine ⟨DF.none (by intro e he; simp at he), ?_⟩
      refine Goes.step rfl (fun _ h₁ => ?_)
      replace hF := hF.at h₁
      clear h₁
      refine goes_oper_k rfl rfl (by decide) (fun Kx hKx => ?_)
      go_simp
      refine hKx _ _ ⟨DF.none ?_, ?_⟩
      · intro e he
        have hm := mem_listed he
        simp [go_sem, *] at hm
      clear hKx Kx
      refine Goes.step rfl (fun _ h₁ => ?_)
      replace hF := hF.at h₁
      clear h₁
      refine goes_oper_k rfl rfl (by decide) (fun Kx hKx => ?_)
      go_simp
      refine hKx _ _ ⟨DF.none ?_, ?_⟩
      · intro e he
        have hm := mem_listed he
        simp [go_sem, *] at hm
      clear hKx Kx
      refine Goes.step rfl (fun _ h₁ => ?_)
      replace hF := hF.at h₁
      clear h₁
      refine goes_oper_k rfl rfl (by decide) (fun Kx hKx => ?_)
      go_simp
      refine hKx _ _ ⟨DF.none ?_, ?_⟩
      · intro e he
        have hm := mem_listed he
        simp [go_sem, *] at hm
      clear hKx Kx
      refine Goes.step rfl (fun _ h₁ => ?_)
      replace hF := hF.at h₁
      clear h₁
      refine goes_oper_k rfl rfl (by decide) (fun Kx hKx => ?_)
      go_simp
      refine hKx _ _ ⟨DF.none ?_, ?_⟩
      · intro e he
        have hm := mem_listed he
        simp [go_sem, *] at hm
      clear hKx Kx
      refine Goes.step rfl (fun _ h₁ => ?_)
      replace hF := hF.at h₁
      clear h₁
      refine goes_oper_k rfl rfl (by decide) (fun Kx hKx => ?_)
      go_simp
      refine hKx _ _ ⟨DF.none ?_, ?_⟩
      · intro e he
        have hm := mem_listed he
        simp [go_sem, *] at hm
      clear hKx Kx
      refine Goes.step rfl (fun _ h₁ => ?_)
      replace hF := hF.at h₁
      clear h₁
      refine goes_oper_k rfl rfl (by decide) (fun Kx hKx => ?_)
      go_simp
      refine hKx _ _ ⟨DF.none ?_, ?_⟩
      · intro e he
        have hm := mem_listed he
        simp [go_sem, *] at hm
      clear hKx Kx
      refine Goes.step rfl (fun _ h₁ => ?_)
      replace hF := hF.at h₁
      clear h₁
      refine goes_oper_k rfl rfl (by decide) (fun Kx hKx => ?_)
      go_simp
      refine hKx _ _ ⟨DF.none ?_, ?_⟩
      · intro e he
        have hm := mem_listed he
        simp [go_sem, *] at hm
      clear hKx Kx
      refine Goes.step rfl (fun _ h₁ => ?_)
      replace hF := hF.at h₁
      clear h₁
      rw [stepG_unwanted rfl rfl]
      simp only [goes_go]
      refine ⟨DF.none (by intro e he; simp at he), ?_⟩
      walk_nrm
      refine Goes.step rfl (fun _ h₁ => ?_)
      replace hF := hF.at h₁
      clear h₁
      rw [stepG_unwanted rfl rfl]
      simp only [goes_go]
      refine ⟨DF.none (by intro e he; simp at he), ?_⟩
      walk_nrm
      refine Goes.step rfl (fun _ h₁ => ?_)
      replace hF := hF.at h₁
      clear h₁
      rw [stepG_unwanted rfl rfl]
      simp only [goes_go]
      refine ⟨DF.none (by intro e he; simp at he), ?_⟩
      walk_nrm
      refine Goes.step rfl (fun _ h₁ => ?_)
      replace hF := hF.at h₁
      clear h₁
      rw [stepG_unwanted rfl rfl]
      simp only [goes_go]
      refine ⟨DF.none (by intro e he; simp at he), ?_⟩
      walk_nrm
      refine Goes.step rfl (fun _ h₁ => ?_)
      replace hF := hF.at h₁
      clear h₁
      rw [stepG_unwanted rfl rfl]
      simp only [goes_go]
      refine ⟨DF.none (by intro e he; simp at he), ?_⟩
      walk_nrm
      refine Goes.step rfl (fun _ h₁ => ?_)
      replace hF := hF.at h₁
      clear h₁
      rw [stepG_unwanted rfl rfl]
      simp only [goes_go]
      refine ⟨DF.none (by intro e he; simp at he), ?_⟩
      walk_nrm
      refine Goes.step rfl (fun _ h₁ => ?_)
      replace hF := hF.at h₁
      clear h₁
      rw [stepG_unwanted rfl rfl]
      simp only [goes_go]
      refine ⟨DF.none (by intro e he; simp at he), ?_⟩
      walk_nrm
      refine Goes.step rfl (fun _ h₁ => ?_)
      replace hF := hF.at h₁
      clear h₁
      refine goes_oper_k rfl rfl (by decide) (fun Kx hKx => ?_)
      go_simp
      refine hKx _ _ ⟨DF.none ?_, ?_⟩
      · intro e he
        have hm := mem_listed he
        simp [go_sem, *] at hm
      clear hKx Kx
      refine Goes.step rfl (fun _ h₁ => ?_)
      replace hF := hF.at h₁
      clear h₁
      refine goes_oper_k rfl rfl (by decide) (fun Kx hKx => ?_)
      go_simp
      refine hKx _ _ ⟨DF.none ?_, ?_⟩
      · intro e he
        have hm := mem_listed he
        simp [go_sem, *] at hm
      clear hKx Kx
      refine Goes.step rfl (fun _ h₁ => ?_)
      replace hF := hF.at h₁
      clear h₁
      refine goes_oper_k rfl rfl (by decide) (fun Kx hKx => ?_)
      go_simp
      refine hKx _ _ ⟨DF.none ?_, ?_⟩
      · intro e he
        have hm := mem_listed he
        simp [go_sem, *] at hm
      clear hKx Kx
      refine Goes.step rfl (fun _ h₁ => ?_)
      replace hF := hF.at h₁
      clear h₁
      refine goes_oper_k rfl rfl (by decide) (fun Kx hKx => ?_)
      go_simp
      refine hKx _ _ ⟨DF.none ?_, ?_⟩
      · intro e he
        have hm := mem_listed he
        simp [go_sem, *] at hm
      clear hKx Kx
      refine Goes.step rfl (fun _ h₁ => ?_)
      replace hF := hF.at h₁
      clear h₁
      refine goes_oper_k rfl rfl (by decide) (fun Kx hKx => ?_)
      go_simp
      refine hKx _ _ ⟨DF.none ?_, ?_⟩
      · intro e he
        have hm := mem_listed he
        simp [go_sem, *] at hm
      clear hKx Kx
      refine Goes.step rfl (fun _ h₁ => ?_)
      replace hF := hF.at h₁
      clear h₁
      refine goes_oper_k rfl rfl (by decide) (fun Kx hKx => ?_)
      go_simp
      refine hKx _ _ ⟨DF.none ?_, ?_⟩
      · intro e he
        have hm := mem_listed he
        simp [go_sem, *] at hm
      clear hKx Kx
      refine Goes.step rfl (fun _ h₁ => ?_)
      replace hF := hF.at h₁
      clear h₁
      refine goes_oper_k rfl rfl (by decide) (fun Kx hKx => ?_)
      go_simp
      refine hKx _ _ ⟨DF.none ?_, ?_⟩
      · intro e he
        have hm := mem_listed he
        simp [go_sem, *] at hm
      clear hKx Kx
      refine Goes.step rfl (fun _ h₁ => ?_)
      replace hF := hF.at h₁
      clear h₁
      refine goes_oper_k rfl rfl (by decide) (fun Kx hKx => ?_)
      go_simp
      refine hKx _ _ ⟨DF.none ?_, ?_⟩
      · intro e he
        have hm := mem_listed he
        simp [go_sem, *] at hm
      clear hKx Kx
      refine Goes.step rfl (fun _ h₁ => ?_)
      replace hF := hF.at h₁
      clear h₁
      refine goes_callF rfl rfl (by decide) rfl Try.func14 nm_CellLeft rfl ⟨DF.none (by intro e he; simp at he), ?_⟩
      walk_nrm
      refine Goes.stop (fun w₁ h₁ => ⟨(hF.at h₁).sz, ?_⟩)
      replace hF := hF.at h₁
      clear h₁
      refine (cellLeftIs (by omega) hz2 hF.kf.rows).bind fun c2 S2 g2 w2 hp => ?_
      obtain ⟨hc4, rfl, hpk⟩ := hp
      replace hF := KN.mk (hF.kf.trans hpk) (Nat.le_refl _)
      clear hpk
      rw [Frame.finish_at]
      refine BW.walk 300 ?_
      walk_nrm
      refine Goes.step rfl (fun _ h₁ => ?_)
      replace hF := hF.at h₁
      clear h₁
      refine goes_oper_k rfl rfl (by decide) (fun Kx hKx => ?_)
      go_simp
      refine hKx _ _ ⟨DF.none ?_, ?_⟩
      · intro e he
        have hm := mem_listed he
        simp [go_sem, *] at hm
      clear hKx Kx
      refine Goes.step rfl (fun _ h₁ => ?_)
      replace hF := hF.at h₁
      clear h₁
      refine goes_oper_k rfl rfl (by decide) (fun Kx hKx => ?_)
      go_simp
      refine hKx _ _ ⟨DF.none ?_, ?_⟩
      · intro e he
        have hm := mem_listed he
        simp [go_sem, *] at hm
      clear hKx Kx
      refine Goes.step rfl (fun _ h₁ => ?_)
      replace hF := hF.at h₁
      clear h₁
      refine goes_oper_k rfl rfl (by decide) (fun Kx hKx => ?_)
      go_simp
      refine hKx _ _ ⟨DF.none ?_, ?_⟩
      · intro e he
        have hm := mem_listed he
        simp [go_sem, *] at hm
      clear hKx Kx
      refine Goes.step rfl (fun _ h₁ => ?_)
      replace hF := hF.at h₁
      clear h₁
      refine goes_oper_k rfl rfl (by decide) (fun Kx hKx => ?_)
      go_simp
      refine hKx _ _ ⟨DF.none ?_, ?_⟩
      · intro e he
        have hm := mem_listed he
        simp [go_sem, *] at hm
      clear hKx Kx
      refine Goes.step rfl (fun _ h₁ => ?_)
      replace hF := hF.at h₁
      clear h₁
      rw [stepG_region_end]
      simp only [goes_go]
      refine ⟨DF.none (by intro e he; simp at he), ?_⟩
      refine Goes.step rfl (fun _ h₁ => ?_)
      replace hF := hF.at h₁
      clear h₁
      rw [stepG_ret']
      simp only [goes_go]
      refine ⟨DF.none (by intro e he; simp at he), ?_⟩
      refine Goes.stop (fun w₁ h₁ => ⟨(hF.at h₁).sz, BW.now ⟨.bool true, rfl, fun w => (stepG_done1 (t := 2) rfl rfl Try.func3 rfl (by kernel_rfl) w).trans (by simp), fun w₂ h₂ => ⟨rfl, _, ((hF.at h₁).at h₂).kf⟩⟩⟩)
    · have h60i : ¬ (60 : Int) < r := by omega
      replace hcv := hcv (by omega)
      refine Goes.step rfl (fun _ h₁ => ?_)
      replace hF := hF.at h₁
      clear h₁
      rw [stepG_seq]
      simp only [goes_go]
      refine ⟨DF.none (by intro e he; simp at he), ?_⟩
      refine Goes.step rfl (fun _ h₁ => ?_)
      replace hF := hF.at h₁
      clear h₁
      rw [stepG_region]
      simp only [goes_go, List.size_toArray, List.length_cons, List.length_nil, Nat.reduceAdd, Nat.zero_add, List.range, List.range.loop]
      refine ⟨DF.none (by intro e he; simp at he), ?_⟩
      refine Goes.step rfl (fun _ h₁ => ?_)
      replace hF := hF.at h₁
      clear h₁
      refine goes_oper_k rfl rfl (by decide) (fun Kx hKx => ?_)
      go_simp
      refine hKx _ _ ⟨DF.none ?_, ?_⟩
      · intro e he
        have hm := mem_listed he
        simp [go_sem, *] at hm
      clear hKx Kx
      refine Goes.step rfl (fun _ h₁ => ?_)
      replace hF := hF.at h₁
      clear h₁
      refine goes_oper_k rfl rfl (by decide) (fun Kx hKx => ?_)
      go_simp
      refine hKx _ _ ⟨DF.none ?_, ?_⟩
      · intro e he
        have hm := mem_listed he
        simp [go_sem, *] at hm
      clear hKx Kx
      refine Goes.step rfl (fun _ h₁ => ?_)
      replace hF := hF.at h₁
      clear h₁
      refine goes_oper_k rfl rfl (by decide) (fun Kx hKx => ?_)
      go_simp
      refine hKx _ _ ⟨DF.none ?_, ?_⟩
      · intro e he
        have hm := mem_listed he
        simp [go_sem, *] at hm
      clear hKx Kx
      refine Goes.step rfl (fun _ h₁ => ?_)
      replace hF := hF.at h₁
      clear h₁
      refine goes_oper_k rfl rfl (by decide) (fun Kx hKx => ?_)
      go_simp
      refine hKx _ _ ⟨DF.none ?_, ?_⟩
      · intro e he
        have hm := mem_listed he
        simp [go_sem, *] at hm
      clear hKx Kx
      refine Goes.step rfl (fun _ h₁ => ?_)
      replace hF := hF.at h₁
      clear h₁
      refine goes_oper_k rfl rfl (by decide) (fun Kx hKx => ?_)
      go_simp
      refine hKx _ _ ⟨DF.none ?_, ?_⟩
      · intro e he
        have hm := mem_listed he
        simp [go_sem, *] at hm
      clear hKx Kx
      refine Goes.step rfl (fun _ h₁ => ?_)
      replace hF := hF.at h₁
      clear h₁
      refine goes_oper_k rfl rfl (by decide) (fun Kx hKx => ?_)
      go_simp
      refine hKx _ _ ⟨DF.none ?_, ?_⟩
      · intro e he
        have hm := mem_listed he
        simp [go_sem, *] at hm
      clear hKx Kx
      refine Goes.step rfl (fun _ h₁ => ?_)
      replace hF := hF.at h₁
      clear h₁
      refine goes_oper_k rfl rfl (by decide) (fun Kx hKx => ?_)
      go_simp
      refine hKx _ _ ⟨DF.none ?_, ?_⟩
      · intro e he
        have hm := mem_listed he
        simp [go_sem, *] at hm
      clear hKx Kx
      refine Goes.step rfl (fun _ h₁ => ?_)
      replace hF := hF.at h₁
      clear h₁
      refine goes_oper_k rfl rfl (by decide) (fun Kx hKx => ?_)
      go_simp
      refine hKx _ _ ⟨DF.none ?_, ?_⟩
      · intro e he
        have hm := mem_listed he
        simp [go_sem, *] at hm
      clear hKx Kx
      refine Goes.step rfl (fun _ h₁ => ?_)
      replace hF := hF.at h₁
      clear h₁
      refine goes_oper_k rfl rfl (by decide) (fun Kx hKx => ?_)
      go_simp
      refine hKx _ _ ⟨DF.none ?_, ?_⟩
      · intro e he
        have hm := mem_listed he
        simp [go_sem, *] at hm
      clear hKx Kx
      refine Goes.step rfl (fun _ h₁ => ?_)
      replace hF := hF.at h₁
      clear h₁
      refine goes_oper_k rfl rfl (by decide) (fun Kx hKx => ?_)
      go_simp
      refine hKx _ _ ⟨DF.none ?_, ?_⟩
      · intro e he
        have hm := mem_listed he
        simp [go_sem, *] at hm
      clear hKx Kx
      refine Goes.step rfl (fun _ h₁ => ?_)
      replace hF := hF.at h₁
      clear h₁
      refine goes_callF rfl rfl (by decide) rfl Try.func17 nm_CellOf rfl ⟨DF.none (by intro e he; simp at he), ?_⟩
      walk_nrm
      refine Goes.stop (fun w₁ h₁ => ⟨(hF.at h₁).sz, ?_⟩)
      replace hF := hF.at h₁
      clear h₁
      refine (cellOfIs hcv hF.kf.rows).bind fun c2 S2 g2 w2 hp => ?_
      obtain ⟨hc3, rfl, hpk⟩ := hp
      replace hF := KN.mk (hF.kf.trans hpk) (Nat.le_refl _)
      clear hpk
      rw [Frame.finish_at]
      refine BW.walk 300 ?_
      walk_nrm
      refine Goes.step rfl (fun _ h₁ => ?_)
      replace hF := hF.at h₁
      clear h₁
      refine goes_oper_k rfl rfl (by decide) (fun Kx hKx => ?_)
      go_simp
      refine hKx _ _ ⟨DF.none ?_, ?_⟩
      · intro e he
        have hm := mem_listed he
        simp [go_sem, *] at hm
      clear hKx Kx
      refine Goes.step rfl (fun _ h₁ => ?_)
      replace hF := hF.at h₁
      clear h₁
      refine goes_oper_k rfl rfl (by decide) (fun Kx hKx => ?_)
      go_simp
      refine hKx _ _ ⟨DF.none ?_, ?_⟩
      · intro e he
        have hm := mem_listed he
        simp [go_sem, *] at hm
      clear hKx Kx
      refine Goes.step rfl (fun _ h₁ => ?_)
      replace hF := hF.at h₁
      clear h₁
      refine goes_oper_k rfl rfl (by decide) (fun Kx hKx => ?_)
      go_simp
      refine hKx _ _ ⟨DF.none ?_, ?_⟩
      · intro e he
        have hm := mem_listed he
        simp [go_sem, *] at hm
      clear hKx Kx
      refine Goes.step rfl (fun _ h₁ => ?_)
      replace hF := hF.at h₁
      clear h₁
      refine goes_oper_k rfl rfl (by decide) (fun Kx hKx => ?_)
      go_simp
      refine hKx _ _ ⟨DF.none ?_, ?_⟩
      · intro e he
        have hm := mem_listed he
        simp [go_sem, *] at hm
      clear hKx Kx
      refine Goes.step rfl (fun _ h₁ => ?_)
      replace hF := hF.at h₁
      clear h₁
      refine goes_oper_k rfl rfl (by decide) (fun Kx hKx => ?_)
      go_simp
      refine hKx _ _ ⟨DF.none ?_, ?_⟩
      · intro e he
        have hm := mem_listed he
        simp [go_sem, *] at hm
      clear hKx Kx
      refine Goes.step rfl (fun _ h₁ => ?_)
      replace hF := hF.at h₁
      clear h₁
      refine goes_oper_k rfl rfl (by decide) (fun Kx hKx => ?_)
      go_simp
      refine hKx _ _ ⟨DF.none ?_, ?_⟩
      · intro e he
        have hm := mem_listed he
        simp [go_sem, *] at hm
      clear hKx Kx
      refine Goes.step rfl (fun _ h₁ => ?_)
      replace hF := hF.at h₁
      clear h₁
      refine goes_oper_k rfl rfl (by decide) (fun Kx hKx => ?_)
      go_simp
      refine hKx _ _ ⟨DF.none ?_, ?_⟩
      · intro e he
        have hm := mem_listed he
        simp [go_sem, *] at hm
      clear hKx Kx
      refine Goes.step rfl (fun _ h₁ => ?_)
      replace hF := hF.at h₁
      clear h₁
      refine goes_oper_k rfl rfl (by decide) (fun Kx hKx => ?_)
      go_simp
      refine hKx _ _ ⟨DF.none ?_, ?_⟩
      · intro e he
        have hm := mem_listed he
        simp [go_sem, *] at hm
      clear hKx Kx
      refine Goes.step rfl (fun _ h₁ => ?_)
      replace hF := hF.at h₁
      clear h₁
      refine goes_oper_k rfl rfl (by decide) (fun Kx hKx => ?_)
      go_simp
      refine hKx _ _ ⟨DF.none ?_, ?_⟩
      · intro e he
        have hm := mem_listed he
        simp [go_sem, *] at hm
      clear hKx Kx
      refine Goes.step rfl (fun _ h₁ => ?_)
      replace hF := hF.at h₁
      clear h₁
      refine goes_oper_k rfl rfl (by decide) (fun Kx hKx => ?_)
      go_simp
      refine hKx _ _ ⟨DF.none ?_, ?_⟩
      · intro e he
        have hm := mem_listed he
        simp [go_sem, *] at hm
      clear hKx Kx
      refine Goes.step rfl (fun _ h₁ => ?_)
      replace hF := hF.at h₁
      clear h₁
      refine goes_oper_k rfl rfl (by decide) (fun Kx hKx => ?_)
      go_simp
      refine hKx _ _ ⟨DF.none ?_, ?_⟩
      · intro e he
        have hm := mem_listed he
        simp [go_sem, *] at hm
      clear hKx Kx
      refine Goes.step rfl (fun _ h₁ => ?_)
      replace hF := hF.at h₁
      clear h₁
      refine goes_callF rfl rfl (by decide) rfl Try.func14 nm_CellLeft rfl ⟨DF.none (by intro e he; simp at he), ?_⟩
      walk_nrm
      refine Goes.stop (fun w₁ h₁ => ⟨(hF.at h₁).sz, ?_⟩)
      replace hF := hF.at h₁
      clear h₁
      refine (cellLeftIs (by omega) hz2 hF.kf.rows).bind fun c2 S2 g2 w2 hp => ?_
      obtain ⟨hc4, rfl, hpk⟩ := hp
      replace hF := KN.mk (hF.kf.trans hpk) (Nat.le_refl _)
      clear hpk
      rw [Frame.finish_at]
      refine BW.walk 300 ?_
      walk_nrm
      refine Goes.step rfl (fun _ h₁ => ?_)
      replace hF := hF.at h₁
      clear h₁
      refine goes_oper_k rfl rfl (by decide) (fun Kx hKx => ?_)
      go_simp
      refine hKx _ _ ⟨DF.none ?_, ?_⟩
      · intro e he
        have hm := mem_listed he
        simp [go_sem, *] at hm
      clear hKx Kx
      refine Goes.step rfl (fun _ h₁ => ?_)
      replace hF := hF.at h₁
      clear h₁
      refine goes_oper_k rfl rfl (by decide) (fun Kx hKx => ?_)
      go_simp
      refine hKx _ _ ⟨DF.none ?_, ?_⟩
      · intro e he
        have hm := mem_listed he
        simp [go_sem, *] at hm
      clear hKx Kx
      refine Goes.step rfl (fun _ h₁ => ?_)
      replace hF := hF.at h₁
      clear h₁
      refine goes_oper_k rfl rfl (by decide) (fun Kx hKx => ?_)
      go_simp
      refine hKx _ _ ⟨DF.none ?_, ?_⟩
      · intro e he
        have hm := mem_listed he
        simp [go_sem, *] at hm
      clear hKx Kx
      refine Goes.step rfl (fun _ h₁ => ?_)
      replace hF := hF.at h₁
      clear h₁
      refine goes_oper_k rfl rfl (by decide) (fun Kx hKx => ?_)
      go_simp
      refine hKx _ _ ⟨DF.none ?_, ?_⟩
      · intro e he
        have hm := mem_listed he
        simp [go_sem, *] at hm
      clear hKx Kx
      refine Goes.step rfl (fun _ h₁ => ?_)
      replace hF := hF.at h₁
      clear h₁
      rw [stepG_region_end]
      simp only [goes_go]
      refine ⟨DF.none (by intro e he; simp at he), ?_⟩
      refine Goes.step rfl (fun _ h₁ => ?_)
      replace hF := hF.at h₁
      clear h₁
      rw [stepG_ret']
      simp only [goes_go]
      refine ⟨DF.none (by intro e he; simp at he), ?_⟩
      refine Goes.stop (fun w₁ h₁ => ⟨(hF.at h₁).sz, BW.now ⟨.bool true, rfl, fun w => (stepG_done1 (t := 2) rfl rfl Try.func3 rfl (by kernel_rfl) w).trans (by simp), fun w₂ h₂ => ⟨rfl, _, ((hF.at h₁).at h₂).kf⟩⟩⟩)
  · have hzz := (cellLV_out hin).symm.trans hzh.out
    subst hzz
    refine Goes.step rfl (fun _ h₁ => ?_)
    replace hF := hF.at h₁
    clear h₁
    refine goes_oper_k rfl rfl (by decide) (fun Kx hKx => ?_)
    go_simp
    refine hKx _ _ ⟨DF.none ?_, ?_⟩
    · intro e he
      have hm := mem_listed he
      simp [go_sem, *] at hm
    clear hKx Kx
    refine Goes.step rfl (fun _ h₁ => ?_)
    replace hF := hF.at h₁
    clear h₁
    refine goes_oper_k rfl rfl (by decide) (fun Kx hKx => ?_)
    go_simp
    refine hKx _ _ ⟨DF.none ?_, ?_⟩
    · intro e he
      have hm := mem_listed he
      simp [go_sem, *] at hm
    clear hKx Kx
    refine Goes.step rfl (fun _ h₁ => ?_)
    replace hF := hF.at h₁
    clear h₁
    rw [stepG_region_end]
    simp only [goes_go]
    refine ⟨DF.none (by intro e he; simp at he), ?_⟩
    refine Goes.step rfl (fun _ h₁ => ?_)
    replace hF := hF.at h₁
    clear h₁
    rw [stepG_cond (t := true) (by first | rfl | (simp [Act.eval]; omega))]
    simp only [goes_go, ↓reduceIte]
    refine ⟨DF.none (by intro e he; simp at he), ?_⟩
    refine Goes.step rfl (fun _ h₁ => ?_)
    replace hF := hF.at h₁
    clear h₁
    rw [stepG_seq]
    simp only [goes_go]
    refine ⟨DF.none (by intro e he; simp at he), ?_⟩
    refine Goes.step rfl (fun _ h₁ => ?_)
    replace hF := hF.at h₁
    clear h₁
    rw [stepG_region]
    simp only [goes_go, List.size_toArray, List.length_cons, List.length_nil, Nat.reduceAdd, Nat.zero_add, List.range, List.range.loop]
    refine ⟨DF.none (by intro e he; simp at he), ?_⟩
    refine Goes.step rfl (fun _ h₁ => ?_)
    replace hF := hF.at h₁
    clear h₁
    refine goes_oper_k rfl rfl (by decide) (fun Kx hKx => ?_)
    go_simp
    refine hKx _ _ ⟨DF.none ?_, ?_⟩
    · intro e he
      have hm := mem_listed he
      simp [go_sem, *] at hm
    clear hKx Kx
    refine Goes.step rfl (fun _ h₁ => ?_)
    replace hF := hF.at h₁
    clear h₁
    refine goes_oper_k rfl rfl (by decide) (fun Kx hKx => ?_)
    go_simp
    refine hKx _ _ ⟨DF.none ?_, ?_⟩
    · intro e he
      have hm := mem_listed he
      simp [go_sem, *] at hm
    clear hKx Kx
    refine Goes.step rfl (fun _ h₁ => ?_)
    replace hF := hF.at h₁
    clear h₁
    refine goes_oper_k rfl rfl (by decide) (fun Kx hKx => ?_)
    go_simp
    refine hKx _ _ ⟨DF.none ?_, ?_⟩
    · intro e he
      have hm := mem_listed he
      simp [go_sem, *] at hm
    clear hKx Kx
    refine Goes.step rfl (fun _ h₁ => ?_)
    replace hF := hF.at h₁
    clear h₁
    refine goes_callF rfl rfl (by decide) rfl Try.func16 nm_alive rfl ⟨DF.none (by intro e he; simp at he), ?_⟩
    walk_nrm
    refine Goes.stop (fun w₁ h₁ => ⟨(hF.at h₁).sz, ?_⟩)
    replace hF := hF.at h₁
    clear h₁
    refine (aliveB hF.kf.rows).bind fun c2 S2 g2 w2 hp => ?_
    obtain ⟨hc4, rfl, hpk⟩ := hp
    replace hF := KN.mk (hF.kf.trans hpk) (Nat.le_refl _)
    clear hpk
    rw [Frame.finish_at]
    refine BW.walk 300 ?_
    walk_nrm
    refine Goes.step rfl (fun _ h₁ => ?_)
    replace hF := hF.at h₁
    clear h₁
    refine goes_oper_k rfl rfl (by decide) (fun Kx hKx => ?_)
    go_simp
    refine hKx _ _ ⟨DF.none ?_, ?_⟩
    · intro e he
      have hm := mem_listed he
      simp [go_sem, *] at hm
    clear hKx Kx
    refine Goes.step rfl (fun _ h₁ => ?_)
    replace hF := hF.at h₁
    clear h₁
    refine goes_oper_k rfl rfl (by decide) (fun Kx hKx => ?_)
    go_simp
    refine hKx _ _ ⟨DF.none ?_, ?_⟩
    · intro e he
      have hm := mem_listed he
      simp [go_sem, *] at hm
    clear hKx Kx
    refine Goes.step rfl (fun _ h₁ => ?_)
    replace hF := hF.at h₁
    clear h₁
    rw [stepG_region_end]
    simp only [goes_go]
    refine ⟨DF.none (by intro e he; simp at he), ?_⟩
    refine Goes.step rfl (fun _ h₁ => ?_)
    replace hF := hF.at h₁
    clear h₁
    rw [stepG_ret']
    simp only [goes_go]
    refine ⟨DF.none (by intro e he; simp at he), ?_⟩
    refine Goes.stop (fun w₁ h₁ => ⟨(hF.at h₁).sz, BW.now ⟨.bool true, rfl, fun w => (stepG_done1 (t := 2) rfl rfl Try.func3 rfl (by kernel_rfl) w).trans (by simp), fun w₂ h₂ => ⟨rfl, _, ((hF.at h₁).at h₂).kf⟩⟩⟩)
theorem lawCell (a : Option Addr) (len cap : Nat) (zs : List Int) (h : IsRow .u8 W a len cap zs) :
    BW Try.prog 1 (fun _ => False) (G (Frame.enter Try.prog 3 #[.slice a len cap] .normal) []) W (EndAt Try.prog (DoneT W)) := by
  by_cases hl : 1048576 < len
  · exact lawCell_big a len cap hl
  · exact lawCell_in a len cap zs h hl
end
end Go.Proofs.Ytehmobcfbifocaa
