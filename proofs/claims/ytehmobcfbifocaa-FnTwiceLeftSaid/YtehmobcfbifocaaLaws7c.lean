/-
  Chapter 7's laws of TwiceLeft and BetweenOk, walked beside goroutines that only leave: whole runs. Made by gen_laws7c.py.
-/
import Derived.Test.YtehmobcfbifocaaLawKit7
namespace Go.Proofs.Ytehmobcfbifocaa
open Go Go.Conc Go.ConcN Go.RowKit Go.Conc.Lib Go.ConcR.Gen Go.ConcN.Gen
open Go.ConcR (KK wgBlock WgAt stA smA rd wr mk Payload Aside2 DC0 ofEvent_cell)

theorem nmd_DrawTwiceLeft : (Try.f18.name == "runtime.NumGoroutine") = false := by kernel_rfl
theorem nmd_DrawBetweenOk : (Try.f21.name == "runtime.NumGoroutine") = false := by kernel_rfl
section
variable {W : World}
set_option maxRecDepth 100000 in
set_option maxHeartbeats 4000000 in
theorem lawTwice_big (a : Option Addr) (len cap : Nat) (hl : 1048576 < len) :
    BW Try.prog 1 (fun _ => False) (G (Frame.enter Try.prog 4 #[.slice a len cap] .normal) []) W (EndAt Try.prog (DoneT W)) := by
  have hli : (1048576 : Int) < len := by omega
  have hF : KN W.heap.size W (fun _ => False) (fun _ => False) W := ⟨KF.refl (fun _ h => h.elim), Nat.le_refl _⟩
  rw [enter_at _ Try.func4 rfl]
  refine BW.walk 200 ?_
  walk_nrmf Try.f4
  refine Goes.step rfl (fun _ h₁ => ?_)
  replace hF := hF.at h₁
  clear h₁
  rw [stepG_seq]
  simp only [goes_go]
  refine ⟨DF.none (by intro e he; simp at he), ?_⟩
  refine Goes.step rfl (fun _ h₁ => ?_)
  replace hF := hF.at h₁
  clear h₁
  rw [stepG_region]
  simp only [goes_go, List.size_toArray, List.length_cons, List.length_nil, Nat.zero_add, List.range, List.range.loop]
  refine ⟨DF.none (by intro e he; simp at he), ?_⟩
  refine Goes.step rfl (fun _ h₁ => ?_)
  replace hF := hF.at h₁
  clear h₁
  refine goes_oper_k rfl rfl (by decide) (fun Kx hKx => ?_)
  go_simp
  refine hKx _ _ ⟨DF.none ?_, ?_⟩
  · intro e he
    have hm := mem_listed he
    simp [go_sem, *] at hm
  clear hKx Kx
  refine Goes.step rfl (fun _ h₁ => ?_)
  replace hF := hF.at h₁
  clear h₁
  rw [stepG_region_end]
  simp only [goes_go]
  refine ⟨DF.none (by intro e he; simp at he), ?_⟩
  refine Goes.step rfl (fun _ h₁ => ?_)
  replace hF := hF.at h₁
  clear h₁
  rw [stepG_seq]
  simp only [goes_go]
  refine ⟨DF.none (by intro e he; simp at he), ?_⟩
  refine Goes.step rfl (fun _ h₁ => ?_)
  replace hF := hF.at h₁
  clear h₁
  rw [stepG_seq]
  simp only [goes_go]
  refine ⟨DF.none (by intro e he; simp at he), ?_⟩
  refine Goes.step rfl (fun _ h₁ => ?_)
  replace hF := hF.at h₁
  clear h₁
  rw [stepG_region]
  simp only [goes_go, List.size_toArray, List.length_cons, List.length_nil, Nat.reduceAdd, Nat.zero_add, List.range, List.range.loop]
  refine ⟨DF.none (by intro e he; simp at he), ?_⟩
  refine Goes.step rfl (fun _ h₁ => ?_)
  replace hF := hF.at h₁
  clear h₁
  refine goes_oper_k rfl rfl (by decide) (fun Kx hKx => ?_)
  go_simp
  refine hKx _ _ ⟨DF.none ?_, ?_⟩
  · intro e he
    have hm := mem_listed he
    simp [go_sem, *] at hm
  clear hKx Kx
  refine Goes.step rfl (fun _ h₁ => ?_)
  replace hF := hF.at h₁
  clear h₁
  refine goes_oper_k rfl rfl (by decide) (fun Kx hKx => ?_)
  go_simp
  refine hKx _ _ ⟨DF.none ?_, ?_⟩
  · intro e he
    have hm := mem_listed he
    simp [go_sem, *] at hm
  clear hKx Kx
  refine Goes.step rfl (fun _ h₁ => ?_)
  replace hF := hF.at h₁
  clear h₁
  refine goes_oper_k rfl rfl (by decide) (fun Kx hKx => ?_)
  go_simp
  refine hKx _ _ ⟨DF.none ?_, ?_⟩
  · intro e he
    have hm := mem_listed he
    simp [go_sem, *] at hm
  clear hKx Kx
  refine Goes.step rfl (fun _ h₁ => ?_)
  replace hF := hF.at h₁
  clear h₁
  rw [stepG_region_end]
  simp only [goes_go]
  refine ⟨DF.none (by intro e he; simp at he), ?_⟩
  refine Goes.step rfl (fun _ h₁ => ?_)
  replace hF := hF.at h₁
  clear h₁
  rw [stepG_cond (t := true) (by first | rfl | (simp [Act.eval]; omega))]
  simp only [goes_go, ↓reduceIte]
  refine ⟨DF.none (by intro e he; simp at he), ?_⟩
  refine Goes.step rfl (fun _ h₁ => ?_)
  replace hF := hF.at h₁
  clear h₁
  rw [stepG_seq]
  simp only [goes_go]
  refine ⟨DF.none (by intro e he; simp at he), ?_⟩
  refine Goes.step rfl (fun _ h₁ => ?_)
  replace hF := hF.at h₁
  clear h₁
  rw [stepG_region]
  simp only [goes_go, List.size_toArray, List.length_cons, List.length_nil, Nat.zero_add, List.range, List.range.loop]
  refine ⟨DF.none (by intro e he; simp at he), ?_⟩
  refine Goes.step rfl (fun _ h₁ => ?_)
  replace hF := hF.at h₁
  clear h₁
  refine goes_oper_k rfl rfl (by decide) (fun Kx hKx => ?_)
  go_simp
  refine hKx _ _ ⟨DF.none ?_, ?_⟩
  · intro e he
    have hm := mem_listed he
    simp [go_sem, *] at hm
  clear hKx Kx
  refine Goes.step rfl (fun _ h₁ => ?_)
  replace hF := hF.at h₁
  clear h₁
  rw [stepG_region_end]
  simp only [goes_go]
  refine ⟨DF.none (by intro e he; simp at he), ?_⟩
  refine Goes.step rfl (fun _ h₁ => ?_)
  replace hF := hF.at h₁
  clear h₁
  rw [stepG_ret']
  simp only [goes_go]
  refine ⟨DF.none (by intro e he; simp at he), ?_⟩
  refine Goes.stop (fun w₁ h₁ => ⟨(hF.at h₁).sz, BW.now ⟨.bool true, rfl, fun w => (stepG_done1 (t := 2) rfl rfl Try.func4 rfl (by kernel_rfl) w).trans (by simp), fun w₂ h₂ => ⟨rfl, _, ((hF.at h₁).at h₂).kf⟩⟩⟩)
set_option maxRecDepth 100000 in
set_option maxHeartbeats 4000000 in
theorem lawTwice_in (a : Option Addr) (len cap : Nat) (zs : List Int) (h : IsRow .u8 W a len cap zs) (hl : ¬ 1048576 < len) :
    BW Try.prog 1 (fun _ => False) (G (Frame.enter Try.prog 4 #[.slice a len cap] .normal) []) W (EndAt Try.prog (DoneT W)) := by
  have hli : ¬ (1048576 : Int) < len := by omega
  have hF : KN W.heap.size W (fun _ => False) (fun _ => False) W := ⟨KF.refl (fun _ h => h.elim), Nat.le_refl _⟩
  rw [enter_at _ Try.func4 rfl]
  refine BW.walk 200 ?_
  walk_nrmf Try.f4
  refine Goes.step rfl (fun _ h₁ => ?_)
  replace hF := hF.at h₁
  clear h₁
  rw [stepG_seq]
  simp only [goes_go]
  refine ⟨DF.none (by intro e he; simp at he), ?_⟩
  refine Goes.step rfl (fun _ h₁ => ?_)
  replace hF := hF.at h₁
  clear h₁
  rw [stepG_region]
  simp only [goes_go, List.size_toArray, List.length_cons, List.length_nil, Nat.zero_add, List.range, List.range.loop]
  refine ⟨DF.none (by intro e he; simp at he), ?_⟩
  refine Goes.step rfl (fun _ h₁ => ?_)
  replace hF := hF.at h₁
  clear h₁
  refine goes_oper_k rfl rfl (by decide) (fun Kx hKx => ?_)
  go_simp
  refine hKx _ _ ⟨DF.none ?_, ?_⟩
  · intro e he
    have hm := mem_listed he
    simp [go_sem, *] at hm
  clear hKx Kx
  refine Goes.step rfl (fun _ h₁ => ?_)
  replace hF := hF.at h₁
  clear h₁
  rw [stepG_region_end]
  simp only [goes_go]
  refine ⟨DF.none (by intro e he; simp at he), ?_⟩
  refine Goes.step rfl (fun _ h₁ => ?_)
  replace hF := hF.at h₁
  clear h₁
  rw [stepG_seq]
  simp only [goes_go]
  refine ⟨DF.none (by intro e he; simp at he), ?_⟩
  refine Goes.step rfl (fun _ h₁ => ?_)
  replace hF := hF.at h₁
  clear h₁
  rw [stepG_seq]
  simp only [goes_go]
  refine ⟨DF.none (by intro e he; simp at he), ?_⟩
  refine Goes.step rfl (fun _ h₁ => ?_)
  replace hF := hF.at h₁
  clear h₁
  rw [stepG_region]
  simp only [goes_go, List.size_toArray, List.length_cons, List.length_nil, Nat.reduceAdd, Nat.zero_add, List.range, List.range.loop]
  refine ⟨DF.none (by intro e he; simp at he), ?_⟩
  refine Goes.step rfl (fun _ h₁ => ?_)
  replace hF := hF.at h₁
  clear h₁
  refine goes_oper_k rfl rfl (by decide) (fun Kx hKx => ?_)
  go_simp
  refine hKx _ _ ⟨DF.none ?_, ?_⟩
  · intro e he
    have hm := mem_listed he
    simp [go_sem, *] at hm
  clear hKx Kx
  refine Goes.step rfl (fun _ h₁ => ?_)
  replace hF := hF.at h₁
  clear h₁
  refine goes_oper_k rfl rfl (by decide) (fun Kx hKx => ?_)
  go_simp
  refine hKx _ _ ⟨DF.none ?_, ?_⟩
  · intro e he
    have hm := mem_listed he
    simp [go_sem, *] at hm
  clear hKx Kx
  refine Goes.step rfl (fun _ h₁ => ?_)
  replace hF := hF.at h₁
  clear h₁
  refine goes_oper_k rfl rfl (by decide) (fun Kx hKx => ?_)
  go_simp
  refine hKx _ _ ⟨DF.none ?_, ?_⟩
  · intro e he
    have hm := mem_listed he
    simp [go_sem, *] at hm
  clear hKx Kx
  refine Goes.step rfl (fun _ h₁ => ?_)
  replace hF := hF.at h₁
  clear h₁
  rw [stepG_region_end]
  simp only [goes_go]
  refine ⟨DF.none (by intro e he; simp at he), ?_⟩
  refine Goes.step rfl (fun _ h₁ => ?_)
  replace hF := hF.at h₁
  clear h₁
  rw [stepG_cond (t := false) (by first | rfl | (simp [Act.eval]; omega))]
  simp only [goes_go, Bool.false_eq_true, ↓reduceIte]
  refine ⟨DF.none (by intro e he; simp at he), ?_⟩
  refine Goes.step rfl (fun _ h₁ => ?_)
  replace hF := hF.at h₁
  clear h₁
  rw [stepG_skip]
  simp only [goes_go]
  refine ⟨DF.none (by intro e he; simp at he), ?_⟩
  refine Goes.step rfl (fun _ h₁ => ?_)
  replace hF := hF.at h₁
  clear h₁
  rw [stepG_seq]
  simp only [goes_go]
  refine ⟨DF.none (by intro e he; simp at he), ?_⟩
  refine Goes.step rfl (fun _ h₁ => ?_)
  replace hF := hF.at h₁
  clear h₁
  rw [stepG_region]
  simp only [goes_go, List.size_toArray, List.length_cons, List.length_nil, Nat.reduceAdd, Nat.zero_add, List.range, List.range.loop]
  refine ⟨DF.none (by intro e he; simp at he), ?_⟩
  refine Goes.step rfl (fun _ h₁ => ?_)
  replace hF := hF.at h₁
  clear h₁
  refine goes_oper_k rfl rfl (by decide) (fun Kx hKx => ?_)
  go_simp
  refine hKx _ _ ⟨DF.none ?_, ?_⟩
  · intro e he
    have hm := mem_listed he
    simp [go_sem, *] at hm
  clear hKx Kx
  refine Goes.step rfl (fun _ h₁ => ?_)
  replace hF := hF.at h₁
  clear h₁
  refine goes_callF rfl rfl (by decide) rfl Try.func18 nmd_DrawTwiceLeft rfl ⟨DF.none (by intro e he; simp at he), ?_⟩
  walk_nrm
  refine Goes.stop (fun w₁ h₁ => ⟨(hF.at h₁).sz, ?_⟩)
  replace hF := hF.at h₁
  clear h₁
  refine (pureQ_beside kokD rfl (Q := fun v => ∃ z : Int, Fits z ∧ v = .int .i64 z) (fun v hv => (drawTwice v a len cap zs (isRow_at h hF.kf hv)).mono fun e w' x => let ⟨⟨z, hz, he⟩, hB⟩ := x; ⟨_, ⟨z, hz, rfl⟩, he, hB⟩) hF.kf.rows).bind fun c2 S2 g2 w2 hp => ?_
  have hpk := hp.kf
  obtain ⟨x, hx, hg⟩ := hp.eg
  obtain rfl := hp.ec
  obtain rfl := hp.eS
  subst hg
  clear hp
  replace hF := KN.mk (hF.kf.trans hpk) (Nat.le_refl _)
  clear hpk
  obtain ⟨p, hpf, rfl⟩ := hx
  clear hpf
  obtain ⟨z, hz⟩ : ∃ z, twiceLV p = z := ⟨_, rfl⟩
  obtain ⟨y, hy⟩ : ∃ z, twiceOk p = z := ⟨_, rfl⟩
  have hS := fun v => specTwice p v
  have hI := fun c S b₀ a₀ ops₀ i₀ rest₀ k₀ cs W hc => @implTwice W c S b₀ a₀ ops₀ i₀ rest₀ k₀ cs hc p
  have hI2 := fun c S b₀ a₀ ops₀ i₀ rest₀ k₀ cs W hc => @implTwice W c S b₀ a₀ ops₀ i₀ rest₀ k₀ cs hc 2
  have hI3 := fun c S b₀ a₀ ops₀ i₀ rest₀ k₀ cs W hc => @implTwice W c S b₀ a₀ ops₀ i₀ rest₀ k₀ cs hc 3
  simp only [twice_two, twice_ok2] at hI2
  simp only [twice_three, twice_ok3] at hI3
  simp only [hz, hy] at hS hI
  have hno : y = false → z = -1 := fun e => by rw [← hz]; exact twice_no (hy.trans e)
  have hyes : y = true → ¬ p < 5 → z = 2 := fun e h5 => by rw [← hz]; exact twice_yes (hy.trans e) h5
  clear hz hy
  rw [Frame.finish_at]
  refine BW.walk 300 ?_
  walk_nrm
  refine Goes.step rfl (fun _ h₁ => ?_)
  replace hF := hF.at h₁
  clear h₁
  refine goes_oper_k rfl rfl (by decide) (fun Kx hKx => ?_)
  go_simp
  refine hKx _ _ ⟨DF.none ?_, ?_⟩
  · intro e he
    have hm := mem_listed he
    simp [go_sem, *] at hm
  clear hKx Kx
  refine Goes.step rfl (fun _ h₁ => ?_)
  replace hF := hF.at h₁
  clear h₁
  rw [stepG_region_end]
  simp only [goes_go]
  refine ⟨DF.none (by intro e he; simp at he), ?_⟩
  refine Goes.step rfl (fun _ h₁ => ?_)
  replace hF := hF.at h₁
  clear h₁
  rw [stepG_seq]
  simp only [goes_go]
  refine ⟨DF.none (by intro e he; simp at he), ?_⟩
  refine Goes.step rfl (fun _ h₁ => ?_)
  replace hF := hF.at h₁
  clear h₁
  rw [stepG_region]
  simp only [goes_go, List.size_toArray, List.length_cons, List.length_nil, Nat.reduceAdd, Nat.zero_add, List.range, List.range.loop]
  refine ⟨DF.none (by intro e he; simp at he), ?_⟩
  refine Goes.step rfl (fun _ h₁ => ?_)
  replace hF := hF.at h₁
  clear h₁
  refine goes_oper_k rfl rfl (by decide) (fun Kx hKx => ?_)
  go_simp
  refine hKx _ _ ⟨DF.none ?_, ?_⟩
  · intro e he
    have hm := mem_listed he
    simp [go_sem, *] at hm
  clear hKx Kx
  refine Goes.step rfl (fun _ h₁ => ?_)
  replace hF := hF.at h₁
  clear h₁
  refine goes_callF rfl rfl (by decide) rfl Try.func19 nm_TwiceLeft rfl ⟨DF.none (by intro e he; simp at he), ?_⟩
  walk_nrm
  refine Goes.stop (fun w₁ h₁ => ⟨(hF.at h₁).sz, ?_⟩)
  replace hF := hF.at h₁
  clear h₁
  refine (hI _ _ _ _ _ _ _ _ _ _ (by omega) hF.kf.rows).bind fun c2 S2 g2 w2 hp => ?_
  obtain ⟨hc2, rfl, hpk⟩ := hp
  replace hF := KN.mk (hF.kf.trans hpk) (Nat.le_refl _)
  clear hpk
  rw [Frame.finish_at]
  refine BW.walk 300 ?_
  walk_nrm
  refine Goes.step rfl (fun _ h₁ => ?_)
  replace hF := hF.at h₁
  clear h₁
  refine goes_oper_k rfl rfl (by decide) (fun Kx hKx => ?_)
  go_simp
  refine hKx _ _ ⟨DF.none ?_, ?_⟩
  · intro e he
    have hm := mem_listed he
    simp [go_sem, *] at hm
  clear hKx Kx
  refine Goes.step rfl (fun _ h₁ => ?_)
  replace hF := hF.at h₁
  clear h₁
  refine goes_oper_k rfl rfl (by decide) (fun Kx hKx => ?_)
  go_simp
  refine hKx _ _ ⟨DF.none ?_, ?_⟩
  · intro e he
    have hm := mem_listed he
    simp [go_sem, *] at hm
  clear hKx Kx
  refine Goes.step rfl (fun _ h₁ => ?_)
  replace hF := hF.at h₁
  clear h₁
  refine goes_oper_k rfl rfl (by decide) (fun Kx hKx => ?_)
  go_simp
  refine hKx _ _ ⟨DF.none ?_, ?_⟩
  · intro e he
    have hm := mem_listed he
    simp [go_sem, *] at hm
  clear hKx Kx
  refine Goes.step rfl (fun _ h₁ => ?_)
  replace hF := hF.at h₁
  clear h₁
  refine goes_oper_k rfl rfl (by decide) (fun Kx hKx => ?_)
  go_simp
  refine hKx _ _ ⟨DF.none ?_, ?_⟩
  · intro e he
    have hm := mem_listed he
    simp [go_sem, *] at hm
  clear hKx Kx
  refine Goes.step rfl (fun _ h₁ => ?_)
  replace hF := hF.at h₁
  clear h₁
  refine goes_oper_k rfl rfl (by decide) (fun Kx hKx => ?_)
  go_simp
  refine hKx _ _ ⟨DF.none ?_, ?_⟩
  · intro e he
    have hm := mem_listed he
    simp [go_sem, *] at hm
  clear hKx Kx
  refine Goes.step rfl (fun _ h₁ => ?_)
  replace hF := hF.at h₁
  clear h₁
  rw [stepG_region_end]
  simp only [goes_go]
  refine ⟨DF.none (by intro e he; simp at he), ?_⟩
  refine Goes.step rfl (fun _ h₁ => ?_)
  replace hF := hF.at h₁
  clear h₁
  rw [stepG_seq]
  simp only [goes_go]
  refine ⟨DF.none (by intro e he; simp at he), ?_⟩
  refine Goes.step rfl (fun _ h₁ => ?_)
  replace hF := hF.at h₁
  clear h₁
  rw [stepG_region]
  simp only [goes_go, List.size_toArray, List.length_cons, List.length_nil, Nat.reduceAdd, Nat.zero_add, List.range, List.range.loop]
  refine ⟨DF.none (by intro e he; simp at he), ?_⟩
  refine Goes.step rfl (fun _ h₁ => ?_)
  replace hF := hF.at h₁
  clear h₁
  refine goes_oper_k rfl rfl (by decide) (fun Kx hKx => ?_)
  go_simp
  refine hKx _ _ ⟨DF.none ?_, ?_⟩
  · intro e he
    have hm := mem_listed he
    simp [go_sem, *] at hm
  clear hKx Kx
  refine Goes.step rfl (fun _ h₁ => ?_)
  replace hF := hF.at h₁
  clear h₁
  refine goes_callF rfl rfl (by decide) rfl Try.func20 nms_TwiceLeft rfl ⟨DF.none (by intro e he; simp at he), ?_⟩
  walk_nrm
  refine Goes.stop (fun w₁ h₁ => ⟨(hF.at h₁).sz, ?_⟩)
  replace hF := hF.at h₁
  clear h₁
  refine (pure_beside kok7 rfl (fun v => hS v) hF.kf.rows).bind fun c2 S2 g2 w2 hp => ?_
  have hpk := hp.kf
  obtain rfl := hp.ec
  obtain rfl := hp.eS
  obtain rfl := hp.eg
  clear hp
  replace hF := KN.mk (hF.kf.trans hpk) (Nat.le_refl _)
  clear hpk
  rw [Frame.finish_at]
  refine BW.walk 300 ?_
  walk_nrm
  refine Goes.step rfl (fun _ h₁ => ?_)
  replace hF := hF.at h₁
  clear h₁
  refine goes_oper_k rfl rfl (by decide) (fun Kx hKx => ?_)
  go_simp
  refine hKx _ _ ⟨DF.none ?_, ?_⟩
  · intro e he
    have hm := mem_listed he
    simp [go_sem, *] at hm
  clear hKx Kx
  refine Goes.step rfl (fun _ h₁ => ?_)
  replace hF := hF.at h₁
  clear h₁
  refine goes_oper_k rfl rfl (by decide) (fun Kx hKx => ?_)
  go_simp
  refine hKx _ _ ⟨DF.none ?_, ?_⟩
  · intro e he
    have hm := mem_listed he
    simp [go_sem, *] at hm
  clear hKx Kx
  refine Goes.step rfl (fun _ h₁ => ?_)
  replace hF := hF.at h₁
  clear h₁
  refine goes_oper_k rfl rfl (by decide) (fun Kx hKx => ?_)
  go_simp
  refine hKx _ _ ⟨DF.none ?_, ?_⟩
  · intro e he
    have hm := mem_listed he
    simp [go_sem, *] at hm
  clear hKx Kx
  refine Goes.step rfl (fun _ h₁ => ?_)
  replace hF := hF.at h₁
  clear h₁
  refine goes_oper_k rfl rfl (by decide) (fun Kx hKx => ?_)
  go_simp
  refine hKx _ _ ⟨DF.none ?_, ?_⟩
  · intro e he
    have hm := mem_listed he
    simp [go_sem, *] at hm
  clear hKx Kx
  refine Goes.step rfl (fun _ h₁ => ?_)
  replace hF := hF.at h₁
  clear h₁
  refine goes_oper_k rfl rfl (by decide) (fun Kx hKx => ?_)
  go_simp
  refine hKx _ _ ⟨DF.none ?_, ?_⟩
  · intro e he
    have hm := mem_listed he
    simp [go_sem, *] at hm
  clear hKx Kx
  refine Goes.step rfl (fun _ h₁ => ?_)
  replace hF := hF.at h₁
  clear h₁
  rw [stepG_region_end]
  simp only [goes_go]
  refine ⟨DF.none (by intro e he; simp at he), ?_⟩
  refine Goes.step rfl (fun _ h₁ => ?_)
  replace hF := hF.at h₁
  clear h₁
  rw [stepG_seq]
  simp only [goes_go]
  refine ⟨DF.none (by intro e he; simp at he), ?_⟩
  refine Goes.step rfl (fun _ h₁ => ?_)
  replace hF := hF.at h₁
  clear h₁
  rw [stepG_seq]
  simp only [goes_go]
  refine ⟨DF.none (by intro e he; simp at he), ?_⟩
  refine Goes.step rfl (fun _ h₁ => ?_)
  replace hF := hF.at h₁
  clear h₁
  rw [stepG_region]
  simp only [goes_go, List.size_toArray, List.length_cons, List.length_nil, Nat.reduceAdd, Nat.zero_add, List.range, List.range.loop]
  refine ⟨DF.none (by intro e he; simp at he), ?_⟩
  refine Goes.step rfl (fun _ h₁ => ?_)
  replace hF := hF.at h₁
  clear h₁
  refine goes_oper_k rfl rfl (by decide) (fun Kx hKx => ?_)
  go_simp
  refine hKx _ _ ⟨DF.none ?_, ?_⟩
  · intro e he
    have hm := mem_listed he
    simp [go_sem, *] at hm
  clear hKx Kx
  refine Goes.step rfl (fun _ h₁ => ?_)
  replace hF := hF.at h₁
  clear h₁
  refine goes_oper_k rfl rfl (by decide) (fun Kx hKx => ?_)
  go_simp
  refine hKx _ _ ⟨DF.none ?_, ?_⟩
  · intro e he
    have hm := mem_listed he
    simp [go_sem, *] at hm
  clear hKx Kx
  refine Goes.step rfl (fun _ h₁ => ?_)
  replace hF := hF.at h₁
  clear h₁
  refine goes_oper_k rfl rfl (by decide) (fun Kx hKx => ?_)
  go_simp
  refine hKx _ _ ⟨DF.none ?_, ?_⟩
  · intro e he
    have hm := mem_listed he
    simp [go_sem, *] at hm
  clear hKx Kx
  refine Goes.step rfl (fun _ h₁ => ?_)
  replace hF := hF.at h₁
  clear h₁
  refine goes_oper_k rfl rfl (by decide) (fun Kx hKx => ?_)
  go_simp
  refine hKx _ _ ⟨DF.none ?_, ?_⟩
  · intro e he
    have hm := mem_listed he
    simp [go_sem, *] at hm
  clear hKx Kx
  refine Goes.step rfl (fun _ h₁ => ?_)
  replace hF := hF.at h₁
  clear h₁
  refine goes_oper_k rfl rfl (by decide) (fun Kx hKx => ?_)
  go_simp
  refine hKx _ _ ⟨DF.none ?_, ?_⟩
  · intro e he
    have hm := mem_listed he
    simp [go_sem, *] at hm
  clear hKx Kx
  refine Goes.step rfl (fun _ h₁ => ?_)
  replace hF := hF.at h₁
  clear h₁
  refine goes_oper_k rfl rfl (by decide) (fun Kx hKx => ?_)
  go_simp
  refine hKx _ _ ⟨DF.none ?_, ?_⟩
  · intro e he
    have hm := mem_listed he
    simp [go_sem, *] at hm
  clear hKx Kx
  refine Goes.step rfl (fun _ h₁ => ?_)
  replace hF := hF.at h₁
  clear h₁
  refine goes_oper_k rfl rfl (by decide) (fun Kx hKx => ?_)
  go_simp
  refine hKx _ _ ⟨DF.none ?_, ?_⟩
  · intro e he
    have hm := mem_listed he
    simp [go_sem, ev_neqB, *] at hm
  clear hKx Kx
  refine Goes.step rfl (fun _ h₁ => ?_)
  replace hF := hF.at h₁
  clear h₁
  refine goes_oper_k rfl rfl (by decide) (fun Kx hKx => ?_)
  go_simp
  refine hKx _ _ ⟨DF.none ?_, ?_⟩
  · intro e he
    have hm := mem_listed he
    simp [go_sem, *] at hm
  clear hKx Kx
  refine Goes.step rfl (fun _ h₁ => ?_)
  replace hF := hF.at h₁
  clear h₁
  rw [stepG_region_end]
  simp only [goes_go]
  refine ⟨DF.none (by intro e he; simp at he), ?_⟩
  refine Goes.step rfl (fun _ h₁ => ?_)
  replace hF := hF.at h₁
  clear h₁
  rw [stepG_cond (t := false) (by first | rfl | (simp [Act.eval]; omega))]
  simp only [goes_go, Bool.false_eq_true, ↓reduceIte]
  refine ⟨DF.none (by intro e he; simp at he), ?_⟩
  refine Goes.step rfl (fun _ h₁ => ?_)
  replace hF := hF.at h₁
  clear h₁
  rw [stepG_skip]
  simp only [goes_go]
  refine ⟨DF.none (by intro e he; simp at he), ?_⟩
  refine Goes.step rfl (fun _ h₁ => ?_)
  replace hF := hF.at h₁
  clear h₁
  rw [stepG_seq]
  simp only [goes_go]
  refine ⟨DF.none (by intro e he; simp at he), ?_⟩
  refine Goes.step rfl (fun _ h₁ => ?_)
  replace hF := hF.at h₁
  clear h₁
  rw [stepG_region]
  simp only [goes_go, List.size_toArray, List.length_cons, List.length_nil, Nat.reduceAdd, Nat.zero_add, List.range, List.range.loop]
  refine ⟨DF.none (by intro e he; simp at he), ?_⟩
  refine Goes.step rfl (fun _ h₁ => ?_)
  replace hF := hF.at h₁
  clear h₁
  refine goes_callF rfl rfl (by decide) rfl Try.func19 nm_TwiceLeft rfl ⟨DF.none (by intro e he; simp at he), ?_⟩
  walk_nrm
  refine Goes.stop (fun w₁ h₁ => ⟨(hF.at h₁).sz, ?_⟩)
  replace hF := hF.at h₁
  clear h₁
  refine (hI2 _ _ _ _ _ _ _ _ _ _ (by omega) hF.kf.rows).bind fun c2 S2 g2 w2 hp => ?_
  obtain ⟨hc3, rfl, hpk⟩ := hp
  replace hF := KN.mk (hF.kf.trans hpk) (Nat.le_refl _)
  clear hpk
  rw [Frame.finish_at]
  refine BW.walk 300 ?_
  walk_nrm
  refine Goes.step rfl (fun _ h₁ => ?_)
  replace hF := hF.at h₁
  clear h₁
  refine goes_oper_k rfl rfl (by decide) (fun Kx hKx => ?_)
  go_simp
  refine hKx _ _ ⟨DF.none ?_, ?_⟩
  · intro e he
    have hm := mem_listed he
    simp [go_sem, *] at hm
  clear hKx Kx
  refine Goes.step rfl (fun _ h₁ => ?_)
  replace hF := hF.at h₁
  clear h₁
  refine goes_oper_k rfl rfl (by decide) (fun Kx hKx => ?_)
  go_simp
  refine hKx _ _ ⟨DF.none ?_, ?_⟩
  · intro e he
    have hm := mem_listed he
    simp [go_sem, *] at hm
  clear hKx Kx
  refine Goes.step rfl (fun _ h₁ => ?_)
  replace hF := hF.at h₁
  clear h₁
  refine goes_oper_k rfl rfl (by decide) (fun Kx hKx => ?_)
  go_simp
  refine hKx _ _ ⟨DF.none ?_, ?_⟩
  · intro e he
    have hm := mem_listed he
    simp [go_sem, *] at hm
  clear hKx Kx
  refine Goes.step rfl (fun _ h₁ => ?_)
  replace hF := hF.at h₁
  clear h₁
  refine goes_oper_k rfl rfl (by decide) (fun Kx hKx => ?_)
  go_simp
  refine hKx _ _ ⟨DF.none ?_, ?_⟩
  · intro e he
    have hm := mem_listed he
    simp [go_sem, *] at hm
  clear hKx Kx
  refine Goes.step rfl (fun _ h₁ => ?_)
  replace hF := hF.at h₁
  clear h₁
  refine goes_oper_k rfl rfl (by decide) (fun Kx hKx => ?_)
  go_simp
  refine hKx _ _ ⟨DF.none ?_, ?_⟩
  · intro e he
    have hm := mem_listed he
    simp [go_sem, *] at hm
  clear hKx Kx
  refine Goes.step rfl (fun _ h₁ => ?_)
  replace hF := hF.at h₁
  clear h₁
  rw [stepG_region_end]
  simp only [goes_go]
  refine ⟨DF.none (by intro e he; simp at he), ?_⟩
  refine Goes.step rfl (fun _ h₁ => ?_)
  replace hF := hF.at h₁
  clear h₁
  rw [stepG_seq]
  simp only [goes_go]
  refine ⟨DF.none (by intro e he; simp at he), ?_⟩
  refine Goes.step rfl (fun _ h₁ => ?_)
  replace hF := hF.at h₁
  clear h₁
  rw [stepG_region]
  simp only [goes_go, List.size_toArray, List.length_cons, List.length_nil, Nat.reduceAdd, Nat.zero_add, List.range, List.range.loop]
  refine ⟨DF.none (by intro e he; simp at he), ?_⟩
  refine Goes.step rfl (fun _ h₁ => ?_)
  replace hF := hF.at h₁
  clear h₁
  refine goes_callF rfl rfl (by decide) rfl Try.func19 nm_TwiceLeft rfl ⟨DF.none (by intro e he; simp at he), ?_⟩
  walk_nrm
  refine Goes.stop (fun w₁ h₁ => ⟨(hF.at h₁).sz, ?_⟩)
  replace hF := hF.at h₁
  clear h₁
  refine (hI3 _ _ _ _ _ _ _ _ _ _ (by omega) hF.kf.rows).bind fun c2 S2 g2 w2 hp => ?_
  obtain ⟨hc4, rfl, hpk⟩ := hp
  replace hF := KN.mk (hF.kf.trans hpk) (Nat.le_refl _)
  clear hpk
  rw [Frame.finish_at]
  refine BW.walk 300 ?_
  walk_nrm
  refine Goes.step rfl (fun _ h₁ => ?_)
  replace hF := hF.at h₁
  clear h₁
  refine goes_oper_k rfl rfl (by decide) (fun Kx hKx => ?_)
  go_simp
  refine hKx _ _ ⟨DF.none ?_, ?_⟩
  · intro e he
    have hm := mem_listed he
    simp [go_sem, *] at hm
  clear hKx Kx
  refine Goes.step rfl (fun _ h₁ => ?_)
  replace hF := hF.at h₁
  clear h₁
  refine goes_oper_k rfl rfl (by decide) (fun Kx hKx => ?_)
  go_simp
  refine hKx _ _ ⟨DF.none ?_, ?_⟩
  · intro e he
    have hm := mem_listed he
    simp [go_sem, *] at hm
  clear hKx Kx
  refine Goes.step rfl (fun _ h₁ => ?_)
  replace hF := hF.at h₁
  clear h₁
  refine goes_oper_k rfl rfl (by decide) (fun Kx hKx => ?_)
  go_simp
  refine hKx _ _ ⟨DF.none ?_, ?_⟩
  · intro e he
    have hm := mem_listed he
    simp [go_sem, *] at hm
  clear hKx Kx
  refine Goes.step rfl (fun _ h₁ => ?_)
  replace hF := hF.at h₁
  clear h₁
  refine goes_oper_k rfl rfl (by decide) (fun Kx hKx => ?_)
  go_simp
  refine hKx _ _ ⟨DF.none ?_, ?_⟩
  · intro e he
    have hm := mem_listed he
    simp [go_sem, *] at hm
  clear hKx Kx
  refine Goes.step rfl (fun _ h₁ => ?_)
  replace hF := hF.at h₁
  clear h₁
  refine goes_oper_k rfl rfl (by decide) (fun Kx hKx => ?_)
  go_simp
  refine hKx _ _ ⟨DF.none ?_, ?_⟩
  · intro e he
    have hm := mem_listed he
    simp [go_sem, *] at hm
  clear hKx Kx
  refine Goes.step rfl (fun _ h₁ => ?_)
  replace hF := hF.at h₁
  clear h₁
  rw [stepG_region_end]
  simp only [goes_go]
  refine ⟨DF.none (by intro e he; simp at he), ?_⟩
  cases y with
  | false =>
    obtain rfl := hno rfl
    clear hno hyes
    refine Goes.step rfl (fun _ h₁ => ?_)
    replace hF := hF.at h₁
    clear h₁
    rw [stepG_seq]
    simp only [goes_go]
    refine ⟨DF.none (by intro e he; simp at he), ?_⟩
    refine Goes.step rfl (fun _ h₁ => ?_)
    replace hF := hF.at h₁
    clear h₁
    rw [stepG_region]
    simp only [goes_go, List.size_toArray, List.length_cons, List.length_nil, Nat.reduceAdd, Nat.zero_add, List.range, List.range.loop]
    refine ⟨DF.none (by intro e he; simp at he), ?_⟩
    refine Goes.step rfl (fun _ h₁ => ?_)
    replace hF := hF.at h₁
    clear h₁
    refine goes_oper_k rfl rfl (by decide) (fun Kx hKx => ?_)
    go_simp
    refine hKx _ _ ⟨DF.none ?_, ?_⟩
    · intro e he
      have hm := mem_listed he
      simp [go_sem, *] at hm
    clear hKx Kx
    refine Goes.step rfl (fun _ h₁ => ?_)
    replace hF := hF.at h₁
    clear h₁
    refine goes_oper_k rfl rfl (by decide) (fun Kx hKx => ?_)
    go_simp
    refine hKx _ _ ⟨DF.none ?_, ?_⟩
    · intro e he
      have hm := mem_listed he
      simp [go_sem, *] at hm
    clear hKx Kx
    refine Goes.step rfl (fun _ h₁ => ?_)
    replace hF := hF.at h₁
    clear h₁
    refine goes_oper_k rfl rfl (by decide) (fun Kx hKx => ?_)
    go_simp
    refine hKx _ _ ⟨DF.none ?_, ?_⟩
    · intro e he
      have hm := mem_listed he
      simp [go_sem, *] at hm
    clear hKx Kx
    refine Goes.step rfl (fun _ h₁ => ?_)
    replace hF := hF.at h₁
    clear h₁
    refine goes_oper_k rfl rfl (by decide) (fun Kx hKx => ?_)
    go_simp
    refine hKx _ _ ⟨DF.none ?_, ?_⟩
    · intro e he
      have hm := mem_listed he
      simp [go_sem, *] at hm
    clear hKx Kx
    refine Goes.step rfl (fun _ h₁ => ?_)
    replace hF := hF.at h₁
    clear h₁
    refine goes_oper_k rfl rfl (by decide) (fun Kx hKx => ?_)
    go_simp
    refine hKx _ _ ⟨DF.none ?_, ?_⟩
    · intro e he
      have hm := mem_listed he
      simp [go_sem, *] at hm
    clear hKx Kx
    refine Goes.step rfl (fun _ h₁ => ?_)
    replace hF := hF.at h₁
    clear h₁
    refine goes_oper_k rfl rfl (by decide) (fun Kx hKx => ?_)
    go_simp
    refine hKx _ _ ⟨DF.none ?_, ?_⟩
    · intro e he
      have hm := mem_listed he
      simp [go_sem, *] at hm
    clear hKx Kx
    refine Goes.step rfl (fun _ h₁ => ?_)
    replace hF := hF.at h₁
    clear h₁
    refine goes_oper_k rfl rfl (by decide) (fun Kx hKx => ?_)
    go_simp
    refine hKx _ _ ⟨DF.none ?_, ?_⟩
    · intro e he
      have hm := mem_listed he
      simp [go_sem, *] at hm
    clear hKx Kx
    refine Goes.step rfl (fun _ h₁ => ?_)
    replace hF := hF.at h₁
    clear h₁
    rw [stepG_unwanted rfl rfl]
    simp only [goes_go]
    refine ⟨DF.none (by intro e he; simp at he), ?_⟩
    walk_nrm
    refine Goes.step rfl (fun _ h₁ => ?_)
    replace hF := hF.at h₁
    clear h₁
    rw [stepG_unwanted rfl rfl]
    simp only [goes_go]
    refine ⟨DF.none (by intro e he; simp at he), ?_⟩
    walk_nrm
    refine Goes.step rfl (fun _ h₁ => ?_)
    replace hF := hF.at h₁
    clear h₁
    rw [stepG_unwanted rfl rfl]
    simp only [goes_go]
    refine ⟨DF.none (by intro e he; simp at he), ?_⟩
    walk_nrm
    refine Goes.step rfl (fun _ h₁ => ?_)
    replace hF := hF.at h₁
    clear h₁
    rw [stepG_unwanted rfl rfl]
    simp only [goes_go]
    refine ⟨DF.none (by intro e he; simp at he), ?_⟩
    walk_nrm
    refine Goes.step rfl (fun _ h₁ => ?_)
    replace hF := hF.at h₁
    clear h₁
    rw [stepG_unwanted rfl rfl]
    simp only [goes_go]
    refine ⟨DF.none (by intro e he; simp at he), ?_⟩
    walk_nrm
    refine Goes.step rfl (fun _ h₁ => ?_)
    replace hF := hF.at h₁
    clear h₁
    rw [stepG_unwanted rfl rfl]
    simp only [goes_go]
    refine ⟨DF.none (by intro e he; simp at he), ?_⟩
    walk_nrm
    refine Goes.step rfl (fun _ h₁ => ?_)
    replace hF := hF.at h₁
    clear h₁
    rw [stepG_unwanted rfl rfl]
    simp only [goes_go]
    refine ⟨DF.none (by intro e he; simp at he), ?_⟩
    walk_nrm
    refine Goes.step rfl (fun _ h₁ => ?_)
    replace hF := hF.at h₁
    clear h₁
    rw [stepG_unwanted rfl rfl]
    simp only [goes_go]
    refine ⟨DF.none (by intro e he; simp at he), ?_⟩
    walk_nrm
    refine Goes.step rfl (fun _ h₁ => ?_)
    replace hF := hF.at h₁
    clear h₁
    rw [stepG_unwanted rfl rfl]
    simp only [goes_go]
    refine ⟨DF.none (by intro e he; simp at he), ?_⟩
    walk_nrm
    refine Goes.step rfl (fun _ h₁ => ?_)
    replace hF := hF.at h₁
    clear h₁
    refine goes_oper_k rfl rfl (by decide) (fun Kx hKx => ?_)
    go_simp
    refine hKx _ _ ⟨DF.none ?_, ?_⟩
    · intro e he
      have hm := mem_listed he
      simp [go_sem, *] at hm
    clear hKx Kx
    refine Goes.step rfl (fun _ h₁ => ?_)
    replace hF := hF.at h₁
    clear h₁
    refine goes_oper_k rfl rfl (by decide) (fun Kx hKx => ?_)
    go_simp
    refine hKx _ _ ⟨DF.none ?_, ?_⟩
    · intro e he
      have hm := mem_listed he
      simp [go_sem, *] at hm
    clear hKx Kx
    refine Goes.step rfl (fun _ h₁ => ?_)
    replace hF := hF.at h₁
    clear h₁
    refine goes_oper_k rfl rfl (by decide) (fun Kx hKx => ?_)
    go_simp
    refine hKx _ _ ⟨DF.none ?_, ?_⟩
    · intro e he
      have hm := mem_listed he
      simp [go_sem, *] at hm
    clear hKx Kx
    refine Goes.step rfl (fun _ h₁ => ?_)
    replace hF := hF.at h₁
    clear h₁
    refine goes_oper_k rfl rfl (by decide) (fun Kx hKx => ?_)
    go_simp
    refine hKx _ _ ⟨DF.none ?_, ?_⟩
    · intro e he
      have hm := mem_listed he
      simp [go_sem, *] at hm
    clear hKx Kx
    refine Goes.step rfl (fun _ h₁ => ?_)
    replace hF := hF.at h₁
    clear h₁
    refine goes_oper_k rfl rfl (by decide) (fun Kx hKx => ?_)
    go_simp
    refine hKx _ _ ⟨DF.none ?_, ?_⟩
    · intro e he
      have hm := mem_listed he
      simp [go_sem, *] at hm
    clear hKx Kx
    refine Goes.step rfl (fun _ h₁ => ?_)
    replace hF := hF.at h₁
    clear h₁
    refine goes_oper_k rfl rfl (by decide) (fun Kx hKx => ?_)
    go_simp
    refine hKx _ _ ⟨DF.none ?_, ?_⟩
    · intro e he
      have hm := mem_listed he
      simp [go_sem, *] at hm
    clear hKx Kx
    refine Goes.step rfl (fun _ h₁ => ?_)
    replace hF := hF.at h₁
    clear h₁
    refine goes_oper_k rfl rfl (by decide) (fun Kx hKx => ?_)
    go_simp
    refine hKx _ _ ⟨DF.none ?_, ?_⟩
    · intro e he
      have hm := mem_listed he
      simp [go_sem, *] at hm
    clear hKx Kx
    refine Goes.step rfl (fun _ h₁ => ?_)
    replace hF := hF.at h₁
    clear h₁
    refine goes_oper_k rfl rfl (by decide) (fun Kx hKx => ?_)
    go_simp
    refine hKx _ _ ⟨DF.none ?_, ?_⟩
    · intro e he
      have hm := mem_listed he
      simp [go_sem, *] at hm
    clear hKx Kx
    refine Goes.step rfl (fun _ h₁ => ?_)
    replace hF := hF.at h₁
    clear h₁
    refine goes_oper_k rfl rfl (by decide) (fun Kx hKx => ?_)
    go_simp
    refine hKx _ _ ⟨DF.none ?_, ?_⟩
    · intro e he
      have hm := mem_listed he
      simp [go_sem, *] at hm
    clear hKx Kx
    refine Goes.step rfl (fun _ h₁ => ?_)
    replace hF := hF.at h₁
    clear h₁
    refine goes_oper_k rfl rfl (by decide) (fun Kx hKx => ?_)
    go_simp
    refine hKx _ _ ⟨DF.none ?_, ?_⟩
    · intro e he
      have hm := mem_listed he
      simp [go_sem, *] at hm
    clear hKx Kx
    refine Goes.step rfl (fun _ h₁ => ?_)
    replace hF := hF.at h₁
    clear h₁
    refine goes_oper_k rfl rfl (by decide) (fun Kx hKx => ?_)
    go_simp
    refine hKx _ _ ⟨DF.none ?_, ?_⟩
    · intro e he
      have hm := mem_listed he
      simp [go_sem, *] at hm
    clear hKx Kx
    refine Goes.step rfl (fun _ h₁ => ?_)
    replace hF := hF.at h₁
    clear h₁
    refine goes_oper_k rfl rfl (by decide) (fun Kx hKx => ?_)
    go_simp
    refine hKx _ _ ⟨DF.none ?_, ?_⟩
    · intro e he
      have hm := mem_listed he
      simp [go_sem, *] at hm
    clear hKx Kx
    refine Goes.step rfl (fun _ h₁ => ?_)
    replace hF := hF.at h₁
    clear h₁
    refine goes_oper_k rfl rfl (by decide) (fun Kx hKx => ?_)
    go_simp
    refine hKx _ _ ⟨DF.none ?_, ?_⟩
    · intro e he
      have hm := mem_listed he
      simp [go_sem, *] at hm
    clear hKx Kx
    refine Goes.step rfl (fun _ h₁ => ?_)
    replace hF := hF.at h₁
    clear h₁
    refine goes_oper_k rfl rfl (by decide) (fun Kx hKx => ?_)
    go_simp
    refine hKx _ _ ⟨DF.none ?_, ?_⟩
    · intro e he
      have hm := mem_listed he
      simp [go_sem, *] at hm
    clear hKx Kx
    refine Goes.step rfl (fun _ h₁ => ?_)
    replace hF := hF.at h₁
    clear h₁
    refine goes_oper_k rfl rfl (by decide) (fun Kx hKx => ?_)
    go_simp
    refine hKx _ _ ⟨DF.none ?_, ?_⟩
    · intro e he
      have hm := mem_listed he
      simp [go_sem, *] at hm
    clear hKx Kx
    refine Goes.step rfl (fun _ h₁ => ?_)
    replace hF := hF.at h₁
    clear h₁
    refine goes_oper_k rfl rfl (by decide) (fun Kx hKx => ?_)
    go_simp
    refine hKx _ _ ⟨DF.none ?_, ?_⟩
    · intro e he
      have hm := mem_listed he
      simp [go_sem, *] at hm
    clear hKx Kx
    refine Goes.step rfl (fun _ h₁ => ?_)
    replace hF := hF.at h₁
    clear h₁
    rw [stepG_region_end]
    simp only [goes_go]
    refine ⟨DF.none (by intro e he; simp at he), ?_⟩
    refine Goes.step rfl (fun _ h₁ => ?_)
    replace hF := hF.at h₁
    clear h₁
    rw [stepG_ret']
    simp only [goes_go]
    refine ⟨DF.none (by intro e he; simp at he), ?_⟩
    refine Goes.stop (fun w₁ h₁ => ⟨(hF.at h₁).sz, BW.now ⟨.bool true, rfl, fun w => (stepG_done1 (t := 2) rfl rfl Try.func4 rfl (by kernel_rfl) w).trans (by simp), fun w₂ h₂ => ⟨rfl, _, ((hF.at h₁).at h₂).kf⟩⟩⟩)
  | true =>
    by_cases h5 : p < 5
    · clear hno hyes
      refine Goes.step rfl (fun _ h₁ => ?_)
      replace hF := hF.at h₁
      clear h₁
      rw [stepG_seq]
      simp only [goes_go]
      refine ⟨DF.none (by intro e he; simp at he), ?_⟩
      refine Goes.step rfl (fun _ h₁ => ?_)
      replace hF := hF.at h₁
      clear h₁
      rw [stepG_region]
      simp only [goes_go, List.size_toArray, List.length_cons, List.length_nil, Nat.reduceAdd, Nat.zero_add, List.range, List.range.loop]
      refine ⟨DF.none (by intro e he; simp at he), ?_⟩
      refine Goes.step rfl (fun _ h₁ => ?_)
      replace hF := hF.at h₁
      clear h₁
      refine goes_oper_k rfl rfl (by decide) (fun Kx hKx => ?_)
      go_simp
      refine hKx _ _ ⟨DF.none ?_, ?_⟩
      · intro e he
        have hm := mem_listed he
        simp [go_sem, *] at hm
      clear hKx Kx
      refine Goes.step rfl (fun _ h₁ => ?_)
      replace hF := hF.at h₁
      clear h₁
      refine goes_oper_k rfl rfl (by decide) (fun Kx hKx => ?_)
      go_simp
      refine hKx _ _ ⟨DF.none ?_, ?_⟩
      · intro e he
        have hm := mem_listed he
        simp [go_sem, *] at hm
      clear hKx Kx
      refine Goes.step rfl (fun _ h₁ => ?_)
      replace hF := hF.at h₁
      clear h₁
      refine goes_oper_k rfl rfl (by decide) (fun Kx hKx => ?_)
      go_simp
      refine hKx _ _ ⟨DF.none ?_, ?_⟩
      · intro e he
        have hm := mem_listed he
        simp [go_sem, *] at hm
      clear hKx Kx
      refine Goes.step rfl (fun _ h₁ => ?_)
      replace hF := hF.at h₁
      clear h₁
      rw [stepG_unwanted rfl rfl]
      simp only [goes_go]
      refine ⟨DF.none (by intro e he; simp at he), ?_⟩
      walk_nrm
      refine Goes.step rfl (fun _ h₁ => ?_)
      replace hF := hF.at h₁
      clear h₁
      rw [stepG_unwanted rfl rfl]
      simp only [goes_go]
      refine ⟨DF.none (by intro e he; simp at he), ?_⟩
      walk_nrm
      refine Goes.step rfl (fun _ h₁ => ?_)
      replace hF := hF.at h₁
      clear h₁
      refine goes_oper_k rfl rfl (by decide) (fun Kx hKx => ?_)
      go_simp
      refine hKx _ _ ⟨DF.none ?_, ?_⟩
      · intro e he
        have hm := mem_listed he
        simp [go_sem, *] at hm
      clear hKx Kx
      refine Goes.step rfl (fun _ h₁ => ?_)
      replace hF := hF.at h₁
      clear h₁
      refine goes_oper_k rfl rfl (by decide) (fun Kx hKx => ?_)
      go_simp
      refine hKx _ _ ⟨DF.none ?_, ?_⟩
      · intro e he
        have hm := mem_listed he
        simp [go_sem, *] at hm
      clear hKx Kx
      refine Goes.step rfl (fun _ h₁ => ?_)
      replace hF := hF.at h₁
      clear h₁
      refine goes_oper_k rfl rfl (by decide) (fun Kx hKx => ?_)
      go_simp
      refine hKx _ _ ⟨DF.none ?_, ?_⟩
      · intro e he
        have hm := mem_listed he
        simp [go_sem, *] at hm
      clear hKx Kx
      refine Goes.step rfl (fun _ h₁ => ?_)
      replace hF := hF.at h₁
      clear h₁
      refine goes_oper_k rfl rfl (by decide) (fun Kx hKx => ?_)
      go_simp
      refine hKx _ _ ⟨DF.none ?_, ?_⟩
      · intro e he
        have hm := mem_listed he
        simp [go_sem, *] at hm
      clear hKx Kx
      refine Goes.step rfl (fun _ h₁ => ?_)
      replace hF := hF.at h₁
      clear h₁
      refine goes_oper_k rfl rfl (by decide) (fun Kx hKx => ?_)
      go_simp
      refine hKx _ _ ⟨DF.none ?_, ?_⟩
      · intro e he
        have hm := mem_listed he
        simp [go_sem, *] at hm
      clear hKx Kx
      refine Goes.step rfl (fun _ h₁ => ?_)
      replace hF := hF.at h₁
      clear h₁
      refine goes_oper_k rfl rfl (by decide) (fun Kx hKx => ?_)
      go_simp
      refine hKx _ _ ⟨DF.none ?_, ?_⟩
      · intro e he
        have hm := mem_listed he
        simp [go_sem, *] at hm
      clear hKx Kx
      refine Goes.step rfl (fun _ h₁ => ?_)
      replace hF := hF.at h₁
      clear h₁
      refine goes_oper_k rfl rfl (by decide) (fun Kx hKx => ?_)
      go_simp
      refine hKx _ _ ⟨DF.none ?_, ?_⟩
      · intro e he
        have hm := mem_listed he
        simp [go_sem, *] at hm
      clear hKx Kx
      refine Goes.step rfl (fun _ h₁ => ?_)
      replace hF := hF.at h₁
      clear h₁
      rw [stepG_unwanted rfl rfl]
      simp only [goes_go]
      refine ⟨DF.none (by intro e he; simp at he), ?_⟩
      walk_nrm
      refine Goes.step rfl (fun _ h₁ => ?_)
      replace hF := hF.at h₁
      clear h₁
      rw [stepG_unwanted rfl rfl]
      simp only [goes_go]
      refine ⟨DF.none (by intro e he; simp at he), ?_⟩
      walk_nrm
      refine Goes.step rfl (fun _ h₁ => ?_)
      replace hF := hF.at h₁
      clear h₁
      refine goes_oper_k rfl rfl (by decide) (fun Kx hKx => ?_)
      go_simp
      refine hKx _ _ ⟨DF.none ?_, ?_⟩
      · intro e he
        have hm := mem_listed he
        simp [go_sem, *] at hm
      clear hKx Kx
      refine Goes.step rfl (fun _ h₁ => ?_)
      replace hF := hF.at h₁
      clear h₁
      refine goes_oper_k rfl rfl (by decide) (fun Kx hKx => ?_)
      go_simp
      refine hKx _ _ ⟨DF.none ?_, ?_⟩
      · intro e he
        have hm := mem_listed he
        simp [go_sem, *] at hm
      clear hKx Kx
      refine Goes.step rfl (fun _ h₁ => ?_)
      replace hF := hF.at h₁
      clear h₁
      refine goes_oper_k rfl rfl (by decide) (fun Kx hKx => ?_)
      go_simp
      refine hKx _ _ ⟨DF.none ?_, ?_⟩
      · intro e he
        have hm := mem_listed he
        simp [go_sem, *] at hm
      clear hKx Kx
      refine Goes.step rfl (fun _ h₁ => ?_)
      replace hF := hF.at h₁
      clear h₁
      refine goes_oper_k rfl rfl (by decide) (fun Kx hKx => ?_)
      go_simp
      refine hKx _ _ ⟨DF.none ?_, ?_⟩
      · intro e he
        have hm := mem_listed he
        simp [go_sem, *] at hm
      clear hKx Kx
      refine Goes.step rfl (fun _ h₁ => ?_)
      replace hF := hF.at h₁
      clear h₁
      refine goes_oper_k rfl rfl (by decide) (fun Kx hKx => ?_)
      go_simp
      refine hKx _ _ ⟨DF.none ?_, ?_⟩
      · intro e he
        have hm := mem_listed he
        simp [go_sem, *] at hm
      clear hKx Kx
      refine Goes.step rfl (fun _ h₁ => ?_)
      replace hF := hF.at h₁
      clear h₁
      refine goes_oper_k rfl rfl (by decide) (fun Kx hKx => ?_)
      go_simp
      refine hKx _ _ ⟨DF.none ?_, ?_⟩
      · intro e he
        have hm := mem_listed he
        simp [go_sem, *] at hm
      clear hKx Kx
      refine Goes.step rfl (fun _ h₁ => ?_)
      replace hF := hF.at h₁
      clear h₁
      refine goes_oper_k rfl rfl (by decide) (fun Kx hKx => ?_)
      go_simp
      refine hKx _ _ ⟨DF.none ?_, ?_⟩
      · intro e he
        have hm := mem_listed he
        simp [go_sem, *] at hm
      clear hKx Kx
      refine Goes.step rfl (fun _ h₁ => ?_)
      replace hF := hF.at h₁
      clear h₁
      refine goes_oper_k rfl rfl (by decide) (fun Kx hKx => ?_)
      go_simp
      refine hKx _ _ ⟨DF.none ?_, ?_⟩
      · intro e he
        have hm := mem_listed he
        simp [go_sem, *] at hm
      clear hKx Kx
      refine Goes.step rfl (fun _ h₁ => ?_)
      replace hF := hF.at h₁
      clear h₁
      refine goes_oper_k rfl rfl (by decide) (fun Kx hKx => ?_)
      go_simp
      refine hKx _ _ ⟨DF.none ?_, ?_⟩
      · intro e he
        have hm := mem_listed he
        simp [go_sem, *] at hm
      clear hKx Kx
      refine Goes.step rfl (fun _ h₁ => ?_)
      replace hF := hF.at h₁
      clear h₁
      refine goes_oper_k rfl rfl (by decide) (fun Kx hKx => ?_)
      go_simp
      refine hKx _ _ ⟨DF.none ?_, ?_⟩
      · intro e he
        have hm := mem_listed he
        simp [go_sem, *] at hm
      clear hKx Kx
      refine Goes.step rfl (fun _ h₁ => ?_)
      replace hF := hF.at h₁
      clear h₁
      refine goes_oper_k rfl rfl (by decide) (fun Kx hKx => ?_)
      go_simp
      refine hKx _ _ ⟨DF.none ?_, ?_⟩
      · intro e he
        have hm := mem_listed he
        simp [go_sem, *] at hm
      clear hKx Kx
      refine Goes.step rfl (fun _ h₁ => ?_)
      replace hF := hF.at h₁
      clear h₁
      refine goes_oper_k rfl rfl (by decide) (fun Kx hKx => ?_)
      go_simp
      refine hKx _ _ ⟨DF.none ?_, ?_⟩
      · intro e he
        have hm := mem_listed he
        simp [go_sem, *] at hm
      clear hKx Kx
      refine Goes.step rfl (fun _ h₁ => ?_)
      replace hF := hF.at h₁
      clear h₁
      refine goes_oper_k rfl rfl (by decide) (fun Kx hKx => ?_)
      go_simp
      refine hKx _ _ ⟨DF.none ?_, ?_⟩
      · intro e he
        have hm := mem_listed he
        simp [go_sem, *] at hm
      clear hKx Kx
      refine Goes.step rfl (fun _ h₁ => ?_)
      replace hF := hF.at h₁
      clear h₁
      refine goes_oper_k rfl rfl (by decide) (fun Kx hKx => ?_)
      go_simp
      refine hKx _ _ ⟨DF.none ?_, ?_⟩
      · intro e he
        have hm := mem_listed he
        simp [go_sem, *] at hm
      clear hKx Kx
      refine Goes.step rfl (fun _ h₁ => ?_)
      replace hF := hF.at h₁
      clear h₁
      refine goes_oper_k rfl rfl (by decide) (fun Kx hKx => ?_)
      go_simp
      refine hKx _ _ ⟨DF.none ?_, ?_⟩
      · intro e he
        have hm := mem_listed he
        simp [go_sem, *] at hm
      clear hKx Kx
      refine Goes.step rfl (fun _ h₁ => ?_)
      replace hF := hF.at h₁
      clear h₁
      refine goes_oper_k rfl rfl (by decide) (fun Kx hKx => ?_)
      go_simp
      refine hKx _ _ ⟨DF.none ?_, ?_⟩
      · intro e he
        have hm := mem_listed he
        simp [go_sem, *] at hm
      clear hKx Kx
      refine Goes.step rfl (fun _ h₁ => ?_)
      replace hF := hF.at h₁
      clear h₁
      refine goes_oper_k rfl rfl (by decide) (fun Kx hKx => ?_)
      go_simp
      refine hKx _ _ ⟨DF.none ?_, ?_⟩
      · intro e he
        have hm := mem_listed he
        simp [go_sem, *] at hm
      clear hKx Kx
      refine Goes.step rfl (fun _ h₁ => ?_)
      replace hF := hF.at h₁
      clear h₁
      refine goes_oper_k rfl rfl (by decide) (fun Kx hKx => ?_)
      go_simp
      refine hKx _ _ ⟨DF.none ?_, ?_⟩
      · intro e he
        have hm := mem_listed he
        simp [go_sem, *] at hm
      clear hKx Kx
      refine Goes.step rfl (fun _ h₁ => ?_)
      replace hF := hF.at h₁
      clear h₁
      rw [stepG_region_end]
      simp only [goes_go]
      refine ⟨DF.none (by intro e he; simp at he), ?_⟩
      refine Goes.step rfl (fun _ h₁ => ?_)
      replace hF := hF.at h₁
      clear h₁
      rw [stepG_ret']
      simp only [goes_go]
      refine ⟨DF.none (by intro e he; simp at he), ?_⟩
      refine Goes.stop (fun w₁ h₁ => ⟨(hF.at h₁).sz, BW.now ⟨.bool true, rfl, fun w => (stepG_done1 (t := 2) rfl rfl Try.func4 rfl (by kernel_rfl) w).trans (by simp), fun w₂ h₂ => ⟨rfl, _, ((hF.at h₁).at h₂).kf⟩⟩⟩)
    · obtain rfl := hyes rfl h5
      clear hno hyes
      refine Goes.step rfl (fun _ h₁ => ?_)
      replace hF := hF.at h₁
      clear h₁
      rw [stepG_seq]
      simp only [goes_go]
      refine ⟨DF.none (by intro e he; simp at he), ?_⟩
      refine Goes.step rfl (fun _ h₁ => ?_)
      replace hF := hF.at h₁
      clear h₁
      rw [stepG_region]
      simp only [goes_go, List.size_toArray, List.length_cons, List.length_nil, Nat.reduceAdd, Nat.zero_add, List.range, List.range.loop]
      refine ⟨DF.none (by intro e he; simp at he), ?_⟩
      refine Goes.step rfl (fun _ h₁ => ?_)
      replace hF := hF.at h₁
      clear h₁
      refine goes_oper_k rfl rfl (by decide) (fun Kx hKx => ?_)
      go_simp
      refine hKx _ _ ⟨DF.none ?_, ?_⟩
      · intro e he
        have hm := mem_listed he
        simp [go_sem, *] at hm
      clear hKx Kx
      refine Goes.step rfl (fun _ h₁ => ?_)
      replace hF := hF.at h₁
      clear h₁
      refine goes_oper_k rfl rfl (by decide) (fun Kx hKx => ?_)
      go_simp
      refine hKx _ _ ⟨DF.none ?_, ?_⟩
      · intro e he
        have hm := mem_listed he
        simp [go_sem, *] at hm
      clear hKx Kx
      refine Goes.step rfl (fun _ h₁ => ?_)
      replace hF := hF.at h₁
      clear h₁
      refine goes_oper_k rfl rfl (by decide) (fun Kx hKx => ?_)
      go_simp
      refine hKx _ _ ⟨DF.none ?_, ?_⟩
      · intro e he
        have hm := mem_listed he
        simp [go_sem, *] at hm
      clear hKx Kx
      refine Goes.step rfl (fun _ h₁ => ?_)
      replace hF := hF.at h₁
      clear h₁
      rw [stepG_unwanted rfl rfl]
      simp only [goes_go]
      refine ⟨DF.none (by intro e he; simp at he), ?_⟩
      walk_nrm
      refine Goes.step rfl (fun _ h₁ => ?_)
      replace hF := hF.at h₁
      clear h₁
      rw [stepG_unwanted rfl rfl]
      simp only [goes_go]
      refine ⟨DF.none (by intro e he; simp at he), ?_⟩
      walk_nrm
      refine Goes.step rfl (fun _ h₁ => ?_)
      replace hF := hF.at h₁
      clear h₁
      refine goes_oper_k rfl rfl (by decide) (fun Kx hKx => ?_)
      go_simp
      refine hKx _ _ ⟨DF.none ?_, ?_⟩
      · intro e he
        have hm := mem_listed he
        simp [go_sem, *] at hm
      clear hKx Kx
      refine Goes.step rfl (fun _ h₁ => ?_)
      replace hF := hF.at h₁
      clear h₁
      refine goes_oper_k rfl rfl (by decide) (fun Kx hKx => ?_)
      go_simp
      refine hKx _ _ ⟨DF.none ?_, ?_⟩
      · intro e he
        have hm := mem_listed he
        simp [go_sem, *] at hm
      clear hKx Kx
      refine Goes.step rfl (fun _ h₁ => ?_)
      replace hF := hF.at h₁
      clear h₁
      refine goes_oper_k rfl rfl (by decide) (fun Kx hKx => ?_)
      go_simp
      refine hKx _ _ ⟨DF.none ?_, ?_⟩
      · intro e he
        have hm := mem_listed he
        simp [go_sem, *] at hm
      clear hKx Kx
      refine Goes.step rfl (fun _ h₁ => ?_)
      replace hF := hF.at h₁
      clear h₁
      refine goes_oper_k rfl rfl (by decide) (fun Kx hKx => ?_)
      go_simp
      refine hKx _ _ ⟨DF.none ?_, ?_⟩
      · intro e he
        have hm := mem_listed he
        simp [go_sem, *] at hm
      clear hKx Kx
      refine Goes.step rfl (fun _ h₁ => ?_)
      replace hF := hF.at h₁
      clear h₁
      refine goes_oper_k rfl rfl (by decide) (fun Kx hKx => ?_)
      go_simp
      refine hKx _ _ ⟨DF.none ?_, ?_⟩
      · intro e he
        have hm := mem_listed he
        simp [go_sem, *] at hm
      clear hKx Kx
      refine Goes.step rfl (fun _ h₁ => ?_)
      replace hF := hF.at h₁
      clear h₁
      refine goes_oper_k rfl rfl (by decide) (fun Kx hKx => ?_)
      go_simp
      refine hKx _ _ ⟨DF.none ?_, ?_⟩
      · intro e he
        have hm := mem_listed he
        simp [go_sem, *] at hm
      clear hKx Kx
      refine Goes.step rfl (fun _ h₁ => ?_)
      replace hF := hF.at h₁
      clear h₁
      refine goes_oper_k rfl rfl (by decide) (fun Kx hKx => ?_)
      go_simp
      refine hKx _ _ ⟨DF.none ?_, ?_⟩
      · intro e he
        have hm := mem_listed he
        simp [go_sem, *] at hm
      clear hKx Kx
      refine Goes.step rfl (fun _ h₁ => ?_)
      replace hF := hF.at h₁
      clear h₁
      refine goes_oper_k rfl rfl (by decide) (fun Kx hKx => ?_)
      go_simp
      refine hKx _ _ ⟨DF.none ?_, ?_⟩
      · intro e he
        have hm := mem_listed he
        simp [go_sem, *] at hm
      clear hKx Kx
      refine Goes.step rfl (fun _ h₁ => ?_)
      replace hF := hF.at h₁
      clear h₁
      refine goes_oper_k rfl rfl (by decide) (fun Kx hKx => ?_)
      go_simp
      refine hKx _ _ ⟨DF.none ?_, ?_⟩
      · intro e he
        have hm := mem_listed he
        simp [go_sem, *] at hm
      clear hKx Kx
      refine Goes.step rfl (fun _ h₁ => ?_)
      replace hF := hF.at h₁
      clear h₁
      refine goes_oper_k rfl rfl (by decide) (fun Kx hKx => ?_)
      go_simp
      refine hKx _ _ ⟨DF.none ?_, ?_⟩
      · intro e he
        have hm := mem_listed he
        simp [go_sem, *] at hm
      clear hKx Kx
      refine Goes.step rfl (fun _ h₁ => ?_)
      replace hF := hF.at h₁
      clear h₁
      refine goes_oper_k rfl rfl (by decide) (fun Kx hKx => ?_)
      go_simp
      refine hKx _ _ ⟨DF.none ?_, ?_⟩
      · intro e he
        have hm := mem_listed he
        simp [go_sem, *] at hm
      clear hKx Kx
      refine Goes.step rfl (fun _ h₁ => ?_)
      replace hF := hF.at h₁
      clear h₁
      refine goes_oper_k rfl rfl (by decide) (fun Kx hKx => ?_)
      go_simp
      refine hKx _ _ ⟨DF.none ?_, ?_⟩
      · intro e he
        have hm := mem_listed he
        simp [go_sem, *] at hm
      clear hKx Kx
      refine Goes.step rfl (fun _ h₁ => ?_)
      replace hF := hF.at h₁
      clear h₁
      refine goes_oper_k rfl rfl (by decide) (fun Kx hKx => ?_)
      go_simp
      refine hKx _ _ ⟨DF.none ?_, ?_⟩
      · intro e he
        have hm := mem_listed he
        simp [go_sem, *] at hm
      clear hKx Kx
      refine Goes.step rfl (fun _ h₁ => ?_)
      replace hF := hF.at h₁
      clear h₁
      refine goes_oper_k rfl rfl (by decide) (fun Kx hKx => ?_)
      go_simp
      refine hKx _ _ ⟨DF.none ?_, ?_⟩
      · intro e he
        have hm := mem_listed he
        simp [go_sem, *] at hm
      clear hKx Kx
      refine Goes.step rfl (fun _ h₁ => ?_)
      replace hF := hF.at h₁
      clear h₁
      refine goes_oper_k rfl rfl (by decide) (fun Kx hKx => ?_)
      go_simp
      refine hKx _ _ ⟨DF.none ?_, ?_⟩
      · intro e he
        have hm := mem_listed he
        simp [go_sem, *] at hm
      clear hKx Kx
      refine Goes.step rfl (fun _ h₁ => ?_)
      replace hF := hF.at h₁
      clear h₁
      refine goes_oper_k rfl rfl (by decide) (fun Kx hKx => ?_)
      go_simp
      refine hKx _ _ ⟨DF.none ?_, ?_⟩
      · intro e he
        have hm := mem_listed he
        simp [go_sem, *] at hm
      clear hKx Kx
      refine Goes.step rfl (fun _ h₁ => ?_)
      replace hF := hF.at h₁
      clear h₁
      refine goes_oper_k rfl rfl (by decide) (fun Kx hKx => ?_)
      go_simp
      refine hKx _ _ ⟨DF.none ?_, ?_⟩
      · intro e he
        have hm := mem_listed he
        simp [go_sem, *] at hm
      clear hKx Kx
      refine Goes.step rfl (fun _ h₁ => ?_)
      replace hF := hF.at h₁
      clear h₁
      refine goes_oper_k rfl rfl (by decide) (fun Kx hKx => ?_)
      go_simp
      refine hKx _ _ ⟨DF.none ?_, ?_⟩
      · intro e he
        have hm := mem_listed he
        simp [go_sem, *] at hm
      clear hKx Kx
      refine Goes.step rfl (fun _ h₁ => ?_)
      replace hF := hF.at h₁
      clear h₁
      refine goes_oper_k rfl rfl (by decide) (fun Kx hKx => ?_)
      go_simp
      refine hKx _ _ ⟨DF.none ?_, ?_⟩
      · intro e he
        have hm := mem_listed he
        simp [go_sem, *] at hm
      clear hKx Kx
      refine Goes.step rfl (fun _ h₁ => ?_)
      replace hF := hF.at h₁
      clear h₁
      refine goes_oper_k rfl rfl (by decide) (fun Kx hKx => ?_)
      go_simp
      refine hKx _ _ ⟨DF.none ?_, ?_⟩
      · intro e he
        have hm := mem_listed he
        simp [go_sem, *] at hm
      clear hKx Kx
      refine Goes.step rfl (fun _ h₁ => ?_)
      replace hF := hF.at h₁
      clear h₁
      refine goes_oper_k rfl rfl (by decide) (fun Kx hKx => ?_)
      go_simp
      refine hKx _ _ ⟨DF.none ?_, ?_⟩
      · intro e he
        have hm := mem_listed he
        simp [go_sem, *] at hm
      clear hKx Kx
      refine Goes.step rfl (fun _ h₁ => ?_)
      replace hF := hF.at h₁
      clear h₁
      refine goes_oper_k rfl rfl (by decide) (fun Kx hKx => ?_)
      go_simp
      refine hKx _ _ ⟨DF.none ?_, ?_⟩
      · intro e he
        have hm := mem_listed he
        simp [go_sem, *] at hm
      clear hKx Kx
      refine Goes.step rfl (fun _ h₁ => ?_)
      replace hF := hF.at h₁
      clear h₁
      refine goes_oper_k rfl rfl (by decide) (fun Kx hKx => ?_)
      go_simp
      refine hKx _ _ ⟨DF.none ?_, ?_⟩
      · intro e he
        have hm := mem_listed he
        simp [go_sem, *] at hm
      clear hKx Kx
      refine Goes.step rfl (fun _ h₁ => ?_)
      replace hF := hF.at h₁
      clear h₁
      refine goes_oper_k rfl rfl (by decide) (fun Kx hKx => ?_)
      go_simp
      refine hKx _ _ ⟨DF.none ?_, ?_⟩
      · intro e he
        have hm := mem_listed he
        simp [go_sem, *] at hm
      clear hKx Kx
      refine Goes.step rfl (fun _ h₁ => ?_)
      replace hF := hF.at h₁
      clear h₁
      refine goes_oper_k rfl rfl (by decide) (fun Kx hKx => ?_)
      go_simp
      refine hKx _ _ ⟨DF.none ?_, ?_⟩
      · intro e he
        have hm := mem_listed he
        simp [go_sem, *] at hm
      clear hKx Kx
      refine Goes.step rfl (fun _ h₁ => ?_)
      replace hF := hF.at h₁
      clear h₁
      refine goes_oper_k rfl rfl (by decide) (fun Kx hKx => ?_)
      go_simp
      refine hKx _ _ ⟨DF.none ?_, ?_⟩
      · intro e he
        have hm := mem_listed he
        simp [go_sem, *] at hm
      clear hKx Kx
      refine Goes.step rfl (fun _ h₁ => ?_)
      replace hF := hF.at h₁
      clear h₁
      refine goes_oper_k rfl rfl (by decide) (fun Kx hKx => ?_)
      go_simp
      refine hKx _ _ ⟨DF.none ?_, ?_⟩
      · intro e he
        have hm := mem_listed he
        simp [go_sem, *] at hm
      clear hKx Kx
      refine Goes.step rfl (fun _ h₁ => ?_)
      replace hF := hF.at h₁
      clear h₁
      rw [stepG_region_end]
      simp only [goes_go]
      refine ⟨DF.none (by intro e he; simp at he), ?_⟩
      refine Goes.step rfl (fun _ h₁ => ?_)
      replace hF := hF.at h₁
      clear h₁
      rw [stepG_ret']
      simp only [goes_go]
      refine ⟨DF.none (by intro e he; simp at he), ?_⟩
      refine Goes.stop (fun w₁ h₁ => ⟨(hF.at h₁).sz, BW.now ⟨.bool true, rfl, fun w => (stepG_done1 (t := 2) rfl rfl Try.func4 rfl (by kernel_rfl) w).trans (by simp), fun w₂ h₂ => ⟨rfl, _, ((hF.at h₁).at h₂).kf⟩⟩⟩)
theorem lawTwice (a : Option Addr) (len cap : Nat) (zs : List Int) (h : IsRow .u8 W a len cap zs) :
    BW Try.prog 1 (fun _ => False) (G (Frame.enter Try.prog 4 #[.slice a len cap] .normal) []) W (EndAt Try.prog (DoneT W)) := by
  by_cases hl : 1048576 < len
  · exact lawTwice_big a len cap hl
  · exact lawTwice_in a len cap zs h hl
end
end Go.Proofs.Ytehmobcfbifocaa
