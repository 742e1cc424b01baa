/-
  The program's chapter 7, walked beside goroutines that only leave: CellLeft and what calls it. Made by gen_impl7.py.
-/
import Derived.Test.YtehmobcfbifocaaBeside
import Derived.Test.YtehmobcfbifocaaCalm16
import Derived.Test.YtehmobcfbifocaaCellsZ
import Derived.Test.YtehmobcfbifocaaBase
import Derived.Test.YtehmobcfbifocaaSpec7
namespace Go.Proofs.Ytehmobcfbifocaa
open Go Go.Conc Go.ConcN Go.RowKit Go.Conc.Lib Go.ConcR.Gen Go.ConcN.Gen
open Go.ConcR (KK wgBlock WgAt stA smA rd wr mk Payload Aside2 DC0 ofEvent_cell)

theorem nm_within : (Try.f32.name == "runtime.NumGoroutine") = false := by kernel_rfl
theorem nm_cellsLeft : (Try.f33.name == "runtime.NumGoroutine") = false := by kernel_rfl
theorem nm_CellLeft : (Try.f14.name == "runtime.NumGoroutine") = false := by kernel_rfl
theorem withinT (n hi : Int) (h1 : 0 ≤ n) (h2 : n ≤ hi) (v : World) : Calls Try.prog 32 #[.int .i64 n, .int .i64 hi] v fun e v' => e = .returned (.bool true) ∧ Below v.heap.size v v' :=
  (within_t n hi v h1 h2).mono fun _ _ h => ⟨h.1, h.2 ▸ Below.refl _ _⟩
theorem withinF (n hi : Int) (h : n < 0 ∨ hi < n) (v : World) : Calls Try.prog 32 #[.int .i64 n, .int .i64 hi] v fun e v' => e = .returned (.bool false) ∧ Below v.heap.size v v' :=
  (within_f n hi v h).mono fun _ _ h => ⟨h.1, h.2 ▸ Below.refl _ _⟩
section
variable {W : World} {c : Nat} {S : Nat → Prop} {b₀ : Frame} {a₀ : Act} {ops₀ : Array Oper} {i₀ : Nat} {rest₀ : List Nat} {k₀ : List Item} {cs : List Frame}
set_option maxRecDepth 100000 in
set_option maxHeartbeats 4000000 in
theorem cellLeft_out1 (row place by' : Int) (h : row < 0 ∨ 300 < row) (hrows : Rows1 S W) :
    BW Try.prog c S (G (Frame.enter Try.prog 14 #[.int .i64 row, .int .i64 place, .int .i64 by'] .normal) ((b₀.at a₀ (.inRegion ops₀ (i₀ :: rest₀) :: k₀)) :: cs)) W (TaintAt c 0 S (b₀.at a₀ (.inRegion ops₀ (i₀ :: rest₀) :: k₀)) cs (.int .i64 (-1)) W) := by
  have hF : KN W.heap.size W S S W := ⟨KF.refl hrows, Nat.le_refl _⟩
  rw [enter_at _ Try.func14 rfl]
  refine BW.walk 200 ?_
  walk_nrmf Try.f14
  refine Goes.step rfl (fun _ h₁ => ?_)
  replace hF := hF.at h₁
  clear h₁
  rw [stepG_seq]
  simp only [goes_go]
  refine ⟨DF.none (by intro e he; simp at he), ?_⟩
  refine Goes.step rfl (fun _ h₁ => ?_)
  replace hF := hF.at h₁
  clear h₁
  rw [stepG_region]
  simp only [goes_go, List.size_toArray, List.length_cons, List.length_nil, Nat.zero_add, List.range, List.range.loop]
  refine ⟨DF.none (by intro e he; simp at he), ?_⟩
  refine Goes.step rfl (fun _ h₁ => ?_)
  replace hF := hF.at h₁
  clear h₁
  refine goes_oper_k rfl rfl (by decide) (fun Kx hKx => ?_)
  go_simp
  refine hKx _ _ ⟨DF.none ?_, ?_⟩
  · intro e he
    have hm := mem_listed he
    simp [go_sem, *] at hm
  clear hKx Kx
  refine Goes.step rfl (fun _ h₁ => ?_)
  replace hF := hF.at h₁
  clear h₁
  rw [stepG_region_end]
  simp only [goes_go]
  refine ⟨DF.none (by intro e he; simp at he), ?_⟩
  refine Goes.step rfl (fun _ h₁ => ?_)
  replace hF := hF.at h₁
  clear h₁
  rw [stepG_seq]
  simp only [goes_go]
  refine ⟨DF.none (by intro e he; simp at he), ?_⟩
  refine Goes.step rfl (fun _ h₁ => ?_)
  replace hF := hF.at h₁
  clear h₁
  rw [stepG_seq]
  simp only [goes_go]
  refine ⟨DF.none (by intro e he; simp at he), ?_⟩
  refine Goes.step rfl (fun _ h₁ => ?_)
  replace hF := hF.at h₁
  clear h₁
  rw [stepG_region]
  simp only [goes_go, List.size_toArray, List.length_cons, List.length_nil, Nat.reduceAdd, Nat.zero_add, List.range, List.range.loop]
  refine ⟨DF.none (by intro e he; simp at he), ?_⟩
  refine Goes.step rfl (fun _ h₁ => ?_)
  replace hF := hF.at h₁
  clear h₁
  refine goes_oper_k rfl rfl (by decide) (fun Kx hKx => ?_)
  go_simp
  refine hKx _ _ ⟨DF.none ?_, ?_⟩
  · intro e he
    have hm := mem_listed he
    simp [go_sem, *] at hm
  clear hKx Kx
  refine Goes.step rfl (fun _ h₁ => ?_)
  replace hF := hF.at h₁
  clear h₁
  refine goes_callF rfl rfl (by decide) rfl Try.func32 nm_within rfl ⟨DF.none (by intro e he; simp at he), ?_⟩
  walk_nrm
  refine Goes.stop (fun w₁ h₁ => ⟨(hF.at h₁).sz, ?_⟩)
  replace hF := hF.at h₁
  clear h₁
  refine (pure_beside kok7 rfl (fun v => withinF row 300 h v) hF.kf.rows).bind fun c2 S2 g2 w2 hp => ?_
  have hpk := hp.kf
  obtain rfl := hp.ec
  obtain rfl := hp.eS
  obtain rfl := hp.eg
  clear hp
  replace hF := KN.mk (hF.kf.trans hpk) (Nat.le_refl _)
  clear hpk
  rw [Frame.finish_at]
  refine BW.walk 300 ?_
  walk_nrm
  refine Goes.step rfl (fun _ h₁ => ?_)
  replace hF := hF.at h₁
  clear h₁
  refine goes_oper_k rfl rfl (by decide) (fun Kx hKx => ?_)
  go_simp
  refine hKx _ _ ⟨DF.none ?_, ?_⟩
  · intro e he
    have hm := mem_listed he
    simp [go_sem, *] at hm
  clear hKx Kx
  refine Goes.step rfl (fun _ h₁ => ?_)
  replace hF := hF.at h₁
  clear h₁
  refine goes_oper_k rfl rfl (by decide) (fun Kx hKx => ?_)
  go_simp
  refine hKx _ _ ⟨DF.none ?_, ?_⟩
  · intro e he
    have hm := mem_listed he
    simp [go_sem, *] at hm
  clear hKx Kx
  refine Goes.step rfl (fun _ h₁ => ?_)
  replace hF := hF.at h₁
  clear h₁
  rw [stepG_unwanted rfl rfl]
  simp only [goes_go]
  refine ⟨DF.none (by intro e he; simp at he), ?_⟩
  walk_nrm
  refine Goes.step rfl (fun _ h₁ => ?_)
  replace hF := hF.at h₁
  clear h₁
  rw [stepG_unwanted rfl rfl]
  simp only [goes_go]
  refine ⟨DF.none (by intro e he; simp at he), ?_⟩
  walk_nrm
  refine Goes.step rfl (fun _ h₁ => ?_)
  replace hF := hF.at h₁
  clear h₁
  rw [stepG_unwanted rfl rfl]
  simp only [goes_go]
  refine ⟨DF.none (by intro e he; simp at he), ?_⟩
  walk_nrm
  refine Goes.step rfl (fun _ h₁ => ?_)
  replace hF := hF.at h₁
  clear h₁
  rw [stepG_unwanted rfl rfl]
  simp only [goes_go]
  refine ⟨DF.none (by intro e he; simp at he), ?_⟩
  walk_nrm
  refine Goes.step rfl (fun _ h₁ => ?_)
  replace hF := hF.at h₁
  clear h₁
  refine goes_oper_k rfl rfl (by decide) (fun Kx hKx => ?_)
  go_simp
  refine hKx _ _ ⟨DF.none ?_, ?_⟩
  · intro e he
    have hm := mem_listed he
    simp [go_sem, *] at hm
  clear hKx Kx
  refine Goes.step rfl (fun _ h₁ => ?_)
  replace hF := hF.at h₁
  clear h₁
  refine goes_oper_k rfl rfl (by decide) (fun Kx hKx => ?_)
  go_simp
  refine hKx _ _ ⟨DF.none ?_, ?_⟩
  · intro e he
    have hm := mem_listed he
    simp [go_sem, *] at hm
  clear hKx Kx
  refine Goes.step rfl (fun _ h₁ => ?_)
  replace hF := hF.at h₁
  clear h₁
  rw [stepG_unwanted rfl rfl]
  simp only [goes_go]
  refine ⟨DF.none (by intro e he; simp at he), ?_⟩
  walk_nrm
  refine Goes.step rfl (fun _ h₁ => ?_)
  replace hF := hF.at h₁
  clear h₁
  rw [stepG_unwanted rfl rfl]
  simp only [goes_go]
  refine ⟨DF.none (by intro e he; simp at he), ?_⟩
  walk_nrm
  refine Goes.step rfl (fun _ h₁ => ?_)
  replace hF := hF.at h₁
  clear h₁
  refine goes_oper_k rfl rfl (by decide) (fun Kx hKx => ?_)
  go_simp
  refine hKx _ _ ⟨DF.none ?_, ?_⟩
  · intro e he
    have hm := mem_listed he
    simp [go_sem, *] at hm
  clear hKx Kx
  refine Goes.step rfl (fun _ h₁ => ?_)
  replace hF := hF.at h₁
  clear h₁
  refine goes_oper_k rfl rfl (by decide) (fun Kx hKx => ?_)
  go_simp
  refine hKx _ _ ⟨DF.none ?_, ?_⟩
  · intro e he
    have hm := mem_listed he
    simp [go_sem, *] at hm
  clear hKx Kx
  refine Goes.step rfl (fun _ h₁ => ?_)
  replace hF := hF.at h₁
  clear h₁
  rw [stepG_unwanted rfl rfl]
  simp only [goes_go]
  refine ⟨DF.none (by intro e he; simp at he), ?_⟩
  walk_nrm
  refine Goes.step rfl (fun _ h₁ => ?_)
  replace hF := hF.at h₁
  clear h₁
  rw [stepG_unwanted rfl rfl]
  simp only [goes_go]
  refine ⟨DF.none (by intro e he; simp at he), ?_⟩
  walk_nrm
  refine Goes.step rfl (fun _ h₁ => ?_)
  replace hF := hF.at h₁
  clear h₁
  refine goes_oper_k rfl rfl (by decide) (fun Kx hKx => ?_)
  go_simp
  refine hKx _ _ ⟨DF.none ?_, ?_⟩
  · intro e he
    have hm := mem_listed he
    simp [go_sem, *] at hm
  clear hKx Kx
  refine Goes.step rfl (fun _ h₁ => ?_)
  replace hF := hF.at h₁
  clear h₁
  rw [stepG_region_end]
  simp only [goes_go]
  refine ⟨DF.none (by intro e he; simp at he), ?_⟩
  refine Goes.step rfl (fun _ h₁ => ?_)
  replace hF := hF.at h₁
  clear h₁
  rw [stepG_cond (t := true) (by first | rfl | (simp [Act.eval]; omega))]
  simp only [goes_go, ↓reduceIte]
  refine ⟨DF.none (by intro e he; simp at he), ?_⟩
  refine Goes.step rfl (fun _ h₁ => ?_)
  replace hF := hF.at h₁
  clear h₁
  rw [stepG_seq]
  simp only [goes_go]
  refine ⟨DF.none (by intro e he; simp at he), ?_⟩
  refine Goes.step rfl (fun _ h₁ => ?_)
  replace hF := hF.at h₁
  clear h₁
  rw [stepG_region]
  simp only [goes_go, List.size_toArray, List.length_cons, List.length_nil, Nat.zero_add, List.range, List.range.loop]
  refine ⟨DF.none (by intro e he; simp at he), ?_⟩
  refine Goes.step rfl (fun _ h₁ => ?_)
  replace hF := hF.at h₁
  clear h₁
  refine goes_oper_k rfl rfl (by decide) (fun Kx hKx => ?_)
  go_simp
  refine hKx _ _ ⟨DF.none ?_, ?_⟩
  · intro e he
    have hm := mem_listed he
    simp [go_sem, *] at hm
  clear hKx Kx
  refine Goes.step rfl (fun _ h₁ => ?_)
  replace hF := hF.at h₁
  clear h₁
  rw [stepG_region_end]
  simp only [goes_go]
  refine ⟨DF.none (by intro e he; simp at he), ?_⟩
  refine Goes.step rfl (fun _ h₁ => ?_)
  replace hF := hF.at h₁
  clear h₁
  rw [stepG_ret']
  simp only [goes_go]
  refine ⟨DF.none (by intro e he; simp at he), ?_⟩
  refine Goes.step rfl (fun _ h₁ => ?_)
  replace hF := hF.at h₁
  clear h₁
  refine goes_leave1 (t := 6) rfl rfl Try.func14 rfl ⟨DF.none (by intro e he; simp at he), ?_⟩
  refine Goes.stop (fun w₁ h₁ => ⟨(hF.at h₁).sz, BW.now ⟨by omega, ?_, (hF.at h₁).kf⟩⟩)
  rw [Frame.finish_at]
  simp
set_option maxRecDepth 100000 in
set_option maxHeartbeats 4000000 in
theorem cellLeft_out2 (row place by' : Int) (h : 0 ≤ row ∧ row ≤ 300) (h2 : place < 0 ∨ row < place) (hrows : Rows1 S W) :
    BW Try.prog c S (G (Frame.enter Try.prog 14 #[.int .i64 row, .int .i64 place, .int .i64 by'] .normal) ((b₀.at a₀ (.inRegion ops₀ (i₀ :: rest₀) :: k₀)) :: cs)) W (TaintAt c 0 S (b₀.at a₀ (.inRegion ops₀ (i₀ :: rest₀) :: k₀)) cs (.int .i64 (-1)) W) := by
  have hF : KN W.heap.size W S S W := ⟨KF.refl hrows, Nat.le_refl _⟩
  rw [enter_at _ Try.func14 rfl]
  refine BW.walk 200 ?_
  walk_nrmf Try.f14
  refine Goes.step rfl (fun _ h₁ => ?_)
  replace hF := hF.at h₁
  clear h₁
  rw [stepG_seq]
  simp only [goes_go]
  refine ⟨DF.none (by intro e he; simp at he), ?_⟩
  refine Goes.step rfl (fun _ h₁ => ?_)
  replace hF := hF.at h₁
  clear h₁
  rw [stepG_region]
  simp only [goes_go, List.size_toArray, List.length_cons, List.length_nil, Nat.zero_add, List.range, List.range.loop]
  refine ⟨DF.none (by intro e he; simp at he), ?_⟩
  refine Goes.step rfl (fun _ h₁ => ?_)
  replace hF := hF.at h₁
  clear h₁
  refine goes_oper_k rfl rfl (by decide) (fun Kx hKx => ?_)
  go_simp
  refine hKx _ _ ⟨DF.none ?_, ?_⟩
  · intro e he
    have hm := mem_listed he
    simp [go_sem, *] at hm
  clear hKx Kx
  refine Goes.step rfl (fun _ h₁ => ?_)
  replace hF := hF.at h₁
  clear h₁
  rw [stepG_region_end]
  simp only [goes_go]
  refine ⟨DF.none (by intro e he; simp at he), ?_⟩
  refine Goes.step rfl (fun _ h₁ => ?_)
  replace hF := hF.at h₁
  clear h₁
  rw [stepG_seq]
  simp only [goes_go]
  refine ⟨DF.none (by intro e he; simp at he), ?_⟩
  refine Goes.step rfl (fun _ h₁ => ?_)
  replace hF := hF.at h₁
  clear h₁
  rw [stepG_seq]
  simp only [goes_go]
  refine ⟨DF.none (by intro e he; simp at he), ?_⟩
  refine Goes.step rfl (fun _ h₁ => ?_)
  replace hF := hF.at h₁
  clear h₁
  rw [stepG_region]
  simp only [goes_go, List.size_toArray, List.length_cons, List.length_nil, Nat.reduceAdd, Nat.zero_add, List.range, List.range.loop]
  refine ⟨DF.none (by intro e he; simp at he), ?_⟩
  refine Goes.step rfl (fun _ h₁ => ?_)
  replace hF := hF.at h₁
  clear h₁
  refine goes_oper_k rfl rfl (by decide) (fun Kx hKx => ?_)
  go_simp
  refine hKx _ _ ⟨DF.none ?_, ?_⟩
  · intro e he
    have hm := mem_listed he
    simp [go_sem, *] at hm
  clear hKx Kx
  refine Goes.step rfl (fun _ h₁ => ?_)
  replace hF := hF.at h₁
  clear h₁
  refine goes_callF rfl rfl (by decide) rfl Try.func32 nm_within rfl ⟨DF.none (by intro e he; simp at he), ?_⟩
  walk_nrm
  refine Goes.stop (fun w₁ h₁ => ⟨(hF.at h₁).sz, ?_⟩)
  replace hF := hF.at h₁
  clear h₁
  refine (pure_beside kok7 rfl (fun v => withinT row 300 (by omega) (by omega) v) hF.kf.rows).bind fun c2 S2 g2 w2 hp => ?_
  have hpk := hp.kf
  obtain rfl := hp.ec
  obtain rfl := hp.eS
  obtain rfl := hp.eg
  clear hp
  replace hF := KN.mk (hF.kf.trans hpk) (Nat.le_refl _)
  clear hpk
  rw [Frame.finish_at]
  refine BW.walk 300 ?_
  walk_nrm
  refine Goes.step rfl (fun _ h₁ => ?_)
  replace hF := hF.at h₁
  clear h₁
  refine goes_oper_k rfl rfl (by decide) (fun Kx hKx => ?_)
  go_simp
  refine hKx _ _ ⟨DF.none ?_, ?_⟩
  · intro e he
    have hm := mem_listed he
    simp [go_sem, *] at hm
  clear hKx Kx
  refine Goes.step rfl (fun _ h₁ => ?_)
  replace hF := hF.at h₁
  clear h₁
  refine goes_oper_k rfl rfl (by decide) (fun Kx hKx => ?_)
  go_simp
  refine hKx _ _ ⟨DF.none ?_, ?_⟩
  · intro e he
    have hm := mem_listed he
    simp [go_sem, *] at hm
  clear hKx Kx
  refine Goes.step rfl (fun _ h₁ => ?_)
  replace hF := hF.at h₁
  clear h₁
  refine goes_oper_k rfl rfl (by decide) (fun Kx hKx => ?_)
  go_simp
  refine hKx _ _ ⟨DF.none ?_, ?_⟩
  · intro e he
    have hm := mem_listed he
    simp [go_sem, *] at hm
  clear hKx Kx
  refine Goes.step rfl (fun _ h₁ => ?_)
  replace hF := hF.at h₁
  clear h₁
  refine goes_oper_k rfl rfl (by decide) (fun Kx hKx => ?_)
  go_simp
  refine hKx _ _ ⟨DF.none ?_, ?_⟩
  · intro e he
    have hm := mem_listed he
    simp [go_sem, *] at hm
  clear hKx Kx
  refine Goes.step rfl (fun _ h₁ => ?_)
  replace hF := hF.at h₁
  clear h₁
  refine goes_callF rfl rfl (by decide) rfl Try.func32 nm_within rfl ⟨DF.none (by intro e he; simp at he), ?_⟩
  walk_nrm
  refine Goes.stop (fun w₁ h₁ => ⟨(hF.at h₁).sz, ?_⟩)
  replace hF := hF.at h₁
  clear h₁
  refine (pure_beside kok7 rfl (fun v => withinF place row h2 v) hF.kf.rows).bind fun c2 S2 g2 w2 hp => ?_
  have hpk := hp.kf
  obtain rfl := hp.ec
  obtain rfl := hp.eS
  obtain rfl := hp.eg
  clear hp
  replace hF := KN.mk (hF.kf.trans hpk) (Nat.le_refl _)
  clear hpk
  rw [Frame.finish_at]
  refine BW.walk 300 ?_
  walk_nrm
  refine Goes.step rfl (fun _ h₁ => ?_)
  replace hF := hF.at h₁
  clear h₁
  refine goes_oper_k rfl rfl (by decide) (fun Kx hKx => ?_)
  go_simp
  refine hKx _ _ ⟨DF.none ?_, ?_⟩
  · intro e he
    have hm := mem_listed he
    simp [go_sem, *] at hm
  clear hKx Kx
  refine Goes.step rfl (fun _ h₁ => ?_)
  replace hF := hF.at h₁
  clear h₁
  refine goes_oper_k rfl rfl (by decide) (fun Kx hKx => ?_)
  go_simp
  refine hKx _ _ ⟨DF.none ?_, ?_⟩
  · intro e he
    have hm := mem_listed he
    simp [go_sem, *] at hm
  clear hKx Kx
  refine Goes.step rfl (fun _ h₁ => ?_)
  replace hF := hF.at h₁
  clear h₁
  refine goes_oper_k rfl rfl (by decide) (fun Kx hKx => ?_)
  go_simp
  refine hKx _ _ ⟨DF.none ?_, ?_⟩
  · intro e he
    have hm := mem_listed he
    simp [go_sem, *] at hm
  clear hKx Kx
  refine Goes.step rfl (fun _ h₁ => ?_)
  replace hF := hF.at h₁
  clear h₁
  rw [stepG_unwanted rfl rfl]
  simp only [goes_go]
  refine ⟨DF.none (by intro e he; simp at he), ?_⟩
  walk_nrm
  refine Goes.step rfl (fun _ h₁ => ?_)
  replace hF := hF.at h₁
  clear h₁
  rw [stepG_unwanted rfl rfl]
  simp only [goes_go]
  refine ⟨DF.none (by intro e he; simp at he), ?_⟩
  walk_nrm
  refine Goes.step rfl (fun _ h₁ => ?_)
  replace hF := hF.at h₁
  clear h₁
  refine goes_oper_k rfl rfl (by decide) (fun Kx hKx => ?_)
  go_simp
  refine hKx _ _ ⟨DF.none ?_, ?_⟩
  · intro e he
    have hm := mem_listed he
    simp [go_sem, *] at hm
  clear hKx Kx
  refine Goes.step rfl (fun _ h₁ => ?_)
  replace hF := hF.at h₁
  clear h₁
  refine goes_oper_k rfl rfl (by decide) (fun Kx hKx => ?_)
  go_simp
  refine hKx _ _ ⟨DF.none ?_, ?_⟩
  · intro e he
    have hm := mem_listed he
    simp [go_sem, *] at hm
  clear hKx Kx
  refine Goes.step rfl (fun _ h₁ => ?_)
  replace hF := hF.at h₁
  clear h₁
  rw [stepG_unwanted rfl rfl]
  simp only [goes_go]
  refine ⟨DF.none (by intro e he; simp at he), ?_⟩
  walk_nrm
  refine Goes.step rfl (fun _ h₁ => ?_)
  replace hF := hF.at h₁
  clear h₁
  rw [stepG_unwanted rfl rfl]
  simp only [goes_go]
  refine ⟨DF.none (by intro e he; simp at he), ?_⟩
  walk_nrm
  refine Goes.step rfl (fun _ h₁ => ?_)
  replace hF := hF.at h₁
  clear h₁
  refine goes_oper_k rfl rfl (by decide) (fun Kx hKx => ?_)
  go_simp
  refine hKx _ _ ⟨DF.none ?_, ?_⟩
  · intro e he
    have hm := mem_listed he
    simp [go_sem, *] at hm
  clear hKx Kx
  refine Goes.step rfl (fun _ h₁ => ?_)
  replace hF := hF.at h₁
  clear h₁
  rw [stepG_region_end]
  simp only [goes_go]
  refine ⟨DF.none (by intro e he; simp at he), ?_⟩
  refine Goes.step rfl (fun _ h₁ => ?_)
  replace hF := hF.at h₁
  clear h₁
  rw [stepG_cond (t := true) (by first | rfl | (simp [Act.eval]; omega))]
  simp only [goes_go, ↓reduceIte]
  refine ⟨DF.none (by intro e he; simp at he), ?_⟩
  refine Goes.step rfl (fun _ h₁ => ?_)
  replace hF := hF.at h₁
  clear h₁
  rw [stepG_seq]
  simp only [goes_go]
  refine ⟨DF.none (by intro e he; simp at he), ?_⟩
  refine Goes.step rfl (fun _ h₁ => ?_)
  replace hF := hF.at h₁
  clear h₁
  rw [stepG_region]
  simp only [goes_go, List.size_toArray, List.length_cons, List.length_nil, Nat.zero_add, List.range, List.range.loop]
  refine ⟨DF.none (by intro e he; simp at he), ?_⟩
  refine Goes.step rfl (fun _ h₁ => ?_)
  replace hF := hF.at h₁
  clear h₁
  refine goes_oper_k rfl rfl (by decide) (fun Kx hKx => ?_)
  go_simp
  refine hKx _ _ ⟨DF.none ?_, ?_⟩
  · intro e he
    have hm := mem_listed he
    simp [go_sem, *] at hm
  clear hKx Kx
  refine Goes.step rfl (fun _ h₁ => ?_)
  replace hF := hF.at h₁
  clear h₁
  rw [stepG_region_end]
  simp only [goes_go]
  refine ⟨DF.none (by intro e he; simp at he), ?_⟩
  refine Goes.step rfl (fun _ h₁ => ?_)
  replace hF := hF.at h₁
  clear h₁
  rw [stepG_ret']
  simp only [goes_go]
  refine ⟨DF.none (by intro e he; simp at he), ?_⟩
  refine Goes.step rfl (fun _ h₁ => ?_)
  replace hF := hF.at h₁
  clear h₁
  refine goes_leave1 (t := 6) rfl rfl Try.func14 rfl ⟨DF.none (by intro e he; simp at he), ?_⟩
  refine Goes.stop (fun w₁ h₁ => ⟨(hF.at h₁).sz, BW.now ⟨by omega, ?_, (hF.at h₁).kf⟩⟩)
  rw [Frame.finish_at]
  simp
set_option maxRecDepth 100000 in
set_option maxHeartbeats 4000000 in
theorem cellLeft_out3 (row place by' : Int) (h : 0 ≤ row ∧ row ≤ 300) (h2 : 0 ≤ place ∧ place ≤ row) (h3 : by' < 2) (hrows : Rows1 S W) :
    BW Try.prog c S (G (Frame.enter Try.prog 14 #[.int .i64 row, .int .i64 place, .int .i64 by'] .normal) ((b₀.at a₀ (.inRegion ops₀ (i₀ :: rest₀) :: k₀)) :: cs)) W (TaintAt c 0 S (b₀.at a₀ (.inRegion ops₀ (i₀ :: rest₀) :: k₀)) cs (.int .i64 (-1)) W) := by
  have hF : KN W.heap.size W S S W := ⟨KF.refl hrows, Nat.le_refl _⟩
  rw [enter_at _ Try.func14 rfl]
  refine BW.walk 200 ?_
  walk_nrmf Try.f14
  refine Goes.step rfl (fun _ h₁ => ?_)
  replace hF := hF.at h₁
  clear h₁
  rw [stepG_seq]
  simp only [goes_go]
  refine ⟨DF.none (by intro e he; simp at he), ?_⟩
  refine Goes.step rfl (fun _ h₁ => ?_)
  replace hF := hF.at h₁
  clear h₁
  rw [stepG_region]
  simp only [goes_go, List.size_toArray, List.length_cons, List.length_nil, Nat.zero_add, List.range, List.range.loop]
  refine ⟨DF.none (by intro e he; simp at he), ?_⟩
  refine Goes.step rfl (fun _ h₁ => ?_)
  replace hF := hF.at h₁
  clear h₁
  refine goes_oper_k rfl rfl (by decide) (fun Kx hKx => ?_)
  go_simp
  refine hKx _ _ ⟨DF.none ?_, ?_⟩
  · intro e he
    have hm := mem_listed he
    simp [go_sem, *] at hm
  clear hKx Kx
  refine Goes.step rfl (fun _ h₁ => ?_)
  replace hF := hF.at h₁
  clear h₁
  rw [stepG_region_end]
  simp only [goes_go]
  refine ⟨DF.none (by intro e he; simp at he), ?_⟩
  refine Goes.step rfl (fun _ h₁ => ?_)
  replace hF := hF.at h₁
  clear h₁
  rw [stepG_seq]
  simp only [goes_go]
  refine ⟨DF.none (by intro e he; simp at he), ?_⟩
  refine Goes.step rfl (fun _ h₁ => ?_)
  replace hF := hF.at h₁
  clear h₁
  rw [stepG_seq]
  simp only [goes_go]
  refine ⟨DF.none (by intro e he; simp at he), ?_⟩
  refine Goes.step rfl (fun _ h₁ => ?_)
  replace hF := hF.at h₁
  clear h₁
  rw [stepG_region]
  simp only [goes_go, List.size_toArray, List.length_cons, List.length_nil, Nat.reduceAdd, Nat.zero_add, List.range, List.range.loop]
  refine ⟨DF.none (by intro e he; simp at he), ?_⟩
  refine Goes.step rfl (fun _ h₁ => ?_)
  replace hF := hF.at h₁
  clear h₁
  refine goes_oper_k rfl rfl (by decide) (fun Kx hKx => ?_)
  go_simp
  refine hKx _ _ ⟨DF.none ?_, ?_⟩
  · intro e he
    have hm := mem_listed he
    simp [go_sem, *] at hm
  clear hKx Kx
  refine Goes.step rfl (fun _ h₁ => ?_)
  replace hF := hF.at h₁
  clear h₁
  refine goes_callF rfl rfl (by decide) rfl Try.func32 nm_within rfl ⟨DF.none (by intro e he; simp at he), ?_⟩
  walk_nrm
  refine Goes.stop (fun w₁ h₁ => ⟨(hF.at h₁).sz, ?_⟩)
  replace hF := hF.at h₁
  clear h₁
  refine (pure_beside kok7 rfl (fun v => withinT row 300 (by omega) (by omega) v) hF.kf.rows).bind fun c2 S2 g2 w2 hp => ?_
  have hpk := hp.kf
  obtain rfl := hp.ec
  obtain rfl := hp.eS
  obtain rfl := hp.eg
  clear hp
  replace hF := KN.mk (hF.kf.trans hpk) (Nat.le_refl _)
  clear hpk
  rw [Frame.finish_at]
  refine BW.walk 300 ?_
  walk_nrm
  refine Goes.step rfl (fun _ h₁ => ?_)
  replace hF := hF.at h₁
  clear h₁
  refine goes_oper_k rfl rfl (by decide) (fun Kx hKx => ?_)
  go_simp
  refine hKx _ _ ⟨DF.none ?_, ?_⟩
  · intro e he
    have hm := mem_listed he
    simp [go_sem, *] at hm
  clear hKx Kx
  refine Goes.step rfl (fun _ h₁ => ?_)
  replace hF := hF.at h₁
  clear h₁
  refine goes_oper_k rfl rfl (by decide) (fun Kx hKx => ?_)
  go_simp
  refine hKx _ _ ⟨DF.none ?_, ?_⟩
  · intro e he
    have hm := mem_listed he
    simp [go_sem, *] at hm
  clear hKx Kx
  refine Goes.step rfl (fun _ h₁ => ?_)
  replace hF := hF.at h₁
  clear h₁
  refine goes_oper_k rfl rfl (by decide) (fun Kx hKx => ?_)
  go_simp
  refine hKx _ _ ⟨DF.none ?_, ?_⟩
  · intro e he
    have hm := mem_listed he
    simp [go_sem, *] at hm
  clear hKx Kx
  refine Goes.step rfl (fun _ h₁ => ?_)
  replace hF := hF.at h₁
  clear h₁
  refine goes_oper_k rfl rfl (by decide) (fun Kx hKx => ?_)
  go_simp
  refine hKx _ _ ⟨DF.none ?_, ?_⟩
  · intro e he
    have hm := mem_listed he
    simp [go_sem, *] at hm
  clear hKx Kx
  refine Goes.step rfl (fun _ h₁ => ?_)
  replace hF := hF.at h₁
  clear h₁
  refine goes_callF rfl rfl (by decide) rfl Try.func32 nm_within rfl ⟨DF.none (by intro e he; simp at he), ?_⟩
  walk_nrm
  refine Goes.stop (fun w₁ h₁ => ⟨(hF.at h₁).sz, ?_⟩)
  replace hF := hF.at h₁
  clear h₁
  refine (pure_beside kok7 rfl (fun v => withinT place row (by omega) (by omega) v) hF.kf.rows).bind fun c2 S2 g2 w2 hp => ?_
  have hpk := hp.kf
  obtain rfl := hp.ec
  obtain rfl := hp.eS
  obtain rfl := hp.eg
  clear hp
  replace hF := KN.mk (hF.kf.trans hpk) (Nat.le_refl _)
  clear hpk
  rw [Frame.finish_at]
  refine BW.walk 300 ?_
  walk_nrm
  refine Goes.step rfl (fun _ h₁ => ?_)
  replace hF := hF.at h₁
  clear h₁
  refine goes_oper_k rfl rfl (by decide) (fun Kx hKx => ?_)
  go_simp
  refine hKx _ _ ⟨DF.none ?_, ?_⟩
  · intro e he
    have hm := mem_listed he
    simp [go_sem, *] at hm
  clear hKx Kx
  refine Goes.step rfl (fun _ h₁ => ?_)
  replace hF := hF.at h₁
  clear h₁
  refine goes_oper_k rfl rfl (by decide) (fun Kx hKx => ?_)
  go_simp
  refine hKx _ _ ⟨DF.none ?_, ?_⟩
  · intro e he
    have hm := mem_listed he
    simp [go_sem, *] at hm
  clear hKx Kx
  refine Goes.step rfl (fun _ h₁ => ?_)
  replace hF := hF.at h₁
  clear h₁
  refine goes_oper_k rfl rfl (by decide) (fun Kx hKx => ?_)
  go_simp
  refine hKx _ _ ⟨DF.none ?_, ?_⟩
  · intro e he
    have hm := mem_listed he
    simp [go_sem, *] at hm
  clear hKx Kx
  refine Goes.step rfl (fun _ h₁ => ?_)
  replace hF := hF.at h₁
  clear h₁
  refine goes_oper_k rfl rfl (by decide) (fun Kx hKx => ?_)
  go_simp
  refine hKx _ _ ⟨DF.none ?_, ?_⟩
  · intro e he
    have hm := mem_listed he
    simp [go_sem, *] at hm
  clear hKx Kx
  refine Goes.step rfl (fun _ h₁ => ?_)
  replace hF := hF.at h₁
  clear h₁
  refine goes_oper_k rfl rfl (by decide) (fun Kx hKx => ?_)
  go_simp
  refine hKx _ _ ⟨DF.none ?_, ?_⟩
  · intro e he
    have hm := mem_listed he
    simp [go_sem, *] at hm
  clear hKx Kx
  refine Goes.step rfl (fun _ h₁ => ?_)
  replace hF := hF.at h₁
  clear h₁
  refine goes_oper_k rfl rfl (by decide) (fun Kx hKx => ?_)
  go_simp
  refine hKx _ _ ⟨DF.none ?_, ?_⟩
  · intro e he
    have hm := mem_listed he
    simp [go_sem, *] at hm
  clear hKx Kx
  refine Goes.step rfl (fun _ h₁ => ?_)
  replace hF := hF.at h₁
  clear h₁
  refine goes_oper_k rfl rfl (by decide) (fun Kx hKx => ?_)
  go_simp
  refine hKx _ _ ⟨DF.none ?_, ?_⟩
  · intro e he
    have hm := mem_listed he
    simp [go_sem, *] at hm
  clear hKx Kx
  refine Goes.step rfl (fun _ h₁ => ?_)
  replace hF := hF.at h₁
  clear h₁
  rw [stepG_unwanted rfl rfl]
  simp only [goes_go]
  refine ⟨DF.none (by intro e he; simp at he), ?_⟩
  walk_nrm
  refine Goes.step rfl (fun _ h₁ => ?_)
  replace hF := hF.at h₁
  clear h₁
  rw [stepG_unwanted rfl rfl]
  simp only [goes_go]
  refine ⟨DF.none (by intro e he; simp at he), ?_⟩
  walk_nrm
  refine Goes.step rfl (fun _ h₁ => ?_)
  replace hF := hF.at h₁
  clear h₁
  refine goes_oper_k rfl rfl (by decide) (fun Kx hKx => ?_)
  go_simp
  refine hKx _ _ ⟨DF.none ?_, ?_⟩
  · intro e he
    have hm := mem_listed he
    simp [go_sem, *] at hm
  clear hKx Kx
  refine Goes.step rfl (fun _ h₁ => ?_)
  replace hF := hF.at h₁
  clear h₁
  rw [stepG_region_end]
  simp only [goes_go]
  refine ⟨DF.none (by intro e he; simp at he), ?_⟩
  refine Goes.step rfl (fun _ h₁ => ?_)
  replace hF := hF.at h₁
  clear h₁
  rw [stepG_cond (t := true) (by first | rfl | (simp [Act.eval]; omega))]
  simp only [goes_go, ↓reduceIte]
  refine ⟨DF.none (by intro e he; simp at he), ?_⟩
  refine Goes.step rfl (fun _ h₁ => ?_)
  replace hF := hF.at h₁
  clear h₁
  rw [stepG_seq]
  simp only [goes_go]
  refine ⟨DF.none (by intro e he; simp at he), ?_⟩
  refine Goes.step rfl (fun _ h₁ => ?_)
  replace hF := hF.at h₁
  clear h₁
  rw [stepG_region]
  simp only [goes_go, List.size_toArray, List.length_cons, List.length_nil, Nat.zero_add, List.range, List.range.loop]
  refine ⟨DF.none (by intro e he; simp at he), ?_⟩
  refine Goes.step rfl (fun _ h₁ => ?_)
  replace hF := hF.at h₁
  clear h₁
  refine goes_oper_k rfl rfl (by decide) (fun Kx hKx => ?_)
  go_simp
  refine hKx _ _ ⟨DF.none ?_, ?_⟩
  · intro e he
    have hm := mem_listed he
    simp [go_sem, *] at hm
  clear hKx Kx
  refine Goes.step rfl (fun _ h₁ => ?_)
  replace hF := hF.at h₁
  clear h₁
  rw [stepG_region_end]
  simp only [goes_go]
  refine ⟨DF.none (by intro e he; simp at he), ?_⟩
  refine Goes.step rfl (fun _ h₁ => ?_)
  replace hF := hF.at h₁
  clear h₁
  rw [stepG_ret']
  simp only [goes_go]
  refine ⟨DF.none (by intro e he; simp at he), ?_⟩
  refine Goes.step rfl (fun _ h₁ => ?_)
  replace hF := hF.at h₁
  clear h₁
  refine goes_leave1 (t := 6) rfl rfl Try.func14 rfl ⟨DF.none (by intro e he; simp at he), ?_⟩
  refine Goes.stop (fun w₁ h₁ => ⟨(hF.at h₁).sz, BW.now ⟨by omega, ?_, (hF.at h₁).kf⟩⟩)
  rw [Frame.finish_at]
  simp
set_option maxRecDepth 100000 in
set_option maxHeartbeats 4000000 in
theorem cellLeft_out4 (row place by' : Int) (h : 0 ≤ row ∧ row ≤ 300) (h2 : 0 ≤ place ∧ place ≤ row) (h3 : ¬ by' < 2) (h4 : 100000 < by') (hrows : Rows1 S W) :
    BW Try.prog c S (G (Frame.enter Try.prog 14 #[.int .i64 row, .int .i64 place, .int .i64 by'] .normal) ((b₀.at a₀ (.inRegion ops₀ (i₀ :: rest₀) :: k₀)) :: cs)) W (TaintAt c 0 S (b₀.at a₀ (.inRegion ops₀ (i₀ :: rest₀) :: k₀)) cs (.int .i64 (-1)) W) := by
  have hF : KN W.heap.size W S S W := ⟨KF.refl hrows, Nat.le_refl _⟩
  rw [enter_at _ Try.func14 rfl]
  refine BW.walk 200 ?_
  walk_nrmf Try.f14
  refine Goes.step rfl (fun _ h₁ => ?_)
  replace hF := hF.at h₁
  clear h₁
  rw [stepG_seq]
  simp only [goes_go]
  refine ⟨DF.none (by intro e he; simp at he), ?_⟩
  refine Goes.step rfl (fun _ h₁ => ?_)
  replace hF := hF.at h₁
  clear h₁
  rw [stepG_region]
  simp only [goes_go, List.size_toArray, List.length_cons, List.length_nil, Nat.zero_add, List.range, List.range.loop]
  refine ⟨DF.none (by intro e he; simp at he), ?_⟩
  refine Goes.step rfl (fun _ h₁ => ?_)
  replace hF := hF.at h₁
  clear h₁
  refine goes_oper_k rfl rfl (by decide) (fun Kx hKx => ?_)
  go_simp
  refine hKx _ _ ⟨DF.none ?_, ?_⟩
  · intro e he
    have hm := mem_listed he
    simp [go_sem, *] at hm
  clear hKx Kx
  refine Goes.step rfl (fun _ h₁ => ?_)
  replace hF := hF.at h₁
  clear h₁
  rw [stepG_region_end]
  simp only [goes_go]
  refine ⟨DF.none (by intro e he; simp at he), ?_⟩
  refine Goes.step rfl (fun _ h₁ => ?_)
  replace hF := hF.at h₁
  clear h₁
  rw [stepG_seq]
  simp only [goes_go]
  refine ⟨DF.none (by intro e he; simp at he), ?_⟩
  refine Goes.step rfl (fun _ h₁ => ?_)
  replace hF := hF.at h₁
  clear h₁
  rw [stepG_seq]
  simp only [goes_go]
  refine ⟨DF.none (by intro e he; simp at he), ?_⟩
  refine Goes.step rfl (fun _ h₁ => ?_)
  replace hF := hF.at h₁
  clear h₁
  rw [stepG_region]
  simp only [goes_go, List.size_toArray, List.length_cons, List.length_nil, Nat.reduceAdd, Nat.zero_add, List.range, List.range.loop]
  refine ⟨DF.none (by intro e he; simp at he), ?_⟩
  refine Goes.step rfl (fun _ h₁ => ?_)
  replace hF := hF.at h₁
  clear h₁
  refine goes_oper_k rfl rfl (by decide) (fun Kx hKx => ?_)
  go_simp
  refine hKx _ _ ⟨DF.none ?_, ?_⟩
  · intro e he
    have hm := mem_listed he
    simp [go_sem, *] at hm
  clear hKx Kx
  refine Goes.step rfl (fun _ h₁ => ?_)
  replace hF := hF.at h₁
  clear h₁
  refine goes_callF rfl rfl (by decide) rfl Try.func32 nm_within rfl ⟨DF.none (by intro e he; simp at he), ?_⟩
  walk_nrm
  refine Goes.stop (fun w₁ h₁ => ⟨(hF.at h₁).sz, ?_⟩)
  replace hF := hF.at h₁
  clear h₁
  refine (pure_beside kok7 rfl (fun v => withinT row 300 (by omega) (by omega) v) hF.kf.rows).bind fun c2 S2 g2 w2 hp => ?_
  have hpk := hp.kf
  obtain rfl := hp.ec
  obtain rfl := hp.eS
  obtain rfl := hp.eg
  clear hp
  replace hF := KN.mk (hF.kf.trans hpk) (Nat.le_refl _)
  clear hpk
  rw [Frame.finish_at]
  refine BW.walk 300 ?_
  walk_nrm
  refine Goes.step rfl (fun _ h₁ => ?_)
  replace hF := hF.at h₁
  clear h₁
  refine goes_oper_k rfl rfl (by decide) (fun Kx hKx => ?_)
  go_simp
  refine hKx _ _ ⟨DF.none ?_, ?_⟩
  · intro e he
    have hm := mem_listed he
    simp [go_sem, *] at hm
  clear hKx Kx
  refine Goes.step rfl (fun _ h₁ => ?_)
  replace hF := hF.at h₁
  clear h₁
  refine goes_oper_k rfl rfl (by decide) (fun Kx hKx => ?_)
  go_simp
  refine hKx _ _ ⟨DF.none ?_, ?_⟩
  · intro e he
    have hm := mem_listed he
    simp [go_sem, *] at hm
  clear hKx Kx
  refine Goes.step rfl (fun _ h₁ => ?_)
  replace hF := hF.at h₁
  clear h₁
  refine goes_oper_k rfl rfl (by decide) (fun Kx hKx => ?_)
  go_simp
  refine hKx _ _ ⟨DF.none ?_, ?_⟩
  · intro e he
    have hm := mem_listed he
    simp [go_sem, *] at hm
  clear hKx Kx
  refine Goes.step rfl (fun _ h₁ => ?_)
  replace hF := hF.at h₁
  clear h₁
  refine goes_oper_k rfl rfl (by decide) (fun Kx hKx => ?_)
  go_simp
  refine hKx _ _ ⟨DF.none ?_, ?_⟩
  · intro e he
    have hm := mem_listed he
    simp [go_sem, *] at hm
  clear hKx Kx
  refine Goes.step rfl (fun _ h₁ => ?_)
  replace hF := hF.at h₁
  clear h₁
  refine goes_callF rfl rfl (by decide) rfl Try.func32 nm_within rfl ⟨DF.none (by intro e he; simp at he), ?_⟩
  walk_nrm
  refine Goes.stop (fun w₁ h₁ => ⟨(hF.at h₁).sz, ?_⟩)
  replace hF := hF.at h₁
  clear h₁
  refine (pure_beside kok7 rfl (fun v => withinT place row (by omega) (by omega) v) hF.kf.rows).bind fun c2 S2 g2 w2 hp => ?_
  have hpk := hp.kf
  obtain rfl := hp.ec
  obtain rfl := hp.eS
  obtain rfl := hp.eg
  clear hp
  replace hF := KN.mk (hF.kf.trans hpk) (Nat.le_refl _)
  clear hpk
  rw [Frame.finish_at]
  refine BW.walk 300 ?_
  walk_nrm
  refine Goes.step rfl (fun _ h₁ => ?_)
  replace hF := hF.at h₁
  clear h₁
  refine goes_oper_k rfl rfl (by decide) (fun Kx hKx => ?_)
  go_simp
  refine hKx _ _ ⟨DF.none ?_, ?_⟩
  · intro e he
    have hm := mem_listed he
    simp [go_sem, *] at hm
  clear hKx Kx
  refine Goes.step rfl (fun _ h₁ => ?_)
  replace hF := hF.at h₁
  clear h₁
  refine goes_oper_k rfl rfl (by decide) (fun Kx hKx => ?_)
  go_simp
  refine hKx _ _ ⟨DF.none ?_, ?_⟩
  · intro e he
    have hm := mem_listed he
    simp [go_sem, *] at hm
  clear hKx Kx
  refine Goes.step rfl (fun _ h₁ => ?_)
  replace hF := hF.at h₁
  clear h₁
  refine goes_oper_k rfl rfl (by decide) (fun Kx hKx => ?_)
  go_simp
  refine hKx _ _ ⟨DF.none ?_, ?_⟩
  · intro e he
    have hm := mem_listed he
    simp [go_sem, *] at hm
  clear hKx Kx
  refine Goes.step rfl (fun _ h₁ => ?_)
  replace hF := hF.at h₁
  clear h₁
  refine goes_oper_k rfl rfl (by decide) (fun Kx hKx => ?_)
  go_simp
  refine hKx _ _ ⟨DF.none ?_, ?_⟩
  · intro e he
    have hm := mem_listed he
    simp [go_sem, *] at hm
  clear hKx Kx
  refine Goes.step rfl (fun _ h₁ => ?_)
  replace hF := hF.at h₁
  clear h₁
  refine goes_oper_k rfl rfl (by decide) (fun Kx hKx => ?_)
  go_simp
  refine hKx _ _ ⟨DF.none ?_, ?_⟩
  · intro e he
    have hm := mem_listed he
    simp [go_sem, *] at hm
  clear hKx Kx
  refine Goes.step rfl (fun _ h₁ => ?_)
  replace hF := hF.at h₁
  clear h₁
  refine goes_oper_k rfl rfl (by decide) (fun Kx hKx => ?_)
  go_simp
  refine hKx _ _ ⟨DF.none ?_, ?_⟩
  · intro e he
    have hm := mem_listed he
    simp [go_sem, *] at hm
  clear hKx Kx
  refine Goes.step rfl (fun _ h₁ => ?_)
  replace hF := hF.at h₁
  clear h₁
  refine goes_oper_k rfl rfl (by decide) (fun Kx hKx => ?_)
  go_simp
  refine hKx _ _ ⟨DF.none ?_, ?_⟩
  · intro e he
    have hm := mem_listed he
    simp [go_sem, *] at hm
  clear hKx Kx
  refine Goes.step rfl (fun _ h₁ => ?_)
  replace hF := hF.at h₁
  clear h₁
  refine goes_oper_k rfl rfl (by decide) (fun Kx hKx => ?_)
  go_simp
  refine hKx _ _ ⟨DF.none ?_, ?_⟩
  · intro e he
    have hm := mem_listed he
    simp [go_sem, *] at hm
  clear hKx Kx
  refine Goes.step rfl (fun _ h₁ => ?_)
  replace hF := hF.at h₁
  clear h₁
  refine goes_oper_k rfl rfl (by decide) (fun Kx hKx => ?_)
  go_simp
  refine hKx _ _ ⟨DF.none ?_, ?_⟩
  · intro e he
    have hm := mem_listed he
    simp [go_sem, *] at hm
  clear hKx Kx
  refine Goes.step rfl (fun _ h₁ => ?_)
  replace hF := hF.at h₁
  clear h₁
  refine goes_oper_k rfl rfl (by decide) (fun Kx hKx => ?_)
  go_simp
  refine hKx _ _ ⟨DF.none ?_, ?_⟩
  · intro e he
    have hm := mem_listed he
    simp [go_sem, *] at hm
  clear hKx Kx
  refine Goes.step rfl (fun _ h₁ => ?_)
  replace hF := hF.at h₁
  clear h₁
  rw [stepG_region_end]
  simp only [goes_go]
  refine ⟨DF.none (by intro e he; simp at he), ?_⟩
  refine Goes.step rfl (fun _ h₁ => ?_)
  replace hF := hF.at h₁
  clear h₁
  rw [stepG_cond (t := true) (by first | rfl | (simp [Act.eval]; omega))]
  simp only [goes_go, ↓reduceIte]
  refine ⟨DF.none (by intro e he; simp at he), ?_⟩
  refine Goes.step rfl (fun _ h₁ => ?_)
  replace hF := hF.at h₁
  clear h₁
  rw [stepG_seq]
  simp only [goes_go]
  refine ⟨DF.none (by intro e he; simp at he), ?_⟩
  refine Goes.step rfl (fun _ h₁ => ?_)
  replace hF := hF.at h₁
  clear h₁
  rw [stepG_region]
  simp only [goes_go, List.size_toArray, List.length_cons, List.length_nil, Nat.zero_add, List.range, List.range.loop]
  refine ⟨DF.none (by intro e he; simp at he), ?_⟩
  refine Goes.step rfl (fun _ h₁ => ?_)
  replace hF := hF.at h₁
  clear h₁
  refine goes_oper_k rfl rfl (by decide) (fun Kx hKx => ?_)
  go_simp
  refine hKx _ _ ⟨DF.none ?_, ?_⟩
  · intro e he
    have hm := mem_listed he
    simp [go_sem, *] at hm
  clear hKx Kx
  refine Goes.step rfl (fun _ h₁ => ?_)
  replace hF := hF.at h₁
  clear h₁
  rw [stepG_region_end]
  simp only [goes_go]
  refine ⟨DF.none (by intro e he; simp at he), ?_⟩
  refine Goes.step rfl (fun _ h₁ => ?_)
  replace hF := hF.at h₁
  clear h₁
  rw [stepG_ret']
  simp only [goes_go]
  refine ⟨DF.none (by intro e he; simp at he), ?_⟩
  refine Goes.step rfl (fun _ h₁ => ?_)
  replace hF := hF.at h₁
  clear h₁
  refine goes_leave1 (t := 6) rfl rfl Try.func14 rfl ⟨DF.none (by intro e he; simp at he), ?_⟩
  refine Goes.stop (fun w₁ h₁ => ⟨(hF.at h₁).sz, BW.now ⟨by omega, ?_, (hF.at h₁).kf⟩⟩)
  rw [Frame.finish_at]
  simp
/-- Behind cellsLeft: its row lies in block X. -/
structure KX (N : Nat) (W : World) (S₀ S : Nat → Prop) (X p : Nat) (x : Value) (w : World) : Prop where
  kf : KF W S₀ S w
  sz : N ≤ w.heap.size
  cell : w.cell? ⟨X, p, none⟩ = some x
  ns : ¬ S X
  lt : X < N
theorem KX.at {N X p : Nat} {x : Value} {W w w₁ : World} {S₀ S : Nat → Prop} (h : KX N W S₀ S X p x w) (r : AtRel w w₁) : KX N W S₀ S X p x w₁ := ⟨h.kf.at r, by obtain ⟨d, rfl⟩ := r; exact h.sz, by obtain ⟨d, rfl⟩ := r; exact h.cell, h.ns, h.lt⟩
theorem CLI.kf {w : World} {S S' : Nat → Prop} {last X Y m : Nat} {by' : Int} (h : CLI W S S' last by' X Y m w) : KF W S S' w :=
  ⟨⟨h.tape, by have := h.size; omega, h.os, h.output⟩, fun k hk _ => h.low k hk, fun k hk => (h.sh k hk).imp id (fun h2 => by omega), h.rows⟩
theorem CLI.ns {w : World} {S S' : Nat → Prop} {last X Y m : Nat} {by' : Int} (h : CLI W S S' last by' X Y m w) (hs : ∀ k, S k → k < W.heap.size) : ¬ S' X := fun hk => by
  have h1 := h.hX
  rcases h.sh X hk with h2 | h2
  · have := hs X h2
    omega
  · omega
theorem cells33F {r last : Nat} {by' : Int} (hl : last ≤ 300) (hr : r ≤ 300) (hc : c ≤ 90000) (hb : 2 ≤ by' ∧ by' ≤ 100000) (hrows : Rows1 S W) :
    BW Try.prog c S (G (Frame.enter Try.prog 33 #[.int .i64 (r : Nat), .int .i64 (last : Nat), .int .i64 by'] .normal) ((b₀.at a₀ (.inRegion ops₀ (i₀ :: rest₀) :: k₀)) :: cs)) W (CellsAt c W S last by' r b₀ a₀ ops₀ i₀ rest₀ k₀ cs) := by
  have hA := cells33 (W := W) (b₀ := b₀) (a₀ := a₀) (ops₀ := ops₀) (i₀ := i₀) (rest₀ := rest₀) (k₀ := k₀) (cs := cs) hl hr hc hb (KF.refl hrows).lt hrows
  simp only [Try.f33, Option.getD_some] at hA
  rw [enter_at _ Try.func33 rfl]
  walk_nrmf Try.f33
  exact hA
set_option maxRecDepth 100000 in
set_option maxHeartbeats 4000000 in
theorem cellLeft_in (r p q : Nat) (hr : r ≤ 300) (hp : p ≤ r) (hq : 2 ≤ q) (hq2 : q ≤ 100000) (hc : c ≤ 90000) (hrows : Rows1 S W) :
    BW Try.prog c S (G (Frame.enter Try.prog 14 #[.int .i64 r, .int .i64 p, .int .i64 q] .normal) ((b₀.at a₀ (.inRegion ops₀ (i₀ :: rest₀) :: k₀)) :: cs)) W (TaintAt c (16 * 300) S (b₀.at a₀ (.inRegion ops₀ (i₀ :: rest₀) :: k₀)) cs (.int .i64 (leftN q r p)) W) := by
  have hd1 : ¬ (q : Int) < 2 := by omega
  have hd2 : ¬ (100000 : Int) < q := by omega
  have hd3 : (p : Int) < (p : Int) + 1 := by omega
  have hF : KN W.heap.size W S S W := ⟨KF.refl hrows, Nat.le_refl _⟩
  rw [enter_at _ Try.func14 rfl]
  refine BW.walk 200 ?_
  walk_nrmf Try.f14
  refine Goes.step rfl (fun _ h₁ => ?_)
  replace hF := hF.at h₁
  clear h₁
  rw [stepG_seq]
  simp only [goes_go]
  refine ⟨DF.none (by intro e he; simp at he), ?_⟩
  refine Goes.step rfl (fun _ h₁ => ?_)
  replace hF := hF.at h₁
  clear h₁
  rw [stepG_region]
  simp only [goes_go, List.size_toArray, List.length_cons, List.length_nil, Nat.zero_add, List.range, List.range.loop]
  refine ⟨DF.none (by intro e he; simp at he), ?_⟩
  refine Goes.step rfl (fun _ h₁ => ?_)
  replace hF := hF.at h₁
  clear h₁
  refine goes_oper_k rfl rfl (by decide) (fun Kx hKx => ?_)
  go_simp
  refine hKx _ _ ⟨DF.none ?_, ?_⟩
  · intro e he
    have hm := mem_listed he
    simp [go_sem, *] at hm
  clear hKx Kx
  refine Goes.step rfl (fun _ h₁ => ?_)
  replace hF := hF.at h₁
  clear h₁
  rw [stepG_region_end]
  simp only [goes_go]
  refine ⟨DF.none (by intro e he; simp at he), ?_⟩
  refine Goes.step rfl (fun _ h₁ => ?_)
  replace hF := hF.at h₁
  clear h₁
  rw [stepG_seq]
  simp only [goes_go]
  refine ⟨DF.none (by intro e he; simp at he), ?_⟩
  refine Goes.step rfl (fun _ h₁ => ?_)
  replace hF := hF.at h₁
  clear h₁
  rw [stepG_seq]
  simp only [goes_go]
  refine ⟨DF.none (by intro e he; simp at he), ?_⟩
  refine Goes.step rfl (fun _ h₁ => ?_)
  replace hF := hF.at h₁
  clear h₁
  rw [stepG_region]
  simp only [goes_go, List.size_toArray, List.length_cons, List.length_nil, Nat.reduceAdd, Nat.zero_add, List.range, List.range.loop]
  refine ⟨DF.none (by intro e he; simp at he), ?_⟩
  refine Goes.step rfl (fun _ h₁ => ?_)
  replace hF := hF.at h₁
  clear h₁
  refine goes_oper_k rfl rfl (by decide) (fun Kx hKx => ?_)
  go_simp
  refine hKx _ _ ⟨DF.none ?_, ?_⟩
  · intro e he
    have hm := mem_listed he
    simp [go_sem, *] at hm
  clear hKx Kx
  refine Goes.step rfl (fun _ h₁ => ?_)
  replace hF := hF.at h₁
  clear h₁
  refine goes_callF rfl rfl (by decide) rfl Try.func32 nm_within rfl ⟨DF.none (by intro e he; simp at he), ?_⟩
  walk_nrm
  refine Goes.stop (fun w₁ h₁ => ⟨(hF.at h₁).sz, ?_⟩)
  replace hF := hF.at h₁
  clear h₁
  refine (pure_beside kok7 rfl (fun v => withinT r 300 (by omega) (by omega) v) hF.kf.rows).bind fun c2 S2 g2 w2 hp => ?_
  have hpk := hp.kf
  obtain rfl := hp.ec
  obtain rfl := hp.eS
  obtain rfl := hp.eg
  clear hp
  replace hF := KN.mk (hF.kf.trans hpk) (Nat.le_refl _)
  clear hpk
  rw [Frame.finish_at]
  refine BW.walk 300 ?_
  walk_nrm
  refine Goes.step rfl (fun _ h₁ => ?_)
  replace hF := hF.at h₁
  clear h₁
  refine goes_oper_k rfl rfl (by decide) (fun Kx hKx => ?_)
  go_simp
  refine hKx _ _ ⟨DF.none ?_, ?_⟩
  · intro e he
    have hm := mem_listed he
    simp [go_sem, *] at hm
  clear hKx Kx
  refine Goes.step rfl (fun _ h₁ => ?_)
  replace hF := hF.at h₁
  clear h₁
  refine goes_oper_k rfl rfl (by decide) (fun Kx hKx => ?_)
  go_simp
  refine hKx _ _ ⟨DF.none ?_, ?_⟩
  · intro e he
    have hm := mem_listed he
    simp [go_sem, *] at hm
  clear hKx Kx
  refine Goes.step rfl (fun _ h₁ => ?_)
  replace hF := hF.at h₁
  clear h₁
  refine goes_oper_k rfl rfl (by decide) (fun Kx hKx => ?_)
  go_simp
  refine hKx _ _ ⟨DF.none ?_, ?_⟩
  · intro e he
    have hm := mem_listed he
    simp [go_sem, *] at hm
  clear hKx Kx
  refine Goes.step rfl (fun _ h₁ => ?_)
  replace hF := hF.at h₁
  clear h₁
  refine goes_oper_k rfl rfl (by decide) (fun Kx hKx => ?_)
  go_simp
  refine hKx _ _ ⟨DF.none ?_, ?_⟩
  · intro e he
    have hm := mem_listed he
    simp [go_sem, *] at hm
  clear hKx Kx
  refine Goes.step rfl (fun _ h₁ => ?_)
  replace hF := hF.at h₁
  clear h₁
  refine goes_callF rfl rfl (by decide) rfl Try.func32 nm_within rfl ⟨DF.none (by intro e he; simp at he), ?_⟩
  walk_nrm
  refine Goes.stop (fun w₁ h₁ => ⟨(hF.at h₁).sz, ?_⟩)
  replace hF := hF.at h₁
  clear h₁
  refine (pure_beside kok7 rfl (fun v => withinT p r (by omega) (by omega) v) hF.kf.rows).bind fun c2 S2 g2 w2 hp => ?_
  have hpk := hp.kf
  obtain rfl := hp.ec
  obtain rfl := hp.eS
  obtain rfl := hp.eg
  clear hp
  replace hF := KN.mk (hF.kf.trans hpk) (Nat.le_refl _)
  clear hpk
  rw [Frame.finish_at]
  refine BW.walk 300 ?_
  walk_nrm
  refine Goes.step rfl (fun _ h₁ => ?_)
  replace hF := hF.at h₁
  clear h₁
  refine goes_oper_k rfl rfl (by decide) (fun Kx hKx => ?_)
  go_simp
  refine hKx _ _ ⟨DF.none ?_, ?_⟩
  · intro e he
    have hm := mem_listed he
    simp [go_sem, *] at hm
  clear hKx Kx
  refine Goes.step rfl (fun _ h₁ => ?_)
  replace hF := hF.at h₁
  clear h₁
  refine goes_oper_k rfl rfl (by decide) (fun Kx hKx => ?_)
  go_simp
  refine hKx _ _ ⟨DF.none ?_, ?_⟩
  · intro e he
    have hm := mem_listed he
    simp [go_sem, *] at hm
  clear hKx Kx
  refine Goes.step rfl (fun _ h₁ => ?_)
  replace hF := hF.at h₁
  clear h₁
  refine goes_oper_k rfl rfl (by decide) (fun Kx hKx => ?_)
  go_simp
  refine hKx _ _ ⟨DF.none ?_, ?_⟩
  · intro e he
    have hm := mem_listed he
    simp [go_sem, *] at hm
  clear hKx Kx
  refine Goes.step rfl (fun _ h₁ => ?_)
  replace hF := hF.at h₁
  clear h₁
  refine goes_oper_k rfl rfl (by decide) (fun Kx hKx => ?_)
  go_simp
  refine hKx _ _ ⟨DF.none ?_, ?_⟩
  · intro e he
    have hm := mem_listed he
    simp [go_sem, *] at hm
  clear hKx Kx
  refine Goes.step rfl (fun _ h₁ => ?_)
  replace hF := hF.at h₁
  clear h₁
  refine goes_oper_k rfl rfl (by decide) (fun Kx hKx => ?_)
  go_simp
  refine hKx _ _ ⟨DF.none ?_, ?_⟩
  · intro e he
    have hm := mem_listed he
    simp [go_sem, *] at hm
  clear hKx Kx
  refine Goes.step rfl (fun _ h₁ => ?_)
  replace hF := hF.at h₁
  clear h₁
  refine goes_oper_k rfl rfl (by decide) (fun Kx hKx => ?_)
  go_simp
  refine hKx _ _ ⟨DF.none ?_, ?_⟩
  · intro e he
    have hm := mem_listed he
    simp [go_sem, *] at hm
  clear hKx Kx
  refine Goes.step rfl (fun _ h₁ => ?_)
  replace hF := hF.at h₁
  clear h₁
  refine goes_oper_k rfl rfl (by decide) (fun Kx hKx => ?_)
  go_simp
  refine hKx _ _ ⟨DF.none ?_, ?_⟩
  · intro e he
    have hm := mem_listed he
    simp [go_sem, *] at hm
  clear hKx Kx
  refine Goes.step rfl (fun _ h₁ => ?_)
  replace hF := hF.at h₁
  clear h₁
  refine goes_oper_k rfl rfl (by decide) (fun Kx hKx => ?_)
  go_simp
  refine hKx _ _ ⟨DF.none ?_, ?_⟩
  · intro e he
    have hm := mem_listed he
    simp [go_sem, *] at hm
  clear hKx Kx
  refine Goes.step rfl (fun _ h₁ => ?_)
  replace hF := hF.at h₁
  clear h₁
  refine goes_oper_k rfl rfl (by decide) (fun Kx hKx => ?_)
  go_simp
  refine hKx _ _ ⟨DF.none ?_, ?_⟩
  · intro e he
    have hm := mem_listed he
    simp [go_sem, *] at hm
  clear hKx Kx
  refine Goes.step rfl (fun _ h₁ => ?_)
  replace hF := hF.at h₁
  clear h₁
  refine goes_oper_k rfl rfl (by decide) (fun Kx hKx => ?_)
  go_simp
  refine hKx _ _ ⟨DF.none ?_, ?_⟩
  · intro e he
    have hm := mem_listed he
    simp [go_sem, *] at hm
  clear hKx Kx
  refine Goes.step rfl (fun _ h₁ => ?_)
  replace hF := hF.at h₁
  clear h₁
  rw [stepG_region_end]
  simp only [goes_go]
  refine ⟨DF.none (by intro e he; simp at he), ?_⟩
  refine Goes.step rfl (fun _ h₁ => ?_)
  replace hF := hF.at h₁
  clear h₁
  rw [stepG_cond (t := false) (by first | rfl | (simp [Act.eval]; omega))]
  simp only [goes_go, Bool.false_eq_true, ↓reduceIte]
  refine ⟨DF.none (by intro e he; simp at he), ?_⟩
  refine Goes.step rfl (fun _ h₁ => ?_)
  replace hF := hF.at h₁
  clear h₁
  rw [stepG_skip]
  simp only [goes_go]
  refine ⟨DF.none (by intro e he; simp at he), ?_⟩
  refine Goes.step rfl (fun _ h₁ => ?_)
  replace hF := hF.at h₁
  clear h₁
  rw [stepG_seq]
  simp only [goes_go]
  refine ⟨DF.none (by intro e he; simp at he), ?_⟩
  refine Goes.step rfl (fun _ h₁ => ?_)
  replace hF := hF.at h₁
  clear h₁
  rw [stepG_region]
  simp only [goes_go, List.size_toArray, List.length_cons, List.length_nil, Nat.reduceAdd, Nat.zero_add, List.range, List.range.loop]
  refine ⟨DF.none (by intro e he; simp at he), ?_⟩
  refine Goes.step rfl (fun _ h₁ => ?_)
  replace hF := hF.at h₁
  clear h₁
  refine goes_oper_k rfl rfl (by decide) (fun Kx hKx => ?_)
  go_simp
  refine hKx _ _ ⟨DF.none ?_, ?_⟩
  · intro e he
    have hm := mem_listed he
    simp [go_sem, *] at hm
  clear hKx Kx
  refine Goes.step rfl (fun _ h₁ => ?_)
  replace hF := hF.at h₁
  clear h₁
  refine goes_oper_k rfl rfl (by decide) (fun Kx hKx => ?_)
  go_simp
  refine hKx _ _ ⟨DF.none ?_, ?_⟩
  · intro e he
    have hm := mem_listed he
    simp [go_sem, *] at hm
  clear hKx Kx
  refine Goes.step rfl (fun _ h₁ => ?_)
  replace hF := hF.at h₁
  clear h₁
  refine goes_oper_k rfl rfl (by decide) (fun Kx hKx => ?_)
  go_simp
  refine hKx _ _ ⟨DF.none ?_, ?_⟩
  · intro e he
    have hm := mem_listed he
    simp [go_sem, *] at hm
  clear hKx Kx
  refine Goes.step rfl (fun _ h₁ => ?_)
  replace hF := hF.at h₁
  clear h₁
  refine goes_callF rfl rfl (by decide) rfl Try.func33 nm_cellsLeft rfl ⟨DF.none (by intro e he; simp at he), ?_⟩
  walk_nrm
  refine Goes.stop (fun w₁ h₁ => ⟨(hF.at h₁).sz, ?_⟩)
  replace hF := hF.at h₁
  clear h₁
  refine (cells33F (by omega) hr (by omega) (by omega) hF.kf.rows).bind fun c2 S2 g2 w2 hp => ?_
  obtain ⟨X, Y, rfl, rfl, hC⟩ := hp
  have hcell := hC.cX p (Nat.le_refl _)
  rw [rowR_left hq] at hcell
  have hXlt : X < w2.heap.size := by have h1 := hC.hX; have h2 := hC.size; omega
  replace hF := KX.mk (hF.kf.trans hC.kf) (Nat.le_refl _) hcell (hC.ns hF.kf.lt) hXlt
  clear hcell hC hXlt
  refine BW.walk 300 ?_
  walk_nrm
  refine Goes.step rfl (fun _ h₁ => ?_)
  replace hF := hF.at h₁
  clear h₁
  refine goes_oper_k rfl rfl (by decide) (fun Kx hKx => ?_)
  go_simp
  refine hKx _ _ ⟨DF.none ?_, ?_⟩
  · intro e he
    have hm := mem_listed he
    simp [go_sem, *] at hm
  clear hKx Kx
  refine Goes.step rfl (fun _ h₁ => ?_)
  replace hF := hF.at h₁
  clear h₁
  refine goes_oper_k rfl rfl (by decide) (fun Kx hKx => ?_)
  go_simp
  refine hKx _ _ ⟨DF.none ?_, ?_⟩
  · intro e he
    have hm := mem_listed he
    simp [go_sem, *] at hm
  clear hKx Kx
  refine Goes.step rfl (fun _ h₁ => ?_)
  replace hF := hF.at h₁
  clear h₁
  refine goes_oper_k rfl rfl (by decide) (fun Kx hKx => ?_)
  have hz := hF.cell
  go_simp
  refine hKx _ _ ⟨fun e he => ?_, ?_⟩
  · have hm := mem_listed he
    simp [go_sem, *] at hm
    subst hm
    exact evF_cell hF.ns hF.lt
  clear hKx Kx hz
  refine Goes.step rfl (fun _ h₁ => ?_)
  replace hF := hF.at h₁
  clear h₁
  refine goes_oper_k rfl rfl (by decide) (fun Kx hKx => ?_)
  go_simp
  refine hKx _ _ ⟨DF.none ?_, ?_⟩
  · intro e he
    have hm := mem_listed he
    simp [go_sem, *] at hm
  clear hKx Kx
  refine Goes.step rfl (fun _ h₁ => ?_)
  replace hF := hF.at h₁
  clear h₁
  rw [stepG_region_end]
  simp only [goes_go]
  refine ⟨DF.none (by intro e he; simp at he), ?_⟩
  refine Goes.step rfl (fun _ h₁ => ?_)
  replace hF := hF.at h₁
  clear h₁
  rw [stepG_ret']
  simp only [goes_go]
  refine ⟨DF.none (by intro e he; simp at he), ?_⟩
  refine Goes.step rfl (fun _ h₁ => ?_)
  replace hF := hF.at h₁
  clear h₁
  refine goes_leave1 (t := 6) rfl rfl Try.func14 rfl ⟨DF.none (by intro e he; simp at he), ?_⟩
  refine Goes.stop (fun w₁ h₁ => ⟨(hF.at h₁).sz, BW.now ⟨by omega, ?_, (hF.at h₁).kf⟩⟩)
  rw [Frame.finish_at]
  simp
end
end Go.Proofs.Ytehmobcfbifocaa
