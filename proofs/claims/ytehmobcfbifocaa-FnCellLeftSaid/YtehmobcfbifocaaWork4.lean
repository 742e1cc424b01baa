/-
  A worker's whole way. Made by gen_work7.py.
-/
import Derived.Test.YtehmobcfbifocaaWork3
import Derived.Conc.WgGenN2
namespace Go.Proofs.Ytehmobcfbifocaa
open Go Go.Conc Go.ConcN Go.RowKit Go.Conc.Lib Go.ConcR.Gen Go.ConcN.Gen
open Go.ConcR (KK wgBlock WgAt stA smA rd wr mk Payload Aside2 DC0 ofEvent_cell)

/-- A walk said otherwise: less is suffered, more is let by, something is known besides. -/
theorem goes_weak {P : Program} {main : Bool} {R R' : World → World → Prop} {D D' : World → World → Array Event → Prop} {Stop Stop' : Goroutine → World → Prop} (Inv : World → Prop)
    (hR : ∀ w w', R' w w' → R w w') (hI : ∀ w w', R' w w' → Inv w → Inv w') (hD : ∀ w w' es, Inv w → D w w' es → D' w w' es ∧ Inv w') (hS : ∀ g w, Inv w → Stop g w → Stop' g w) :
    ∀ (n : Nat) (g : Goroutine) (w : World), Inv w → Goes P main R D Stop n g w → Goes P main R' D' Stop' n g w := by
  intro n
  induction n with
  | zero => exact fun g w hi h w₁ h₁ => hS _ _ (hI _ _ h₁ hi) (h w₁ (hR _ _ h₁))
  | succ n ih =>
    intro g w hi h
    rcases h with h | ⟨hs, h⟩
    · exact .inl fun w₁ h₁ => hS _ _ (hI _ _ h₁ hi) (h w₁ (hR _ _ h₁))
    · refine .inr ⟨hs, fun w₁ h₁ => ?_⟩
      have h2 := h w₁ (hR _ _ h₁)
      have hi₁ := hI _ _ h₁ hi
      revert h2
      cases stepG P main g w₁ <;> simp only [GStep.goes, imp_self]
      rintro ⟨hd, hg⟩
      obtain ⟨hd', hi'⟩ := hD _ _ _ hi₁ hd
      exact ⟨hd', ih _ _ hi' hg⟩
def noLoc : Nat → Loc → Prop := fun _ _ => False
section
variable {X : Ph} {i : Nat} {K : WkP} {p : Nat} {w : World} {ds : List Deferred} {cs : List Frame} {m : Nat}
/-- Done, as the library walks it, in our words. -/
theorem done_dl (O : X.Ok) (hO : K.Ok X i) {n : Nat} {g : Goroutine} (hF : ∀ o, X.lot i o → Has X.C o (X.val o) w)
    (h : Goes Try.prog false (RW X.ty X.Wg X.C X.nC (X.Low (i + 1)) (X.rep i + 1 - 1)) (DWs X.Wg noLoc noLoc X.C X.nC (X.rep i + 1)) (AtR0 Try.prog X.ty X.Wg X.C X.nC (X.Low (i + 1)) (X.rep i + 1) (X.val (X.rep i))) n g w) :
    Goes Try.prog false (RL X i) (DL X i) (atRel X i) n g w := by
  refine goes_weak (fun w => ∀ o, X.lot i o → o ≠ X.rep i → Has X.C o (X.val o) w) (fun _ _ hr => by simpa using hr.rw O hO.j0 hO.hi) (fun _ _ hr hi o ho hne => (hr.cells o ho).trans (hi o ho hne)) (fun w w' es hi hd => ?_) (fun g w hi hs => ?_) n g w (fun o ho _ => hF o ho) h
  · obtain ⟨⟨h1, h2, h3, h4, h5, h6, h7⟩, he⟩ := hd
    have hrep := O.rep i hO.j0 hO.hi
    refine ⟨⟨⟨h1, h2, h3, h4, h5, h6, fun o ho => h7 o fun e => ho ?_⟩, fun e hm => ?_⟩, fun o ho hne => (h7 o (by simpa using hne)).trans (hi o ho hne)⟩
    · rw [e]
      simpa using hrep
    · obtain ⟨g1, g2⟩ := he e hm
      refine ⟨⟨fun fn pos => ⟨rfl, fun x hx => ?_⟩, g2⟩, fun x hx hs => ?_⟩
      · rcases (g1 fn pos).2 x hx with k | k | k
        · exact .inl k
        · exact k.elim
        · exact k.1.elim
      · rcases (g1 0 default).2 x hx with k | k | k
        · exact absurd k.1 hs
        · exact k.elim
        · exact k.1.elim
  · refine ⟨by rw [hO.P]; exact hs, fun o ho => ?_⟩
    by_cases e : o = X.rep i
    · rw [e]
      simpa using hs.2.1
    · exact hi o ho e
/-- The end of a goroutine that a go statement began. -/
noncomputable def bot7 : Frame := { (default : Frame) with fn := Try.prog.funcs.size, defers := [], mode := .panicking [goexitEntry] }
theorem quits7 (T : Array Value) : QuitsD Try.prog 2 0 (G { (baseD 43).at ⟨T, []⟩ [] with mode := .returning } [bot7]) := by
  refine QuitsD.ctl (g' := G bot7 []) rfl (fun w => ?_) (QuitsD.ctl (g' := { G bot7 [] with status := .finished }) rfl (fun w => ?_) ⟨rfl, rfl⟩)
  · simp [G, stepG, unwind, doReturn, results, Frame.at, baseD, bot7, Try.func43, Try.f43, seen, GStep.after, goexitEntry]
  · simp [G, stepG, unwind, bot7, goexitEntry, Frame.catches]
    rfl
/-- What the go statement holds. -/
def call7 (X : Ph) (K : WkP) : Deferred := { target := .fn (.func 43) #[.pointer (some ⟨X.Wg, 0, none⟩), .pointer (some ⟨K.bf, 0, none⟩), .pointer (some ⟨K.bc, 0, none⟩), .pointer (some ⟨K.bb, 0, none⟩), .pointer (some ⟨K.bd, 0, none⟩)], args := #[] }
def tmps7 (X : Ph) (K : WkP) : Array Value := #[.pointer (some ⟨X.Wg, 0, none⟩), .pointer (some ⟨K.bf, 0, none⟩), .pointer (some ⟨K.bc, 0, none⟩), .pointer (some ⟨K.bb, 0, none⟩), .pointer (some ⟨K.bd, 0, none⟩), undef, undef, undef, undef, undef, undef, undef, undef, undef, undef, undef, undef, undef, undef, undef, undef, undef, undef, undef, undef, undef, undef, undef, undef, undef]
theorem born7 (X : Ph) (K : WkP) (w : World) : stepG Try.prog false (born Try.prog (call7 X K)) w =
    .go (G ((baseD 43).at ⟨tmps7 X K, []⟩ [.code (Try.f43.body.getD .skip)]) [bot7]) w #[] := by
  simp [born, call7, stepG, unwind, callDeferred, invoke, callFunc, Try.func43, Try.f43, seen, GStep.after, G, Frame.enter, Frame.at, baseD, bot7, tmps7]
set_option maxRecDepth 100000 in
set_option maxHeartbeats 4000000 in
/-- Its lot is written: Done. -/
theorem work_end (O : X.Ok) (hO : K.Ok X i) (hp : K.fr ≤ p) (hp2 : ¬ p < min (K.fr + 64) K.n) (hle : p ≤ 2000) (hF : WK X i K p w) (t6 t7 t8 t9 t10 t11 t12 t13 t14 t15 t16 t17 t18 t19 t20 t21 t22 t23 t24 t25 t26 t27 t28 t29 : Value) :
    Goes Try.prog false (RL X i) (DL X i) (atRel X i) 60 (G ((baseD 43).at ⟨#[.pointer (some ⟨X.Wg, 0, none⟩), .pointer (some ⟨K.bf, 0, none⟩), .pointer (some ⟨K.bc, 0, none⟩), .pointer (some ⟨K.bb, 0, none⟩), .pointer (some ⟨K.bd, 0, none⟩), .int .i64 (p : Nat), t6, t7, t8, t9, t10, t11, t12, t13, t14, t15, t16, t17, t18, t19, t20, t21, t22, t23, t24, t25, t26, t27, t28, t29], [dcall wgl.done #[.pointer (some ⟨X.Wg, 0, none⟩)]]⟩ [.code LB, .inLoop LB, .inBlock 0]) [bot7]) w := by
  have hsm := hO.small
  have hfn := hO.frn
  have hw1 : IntKind.wrap .i64 ((K.fr : Int) + 64) = (K.fr : Int) + 64 := byw (by omega) (by omega)
  have hlt : ¬ (p : Int) < min ((K.fr : Int) + 64) (K.n : Int) := by omega
  simp only [LB, firstLoop, Try.f43, Option.getD_some]
  refine Goes.step rfl (fun _ h₁ => ?_)
  replace hF := hF.rely hO h₁
  clear h₁
  rw [stepG_seq]
  simp only [goes_go]
  refine ⟨dl_none (by intro e he; simp at he), ?_⟩
  refine Goes.step rfl (fun _ h₁ => ?_)
  replace hF := hF.rely hO h₁
  clear h₁
  rw [stepG_seq]
  simp only [goes_go]
  refine ⟨dl_none (by intro e he; simp at he), ?_⟩
  refine Goes.step rfl (fun _ h₁ => ?_)
  replace hF := hF.rely hO h₁
  clear h₁
  rw [stepG_region]
  simp only [goes_go, List.size_toArray, List.length_cons, List.length_nil, Nat.reduceAdd, Nat.zero_add, List.range, List.range.loop]
  refine ⟨dl_none (by intro e he; simp at he), ?_⟩
  refine Goes.step rfl (fun _ h₁ => ?_)
  replace hF := hF.rely hO h₁
  clear h₁
  refine goes_oper_k rfl rfl (by decide) (fun Kx hKx => ?_)
  go_simp
  refine hKx _ _ ⟨dl_none ?_, ?_⟩
  · intro e he
    have hm := mem_listed he
    simp [go_sem, *] at hm
  clear hKx Kx
  refine Goes.step rfl (fun _ h₁ => ?_)
  replace hF := hF.rely hO h₁
  clear h₁
  refine goes_oper_k rfl rfl (by decide) (fun Kx hKx => ?_)
  have hz := hF.f
  go_simp
  refine hKx _ _ ⟨⟨AL.refl _, fun e he => ?_⟩, ?_⟩
  · have hm := mem_listed he
    simp [go_sem, *] at hm
    subst hm
    exact evR hO _ (by simp [WkP.rd]) rfl
  clear hKx Kx hz
  refine Goes.step rfl (fun _ h₁ => ?_)
  replace hF := hF.rely hO h₁
  clear h₁
  refine goes_oper_k rfl rfl (by decide) (fun Kx hKx => ?_)
  go_simp
  refine hKx _ _ ⟨dl_none ?_, ?_⟩
  · intro e he
    have hm := mem_listed he
    simp [go_sem, *] at hm
  clear hKx Kx
  refine Goes.step rfl (fun _ h₁ => ?_)
  replace hF := hF.rely hO h₁
  clear h₁
  refine goes_oper_k rfl rfl (by decide) (fun Kx hKx => ?_)
  have hz := hF.c
  go_simp
  refine hKx _ _ ⟨⟨AL.refl _, fun e he => ?_⟩, ?_⟩
  · have hm := mem_listed he
    simp [go_sem, *] at hm
    subst hm
    exact evR hO _ (by simp [WkP.rd]) rfl
  clear hKx Kx hz
  refine Goes.step rfl (fun _ h₁ => ?_)
  replace hF := hF.rely hO h₁
  clear h₁
  refine goes_oper_k rfl rfl (by decide) (fun Kx hKx => ?_)
  go_simp
  refine hKx _ _ ⟨dl_none ?_, ?_⟩
  · intro e he
    have hm := mem_listed he
    simp [go_sem, *] at hm
  clear hKx Kx
  refine Goes.step rfl (fun _ h₁ => ?_)
  replace hF := hF.rely hO h₁
  clear h₁
  refine goes_oper_k rfl rfl (by decide) (fun Kx hKx => ?_)
  go_simp
  refine hKx _ _ ⟨dl_none ?_, ?_⟩
  · intro e he
    have hm := mem_listed he
    simp [go_sem, ev_min, *] at hm
  clear hKx Kx
  refine Goes.step rfl (fun _ h₁ => ?_)
  replace hF := hF.rely hO h₁
  clear h₁
  refine goes_oper_k rfl rfl (by decide) (fun Kx hKx => ?_)
  go_simp
  refine hKx _ _ ⟨dl_none ?_, ?_⟩
  · intro e he
    have hm := mem_listed he
    simp [go_sem, *] at hm
  clear hKx Kx
  refine Goes.step rfl (fun _ h₁ => ?_)
  replace hF := hF.rely hO h₁
  clear h₁
  rw [stepG_region_end]
  simp only [goes_go]
  refine ⟨dl_none (by intro e he; simp at he), ?_⟩
  refine Goes.step rfl (fun _ h₁ => ?_)
  replace hF := hF.rely hO h₁
  clear h₁
  rw [stepG_cond (t := false) (by first | rfl | (simp [Act.eval]; omega))]
  simp only [goes_go, Bool.false_eq_true, ↓reduceIte]
  refine ⟨dl_none (by intro e he; simp at he), ?_⟩
  refine Goes.step rfl (fun _ h₁ => ?_)
  replace hF := hF.rely hO h₁
  clear h₁
  refine goes_exit rfl ?_
  refine ⟨dl_none (by intro e he; simp at he), ?_⟩
  refine Goes.step rfl (fun _ h₁ => ?_)
  replace hF := hF.rely hO h₁
  clear h₁
  rw [stepG_end]
  simp only [goes_go]
  refine ⟨dl_none (by intro e he; simp at he), ?_⟩
  refine Goes.step rfl (fun _ h₁ => ?_)
  replace hF := hF.rely hO h₁
  clear h₁
  rw [stepG_unwind_enter rfl Try.func44 (nm_done wgl) rfl]
  simp only [goes_go]
  refine ⟨dl_none (by intro e he; simp at he), ?_⟩
  walk_nrmf Try.f44
  have hall : ∀ o, X.lot i o → Has X.C o (X.val o) _ := fun o ho => hF.done o ho (by have := (hO.lot o).1 ho; omega)
  have hty := hO.ty
  have hA := @doneN _ wgl Try.prog wgLib noLoc noLoc X.Wg X.C X.nC (X.Low (i + 1)) (X.rep i + 1) (X.val (X.rep i))
  simp only [body_done, doneFn, Option.getD_some] at hA
  refine (done_dl O hO hall (by rw [hty]; exact hA rfl (quits7 _) _ ⟨by have h := hF.live; rw [hty] at h; exact h, by simpa using hall _ (O.rep i hO.j0 hO.hi)⟩)).mono (by omega)
theorem work_loop (O : X.Ok) (hO : K.Ok X i) : ∀ (r p : Nat), K.fr ≤ p → p + r = max p (min (K.fr + 64) K.n) → p ≤ 1064 → ∀ (w : World), WK X i K p w → ∀ (t6 t7 t8 t9 t10 t11 t12 t13 t14 t15 t16 t17 t18 t19 t20 t21 t22 t23 t24 t25 t26 t27 t28 t29 : Value),
    Goes Try.prog false (RL X i) (DL X i) (atRel X i) (60 + 800 * r) (G ((baseD 43).at ⟨#[.pointer (some ⟨X.Wg, 0, none⟩), .pointer (some ⟨K.bf, 0, none⟩), .pointer (some ⟨K.bc, 0, none⟩), .pointer (some ⟨K.bb, 0, none⟩), .pointer (some ⟨K.bd, 0, none⟩), .int .i64 (p : Nat), t6, t7, t8, t9, t10, t11, t12, t13, t14, t15, t16, t17, t18, t19, t20, t21, t22, t23, t24, t25, t26, t27, t28, t29], [dcall wgl.done #[.pointer (some ⟨X.Wg, 0, none⟩)]]⟩ [.code LB, .inLoop LB, .inBlock 0]) [bot7]) w := by
  intro r
  induction r with
  | zero => exact fun p hp hr hl w hF t6 t7 t8 t9 t10 t11 t12 t13 t14 t15 t16 t17 t18 t19 t20 t21 t22 t23 t24 t25 t26 t27 t28 t29 => work_end O hO hp (by omega) (by omega) hF t6 t7 t8 t9 t10 t11 t12 t13 t14 t15 t16 t17 t18 t19 t20 t21 t22 t23 t24 t25 t26 t27 t28 t29
  | succ r ih =>
    intro p hp hr hl w hF t6 t7 t8 t9 t10 t11 t12 t13 t14 t15 t16 t17 t18 t19 t20 t21 t22 t23 t24 t25 t26 t27 t28 t29
    have hn := hO.small
    have hlot : X.lot i p := (hO.lot p).2 ⟨hp, by omega⟩
    have e : 60 + 800 * (r + 1) = 60 + 800 * r + 800 := by omega
    rw [e]
    exact work_round hO hlot hF t6 t7 t8 t9 t10 t11 t12 t13 t14 t15 t16 t17 t18 t19 t20 t21 t22 t23 t24 t25 t26 t27 t28 t29 fun t6 t7 t8 t9 t10 t11 t12 t13 t14 t15 t16 t17 t18 t19 t20 t21 t22 t23 t24 t25 t26 t27 t28 t29 w hF => ih (p + 1) (by omega) (by omega) (by omega) w hF t6 t7 t8 t9 t10 t11 t12 t13 t14 t15 t16 t17 t18 t19 t20 t21 t22 t23 t24 t25 t26 t27 t28 t29
set_option maxRecDepth 100000 in
set_option maxHeartbeats 4000000 in
theorem works7 (O : X.Ok) (hO : K.Ok X i) (hF : WK X i K K.fr w) : worksG X i (born Try.prog (call7 X K)) w := by
  have hsm := hO.small
  have hfn := hO.frn
  have hl := @work_loop X i K O hO (min (K.fr + 64) K.n - K.fr) K.fr (Nat.le_refl _) (by omega) (by omega)
  refine ⟨60 + 800 * (min (K.fr + 64) K.n - K.fr) + 40, ?_⟩
  rw [hO.P]
  refine Goes.step rfl (fun w₁ h₁ => ?_)
  replace hF := hF.rely hO h₁
  clear h₁
  rw [born7]
  refine ⟨dl_none (by intro e he; simp at he), ?_⟩
  simp only [LB, firstLoop, tmps7, Try.f43, Option.getD_some] at hl ⊢
  refine Goes.step rfl (fun _ h₁ => ?_)
  replace hF := hF.rely hO h₁
  clear h₁
  rw [stepG_seq]
  simp only [goes_go]
  refine ⟨dl_none (by intro e he; simp at he), ?_⟩
  refine Goes.step rfl (fun _ h₁ => ?_)
  replace hF := hF.rely hO h₁
  clear h₁
  rw [stepG_region]
  simp only [goes_go, List.size_toArray, List.length_cons, List.length_nil, Nat.zero_add, List.range, List.range.loop]
  refine ⟨dl_none (by intro e he; simp at he), ?_⟩
  refine Goes.step rfl (fun _ h₁ => ?_)
  replace hF := hF.rely hO h₁
  clear h₁
  rw [stepG_defer rfl rfl (by decide) rfl]
  simp only [goes_go]
  refine ⟨dl_none (by intro e he; simp at he), ?_⟩
  walk_nrm
  refine Goes.step rfl (fun _ h₁ => ?_)
  replace hF := hF.rely hO h₁
  clear h₁
  rw [stepG_region_end]
  simp only [goes_go]
  refine ⟨dl_none (by intro e he; simp at he), ?_⟩
  refine Goes.step rfl (fun _ h₁ => ?_)
  replace hF := hF.rely hO h₁
  clear h₁
  rw [stepG_seq]
  simp only [goes_go]
  refine ⟨dl_none (by intro e he; simp at he), ?_⟩
  refine Goes.step rfl (fun _ h₁ => ?_)
  replace hF := hF.rely hO h₁
  clear h₁
  rw [stepG_region]
  simp only [goes_go, List.size_toArray, List.length_cons, List.length_nil, Nat.reduceAdd, Nat.zero_add, List.range, List.range.loop]
  refine ⟨dl_none (by intro e he; simp at he), ?_⟩
  refine Goes.step rfl (fun _ h₁ => ?_)
  replace hF := hF.rely hO h₁
  clear h₁
  refine goes_oper_k rfl rfl (by decide) (fun Kx hKx => ?_)
  have hz := hF.f
  go_simp
  refine hKx _ _ ⟨⟨AL.refl _, fun e he => ?_⟩, ?_⟩
  · have hm := mem_listed he
    simp [go_sem, *] at hm
    subst hm
    exact evR hO _ (by simp [WkP.rd]) rfl
  clear hKx Kx hz
  refine Goes.step rfl (fun _ h₁ => ?_)
  replace hF := hF.rely hO h₁
  clear h₁
  refine goes_oper_k rfl rfl (by decide) (fun Kx hKx => ?_)
  go_simp
  refine hKx _ _ ⟨dl_none ?_, ?_⟩
  · intro e he
    have hm := mem_listed he
    simp [go_sem, *] at hm
  clear hKx Kx
  refine Goes.step rfl (fun _ h₁ => ?_)
  replace hF := hF.rely hO h₁
  clear h₁
  rw [stepG_region_end]
  simp only [goes_go]
  refine ⟨dl_none (by intro e he; simp at he), ?_⟩
  refine Goes.step rfl (fun _ h₁ => ?_)
  replace hF := hF.rely hO h₁
  clear h₁
  rw [stepG_block]
  simp only [goes_go]
  refine ⟨dl_none (by intro e he; simp at he), ?_⟩
  refine Goes.step rfl (fun _ h₁ => ?_)
  replace hF := hF.rely hO h₁
  clear h₁
  rw [stepG_loop]
  simp only [goes_go]
  refine ⟨dl_none (by intro e he; simp at he), ?_⟩
  exact (hl _ hF _ _ _ _ _ _ _ _ _ _ _ _ _ _ _ _ _ _ _ _ _ _ _ _ ).mono (by omega)
end
end Go.Proofs.Ytehmobcfbifocaa
