/-
  Workers under one group, beside goroutines that only leave: a step of the starter's; and the run to the place behind the join, on every tape. Nothing of a program.
-/
import Derived.Test.YtehmobcfbifocaaGang3
namespace Go.Proofs.Ytehmobcfbifocaa
open Go Go.Conc Go.ConcN
open Go.ConcR (KK wgBlock WgAt stA smA rd wr mk Payload Aside2 DC0 Bk g_of_ofEvents loc_of_ofEvent bk_of_mute ofEvent_loc_mark ofEvent_mk)
variable [Payload]

section
variable {X : Ph} {Fin Anch : Goroutine → World → Prop} {gs : Array Goroutine} {w w' : World} {sl : Option (Nat × Nat)} {D : Nat → WD} {tag : CTag} {f0 : Nat} {a : Goroutine} {t : Trace} {st sm : Int}

/-- Whatever step of the starter's, but a go statement and the last one. -/
theorem gC (O : X.Ok) (ha : gs[0]? = some a) (hcom : Cm X (cntOf X tag) gs w t D (deafOf tag))
    {a' : Goroutine} {es : Array Event} {tag' : CTag} {f' : Nat} {st' sm' : Int} (hgo : stepG X.P true a w = .go a' w' es)
    (hrl : ∀ i, X.j0 ≤ i → i < cntOf X tag → RL X i w w')
    (hok : ∀ op ∈ MemOp.ofEvents 0 a.frame.fn a.frame.place es, Ok0 X.ShA X.Own X.Rd (cntOf X tag) op) (hlow : ∀ op ∈ MemOp.ofEvents 0 a.frame.fn a.frame.place es, ∀ x, op.act.touch? = some x → x.loc.low X.B)
    (hnr : ∀ e ∈ es, e.loc ≠ .mark (.release (stA X.Wg))) (hpay : PayF X w')
    (hcs' : CS X Fin Anch tag' f' a' w') (hcnt : cntOf X tag' = cntOf X tag) (hdf : deafBehind (deafOf tag) es = deafOf tag') (hwg : WgAt X.ty X.Wg w' st' sm') (hmode : ConcN.Mode (cntOf X tag) D tag' st' sm')
    (hlt : phi X.N (Vc (cntOf X tag) D) tag' < phi X.N (Vc (cntOf X tag) D) tag ∨ (phi X.N (Vc (cntOf X tag) D) tag' = phi X.N (Vc (cntOf X tag) D) tag ∧ f' < f0)) :
    ∃ m₁ ops μ', runT X.P (crowd gs w sl) 0 = (.next m₁, ops) ∧ Lt2 μ' (phi X.N (Vc (cntOf X tag) D) tag + Ssum (cntOf X tag) D, f0 + 2 * Fsum (cntOf X tag) D) ∧ InvG X Fin Anch μ' m₁ (t ++ ops) := by
  have hrun := runT_crowd_go (P := X.P) (sl := sl) (i := 0) ha (by simpa using hgo)
  refine ⟨_, _, (phi X.N (Vc (cntOf X tag') D) tag' + Ssum (cntOf X tag') D, f' + 2 * Fsum (cntOf X tag') D), hrun, ?_,
    _, w', sl, D, tag', f', a', st', sm', rfl, get_map_set_same _ _ _ (by rw [hcom.size]; omega), hcs', by rw [hcnt, ← hdf]; exact hcom.step0 O hrl hok hlow hnr hpay, hwg, by rw [hcnt]; exact hmode, rfl⟩
  rw [hcnt]
  rcases hlt with h | ⟨h1, h2⟩
  · exact Prod.Lex.left _ _ (by omega)
  · rw [h1]; exact Prod.Lex.right _ (by omega)

/-- An idle step. -/
theorem idleG (O : X.Ok) (ha : gs[0]? = some a) (hcom : Cm X (cntOf X tag) gs w t D (deafOf tag)) (hwg : WgAt X.ty X.Wg w st sm) (hmode : ConcN.Mode (cntOf X tag) D tag st sm)
    {a' : Goroutine} {es : Array Event} {m' : Nat} (hgo : stepG X.P true a w = .go a' w' es) (hD : DP X.Wg (ownX X) (rdX X) (cntOf X tag + 1) (X.Low (cntOf X tag)) w w' es) (ho : tagOk X tag) (hg : GP X (cntOf X tag) (stopOf X Fin Anch tag) m' a' w') (hf : m' + extra tag < f0) :
    ∃ m₁ ops μ', runT X.P (crowd gs w sl) 0 = (.next m₁, ops) ∧ Lt2 μ' (phi X.N (Vc (cntOf X tag) D) tag + Ssum (cntOf X tag) D, f0 + 2 * Fsum (cntOf X tag) D) ∧ InvG X Fin Anch μ' m₁ (t ++ ops) := by
  obtain ⟨hlo, hev⟩ := hD
  have hWj : X.Wg < X.Low (cntOf X tag) := Nat.lt_of_lt_of_le O.hW (O.mono _ _ hcom.ge)
  have hCj : X.C < X.Low (cntOf X tag) := Nat.lt_of_lt_of_le O.hC (O.mono _ _ hcom.ge)
  have hdf : deafBehind (deafOf tag) es = deafOf tag := deafBehind_idle (fun e he => ⟨(hev e he).2.1, (hev e he).2.2.1⟩) _
  have hop : ∀ op ∈ MemOp.ofEvents 0 a.frame.fn a.frame.place es, Ok0 X.ShA X.Own X.Rd (cntOf X tag) op ∧ ∀ x, op.act.touch? = some x → x.loc.low X.B := fun op h => ok0_sub O (ok0_of_Ev0 hev op h)
  exact gC O ha hcom hgo (fun i _ hi => RL.of_low hlo (O.mono _ _ (by omega)) hWj hCj) (fun op h => (hop op h).1) (fun op h => (hop op h).2) (fun e he => (hev e he).2.2.2) (hcom.pay.block (hlo X.C hCj)) (.on ho hg) rfl hdf (hwg.of_block (hlo X.Wg hWj)) hmode (.inr ⟨rfl, hf⟩)

/-- A step of the library's bookkeeping. -/
theorem bookC' (O : X.Ok) (ha : gs[0]? = some a) (hcom : Cm X (cntOf X tag) gs w t D (deafOf tag))
    {a' : Goroutine} {es : Array Event} {tag' : CTag} {f' : Nat} {st' sm' : Int} (hgo : stepG X.P true a w = .go a' w' es) (hAs : Aside X.Wg w w') (hwg' : WgAt X.ty X.Wg w' st' sm') (hbk : ∀ e ∈ es, Bk X.Wg e)
    (hcs' : CS X Fin Anch tag' f' a' w') (hcnt : cntOf X tag' = cntOf X tag) (hdf : deafBehind (deafOf tag) es = deafOf tag') (hmode' : ConcN.Mode (cntOf X tag) D tag' st' sm')
    (hlt : phi X.N (Vc (cntOf X tag) D) tag' < phi X.N (Vc (cntOf X tag) D) tag ∨ (phi X.N (Vc (cntOf X tag) D) tag' = phi X.N (Vc (cntOf X tag) D) tag ∧ f' < f0)) :
    ∃ m₁ ops μ', runT X.P (crowd gs w sl) 0 = (.next m₁, ops) ∧ Lt2 μ' (phi X.N (Vc (cntOf X tag) D) tag + Ssum (cntOf X tag) D, f0 + 2 * Fsum (cntOf X tag) D) ∧ InvG X Fin Anch μ' m₁ (t ++ ops) := by
  refine gC O ha hcom hgo (fun i _ _ => RL.of_wg O hAs ⟨_, _, hwg'⟩) (fun op hop => ?_) (low_of_Bk O.lowW hbk) (norel_of_Bk hbk) (hcom.pay.block (hAs.block X.C O.hCW)) hcs' hcnt hdf hwg' hmode' hlt
  have h := ok0_of_Bk (Own := fun _ _ => False) (Rd := fun _ _ => False) (j := 0) hbk op hop
  refine ⟨h.1, fun x hx => ?_⟩
  rcases h.2 x hx with ⟨hs, hk⟩ | ⟨hs, _, _⟩
  · exact .inl ⟨O.sh _ hs, hk⟩
  · -- bookkeeping touches the group's cells alone
    exfalso
    rw [ofEvents_eq] at hop
    obtain ⟨e, he, rfl⟩ := Array.mem_map.1 hop
    rcases hbk e he with h1 | h1 | ⟨b, wr, rfl, hb⟩
    · simp only [ofEvent_loc_mark h1] at hx; cases hx
    · simp only [ofEvent_loc_mark h1] at hx; cases hx
    · simp only [Go.ConcR.ofEvent_cell, MemAct.touch?, Option.some.injEq] at hx
      subst hx
      exact hs ⟨b, rfl, hb⟩

omit [Payload] in
theorem bk_one {m : Mark} {Wg : Nat} (h : m = .disable ∨ m = .enable) : ∀ e ∈ #[mk m], Bk Wg e := by
  intro e he
  simp at he
  subst he
  rcases h with rfl | rfl
  · exact .inl rfl
  · exact .inr (.inl rfl)

/-- The load in Wait. -/
theorem w1G (O : X.Ok) {f0 : Nat} (ha : gs[0]? = some a) (hcom : Cm X X.N gs w t D 1) (hwg : WgAt X.ty X.Wg w st sm) (hmode : ConcN.Mode X.N D .w1 st sm) (h : GP X X.N (w1K X Fin Anch) f0 a w) :
    ∃ m₁ ops μ', runT X.P (crowd gs w sl) 0 = (.next m₁, ops) ∧ Lt2 μ' (phi X.N (Vc X.N D) .w1 + Ssum X.N D, f0 + 2 * Fsum X.N D) ∧ InvG X Fin Anch μ' m₁ (t ++ ops) := by
  have hN := O.hN
  rcases Goes.cases h with hstop | ⟨m', rfl, hstep⟩
  · obtain ⟨_, hall⟩ := hstop w (.refl w)
    obtain ⟨ho, rfl, rfl, _⟩ := hmode.open_inv trivial
    have hV := Vc_le X.N D
    obtain ⟨a', hgo, h0, hne⟩ := hall (Vc X.N D) (by omega) (by simpa [pend] using hwg)
    by_cases hv : Vc X.N D = 0
    · obtain ⟨m₂, hk⟩ := h0 hv
      refine bookC' (tag := .w1) O ha hcom hgo (.refl X.Wg w) hwg bk_rd (tag' := .ke) (.on trivial hk) rfl rfl ?_ (.inl (by simp only [phi]; omega))
      have e : ((Vc X.N D + pend .w1 : Nat) : Int) * KK = 0 := by rw [hv]; simp [pend]
      rw [e]
      exact .fin trivial (allQuit_of ho hv)
    · obtain ⟨m₂, hk⟩ := hne hv
      exact bookC' (tag := .w1) O ha hcom hgo (.refl X.Wg w) hwg bk_rd (tag' := .w2 (Vc X.N D)) (.on trivial hk) rfl rfl (hmode.reopen trivial trivial rfl (fun vs e => by cases e; omega)) (.inl (by simp only [phi, cntOf]; omega))
  · obtain ⟨a', w', es, hgo, hD, hg'⟩ := hstep w (.refl w)
    exact idleG (tag := .w1) O ha hcom hwg hmode hgo hD trivial hg' (by simp [extra])

set_option maxHeartbeats 1600000 in
theorem stepC (O : X.Ok) (hAn : ∀ g w, Anch g w → thenJ X X.N (w1K X Fin Anch) g w)
    (ha : gs[0]? = some a) (hcs : CS X Fin Anch tag f0 a w) (hcom : Cm X (cntOf X tag) gs w t D (deafOf tag)) (hwg : WgAt X.ty X.Wg w st sm) (hmode : ConcN.Mode (cntOf X tag) D tag st sm) (hrun : a.status = .running) :
    (∃ m₁ ops, runT X.P (crowd gs w sl) 0 = (.next m₁, ops) ∧ joined X Fin m₁ (t ++ ops)) ∨
    (∃ m₁ ops μ', runT X.P (crowd gs w sl) 0 = (.next m₁, ops) ∧ Lt2 μ' (phi X.N (Vc (cntOf X tag) D) tag + Ssum (cntOf X tag) D, f0 + 2 * Fsum (cntOf X tag) D) ∧ InvG X Fin Anch μ' m₁ (t ++ ops)) := by
  have hN := O.hN
  have hVj := Vc_le (cntOf X tag) D
  cases hcs with
  | blk _ => cases hrun
  | on ho h =>
    rename_i m
    rcases Goes.cases h with hstop | ⟨m', rfl, hstep⟩
    case inr =>
      obtain ⟨a', w', es, hgo, hD, hg'⟩ := hstep w (.refl w)
      exact .inr (idleG O ha hcom hwg hmode hgo hD ho hg' (by omega))
    have hs := hstop w (.refl w)
    cases tag with
    | blk => exact ho.elim
    | ret => exact ho.elim
    | sp r s =>
      obtain ⟨hr, hs4⟩ := ho
      have hNe : X.N = X.j0 + X.n := rfl
      have hJ : cntOf X (.sp r s) = X.N - (r + 1) := rfl
      rcases hs4 with rfl | rfl | rfl | rfl
      · obtain ⟨_, a', hgo, m₂, hk⟩ := hs
        exact .inr (bookC' O ha hcom hgo (.refl X.Wg w) hwg (bk_one (.inl rfl)) (tag' := .sp r 4) (.on ⟨hr, by omega⟩ hk) rfl rfl (hmode.reopen trivial trivial rfl (by simp)) (.inl (by simp only [phi]; omega)))
      · obtain ⟨_, hall⟩ := hs
        obtain ⟨ho', rfl, rfl, _⟩ := hmode.open_inv trivial
        rw [hJ] at hVj
        obtain ⟨a', hgo, m₂, hk⟩ := hall (Vc (X.N - (r + 1)) D) (by omega) (by simpa [pend, hJ] using hwg)
        refine .inr (bookC' O ha hcom hgo (aside_setCell w (stA X.Wg) _) (hwg.setSt _) bk_rw (tag' := .sp r 3) (.on ⟨hr, by omega⟩ hk) rfl rfl ?_ (.inl (by simp only [phi]; omega)))
        have e : (((Vc (X.N - (r + 1)) D : Nat) : Int) + 1) * KK = ((Vc (X.N - (r + 1)) D + pend (.sp r 3) : Nat) : Int) * KK := by simp [pend]
        rw [e]
        exact .opn trivial ho' (by simp)
      · obtain ⟨_, a', hgo, m₂, hk⟩ := hs
        exact .inr (bookC' O ha hcom hgo (.refl X.Wg w) hwg (bk_one (.inr rfl)) (tag' := .sp r 2) (.on ⟨hr, by omega⟩ hk) rfl rfl (hmode.reopen trivial trivial rfl (by simp)) (.inl (by simp only [phi]; omega)))
      · obtain ⟨_, a', child, hsp, hwk0, hnext⟩ := hs
        obtain ⟨m₂, hwk⟩ := hwk0 hcom.pay.1
        obtain ⟨ho', rfl, rfl, _⟩ := hmode.open_inv trivial
        have hrun' := runT_crowd_spawn (P := X.P) (sl := sl) (i := 0) ha (by simpa using hsp)
        rw [hcom.size, hJ] at hrun'
        have hcom' := hcom.spawn O (by omega) (a' := a') (x := { g := 0, fn := a.frame.fn, pos := a.frame.place, act := .go (X.N - (r + 1) + 1) }) (y := { g := X.N - (r + 1) + 1, fn := child.frame.fn, pos := a.frame.place, act := .start }) ⟨rfl, rfl⟩ ⟨rfl, rfl⟩ hwk
        have eV : Vc (X.N - (r + 1) + 1) (upd D (X.N - (r + 1)) ⟨7, m₂, 0⟩) = Vc (X.N - (r + 1)) D + 1 := by
          simp only [Vc, sumTo, upd_same]
          rw [sumTo_upd_out D _ cnt (Nat.le_refl _)]; rfl
        have eS : Ssum (X.N - (r + 1) + 1) (upd D (X.N - (r + 1)) ⟨7, m₂, 0⟩) = Ssum (X.N - (r + 1)) D + 7 := by
          simp only [Ssum, sumTo, upd_same]
          rw [sumTo_upd_out D _ WD.stage (Nat.le_refl _)]
        have ho2 : OpenSt (X.N - (r + 1) + 1) (upd D (X.N - (r + 1)) ⟨7, m₂, 0⟩) := fun i hi => by
          by_cases e : i = X.N - (r + 1)
          · subst e; rw [upd_same]; simp
          · rw [upd_ne D _ e]; exact ho' i (by rw [hJ]; omega)
        have ha' : ((gs.setIfInBounds 0 a').push child)[0]? = some a' := by
          rw [Array.getElem?_push_lt (by simp [hcom.size]), ← Array.getElem?_eq_getElem]
          simp [hcom.size]
        have ej : X.N - (r + 1) + 1 = X.N - r := by omega
        rw [hJ] at hcom' hwg
        rw [ej] at hrun' hcom' eV eS ho2
        have est : ∀ tag', pend tag' = 0 → ((Vc (X.N - (r + 1)) D + pend (.sp r 2) : Nat) : Int) * KK = ((Vc (X.N - r) (upd D (X.N - (r + 1)) ⟨7, m₂, 0⟩) + pend tag' : Nat) : Int) * KK := fun tag' hp => by rw [eV, hp]; simp [pend]
        cases r with
        | zero =>
          obtain ⟨m₃, hk⟩ := hnext
          simp only [Nat.sub_zero] at hrun' hcom' eV eS ho2 est
          refine .inr ⟨_, _, (phi X.N (Vc X.N (upd D (X.N - (0 + 1)) ⟨7, m₂, 0⟩)) .kd + Ssum X.N (upd D (X.N - (0 + 1)) ⟨7, m₂, 0⟩), m₃ + 2 * Fsum X.N (upd D (X.N - (0 + 1)) ⟨7, m₂, 0⟩)), hrun', Prod.Lex.left _ _ (by simp only [phi, hJ]; omega),
            _, w, sl, _, .kd, m₃, a', _, _, rfl, ha', .on (tag := .kd) trivial hk, hcom', hwg, ?_, rfl⟩
          rw [est .kd rfl]
          exact .opn trivial ho2 (by simp)
        | succ r' =>
          obtain ⟨m₃, hk⟩ := hnext
          refine .inr ⟨_, _, (phi X.N (Vc (X.N - (r' + 1)) (upd D (X.N - (r' + 1 + 1)) ⟨7, m₂, 0⟩)) (.sp r' 5) + Ssum (X.N - (r' + 1)) (upd D (X.N - (r' + 1 + 1)) ⟨7, m₂, 0⟩), m₃ + 2 * Fsum (X.N - (r' + 1)) (upd D (X.N - (r' + 1 + 1)) ⟨7, m₂, 0⟩)), hrun', Prod.Lex.left _ _ (by simp only [phi, hJ]; omega),
            _, w, sl, _, .sp r' 5, m₃, a', _, _, rfl, ha', .on (tag := .sp r' 5) ⟨by omega, by omega⟩ hk, hcom', hwg, ?_, rfl⟩
          rw [est (.sp r' 5) rfl]
          exact .opn trivial ho2 (by simp)
    | kd =>
      obtain ⟨_, a', hgo, m₂, hk⟩ := hs
      exact .inr (bookC' O ha hcom hgo (.refl X.Wg w) hwg (bk_one (.inl rfl)) (tag' := .anch) (.on trivial hk) rfl rfl (hmode.reopen trivial trivial rfl (by simp)) (.inl (by simp only [phi, cntOf] at *; omega)))
    | anch =>
      obtain ⟨m₂, hk⟩ := hAn a w hs
      obtain ⟨m₁, ops, μ', h1, h2, h3⟩ := w1G (sl := sl) O ha hcom hwg (hmode.reopen trivial trivial rfl (by simp)) hk
      exact .inr ⟨m₁, ops, μ', h1, lt2_trans h2 (Prod.Lex.left _ _ (by simp only [phi, cntOf]; omega)), h3⟩
    | w1 => exact .inr (w1G O ha hcom hwg hmode h)
    | w2 vs =>
      obtain ⟨_, hall⟩ := hs
      obtain ⟨ho', rfl, rfl, hw2⟩ := hmode.open_inv trivial
      obtain ⟨hle, h1⟩ := hw2 vs rfl
      simp only [cntOf] at hle hVj hwg
      obtain ⟨hhit, hmiss⟩ := hall (Vc X.N D) (by omega) (by simpa [pend] using hwg)
      by_cases e : Vc X.N D = vs
      · obtain ⟨a', hgo, m₂, hk⟩ := hhit e
        exact .inr (bookC' (tag := .w2 vs) O ha hcom hgo (aside_setCell w (stA X.Wg) _) (hwg.setSt _) bk_rw (tag' := .w3) (.on trivial hk) rfl rfl (.reg trivial ho' (by simp only [cntOf]; omega)) (.inl (by simp only [phi]; omega)))
      · obtain ⟨a', hgo, m₂, hk⟩ := hmiss e
        exact .inr (bookC' (tag := .w2 vs) O ha hcom hgo (.refl X.Wg w) hwg bk_rd (tag' := .anch) (.on trivial hk) rfl rfl (hmode.reopen trivial trivial rfl (by simp)) (.inl (by simp only [phi, cntOf]; omega)))
    | w3 =>
      obtain ⟨_, hoff, hblk, htake⟩ := hs
      cases hmode with
      | opn h1 _ _ => exact h1.elim
      | reg h1 h2 h3 => exact .inr (bookC' (tag := .w3) O ha hcom (hblk ⟨_, hwg⟩) (.refl X.Wg w) hwg (by simp) (tag' := .blk) (.blk hstop) rfl rfl (.reg trivial h2 h3) (.inr ⟨rfl, by simp [extra]⟩))
      | last L h1 h2 h3 h4 => exact .inr (bookC' (tag := .w3) O ha hcom (hblk ⟨_, hwg⟩) (.refl X.Wg w) hwg (by simp) (tag' := .blk) (.blk hstop) rfl rfl (.last L trivial h2 h3 h4) (.inr ⟨rfl, by simp [extra]⟩))
      | sema h2 =>
        obtain ⟨a', hgo, m₂, hk⟩ := htake hwg
        exact .inr (bookC' (tag := .w3) O ha hcom hgo (aside_setCell w (smA X.Wg) _) (hwg.setSm 0) bk_sem (tag' := .w4) (.on trivial hk) rfl (by simp [deafOf, deafBehind, semEvents]) (.fin trivial h2) (.inl (by simp only [phi]; omega)))
      | fin h1 _ => exact h1.elim
    | w4 =>
      obtain ⟨_, hx⟩ := hs
      obtain ⟨hq, rfl, rfl⟩ := hmode.fin_inv trivial
      obtain ⟨a', hgo, m₂, hk⟩ := hx hwg
      exact .inr (bookC' (tag := .w4) O ha hcom hgo (.refl X.Wg w) hwg bk_rd (tag' := .ke) (.on trivial hk) rfl rfl (.fin trivial hq) (.inl (by simp only [phi]; omega)))
    | ke =>
      obtain ⟨_, a', hgo, m₂, hk⟩ := hs
      obtain ⟨hq, rfl, rfl⟩ := hmode.fin_inv trivial
      exact .inr (bookC' (tag := .ke) O ha hcom hgo (.refl X.Wg w) hwg (bk_one (.inr rfl)) (tag' := .acq) (.on trivial hk) rfl rfl (.fin trivial hq) (.inl (by simp only [phi]; omega)))
    | acq =>
      obtain ⟨_, a', hgo, hfin⟩ := hs
      obtain ⟨hq, rfl, rfl⟩ := hmode.fin_inv trivial
      have hrun' := runT_crowd_go (P := X.P) (sl := sl) (i := 0) ha (by simpa using hgo)
      have hcom0 : Cm X X.N gs w t D 0 := hcom
      have hne : ∀ e ∈ #[mk (.acquire (stA X.Wg))], (MemAct.ofEvent e).touch? = none := by intro e he; simp at he; subst he; rfl
      have hcom' := hcom0.step0 O (w' := w) (a := a) (a' := a') (fn := a.frame.fn) (pos := a.frame.place) (es := #[mk (.acquire (stA X.Wg))]) (fun _ _ _ => RL.refl w)
        (fun op hop => by
          rw [ofEvents_eq] at hop
          obtain ⟨e, he, rfl⟩ := Array.mem_map.1 hop
          exact ⟨rfl, fun x hx => by rw [hne e he] at hx; cases hx⟩) (low_none hne) (by intro e he; simp at he; subst he; simp [mk]) hcom.pay
      have e1 : MemOp.ofEvents 0 a.frame.fn a.frame.place #[mk (.acquire (stA X.Wg))] = #[{ g := 0, fn := a.frame.fn, pos := a.frame.place, act := .mark (.acquire (stA X.Wg)) }] := by rw [ofEvents_eq]; simp [ofEvent_mk]
      have hy : (t ++ #[({ g := 0, fn := a.frame.fn, pos := a.frame.place, act := .mark (.acquire (stA X.Wg)) } : MemOp)])[t.size]? = some { g := 0, fn := a.frame.fn, pos := a.frame.place, act := .mark (.acquire (stA X.Wg)) } := by simp
      refine .inl ⟨_, _, hrun', _, w, sl, D, a', rfl, get_map_set_same _ _ _ (by rw [hcom.size]; omega), hfin, hcom', hq, ⟨t.size, by rw [e1, act?_of hy], by rw [e1]; simp [Trace.g?], by rw [e1]; exact ⟨0, by simp [Trace.g?], by rw [deaf_old (Nat.le_refl _)]; exact hcom0.deaf0⟩, fun i hj hi => ?_⟩, ⟨_, _, hwg⟩⟩
      obtain ⟨r, hr0, hr⟩ := hcom.rel i hj hi (by rw [hq i hi]; omega)
      exact ⟨r, hr0, hr.appOther g_of_ofEvents (by omega), lt_of_act? hr.act⟩

/-- No deadlock. -/
theorem someG (hAr : ∀ g w, Anch g w → g.status = .running) (ha : gs[0]? = some a) (hcs : CS X Fin Anch tag f0 a w) (hcom : Cm X (cntOf X tag) gs w t D (deafOf tag)) (hmode : ConcN.Mode (cntOf X tag) D tag st sm) :
    ∃ (i : Nat) (g : Goroutine), gs[i]? = some g ∧ g.status = .running := by
  rcases hcs.status hAr with ⟨hs, _⟩ | ⟨_, rfl⟩
  · exact ⟨0, a, ha, hs⟩
  · cases hmode with
    | opn h1 _ _ => exact h1.elim
    | reg _ _ h3 =>
      obtain ⟨i, hi, h5⟩ := exists_counted h3
      obtain ⟨g, hg, hs⟩ := hcom.wk i hi
      exact ⟨i + 1, g, hg, hs.running (by omega)⟩
    | last L _ h2 h3 _ =>
      obtain ⟨g, hg, hs⟩ := hcom.wk L h2
      exact ⟨L + 1, g, hg, hs.running (by omega)⟩
    | fin h1 _ => exact h1.elim
theorem awakeG (hAr : ∀ g w, Anch g w → g.status = .running) (ha : gs[0]? = some a) (hcs : CS X Fin Anch tag f0 a w) (hcom : Cm X (cntOf X tag) gs w t D (deafOf tag)) : ∀ g ∈ gs, awake g := by
  intro g hg tm
  obtain ⟨i, hi⟩ := Array.mem_iff_getElem?.1 hg
  cases i with
  | zero =>
    rw [ha] at hi; cases hi
    rcases hcs.status hAr with ⟨hs, _⟩ | ⟨hs, _⟩ <;> rw [hs] <;> simp
  | succ i =>
    have hlt : i < cntOf X tag := by have := (Array.getElem?_eq_some_iff.1 hi).1; rw [hcom.size] at this; omega
    obtain ⟨g', hg', hs⟩ := hcom.wk i hlt
    rw [hi] at hg'; cases hg'
    rcases hs.status with h | h <;> rw [h] <;> simp
end

theorem gStep {X : Ph} {Fin Anch : Goroutine → World → Prop} (O : X.Ok) (hAr : ∀ g w, Anch g w → g.status = .running) (hAn : ∀ g w, Anch g w → thenJ X X.N (w1K X Fin Anch) g w) :
    ∀ μ m t, InvG X Fin Anch μ m t → (∃ m' ops, stepT X.P m = (.next m', ops) ∧ joined X Fin m' (t ++ ops)) ∨ (∃ m' ops μ', stepT X.P m = (.next m', ops) ∧ Lt2 μ' μ ∧ InvG X Fin Anch μ' m' (t ++ ops)) := by
  rintro μ m t ⟨gs, w, sl, D, tag, f0, a, st, sm, rfl, ha, hcs, hcom, hwg, hmode, rfl⟩
  obtain ⟨i, g, d, sl', hg, hrun, hstep⟩ := crowd_pick (P := X.P) (w := w) (sl := sl) (awakeG hAr ha hcs hcom) (someG hAr ha hcs hcom hmode)
  rw [hstep]
  have hcs' := hcs.rely (RC.at w d)
  have hcom' := hcom.at O d
  have hwg' : WgAt X.ty X.Wg (w.at d) st sm := hwg
  cases i with
  | zero =>
    rw [ha] at hg; cases hg
    exact stepC (sl := sl') O hAn ha hcs' hcom' hwg' hmode hrun
  | succ i =>
    have hi : i < cntOf X tag := by have := (Array.getElem?_eq_some_iff.1 hg).1; rw [hcom.size] at this; omega
    exact .inr (stepW O hAr ha hcs' hcom' hwg' hmode hi hg hrun)

/-- To the place behind the join, on every tape. -/
theorem gRun {X : Ph} {Fin Anch : Goroutine → World → Prop} (O : X.Ok) (hAr : ∀ g w, Anch g w → g.status = .running) (hAn : ∀ g w, Anch g w → thenJ X X.N (w1K X Fin Anch) g w) :
    ∀ (μ : Nat × Nat) (m : Machine) (t : Trace), InvG X Fin Anch μ m t → ∃ K m' t', runNT X.P K m t = (.next m', t') ∧ joined X Fin m' t' := by
  intro μ
  induction μ using (Prod.lex Nat.lt_wfRel Nat.lt_wfRel).wf.induction with
  | _ μ ih =>
    intro m t h
    rcases gStep O hAr hAn μ m t h with ⟨m', ops, hs, hj⟩ | ⟨m', ops, μ', hs, hlt, hi⟩
    · exact ⟨1, m', t ++ ops, by simp [runNT, hs], hj⟩
    · obtain ⟨K, m'', t'', hr, hj⟩ := ih μ' hlt m' _ hi
      exact ⟨K + 1, m'', t'', by rw [runNT_succ_next hs]; exact hr, hj⟩
end Go.Proofs.Ytehmobcfbifocaa
