/-
  Workers under one group, beside goroutines that only leave: the invariant, and a step of a worker's. Nothing of a program.
-/
import Derived.Test.YtehmobcfbifocaaGang2
namespace Go.Proofs.Ytehmobcfbifocaa
open Go Go.Conc Go.ConcN
open Go.ConcR (KK wgBlock WgAt stA smA rd wr mk Payload Aside2 DC0 Bk g_of_ofEvents loc_of_ofEvent bk_of_mute ofEvent_loc_mark)
variable [Payload]

def InvG (X : Ph) (Fin Anch : Goroutine → World → Prop) (μ : Nat × Nat) (m : Machine) (t : Trace) : Prop :=
  ∃ (gs : Array Goroutine) (w : World) (sl : Option (Nat × Nat)) (D : Nat → WD) (tag : CTag) (f0 : Nat) (a : Goroutine) (st sm : Int),
    m = crowd gs w sl ∧ gs[0]? = some a ∧ CS X Fin Anch tag f0 a w ∧ Cm X (cntOf X tag) gs w t D (deafOf tag) ∧ WgAt X.ty X.Wg w st sm ∧ ConcN.Mode (cntOf X tag) D tag st sm ∧
      μ = (phi X.N (Vc (cntOf X tag) D) tag + Ssum (cntOf X tag) D, f0 + 2 * Fsum (cntOf X tag) D)

/-- Goroutine 0 knows that all have done. -/
def acqAll (X : Ph) (t : Trace) : Prop :=
  ∃ q, t.act? q = some (.mark (.acquire (stA X.Wg))) ∧ t.g? q = some 0 ∧ t.heard q ∧ ∀ i, X.j0 ≤ i → i < X.N → ∃ r, X.t0 ≤ r ∧ RelBy (stA X.Wg) t (i + 1) r ∧ r < q
/-- All are joined. -/
def joined (X : Ph) (Fin : Goroutine → World → Prop) (m : Machine) (t : Trace) : Prop :=
  ∃ (gs : Array Goroutine) (w : World) (sl : Option (Nat × Nat)) (D : Nat → WD) (a : Goroutine),
    m = crowd gs w sl ∧ gs[0]? = some a ∧ Fin a w ∧ Cm X X.N gs w t D 0 ∧ AllQuit X.N D ∧ acqAll X t ∧ WgLive X.ty X.Wg w

section
variable {X : Ph} {Fin Anch : Goroutine → World → Prop} {gs : Array Goroutine} {w w' : World} {sl : Option (Nat × Nat)} {D : Nat → WD} {tag : CTag} {f0 : Nat} {a : Goroutine} {t : Trace} {st sm : Int}

omit [Payload] in
theorem cnt_retag {tag' : CTag} (e : tag' = tag ∨ (tag = .blk ∧ tag' = .w3)) : cntOf X tag' = cntOf X tag ∧ deafOf tag' = deafOf tag := by
  rcases e with rfl | ⟨rfl, rfl⟩ <;> exact ⟨rfl, rfl⟩
theorem CS.bound (h : CS X Fin Anch tag f0 a w) : cntOf X tag + pend tag ≤ X.N := by
  cases h with
  | on ho _ =>
    cases tag <;> simp only [cntOf, pend] <;> try omega
    have := ho.1
    unfold Ph.N
    split <;> omega
  | blk _ => simp only [cntOf, pend]; omega

omit [Payload] in
theorem plain_of_Bk (O : X.Ok) {es : Array Event} (h : ∀ e ∈ es, Bk X.Wg e) : ∀ e ∈ es, ∀ x, (MemAct.ofEvent e).touch? = some x → ¬ X.ShA x.loc → x.kind = .plain ∧ x.loc.isMemory = true := by
  intro e he x hx hs
  exfalso
  rcases h e he with h1 | h1 | ⟨b, wr, rfl, hb⟩
  · simp only [ofEvent_loc_mark h1] at hx; cases hx
  · simp only [ofEvent_loc_mark h1] at hx; cases hx
  · simp only [Go.ConcR.ofEvent_cell, MemAct.touch?, Option.some.injEq] at hx
    subst hx
    exact hs (O.sh _ ⟨b, rfl, hb⟩)
/-- Whatever step of worker i. -/
theorem gW (O : X.Ok) (hAr : ∀ g w, Anch g w → g.status = .running) (ha : gs[0]? = some a) (hcs : CS X Fin Anch tag f0 a w) (hcom : Cm X (cntOf X tag) gs w t D (deafOf tag))
    {i : Nat} (hi : i < cntOf X tag) {g g' : Goroutine} {es : Array Event} {s' m' dd' : Nat} {st' sm' : Int} (hg : gs[i + 1]? = some g) (hgo : stepG X.P false g w = .go g' w' es)
    (hA2 : RC X.ty X.Wg X.C w w') (hrl : ∀ i', X.j0 ≤ i' → i' < cntOf X tag → i' ≠ i → RL X i' w w')
    (hs' : GS X i s' m' dd' g' w')
    (hok : ∀ op ∈ MemOp.ofEvents (i + 1) g.frame.fn g.frame.place es, OkW (ShN X.Wg) X.Own X.Rd (i + 1) op) (hnr : ∀ e ∈ es, e.loc ≠ .mark (.release (stA X.Wg)))
    (hdeaf : deafBehind (D i).deaf es = dd')
    (hold : i < X.j0 → s' = 1 ∧ ∀ e ∈ es, (MemAct.ofEvent e).touch? = none)
    (hpl : ∀ e ∈ es, ∀ x, (MemAct.ofEvent e).touch? = some x → ¬ X.ShA x.loc → x.kind = .plain ∧ x.loc.isMemory = true)
    (hrel : X.j0 ≤ i → s' ≤ 6 → ∃ r, X.t0 ≤ r ∧ RelBy (stA X.Wg) (t ++ MemOp.ofEvents (i + 1) g.frame.fn g.frame.place es) (i + 1) r)
    (hhas : X.j0 ≤ i → s' ≤ 6 → ∀ o, X.lot i o → Has X.C o (X.val o) w') (hpay : PayF X w') (hwg : WgAt X.ty X.Wg w' st' sm')
    (hmode : ∀ tag', (tag' = tag ∨ (tag = .blk ∧ tag' = .w3)) → (mayWake X.P g = true → g'.status = .running → tag' ≠ .blk) → ConcN.Mode (cntOf X tag) (upd D i ⟨s', m', dd'⟩) tag' st' sm')
    (hlt : (s' < (D i).stage ∧ cnt ⟨s', m', dd'⟩ ≤ cnt (D i)) ∨ (s' = (D i).stage ∧ m' + 1 = (D i).fuel)) :
    ∃ m₁ ops μ', runT X.P (crowd gs w sl) (i + 1) = (.next m₁, ops) ∧ Lt2 μ' (phi X.N (Vc (cntOf X tag) D) tag + Ssum (cntOf X tag) D, f0 + 2 * Fsum (cntOf X tag) D) ∧ InvG X Fin Anch μ' m₁ (t ++ ops) := by
  obtain ⟨tag', f', hcs', hf', htag, hwk⟩ := hcs.woken hAr hA2 g g'
  obtain ⟨hc1, hc2⟩ := cnt_retag (X := X) htag
  have hrun := runT_crowd_go (P := X.P) (sl := sl) (i := i + 1) hg (by simpa using hgo)
  have e1 := sumTo_upd D (⟨s', m', dd'⟩ : WD) cnt hi
  have e2 := sumTo_upd D (⟨s', m', dd'⟩ : WD) WD.stage hi
  have e3 := sumTo_upd D (⟨s', m', dd'⟩ : WD) WD.fuel hi
  refine ⟨_, _, (phi X.N (Vc (cntOf X tag') (upd D i ⟨s', m', dd'⟩)) tag' + Ssum (cntOf X tag') (upd D i ⟨s', m', dd'⟩), f' + 2 * Fsum (cntOf X tag') (upd D i ⟨s', m', dd'⟩)), hrun, ?_,
    _, w', sl, upd D i ⟨s', m', dd'⟩, tag', f', woken X.P g g' w' a, st', sm', rfl, by rw [get_map_set _ _ _ _ (by omega), ha]; rfl, hcs', by rw [hc1, hc2]; exact hcom.stepW O hi hrl hs' hok hnr hdeaf hold hpl hrel hhas hpay, hwg, by rw [hc1]; exact hmode tag' htag hwk, rfl⟩
  rw [hc1, phi_retag X.N _ htag]
  simp only [Vc, Ssum, Fsum] at *
  rcases hlt with ⟨h1, h2⟩ | ⟨h1, h2⟩
  · refine Prod.Lex.left _ _ ?_
    have := phi_mono X.N (v' := sumTo (cntOf X tag) fun a => cnt (upd D i ⟨s', m', dd'⟩ a)) (v := sumTo (cntOf X tag) fun a => cnt (D a)) (by omega) tag
    omega
  · have ec : cnt (⟨s', m', dd'⟩ : WD) = cnt (D i) := by simp only [cnt, h1]
    have ev : (sumTo (cntOf X tag) fun a => cnt (upd D i ⟨s', m', dd'⟩ a)) = sumTo (cntOf X tag) fun a => cnt (D a) := by omega
    have es' : (sumTo (cntOf X tag) fun a => (upd D i ⟨s', m', dd'⟩ a).stage) = sumTo (cntOf X tag) fun a => (D a).stage := by omega
    rw [ev, es']
    exact Prod.Lex.right _ (by omega)

omit [Payload] in
/-- Where a worker that is not yet leaving stands, the starter is not through. -/
theorem mode_pend {j i : Nat} (hm : ConcN.Mode j D tag st sm) (hi : i < j) (h : (D i).stage ≠ 1) : tag ≠ .acq := by
  rintro rfl
  cases hm with
  | opn h1 _ _ => exact h1
  | reg h1 _ _ => exact h1
  | last L h1 _ _ _ => exact h1
  | fin _ h2 => exact h (h2 i hi)

set_option maxHeartbeats 1600000 in
theorem stepW (O : X.Ok) (hAr : ∀ g w, Anch g w → g.status = .running) (ha : gs[0]? = some a) (hcs : CS X Fin Anch tag f0 a w) (hcom : Cm X (cntOf X tag) gs w t D (deafOf tag)) (hwg : WgAt X.ty X.Wg w st sm) (hmode : ConcN.Mode (cntOf X tag) D tag st sm)
    {i : Nat} (hi : i < cntOf X tag) {g : Goroutine} (hg : gs[i + 1]? = some g) (hrun : g.status = .running) :
    ∃ m₁ ops μ', runT X.P (crowd gs w sl) (i + 1) = (.next m₁, ops) ∧ Lt2 μ' (phi X.N (Vc (cntOf X tag) D) tag + Ssum (cntOf X tag) D, f0 + 2 * Fsum (cntOf X tag) D) ∧ InvG X Fin Anch μ' m₁ (t ++ ops) := by
  obtain ⟨g₁, hg₁, hs⟩ := hcom.wk i hi
  obtain rfl : g = g₁ := by rw [hg] at hg₁; exact Option.some.inj hg₁
  generalize hst : (D i).stage = s at hs
  generalize hfu : (D i).fuel = m at hs
  generalize hde : (D i).deaf = dd at hs
  have hb := hcs.bound
  have hVj := Vc_le (cntOf X tag) D
  have hN := O.hN
  have hdk : Deaf t (i + 1) = dd := by rw [hcom.deafW i hi, hde]
  have hnew : s ≠ 1 → X.j0 ≤ i := fun h => by
    rcases Nat.lt_or_ge i X.j0 with h' | h'
    · exact absurd (hst.symm.trans (hcom.old i h')) h
    · exact h'
  -- a step of the library's bookkeeping: at most the group's block turns
  have bookG : ∀ {g' : Goroutine} {w' : World} {es : Array Event} {s' m' dd' : Nat} {st' sm' : Int}, stepG X.P false g w = .go g' w' es → Aside X.Wg w w' → WgAt X.ty X.Wg w' st' sm' → (∀ e ∈ es, Bk X.Wg e) →
      (∀ jx e, es[jx]? = some e → (MemAct.ofEvent e).touch? = none ∨ 0 < deafBehind dd (es.extract 0 jx)) → (s ≠ 1 ∨ ∀ e ∈ es, (MemAct.ofEvent e).touch? = none) → GS X i s' m' dd' g' w' → deafBehind dd es = dd' → s ≤ 6 → (s = 1 → s' = 1) →
      (∀ tag', (tag' = tag ∨ (tag = .blk ∧ tag' = .w3)) → (mayWake X.P g = true → g'.status = .running → tag' ≠ .blk) → ConcN.Mode (cntOf X tag) (upd D i ⟨s', m', dd'⟩) tag' st' sm') → ((s' < s ∧ cnt ⟨s', m', dd'⟩ ≤ cnt (D i)) ∨ (s' = s ∧ m' + 1 = m)) →
      ∃ m₁ ops μ', runT X.P (crowd gs w sl) (i + 1) = (.next m₁, ops) ∧ Lt2 μ' (phi X.N (Vc (cntOf X tag) D) tag + Ssum (cntOf X tag) D, f0 + 2 * Fsum (cntOf X tag) D) ∧ InvG X Fin Anch μ' m₁ (t ++ ops) := by
    intro g' w' es s' m' dd' st' sm' hgo hAs hwg' hbk hd hmu hs' hdd h6 h1 hmode' hlt
    exact gW O hAr ha hcs hcom hi hg hgo (RC.of_wg hAs ⟨_, _, hwg'⟩) (fun i' _ _ _ => RL.of_wg O hAs ⟨_, _, hwg'⟩) hs' (okW_of_Bk hbk) (norel_of_Bk hbk) (by rw [hde]; exact hdd)
      (fun hj => by
        have h1' : s = 1 := by rw [← hst]; exact hcom.old i hj
        exact ⟨h1 h1', hmu.resolve_left fun h => h h1'⟩)
      (plain_of_Bk O hbk)
      (fun hj _ => let ⟨r, hr0, hr⟩ := hcom.rel i hj hi (by omega); ⟨r, hr0, hr.book hdk _ _ hbk hd⟩) (fun hj _ o ho => (cell_of_block (hAs.block X.C O.hCW) o).trans (hcom.has i hj hi (by omega) o ho)) (hcom.pay.block (hAs.block X.C O.hCW)) hwg' hmode'
      (by rw [hst, hfu]; exact hlt)
  have book : ∀ {g' : Goroutine} {w' : World} {es : Array Event} {s' m' dd' : Nat} {st' sm' : Int}, stepG X.P false g w = .go g' w' es → Aside X.Wg w w' → WgAt X.ty X.Wg w' st' sm' → (∀ e ∈ es, Bk X.Wg e) →
      (∀ jx e, es[jx]? = some e → (MemAct.ofEvent e).touch? = none ∨ 0 < deafBehind dd (es.extract 0 jx)) → (s ≠ 1 ∨ ∀ e ∈ es, (MemAct.ofEvent e).touch? = none) → GS X i s' m' dd' g' w' → deafBehind dd es = dd' → s ≤ 6 → (s = 1 → s' = 1) →
      ConcN.Mode (cntOf X tag) (upd D i ⟨s', m', dd'⟩) tag st' sm' → ((s' < s ∧ cnt ⟨s', m', dd'⟩ ≤ cnt (D i)) ∨ (s' = s ∧ m' + 1 = m)) →
      ∃ m₁ ops μ', runT X.P (crowd gs w sl) (i + 1) = (.next m₁, ops) ∧ Lt2 μ' (phi X.N (Vc (cntOf X tag) D) tag + Ssum (cntOf X tag) D, f0 + 2 * Fsum (cntOf X tag) D) ∧ InvG X Fin Anch μ' m₁ (t ++ ops) :=
    fun hgo hAs hwg' hbk hd hmu hs' hdd h6 h1 hmode' hlt => bookG hgo hAs hwg' hbk hd hmu hs' hdd h6 h1 (fun _ ht _ => hmode'.retag ht) hlt
  -- an idle step behind the release
  have idle : ∀ {g' : Goroutine} {m' : Nat}, stepG X.P false g w = .go g' w #[] → GS X i s m' dd g' w → m' + 1 = m → s ≤ 6 → s ≠ 1 →
      ∃ m₁ ops μ', runT X.P (crowd gs w sl) (i + 1) = (.next m₁, ops) ∧ Lt2 μ' (phi X.N (Vc (cntOf X tag) D) tag + Ssum (cntOf X tag) D, f0 + 2 * Fsum (cntOf X tag) D) ∧ InvG X Fin Anch μ' m₁ (t ++ ops) := by
    intro g' m' hgo hs' hm h6 h1
    exact book hgo (.refl X.Wg w) hwg (by simp) (by simp) (.inl h1) hs' rfl h6 (fun h => absurd h h1) (by have := hmode.same (i := i) m' dd; rwa [hst] at this) (.inr ⟨rfl, hm⟩)
  cases hs with
  | work hj h =>
    rcases Goes.cases h with hstop | ⟨m', rfl, hstep⟩
    · obtain ⟨⟨_, hhas, g', hgo, m₂, hk⟩, hall⟩ := hstop w (RL.refl w)
      exact gW O hAr ha hcs hcom hi hg hgo (.refl w) (fun _ _ _ _ => RL.refl w) (.sync hj (by omega) (by omega) (.k1 hk)) (okW_none (by intro e he; simp at he; subst he; rfl)) (by intro e he; simp at he; subst he; simp [mk]) (by rw [hde]; rfl)
        (fun h => by omega) (by intro e he; simp at he; subst he; intro x hx; cases hx) (fun _ _ => ⟨t.size, hcom.t0, RelBy.new hdk _ _⟩) (fun _ _ => hall) hcom.pay hwg (fun _ ht _ => (hmode.counted hi (by omega) (.inl rfl) _ _).retag ht) (.inl ⟨by omega, by simp [cnt, hst]⟩)
    · obtain ⟨g', w', es, hgo, ⟨hac, hev⟩, hg'⟩ := hstep w (RL.refl w)
      exact gW O hAr ha hcs hcom hi hg hgo (rc_of_AL O hac) (fun i' hj' _ e => RL.of_other O hj' hj hac e) (.work hj hg') (okW_of_EvW fun e he => (hev e he).1) (fun e he => (hev e he).1.2.2.2)
        (by rw [hde]; exact deafBehind_idle (fun e he => ⟨(hev e he).1.2.1, (hev e he).1.2.2.1⟩) 0) (fun h => by omega) (fun e he x hx hs => (hev e he).2 x hx fun h => hs (O.sh _ h)) (fun _ h => by omega) (fun _ h => by omega) (hcom.pay.work hj hac) (hwg.of_block (hac.block X.Wg (Ne.symm O.hCW)))
        (fun _ ht _ => ConcN.Mode.retag (by have := hmode.same (i := i) m' 0; rwa [hst] at this) ht) (.inr ⟨hst.symm, by omega⟩)
  | sync hj h2 h6 h =>
    have rw0 : RW X.ty X.Wg X.C X.nC (X.Low (i + 1)) (X.rep i + 1 - 1) w w := RW.refl w
    cases h with
    | r0 _ => omega
    | quit _ => omega
    | k1 h =>
      rcases Goes.cases h with hstop | ⟨m', rfl, hstep⟩
      · obtain ⟨_, g', hgo, m₂, hk⟩ := hstop w rw0
        exact book hgo (.refl X.Wg w) hwg (by intro e he; simp at he; subst he; exact .inl rfl) (by intro jx e he; exact .inl (by have := Array.mem_of_getElem? he; simp at this; subst this; rfl)) (.inl (by omega)) (.sync hj (by omega) (by omega) (.d1 hk)) rfl (by omega) (by omega)
          (hmode.counted hi (by omega) (.inr rfl) _ _) (.inl ⟨by omega, by simp [cnt, hst]⟩)
      · obtain ⟨g', w', es, hgo, ⟨rfl, rfl⟩, hg'⟩ := hstep w rw0
        exact idle hgo (.sync hj (by omega) (by omega) (.k1 hg')) rfl (by omega) (by omega)
    | d1 h =>
      rcases Goes.cases h with hstop | ⟨m', rfl, hstep⟩
      · obtain ⟨_, hall⟩ := hstop w rw0
        have hc1 : cnt (D i) = 1 := by simp [cnt, hst]
        have hV1 : 1 ≤ Vc (cntOf X tag) D := by have := le_sumTo (f := fun x => cnt (D x)) hi; simp only [Vc]; omega
        have bk2 : ∀ e ∈ #[rd (stA X.Wg), wr (stA X.Wg)], Bk X.Wg e := by intro e he; simp at he; rcases he with rfl | rfl <;> exact bk_cell _ _ rfl
        have df2 : ∀ jx e, (#[rd (stA X.Wg), wr (stA X.Wg)] : Array Event)[jx]? = some e → (MemAct.ofEvent e).touch? = none ∨ 0 < deafBehind 1 ((#[rd (stA X.Wg), wr (stA X.Wg)] : Array Event).extract 0 jx) := by
          intro jx e he
          match jx, he with
          | 0, _ => exact .inr (by simp [deafBehind])
          | 1, _ => exact .inr (by simp [deafBehind, rd])
          | jx + 2, he => simp at he
        have hq0 : ∀ q, cnt (⟨1, q, 1⟩ : WD) = 0 := fun _ => rfl
        have opq : ∀ q, OpenSt (cntOf X tag) D → OpenSt (cntOf X tag) (upd D i ⟨1, q, 1⟩) := fun q h a ha => by
          by_cases e : a = i
          · subst e; rw [upd_same]; simp
          · rw [upd_ne D _ e]; exact h a ha
        cases hmode with
        | opn h1 h2 h3 =>
          obtain ⟨v, hv⟩ : ∃ v, Vc (cntOf X tag) D + pend tag = v + 1 := ⟨Vc (cntOf X tag) D + pend tag - 1, by omega⟩
          rw [hv] at hwg
          have hw1 : WgAt X.ty X.Wg w (((v : Nat) + 1) * KK + ((0 : Nat) : Int)) 0 := by simpa using hwg
          obtain ⟨g', hgo, _, hq⟩ := hall v 0 (by omega) (by omega) hw1
          obtain ⟨q, hq⟩ := hq (by omega)
          have hv' : Vc (cntOf X tag) (upd D i ⟨1, q, 1⟩) + pend tag = v := by have := Vc_upd D (⟨1, q, 1⟩ : WD) hi; have := hq0 q; omega
          refine book hgo (aside_setCell w (stA X.Wg) _) (hwg.setSt _) bk2 df2 (.inl (by omega)) (.quit hq) rfl (by omega) (fun _ => rfl) ?_ (.inl ⟨by omega, by simp [cnt]⟩)
          have e : ((v : Nat) : Int) * KK + ((0 : Nat) : Int) = ((Vc (cntOf X tag) (upd D i ⟨1, q, 1⟩) + pend tag : Nat) : Int) * KK := by rw [hv']; simp
          rw [e]
          exact .opn h1 (opq q h2) (fun vs ev => by have := h3 vs ev; omega)
        | reg h1 h2 h3 =>
          obtain ⟨v, hv⟩ : ∃ v, Vc (cntOf X tag) D = v + 1 := ⟨Vc (cntOf X tag) D - 1, by omega⟩
          rw [hv] at hwg
          have hw1 : WgAt X.ty X.Wg w (((v : Nat) + 1) * KK + ((1 : Nat) : Int)) 0 := by simpa using hwg
          obtain ⟨g', hgo, hl, hq⟩ := hall v 1 (by omega) (by omega) hw1
          by_cases hv0 : v = 0
          · subst hv0
            obtain ⟨m₂, hk⟩ := hl ⟨rfl, rfl⟩
            refine book hgo (aside_setCell w (stA X.Wg) _) (hwg.setSt _) bk2 df2 (.inl (by omega)) (.sync hj (by omega) (by omega) (.d2 hk)) rfl (by omega) (by omega) ?_ (.inl ⟨by omega, by simp [cnt]⟩)
            have hoth : ∀ a, a < cntOf X tag → a ≠ i → (D a).stage = 1 := fun a ha e => by
              have c0 := others_uncounted hi hv hc1 a ha e
              have := h2 a ha
              simp only [cnt] at c0
              split at c0 <;> omega
            have := ConcN.Mode.last (j := cntOf X tag) (D := upd D i ⟨4, m₂, 1⟩) (tag := tag) i h1 hi (by rw [upd_same]; simp) (fun a ha e => by rw [upd_ne D _ e]; exact hoth a ha e)
            rw [upd_same] at this
            simpa using this
          · obtain ⟨q, hq⟩ := hq (by omega)
            have hv' : Vc (cntOf X tag) (upd D i ⟨1, q, 1⟩) = v := by have := Vc_upd D (⟨1, q, 1⟩ : WD) hi; have := hq0 q; omega
            refine book hgo (aside_setCell w (stA X.Wg) _) (hwg.setSt _) bk2 df2 (.inl (by omega)) (.quit hq) rfl (by omega) (fun _ => rfl) ?_ (.inl ⟨by omega, by simp [cnt]⟩)
            have e : ((v : Nat) : Int) * KK + ((1 : Nat) : Int) = ((Vc (cntOf X tag) (upd D i ⟨1, q, 1⟩) : Nat) : Int) * KK + 1 := by rw [hv']; simp
            rw [e]
            exact .reg h1 (opq q h2) (by omega)
        | last L _ h2 h3 h4 =>
          by_cases e : i = L
          · subst e; omega
          · have := h4 i hi e; omega
        | sema h2 => have := h2 i hi; omega
        | fin _ h2 => have := h2 i hi; omega
      · obtain ⟨g', w', es, hgo, ⟨rfl, rfl⟩, hg'⟩ := hstep w rw0
        exact idle hgo (.sync hj (by omega) (by omega) (.d1 hg')) rfl (by omega) (by omega)
    | d2 h =>
      rcases Goes.cases h with hstop | ⟨m', rfl, hstep⟩
      · obtain ⟨_, hx⟩ := hstop w rw0
        obtain ⟨hW3, hoth, rfl, rfl⟩ := hmode.isLast hi (by omega)
        simp only [hst] at hwg
        obtain ⟨g', hgo, m₂, hk⟩ := hx (by simpa using hwg)
        refine book hgo (.refl X.Wg w) hwg (by intro e he; simp at he; subst he; exact bk_cell _ _ rfl) (by intro jx e he; match jx, he with | 0, _ => exact .inr (by simp [deafBehind]) | jx + 1, he => simp at he) (.inl (by omega)) (.sync hj (by omega) (by omega) (.d3 hk)) rfl (by omega) (by omega) ?_ (.inl ⟨by omega, by simp [cnt]⟩)
        have := ConcN.Mode.last (j := cntOf X tag) (D := upd D i ⟨3, m₂, 1⟩) (tag := tag) i hW3 hi (by rw [upd_same]; simp) (fun a ha e => by rw [upd_ne D _ e]; exact hoth a ha e)
        rw [upd_same] at this
        simpa using this
      · obtain ⟨g', w', es, hgo, ⟨rfl, rfl⟩, hg'⟩ := hstep w rw0
        exact idle hgo (.sync hj (by omega) (by omega) (.d2 hg')) rfl (by omega) (by omega)
    | d3 h =>
      rcases Goes.cases h with hstop | ⟨m', rfl, hstep⟩
      · obtain ⟨_, hx⟩ := hstop w rw0
        obtain ⟨hW3, hoth, rfl, rfl⟩ := hmode.isLast hi (by omega)
        simp only [hst] at hwg
        obtain ⟨g', hgo, m₂, hk⟩ := hx (by simpa using hwg)
        refine book hgo (aside_setCell w (stA X.Wg) _) (hwg.setSt 0) (by intro e he; simp at he; subst he; exact bk_cell _ _ rfl) (by intro jx e he; match jx, he with | 0, _ => exact .inr (by simp [deafBehind]) | jx + 1, he => simp at he) (.inl (by omega)) (.sync hj (by omega) (by omega) (.d4 hk)) rfl (by omega) (by omega) ?_ (.inl ⟨by omega, by simp [cnt]⟩)
        have := ConcN.Mode.last (j := cntOf X tag) (D := upd D i ⟨2, m₂, 1⟩) (tag := tag) i hW3 hi (by rw [upd_same]; simp) (fun a ha e => by rw [upd_ne D _ e]; exact hoth a ha e)
        rw [upd_same] at this
        simpa using this
      · obtain ⟨g', w', es, hgo, ⟨rfl, rfl⟩, hg'⟩ := hstep w rw0
        exact idle hgo (.sync hj (by omega) (by omega) (.d3 hg')) rfl (by omega) (by omega)
    | d4 h =>
      rcases Goes.cases h with hstop | ⟨m', rfl, hstep⟩
      · obtain ⟨_, hmw, hx⟩ := hstop w rw0
        obtain ⟨hW3, hoth, rfl, rfl⟩ := hmode.isLast hi (by omega)
        simp only [hst] at hwg
        obtain ⟨g', hgo, q, hq⟩ := hx (by simpa using hwg)
        have hrun' : g'.status = .running := by
          cases q with
          | zero => exact absurd hq.2 (by decide)
          | succ q => exact hq.elim (fun x => absurd x.2 (by decide)) (fun x => x.1)
        refine bookG hgo (aside_setCell w (smA X.Wg) _) (hwg.setSm 1) (es := semEvents (smA X.Wg)) ?_ ?_ (.inl (by omega)) (.quit hq) (by simp [deafBehind, semEvents]) (by omega) (fun _ => rfl) ?_ (.inl ⟨by omega, by simp [cnt]⟩)
        · intro e he
          simp [semEvents] at he
          rcases he with rfl | rfl | rfl | rfl
          · exact .inl rfl
          · exact bk_cell _ _ rfl
          · exact bk_cell _ _ rfl
          · exact .inr (.inl rfl)
        · intro jx e he
          match jx, he with
          | 0, he => simp [semEvents] at he; subst he; exact .inl rfl
          | 1, _ => exact .inr (by simp [deafBehind, semEvents])
          | 2, _ => exact .inr (by simp [deafBehind, semEvents])
          | 3, he => simp [semEvents] at he; subst he; exact .inl rfl
          | jx + 4, he => simp [semEvents] at he
        · intro tag' ht hw
          have hnb := hw hmw hrun'
          have e3 : tag' = .w3 := by
            rcases ht with rfl | ⟨_, rfl⟩
            · cases tag' <;> first | rfl | exact hW3.elim | exact absurd rfl hnb
            · rfl
          subst e3
          simp only [if_true]
          exact .sema fun a ha => by
            by_cases e : a = i
            · subst e; rw [upd_same]
            · rw [upd_ne D _ e]; exact hoth a ha e
      · obtain ⟨g', w', es, hgo, ⟨rfl, rfl⟩, hg'⟩ := hstep w rw0
        exact idle hgo (.sync hj (by omega) (by omega) (.d4 hg')) rfl (by omega) (by omega)
  | quit h =>
    cases m with
    | zero => rw [h.1] at hrun; cases hrun
    | succ q =>
      rcases h with ⟨hf, _⟩ | ⟨_, g', es, hmute, hstep, hq⟩
      · rw [hf] at hrun; cases hrun
      · have hbk : ∀ e ∈ es, Bk X.Wg e := fun e he => bk_of_mute (hmute e he)
        have hno : ∀ e ∈ es, (MemAct.ofEvent e).touch? = none := fun e he => touch_mute (hmute e he)
        exact book (hstep w) (.refl X.Wg w) hwg hbk (fun jx e he => .inl (hno e (Array.mem_of_getElem? he))) (.inr hno) (.quit hq) rfl (by omega) (fun _ => rfl) (by have := hmode.same (i := i) q (deafBehind dd es); rwa [hst] at this) (.inr ⟨rfl, rfl⟩)
end
end Go.Proofs.Ytehmobcfbifocaa
