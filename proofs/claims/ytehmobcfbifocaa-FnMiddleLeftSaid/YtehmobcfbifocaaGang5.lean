/-
  Between two phases: goroutine 0 beside goroutines that only leave: what holds of the machine and the trace; goroutine 0's own way there; into a phase and out of it. Nothing of a program.
-/
import Derived.Test.YtehmobcfbifocaaGangA
namespace Go.Proofs.Ytehmobcfbifocaa
open Go Go.Conc Go.ConcN
open Go.ConcR (KK wgBlock WgAt stA smA rd wr mk Payload Aside2 DC0 Bk g_of_ofEvents loc_of_ofEvent)

theorem memEv {g : Nat} {fn : FuncId} {pos : String} {es : Array Event} {op : MemOp} (h : op ∈ MemOp.ofEvents g fn pos es) : ∃ e ∈ es, op = { g, fn, pos, act := .ofEvent e } := by
  rw [ofEvents_eq] at h
  obtain ⟨e, he, rfl⟩ := Array.mem_map.1 h
  exact ⟨e, he, rfl⟩

/-- Sh: the cells of the groups of before: nobody touches them plainly; all else goroutine 0 knows. -/
structure Fr (P : Program) (Sh : Loc → Prop) (B : Nat) (gs : Array Goroutine) (t : Trace) (q : Nat → Nat) : Prop where
  pos : 0 < gs.size
  ct : CT Sh (fun _ _ => False) (fun _ _ => False) t (gs.size - 1)
  over : t.HandedOver
  hears : Deaf t 0 = 0
  low : lowT B t
  leav : Leavers P t gs q

/-- What goroutine 0 may list between two phases. -/
def EvF (Sh : Loc → Prop) (B : Nat) (e : Event) : Prop := (∀ x, (MemAct.ofEvent e).touch? = some x → ¬ Sh x.loc ∧ x.loc.low B) ∧ e.loc ≠ .mark .disable ∧ e.loc ≠ .mark .enable

theorem Fr.mono {P : Program} {Sh : Loc → Prop} {B B' : Nat} {gs : Array Goroutine} {t : Trace} {q : Nat → Nat} (h : Fr P Sh B gs t q) (hB : B ≤ B') : Fr P Sh B' gs t q := { h with low := h.low.mono hB }
theorem apartNone (Sh : Loc → Prop) : Apart Sh (fun _ _ => False) (fun _ _ => False) := ⟨fun _ _ _ h => h.elim, fun _ _ _ h => h.elim, fun _ _ h => h.elim, fun _ _ h => h.elim⟩
theorem fr_first (P : Program) (a : Goroutine) (B : Nat) : Fr P (fun _ => False) B #[a] #[] (fun _ => 0) := by
  refine ⟨by simp, ?_, past_nil.over, rfl, fun i x h => by simp [touchAt, Trace.act?] at h, leavers_one P a⟩
  exact ⟨fun i op x h => by simp at h, fun k _ _ l h => h.elim, fun k _ _ l h => h.elim, fun l _ _ i x h => by simp [touchAt, Trace.act?] at h, fun l _ _ i x h => by simp [touchAt, Trace.act?] at h, fun said => noRace_nil said, fun i op h => by simp at h⟩

section
variable {P : Program} {Sh : Loc → Prop} {B : Nat} {D : World → World → Array Event → Prop} {Stop : Goroutine → World → Prop}

theorem Fr.own {gs gs' : Array Goroutine} {t : Trace} {q : Nat → Nat} (h : Fr P Sh B gs t q) {fn : FuncId} {pos : String} {es : Array Event} (hes : ∀ e ∈ es, EvF Sh B e) (hsz : gs'.size = gs.size)
    (hgs : ∀ i g, 0 < i → gs'[i]? = some g → gs[i]? = some g) : Fr P Sh B gs' (t ++ MemOp.ofEvents 0 fn pos es) q := by
  have hdf : ∀ j, j ≠ 0 → Deaf (t ++ MemOp.ofEvents 0 fn pos es) j = Deaf t j := fun j hj => Deaf_other t (by omega) _ g_of_ofEvents
  have hu : ∀ op ∈ MemOp.ofEvents 0 fn pos es, ∃ e ∈ es, op = { g := 0, fn, pos, act := .ofEvent e } := fun op hop => memEv hop
  have hok : ∀ op ∈ MemOp.ofEvents 0 fn pos es, Ok0 Sh (fun _ _ => False) (fun _ _ => False) (gs.size - 1) op := fun op hop => by
    obtain ⟨e, he, rfl⟩ := hu op hop
    exact ⟨rfl, fun x hx => .inr ⟨((hes e he).1 x hx).1, fun _ _ _ h => h, fun _ _ _ _ h => h⟩⟩
  refine ⟨by rw [hsz]; exact h.pos, by rw [hsz]; exact h.ct.app0 (apartNone Sh) hok, handedOver_app h.over fun op hop => ?_, ?_, h.low.app fun op hop a ha => ?_, fun i g hi hg => ?_, fun j hj => ?_⟩
  · obtain ⟨e, he, rfl⟩ := hu op hop
    exact .inl rfl
  · rw [Deaf_own, h.hears]
    exact deafBehind_idle (fun e he => ⟨(hes e he).2.1, (hes e he).2.2⟩) 0
  · obtain ⟨e, he, rfl⟩ := hu op hop
    exact ((hes e he).1 a ha).2
  · rw [hdf i (by omega)]
    exact h.leav.old i g hi (hgs i g hi hg)
  · have := h.pos
    rw [hdf j (by omega)]
    exact h.leav.above j (by omega)

theorem Fr.slip {gs gs' : Array Goroutine} {t : Trace} {q : Nat → Nat} (h : Fr P Sh B gs t q) {i k : Nat} {g' : Goroutine} {fn : FuncId} {pos : String} {es : Array Event} (hi : 0 < i) (hlt : i < gs.size) (hm : ∀ e ∈ es, e.mute = true)
    (hq : QuitsD P k (deafBehind (Deaf t i) es) g') (hsz : gs'.size = gs.size) (hself : gs'[i]? = some g') (hgs : ∀ j x, 0 < j → j ≠ i → gs'[j]? = some x → gs[j]? = some x) : Fr P Sh B gs' (t ++ MemOp.ofEvents i fn pos es) (upd q i k) := by
  have hu : ∀ op ∈ MemOp.ofEvents i fn pos es, ∃ e ∈ es, op = { g := i, fn, pos, act := .ofEvent e } := fun op hop => memEv hop
  have hn : ∀ op ∈ MemOp.ofEvents i fn pos es, op.act.touch? = none := fun op hop => by
    obtain ⟨e, he, rfl⟩ := hu op hop
    exact touch_mute (hm e he)
  have hnt : ∀ op ∈ MemOp.ofEvents i fn pos es, OkW Sh (fun _ _ => False) (fun _ _ => False) i op := fun op hop => by
    obtain ⟨e, he, rfl⟩ := hu op hop
    exact ⟨rfl, fun x hx => by rw [touch_mute (hm e he)] at hx; cases hx⟩
  refine ⟨by rw [hsz]; exact h.pos, by rw [hsz]; exact h.ct.appW (apartNone Sh) hi (by omega) hnt, handedOver_app h.over fun op hop => .inr (hn op hop), by rw [Deaf_other t (by omega) _ g_of_ofEvents]; exact h.hears, h.low.app (fun op hop a ha => by rw [hn op hop] at ha; cases ha), fun j x hj hx => ?_, fun j hj => ?_⟩
  · by_cases e : j = i
    · subst e
      rw [hself] at hx
      obtain rfl := Option.some.inj hx
      rw [upd_same, Deaf_own]
      exact hq
    · rw [upd_ne q k e, Deaf_other t (fun h => e h.symm) _ g_of_ofEvents]
      exact h.leav.old j x hj (hgs j x hj e hx)
  · rw [Deaf_other t (g' := i) (by omega) _ g_of_ofEvents]
    exact h.leav.above j (by omega)

/-- Goroutine 0's way beside goroutines that only leave, on every tape. -/
theorem walkFr (hD : ∀ w w' es, D w w' es → ∀ e ∈ es, EvF Sh B e) :
    ∀ (M n : Nat) (gs : Array Goroutine) (a : Goroutine) (w : World) (sl : Option (Nat × Nat)) (t : Trace) (q : Nat → Nat), n + sumTo gs.size q ≤ M → gs[0]? = some a → Fr P Sh B gs t q → Goes P true AtRel D Stop n a w →
      ∃ (K : Nat) (gs' : Array Goroutine) (a' : Goroutine) (w' : World) (sl' : Option (Nat × Nat)) (t' : Trace) (q' : Nat → Nat),
        runNT P K (crowd gs w sl) t = (.next (crowd gs' w' sl'), t') ∧ gs'.size = gs.size ∧ gs'[0]? = some a' ∧ Stop a' w' ∧ Fr P Sh B gs' t' q' := by
  intro M
  induction M with
  | zero =>
    intro n gs a w sl t q hM h0 hF hG
    obtain rfl : n = 0 := by omega
    exact ⟨0, gs, a, w, sl, t, q, rfl, rfl, h0, hG w (atRel_refl w), hF⟩
  | succ M ih =>
    intro n gs a w sl t q hM h0 hF hG
    rcases Goes.cases hG with hstop | ⟨n', rfl, hstep⟩
    · exact ⟨0, gs, a, w, sl, t, q, rfl, rfl, h0, hstop w (atRel_refl w), hF⟩
    have hG' := hG
    rcases hG' with hstop | ⟨hrun, _⟩
    · exact ⟨0, gs, a, w, sl, t, q, rfl, rfl, h0, hstop w (atRel_refl w), hF⟩
    have haw : ∀ g ∈ gs, awake g := by
      intro g hg
      obtain ⟨i, hi⟩ := Array.mem_iff_getElem?.1 hg
      rcases Nat.eq_zero_or_pos i with rfl | hpos
      · rw [h0] at hi
        obtain rfl := Option.some.inj hi
        exact awake_of (.inl hrun)
      · exact awake_of ((hF.leav.old i _ hpos hi).status.elim .inl fun x => .inr (.inr x))
    obtain ⟨i, g, d, sl', hi, hg, hst⟩ := crowd_pick (P := P) (w := w) (sl := sl) haw ⟨0, a, h0, hrun⟩
    rcases Nat.eq_zero_or_pos i with rfl | hpos
    · obtain rfl : g = a := by rw [h0] at hi; exact (Option.some.inj hi).symm
      obtain ⟨a', w', es, hgo, hd, hn⟩ := hstep (w.at d) ⟨d, rfl⟩
      have hr := runT_crowd_go (P := P) (sl := sl') (i := 0) hi (show stepG P (0 == 0) g (w.at d) = _ from hgo)
      have hsz : ((gs.map (woken P g a' w')).setIfInBounds 0 a').size = gs.size := by simp
      have hlt : 0 < gs.size := hF.pos
      obtain ⟨K, gs', a'', w'', sl'', t', q', e1, e2, e3, e4, e5⟩ := ih n' _ a' w' sl' _ q (by rw [hsz]; omega) (get_map_set_same _ _ _ hlt)
        (hF.own (fn := g.frame.fn) (pos := g.frame.place) (hD _ _ _ hd) hsz fun j x hj hx => by
          rw [get_map_set _ _ _ _ (by omega)] at hx
          obtain ⟨y, hy, rfl⟩ := Option.map_eq_some_iff.1 hx
          rw [woken_quitsD (hF.leav.old j y hj hy)]
          exact hy) hn
      exact ⟨K + 1, gs', a'', w'', sl'', t', q', by simp only [runNT, hst, hr]; exact e1, e2.trans hsz, e3, e4, e5⟩
    · have hq := hF.leav.old i g hpos hi
      have hi0 : (i == 0) = false := by simp; omega
      have hlt : i < gs.size := (Array.getElem?_eq_some_iff.1 hi).1
      cases hqi : q i with
      | zero => rw [hqi] at hq; rw [hq.1] at hg; cases hg
      | succ k =>
        rw [hqi] at hq
        rcases hq with ⟨hf, _⟩ | ⟨_, g', es, hm, hstp, hq'⟩
        · rw [hf] at hg; cases hg
        have hr := runT_crowd_go (P := P) (sl := sl') (i := i) hi (by rw [hi0]; exact hstp (w.at d))
        have hsz : ((gs.map (woken P g g' (w.at d))).setIfInBounds i g').size = gs.size := by simp
        have hsum : sumTo gs.size (upd q i k) + (k + 1) = sumTo gs.size q + k := by
          have := sumTo_upd q k id hlt
          simpa [hqi] using this
        obtain ⟨K, gs', a'', w'', sl'', t', q', e1, e2, e3, e4, e5⟩ := ih (n' + 1) _ a (w.at d) sl' _ (upd q i k) (by rw [hsz]; omega)
          (by rw [get_map_set _ _ _ _ (by omega), h0]; simp [woken_run hrun])
          (hF.slip (fn := g.frame.fn) (pos := g.frame.place) hpos hlt hm hq' hsz (get_map_set_same _ _ _ hlt) fun j x hj hji hx => by
            rw [get_map_set _ _ _ _ (fun e => hji e.symm)] at hx
            obtain ⟨y, hy, rfl⟩ := Option.map_eq_some_iff.1 hx
            rw [woken_quitsD (hF.leav.old j y hj hy)]
            exact hy) (Goes.rely atRel_trans hG ⟨d, rfl⟩)
        exact ⟨K + 1, gs', a'', w'', sl'', t', q', by simp only [runNT, hst, hr]; exact e1, e2.trans hsz, e3, e4, e5⟩
end

theorem low_all (t : Trace) : ∃ B, ∀ op ∈ t, op.act.low B := by
  obtain ⟨l⟩ := t
  induction l with
  | nil => exact ⟨0, by simp⟩
  | cons x l ih =>
    obtain ⟨B, hB⟩ := ih
    obtain ⟨Bx, hx⟩ : ∃ Bx, x.act.low Bx := by
      cases x.act with
      | access e =>
        obtain ⟨loc, _, _⟩ := e
        cases loc with
        | cell a => exact ⟨a.block + 1, Nat.lt_succ_self _⟩
        | obj r => exact ⟨r + 1, Nat.lt_succ_self _⟩
        | _ => exact ⟨0, trivial⟩
      | mark m =>
        cases m with
        | acquire a => exact ⟨a.block + 1, Nat.lt_succ_self _⟩
        | release a => exact ⟨a.block + 1, Nat.lt_succ_self _⟩
        | releaseMerge a => exact ⟨a.block + 1, Nat.lt_succ_self _⟩
        | read a => exact ⟨a.block + 1, Nat.lt_succ_self _⟩
        | write a => exact ⟨a.block + 1, Nat.lt_succ_self _⟩
        | _ => exact ⟨0, trivial⟩
      | go _ => exact ⟨0, trivial⟩
      | start => exact ⟨0, trivial⟩
      | send c _ => exact ⟨c + 1, Nat.lt_succ_self _⟩
      | sendDone c _ => exact ⟨c + 1, Nat.lt_succ_self _⟩
      | recv c _ _ => exact ⟨c + 1, Nat.lt_succ_self _⟩
      | recvDone c _ => exact ⟨c + 1, Nat.lt_succ_self _⟩
      | close c => exact ⟨c + 1, Nat.lt_succ_self _⟩
      | recvClosed c => exact ⟨c + 1, Nat.lt_succ_self _⟩
    refine ⟨max B Bx, fun op hop => ?_⟩
    simp only [List.mem_toArray, List.mem_cons] at hop
    rcases hop with rfl | hop
    · exact MemAct.low_mono (Nat.le_max_right _ _) hx
    · exact MemAct.low_mono (Nat.le_max_left _ _) (hB op (by simpa using hop))

/-- The library's word for such a trace. -/
theorem Fr.past {P : Program} {Sh : Loc → Prop} {B : Nat} {gs : Array Goroutine} {t : Trace} {q : Nat → Nat} (h : Fr P Sh B gs t q) : ∃ B', Past Sh B' t := by
  obtain ⟨B', hB⟩ := low_all t
  refine ⟨B', h.ct.nr, fun i a ha hm => ?_, h.over, h.hears, hB⟩
  by_cases hs : Sh a.loc
  · obtain ⟨x, hx, hxa⟩ := touch_of ha
    obtain ⟨h1, h2⟩ := h.ct.quiet i x a hx hxa hs
    cases hk : a.kind with
    | plain => exact absurd hk h1
    | atomic => exact .inr ⟨hs, rfl⟩
    | said =>
      left
      have := knows_own hx
      rwa [h2 hk] at this
  · exact .inl (h.ct.free a.loc hs (fun _ _ _ => ⟨fun h => h, fun h => h⟩) i a ha rfl)

variable [Payload]
/-- Into a phase. -/
theorem phase_in {X : Ph} {Fin Anch : Goroutine → World → Prop} (O : X.Ok) {Sh : Loc → Prop} {B : Nat} {gs : Array Goroutine} {a : Goroutine} {w : World} {sl : Option (Nat × Nat)} {t : Trace} {q : Nat → Nat} (hF : Fr X.P Sh B gs t q) (h0 : gs[0]? = some a)
    (hj : gs.size = X.j0 + 1) (ht : X.t0 = t.size) (hSh : ∀ l, X.ShA l ↔ Sh l ∨ ShN X.Wg l) (hB : B ≤ X.Wg) (hwg : WgAt X.ty X.Wg w 0 0) (hpay : PayF X w) (hs : script X Anch X.n a w) :
    ∃ μ, InvG X Fin Anch μ (crowd gs w sl) t := by
  have fresh : ∀ i x, touchAt t i = some x → ¬ ShN X.Wg x.loc := fun i x hx ⟨ad, e, hb⟩ => by
    have := hF.low i x hx
    rw [e] at this
    have h2 : ad.block < B := this
    omega
  have hcom : Cm X X.j0 gs w t (fun i => ⟨1, q (i + 1), Deaf t (i + 1)⟩) 0 := by
    have hsz : gs.size - 1 = X.j0 := by omega
    have hct := hF.ct
    rw [hsz] at hct
    refine ⟨hj, Nat.le_refl _, Nat.le_add_right _ _, fun i hi => ?_, fun _ _ => rfl, ⟨fun i op x h1 h2 h3 => ?_, fun k _ kj l hl => absurd hl (O.old k kj l).1, fun k _ kj l hl => absurd hl (O.old k kj l).2, fun l hl _ => ?_, fun l hl _ => ?_, hct.nr, hct.gs⟩,
      fun p hp h => ?_, by omega, hF.hears, fun _ _ => rfl, fun i h1 h2 => by omega, fun i h1 h2 => by omega, hpay, fun i g hg hne _ hc => hF.over i g hg hne hc, hF.low.mono (by have := O.lowW; omega), fun i op x h1 h2 h3 => ?_⟩
    · obtain ⟨g, hg⟩ : ∃ g, gs[i + 1]? = some g := ⟨_, Array.getElem?_eq_getElem (by omega)⟩
      exact ⟨g, hg, .quit (hF.leav.old (i + 1) g (by omega) hg)⟩
    · rcases (hSh _).1 h3 with h4 | h4
      · exact hct.quiet i op x h1 h2 h4
      · exact absurd h4 (fresh i x (by rw [touchAt_of h1]; exact h2))
    · exact hct.free l (fun h => hl ((hSh _).2 (.inl h))) fun _ _ _ => ⟨fun h => h, fun h => h⟩
    · exact hct.mine l (fun h => hl ((hSh _).2 (.inl h))) fun _ _ _ h => h
    · have := lt_of_act? h
      omega
    · exact .inl (hct.free x.loc (fun h => h3 ((hSh _).2 (.inl h))) (fun _ _ _ => ⟨fun h => h, fun h => h⟩) i x (by rw [touchAt_of h1]; exact h2) rfl)
  have hV : Vc X.j0 (fun i => (⟨1, q (i + 1), Deaf t (i + 1)⟩ : WD)) = 0 := by
    have h1 : ∀ j, sumTo j (fun i => cnt ((fun i => (⟨1, q (i + 1), Deaf t (i + 1)⟩ : WD)) i)) = 0 := fun j => by
      induction j with
      | zero => rfl
      | succ j ih => simp only [sumTo, ih]; simp [cnt]
    exact h1 _
  have hmode : ∀ tag, isOpen tag → pend tag = 0 → (∀ vs, tag ≠ .w2 vs) → ConcN.Mode X.j0 (fun i => (⟨1, q (i + 1), Deaf t (i + 1)⟩ : WD)) tag 0 0 := fun tag h1 h2 h3 => by
    have := ConcN.Mode.opn (j := X.j0) (D := fun i => (⟨1, q (i + 1), Deaf t (i + 1)⟩ : WD)) h1 (fun i _ => by simp) (fun vs e => absurd e (h3 vs))
    simpa [hV, h2] using this
  have hN : X.N = X.j0 + X.n := rfl
  cases hn : X.n with
  | zero =>
    rw [hn] at hs
    obtain ⟨m, hk⟩ := hs
    have hNj : X.N = X.j0 := by omega
    refine ⟨_, gs, w, sl, fun i => ⟨1, q (i + 1), Deaf t (i + 1)⟩, .kd, m + extra .kd, a, 0, 0, rfl, h0, .on trivial hk, ?_, hwg, ?_, rfl⟩
    · show Cm X X.N gs w t _ 0
      rw [hNj]
      exact hcom
    · show ConcN.Mode X.N _ _ _ _
      rw [hNj]
      exact hmode .kd trivial rfl (by simp)
  | succ r =>
    rw [hn] at hs
    obtain ⟨m, hk⟩ := hs
    have hNj : X.N - (r + 1) = X.j0 := by omega
    refine ⟨_, gs, w, sl, fun i => ⟨1, q (i + 1), Deaf t (i + 1)⟩, .sp r 5, m + extra (.sp r 5), a, 0, 0, rfl, h0, .on (tag := .sp r 5) ⟨by omega, by omega⟩ hk, ?_, hwg, ?_, rfl⟩
    · show Cm X (X.N - (r + 1)) gs w t _ 0
      rw [hNj]
      exact hcom
    · show ConcN.Mode (X.N - (r + 1)) _ _ _ _
      rw [hNj]
      exact hmode (.sp r 5) trivial rfl (by simp)

/-- Out of a phase. -/
theorem phase_out {X : Ph} {Fin : Goroutine → World → Prop} {m : Machine} {t : Trace} (h : joined X Fin m t) :
    ∃ gs a w sl q, m = crowd gs w sl ∧ gs[0]? = some a ∧ Fin a w ∧ gs.size = X.N + 1 ∧ Fr X.P X.ShA X.B gs t q ∧ PayF X w ∧ WgLive X.ty X.Wg w ∧ ∀ i, X.j0 ≤ i → i < X.N → ∀ o, X.lot i o → Has X.C o (X.val o) w := by
  obtain ⟨gs, w, sl, D, a, rfl, h0, hfin, hc, hq, ⟨q, hq1, hq2, hq3, hq4⟩, hlive⟩ := h
  have edge : ∀ k r, X.t0 ≤ r → RelBy (stA X.Wg) t k r → r < q → HappensBefore t r q := fun k r hr0 hr hrq => .single (.inr ⟨.marked hrq (.inr hr.act) hq1 (fun p hp _ => hc.norel p (by omega)), hr.heard, hq3⟩)
  obtain ⟨zq, hzq, hzg⟩ := Option.map_eq_some_iff.1 hq2
  -- what a worker has done that counts
  have done : ∀ i g, t.g? i = some g → X.j0 < g → g ≤ X.N → t.counts i → HappensBefore t i q := by
    intro i g hg h1 h2 hcn
    obtain ⟨r, hr0, hr, hrq⟩ := hq4 (g - 1) (by omega) (by omega)
    rw [show g - 1 + 1 = g by omega] at hr
    have hle : i ≤ r := Nat.le_of_not_lt fun hlt => hr.after i hlt hg hcn
    rcases Nat.lt_or_ge i r with hlt | hge
    · exact .trans (.single (.inl ⟨hlt, g, hg, hr.g⟩)) (edge g r hr0 hr hrq)
    · obtain rfl : i = r := by omega
      exact edge g i hr0 hr hrq
  have hperm : ∀ l, ¬ X.ShA l → Perm t 0 l := fun l hl i a ha e => by
    obtain ⟨op, hop, hoa⟩ := touch_of ha
    rcases hc.src i op a hop hoa (by rw [e]; exact hl) with hk | ⟨hg, hkp, hmem⟩
    · exact hk
    · have hle := hc.ct.gs i op hop
      have hcn : t.counts i := ⟨a, ha, hmem, .inl (by rw [hkp]; simp)⟩
      have hb := done i op.g (by simp [Trace.g?, hop]) hg hle hcn
      exact ⟨q, zq, hzq, hzg, .inr hb⟩
  refine ⟨gs, a, w, sl, fun i => (D (i - 1)).fuel, rfl, h0, hfin, hc.size, ⟨by rw [hc.size]; omega, ?_, fun i g hg hne hcn => ?_, hc.deaf0, hc.low, fun i g hi hg => ?_, fun j hj => ?_⟩, hc.pay, hlive, fun i h1 h2 => hc.has i h1 h2 (by rw [hq i h2]; omega)⟩
  · rw [hc.size, Nat.add_sub_cancel]
    exact ⟨hc.ct.quiet, fun k _ _ l h => h.elim, fun k _ _ l h => h.elim, fun l hl _ => hperm l hl, fun l hl _ => .of (hperm l hl), hc.ct.nr, hc.ct.gs⟩
  · by_cases hj : g ≤ X.j0
    · exact hc.over i g hg hne hj hcn
    · obtain ⟨op, hop, rfl⟩ := Option.map_eq_some_iff.1 hg
      exact ⟨q, hq2, done i op.g hg (by omega) (hc.ct.gs i op hop) hcn⟩
  · have hlt : i < gs.size := (Array.getElem?_eq_some_iff.1 hg).1
    rw [hc.size] at hlt
    obtain ⟨g', hg', hs⟩ := hc.wk (i - 1) (by omega)
    rw [show i - 1 + 1 = i by omega] at hg'
    rw [hg] at hg'
    obtain rfl := Option.some.inj hg'
    rw [hq (i - 1) (by omega)] at hs
    have hd := hc.deafW (i - 1) (by omega)
    rw [show i - 1 + 1 = i by omega] at hd
    rw [hd]
    exact hs.quits
  · rw [hc.size] at hj
    exact Deaf_absent fun p op hp e => by have := hc.ct.gs p op hp; omega

/-- A phase whole. -/
theorem phaseG {X : Ph} {Fin Anch : Goroutine → World → Prop} (O : X.Ok) (hAr : ∀ g w, Anch g w → g.status = .running) (hAn : ∀ g w, Anch g w → thenJ X X.N (w1K X Fin Anch) g w)
    {Sh : Loc → Prop} {B : Nat} {gs : Array Goroutine} {a : Goroutine} {w : World} {sl : Option (Nat × Nat)} {t : Trace} {q : Nat → Nat} (hF : Fr X.P Sh B gs t q) (h0 : gs[0]? = some a)
    (hj : gs.size = X.j0 + 1) (ht : X.t0 = t.size) (hSh : ∀ l, X.ShA l ↔ Sh l ∨ ShN X.Wg l) (hB : B ≤ X.Wg) (hwg : WgAt X.ty X.Wg w 0 0) (hpay : PayF X w) (hs : script X Anch X.n a w) :
    ∃ K gs' a' w' sl' t' q', runNT X.P K (crowd gs w sl) t = (.next (crowd gs' w' sl'), t') ∧ gs'[0]? = some a' ∧ Fin a' w' ∧ gs'.size = X.N + 1 ∧ Fr X.P X.ShA X.B gs' t' q' ∧ PayF X w' ∧ WgLive X.ty X.Wg w' ∧ ∀ i, X.j0 ≤ i → i < X.N → ∀ o, X.lot i o → Has X.C o (X.val o) w' := by
  obtain ⟨μ, hI⟩ := phase_in (Fin := Fin) (sl := sl) O hF h0 hj ht hSh hB hwg hpay hs
  obtain ⟨K, m', t', hr, hjd⟩ := gRun O hAr hAn μ _ _ hI
  obtain ⟨gs', a', w', sl', q', rfl, e1, e2, e3, e4, e5, e6, e7⟩ := phase_out hjd
  exact ⟨K, gs', a', w', sl', t', q', hr, e1, e2, e3, e4, e5, e6, e7⟩
end Go.Proofs.Ytehmobcfbifocaa
