/-
  Workers under one group, beside goroutines that only leave: what holds of the machine and the trace at every moment, and how a step of a worker's, of the starter's, and a go statement keep it. Nothing of a program.
-/
import Derived.Test.YtehmobcfbifocaaGang1
namespace Go.Proofs.Ytehmobcfbifocaa
open Go Go.Conc Go.ConcN
open Go.ConcR (KK wgBlock WgAt stA smA rd wr mk Payload Aside2 DC0 Bk g_of_ofEvents loc_of_ofEvent)
variable [Payload]

/-- What goroutines of before have done is handed over. -/
def overOld (j0 : Nat) (t : Trace) : Prop := ∀ i g, t.g? i = some g → g ≠ 0 → g ≤ j0 → t.counts i → ∃ q, t.g? q = some 0 ∧ HappensBefore t i q
def lowT (B : Nat) (t : Trace) : Prop := ∀ i a, touchAt t i = some a → a.loc.low B
def noRel (a : Addr) (t0 : Nat) (t : Trace) : Prop := ∀ q, t0 ≤ q → t.act? q ≠ some (.mark (.release a))

/-- Every touch of an ordinary place is known to goroutine 0, or was made plainly by a worker. -/
def srcT (Sh : Loc → Prop) (j0 : Nat) (t : Trace) : Prop := ∀ (i : Nat) (op : MemOp) (x : Touch), t[i]? = some op → op.act.touch? = some x → ¬ Sh x.loc → Knows t 0 i ∨ (j0 < op.g ∧ x.kind = .plain ∧ x.loc.isMemory = true)

structure Cm (X : Ph) (J : Nat) (gs : Array Goroutine) (w : World) (t : Trace) (D : Nat → WD) (d0 : Nat) : Prop where
  size : gs.size = J + 1
  ge : X.j0 ≤ J
  le : J ≤ X.N
  wk : ∀ i, i < J → ∃ g, gs[i + 1]? = some g ∧ GS X i (D i).stage (D i).fuel (D i).deaf g w
  old : ∀ i, i < X.j0 → (D i).stage = 1
  ct : CT X.ShA X.Own X.Rd t J
  norel : noRel (stA X.Wg) X.t0 t
  t0 : X.t0 ≤ t.size
  deaf0 : Deaf t 0 = d0
  deafW : ∀ i, i < J → Deaf t (i + 1) = (D i).deaf
  rel : ∀ i, X.j0 ≤ i → i < J → (D i).stage ≤ 6 → ∃ r, X.t0 ≤ r ∧ RelBy (stA X.Wg) t (i + 1) r
  has : ∀ i, X.j0 ≤ i → i < J → (D i).stage ≤ 6 → ∀ o, X.lot i o → Has X.C o (X.val o) w
  pay : PayF X w
  over : overOld X.j0 t
  low : lowT X.B t
  src : srcT X.ShA X.j0 t

section
omit [Payload]
theorem noRel.app {a : Addr} {t0 : Nat} {t u : Trace} (h : noRel a t0 t) (hu : ∀ op ∈ u, op.act ≠ .mark (.release a)) : noRel a t0 (t ++ u) := by
  intro q hq hi
  obtain ⟨op, ho, hoa⟩ := Option.map_eq_some_iff.1 hi
  rcases getElem?_append_cases ho with ⟨_, ho'⟩ | ⟨_, hou⟩
  · exact h q hq (by rw [act?_of ho', hoa])
  · exact hu op hou hoa
theorem lowT.app {B : Nat} {t u : Trace} (h : lowT B t) (hu : ∀ op ∈ u, ∀ a, op.act.touch? = some a → a.loc.low B) : lowT B (t ++ u) := by
  intro i a ha
  obtain ⟨x, hx, hxa⟩ := touch_of ha
  rcases getElem?_append_cases hx with ⟨_, hx'⟩ | ⟨_, hxu⟩
  · exact h i a (by rw [touchAt_of hx']; exact hxa)
  · exact hu x hxu a hxa
theorem srcT.app {Sh : Loc → Prop} {j0 : Nat} {t u : Trace} (h : srcT Sh j0 t) (hu : ∀ op ∈ u, ∀ x, op.act.touch? = some x → ¬ Sh x.loc → op.g = 0 ∨ (j0 < op.g ∧ x.kind = .plain ∧ x.loc.isMemory = true)) : srcT Sh j0 (t ++ u) := by
  intro i op x hi hx hs
  rcases getElem?_append_cases hi with ⟨_, hi'⟩ | ⟨_, hiu⟩
  · exact (h i op x hi' hx hs).imp (·.app u) id
  · rcases hu op hiu x hx hs with h0 | h0
    · have := knows_own hi
      rw [h0] at this
      exact .inl this
    · exact .inr h0
theorem lowT.mono {B B' : Nat} {t : Trace} (h : lowT B t) (hB : B ≤ B') : lowT B' t := fun i a ha => Loc.low_mono hB (h i a ha)
theorem overOld.app {j0 : Nat} {t u : Trace} (h : overOld j0 t) (hu : ∀ op ∈ u, op.g = 0 ∨ j0 < op.g ∨ op.act.touch? = none) : overOld j0 (t ++ u) := by
  intro i g hg hne hle hc
  obtain ⟨x, hx, hxk⟩ := hc
  obtain ⟨op, hop, hox⟩ := touch_of hx
  rcases getElem?_append_cases hop with ⟨hi, hop'⟩ | ⟨_, hopu⟩
  · obtain ⟨j, hj, hb⟩ := h i g (by simpa [Trace.g?, getElem?_append_old hi] using hg) hne hle ((counts_old hi).1 ⟨x, hx, hxk⟩)
    have hjl : j < t.size := by
      unfold Trace.g? at hj
      obtain ⟨z, hz, _⟩ := Option.map_eq_some_iff.1 hj
      exact lt_size_of_getElem? hz
    exact ⟨j, by simpa [Trace.g?, getElem?_append_old hjl] using hj, hb_app u hb⟩
  · have hog : op.g = g := by simpa [Trace.g?, hop] using hg
    rcases hu op hopu with h0 | h0 | h0
    · omega
    · omega
    · rw [h0] at hox; cases hox
/-- The library's bookkeeping touches the group's cells alone. -/
theorem low_of_Bk {Wg B g : Nat} {fn : FuncId} {pos : String} {es : Array Event} (hW : Wg < B) (h : ∀ e ∈ es, Bk Wg e) : ∀ op ∈ MemOp.ofEvents g fn pos es, ∀ a, op.act.touch? = some a → a.loc.low B := by
  intro op hop x hx
  rw [ofEvents_eq] at hop
  obtain ⟨e, he, rfl⟩ := Array.mem_map.1 hop
  rcases h e he with h1 | h1 | ⟨a, wr, rfl, ha⟩
  · simp only [Go.ConcR.ofEvent_loc_mark h1] at hx; cases hx
  · simp only [Go.ConcR.ofEvent_loc_mark h1] at hx; cases hx
  · simp only [Go.ConcR.ofEvent_cell, MemAct.touch?, Option.some.injEq] at hx
    subst hx
    show a.block < B
    omega
theorem low_none {B g : Nat} {fn : FuncId} {pos : String} {es : Array Event} (h : ∀ e ∈ es, (MemAct.ofEvent e).touch? = none) : ∀ op ∈ MemOp.ofEvents g fn pos es, ∀ a, op.act.touch? = some a → a.loc.low B := by
  intro op hop x hx
  rw [ofEvents_eq] at hop
  obtain ⟨e, he, rfl⟩ := Array.mem_map.1 hop
  rw [h e he] at hx
  cases hx
end

section
variable {X : Ph} {J : Nat} {gs : Array Goroutine} {w w' : World} {t : Trace} {D : Nat → WD} {d0 : Nat}
omit [Payload] in
theorem okW_sub (O : X.Ok) {k : Nat} {op : MemOp} (h : OkW (ShN X.Wg) X.Own X.Rd k op) : OkW X.ShA X.Own X.Rd k op :=
  ⟨h.1, fun x hx => (h.2 x hx).imp (fun y => ⟨O.sh _ y.1, y.2⟩) id⟩
omit [Payload] in
/-- What the starter's idle steps list. -/
theorem ok0_sub (O : X.Ok) {op : MemOp} (h : Ok0 (ShN X.Wg) (ownX X) (rdX X) (J + 1) op) : Ok0 X.ShA X.Own X.Rd J op ∧ ∀ x, op.act.touch? = some x → x.loc.low X.B := by
  refine ⟨⟨h.1, fun x hx => ?_⟩, fun x hx => ?_⟩
  · rcases h.2 x hx with ⟨hs, hk⟩ | ⟨hn, ho, hr⟩
    · exact .inl ⟨O.sh _ hs, hk⟩
    · have hb : ¬ X.Bad x.loc := ho 1 (Nat.le_refl _) (by omega)
      refine .inr ⟨fun hA => hb (O.bad _ hA hn), fun k k1 kJ hk => ?_, fun hw k k1 kJ hk => ?_⟩
      · obtain ⟨k', rfl⟩ : ∃ k', k = k' + 1 := ⟨k - 1, by omega⟩
        exact ho (k' + 2) (by omega) (by omega) hk
      · obtain ⟨k', rfl⟩ : ∃ k', k = k' + 1 := ⟨k - 1, by omega⟩
        exact hr hw (k' + 2) (by omega) (by omega) hk
  · rcases h.2 x hx with ⟨⟨a, ha, hb⟩, _⟩ | ⟨_, ho, _⟩
    · rw [ha]
      show a.block < X.B
      have := O.lowW
      omega
    · exact O.lowB _ (ho 1 (Nat.le_refl _) (by omega))
omit [Payload] in
theorem lowW_of (O : X.Ok) {k : Nat} {op : MemOp} (h : OkW (ShN X.Wg) X.Own X.Rd k op) : ∀ x, op.act.touch? = some x → x.loc.low X.B := by
  intro x hx
  rcases h.2 x hx with ⟨⟨a, ha, hb⟩, _⟩ | ho | ⟨hr, _⟩
  · rw [ha]
    show a.block < X.B
    have := O.lowW
    omega
  · exact O.lowO _ _ ho
  · exact O.lowR _ _ hr

theorem Cm.at (O : X.Ok) (h : Cm X J gs w t D d0) (d : Nat) : Cm X J gs (w.at d) t D d0 :=
  { h with wk := fun i hi => let ⟨g, hg, hs⟩ := h.wk i hi; ⟨g, hg, hs.rely O (by have := h.le; omega) (RL.at w d)⟩ }

/-- A step of worker i. -/
theorem Cm.stepW (O : X.Ok) (h : Cm X J gs w t D d0) {i : Nat} (hi : i < J) {g g' : Goroutine} {fn : FuncId} {pos : String} {es : Array Event} {s' m' dd' : Nat}
    (hrl : ∀ i', X.j0 ≤ i' → i' < J → i' ≠ i → RL X i' w w')
    (hs' : GS X i s' m' dd' g' w')
    (hok : ∀ op ∈ MemOp.ofEvents (i + 1) fn pos es, OkW (ShN X.Wg) X.Own X.Rd (i + 1) op) (hnr : ∀ e ∈ es, e.loc ≠ .mark (.release (stA X.Wg)))
    (hdeaf : deafBehind (D i).deaf es = dd')
    (hold : i < X.j0 → s' = 1 ∧ ∀ e ∈ es, (MemAct.ofEvent e).touch? = none)
    (hpl : ∀ e ∈ es, ∀ x, (MemAct.ofEvent e).touch? = some x → ¬ X.ShA x.loc → x.kind = .plain ∧ x.loc.isMemory = true)
    (hrel : X.j0 ≤ i → s' ≤ 6 → ∃ r, X.t0 ≤ r ∧ RelBy (stA X.Wg) (t ++ MemOp.ofEvents (i + 1) fn pos es) (i + 1) r)
    (hhas : X.j0 ≤ i → s' ≤ 6 → ∀ o, X.lot i o → Has X.C o (X.val o) w') (hpay : PayF X w') :
    Cm X J ((gs.map (woken X.P g g' w')).setIfInBounds (i + 1) g') w' (t ++ MemOp.ofEvents (i + 1) fn pos es) (upd D i ⟨s', m', dd'⟩) d0 := by
  have hJN := h.le
  refine ⟨by simp [h.size], h.ge, h.le, fun i' hi' => ?_, fun i' hi' => ?_, h.ct.appW O.apart (by omega) (by omega) (fun op hop => okW_sub O (hok op hop)), h.norel.app (norel_of hnr), by have := h.t0; simp; omega,
    by rw [Deaf_other t (by omega) _ g_of_ofEvents, h.deaf0], fun i' hi' => ?_, fun i' hj hi' hst => ?_, fun i' hj hi' hst => ?_, hpay, h.over.app fun op hop => ?_, h.low.app fun op hop => lowW_of O (hok op hop), h.src.app fun op hop x hx hs => ?_⟩
  · by_cases e : i' = i
    · subst e
      exact ⟨g', get_map_set_same _ _ _ (by rw [h.size]; omega), by rw [upd_same]; exact hs'⟩
    · obtain ⟨x, hx, hsx⟩ := h.wk i' hi'
      refine ⟨x, by rw [get_map_set _ _ _ _ (by omega), hx, Option.map_some, hsx.woken], ?_⟩
      rw [upd_ne D _ e]
      by_cases hj : X.j0 ≤ i'
      · exact hsx.rely O (by omega) (hrl i' hj hi' e)
      · have h1 := h.old i' (by omega)
        rw [h1] at hsx ⊢
        exact .quit hsx.quits
  · by_cases e : i' = i
    · subst e; rw [upd_same]; exact (hold hi').1
    · rw [upd_ne D _ e]; exact h.old i' hi'
  · by_cases e : i' = i
    · subst e; rw [Deaf_own, h.deafW i' hi', upd_same]; exact hdeaf
    · rw [Deaf_other t (by omega) _ g_of_ofEvents, h.deafW i' hi', upd_ne D _ e]
  · by_cases e : i' = i
    · subst e; rw [upd_same] at hst; exact hrel hj hst
    · rw [upd_ne D _ e] at hst
      obtain ⟨r, hr0, hr⟩ := h.rel i' hj hi' hst
      exact ⟨r, hr0, hr.appOther g_of_ofEvents (by omega)⟩
  · by_cases e : i' = i
    · subst e; rw [upd_same] at hst; exact hhas hj hst
    · rw [upd_ne D _ e] at hst
      exact fun o ho => ((hrl i' hj hi' e).cells o ho).trans (h.has i' hj hi' hst o ho)
  · have hg := g_of_ofEvents op hop
    by_cases hj : i < X.j0
    · rw [ofEvents_eq] at hop
      obtain ⟨e, he, rfl⟩ := Array.mem_map.1 hop
      exact .inr (.inr ((hold hj).2 e he))
    · exact .inr (.inl (by omega))
  · have hg := g_of_ofEvents op hop
    rw [ofEvents_eq] at hop
    obtain ⟨e, he, rfl⟩ := Array.mem_map.1 hop
    by_cases hj : i < X.j0
    · rw [(hold hj).2 e he] at hx; cases hx
    · exact .inr ⟨by simp only; omega, hpl e he x hx hs⟩

/-- A step of the starter's. -/
theorem Cm.step0 (O : X.Ok) (h : Cm X J gs w t D d0) {a a' : Goroutine} {fn : FuncId} {pos : String} {es : Array Event}
    (hrl : ∀ i, X.j0 ≤ i → i < J → RL X i w w')
    (hok : ∀ op ∈ MemOp.ofEvents 0 fn pos es, Ok0 X.ShA X.Own X.Rd J op) (hlow : ∀ op ∈ MemOp.ofEvents 0 fn pos es, ∀ x, op.act.touch? = some x → x.loc.low X.B) (hnr : ∀ e ∈ es, e.loc ≠ .mark (.release (stA X.Wg))) (hpay : PayF X w') :
    Cm X J ((gs.map (woken X.P a a' w')).setIfInBounds 0 a') w' (t ++ MemOp.ofEvents 0 fn pos es) D (deafBehind d0 es) := by
  have hJN := h.le
  refine ⟨by simp [h.size], h.ge, h.le, fun i hi => ?_, h.old, h.ct.app0 O.apart hok, h.norel.app (norel_of hnr), by have := h.t0; simp; omega, by rw [Deaf_own, h.deaf0], fun i hi => by rw [Deaf_other t (by omega) _ g_of_ofEvents, h.deafW i hi],
    fun i hj hi hst => ?_, fun i hj hi hst o ho => ((hrl i hj hi).cells o ho).trans (h.has i hj hi hst o ho), hpay, h.over.app fun op hop => .inl (g_of_ofEvents op hop), h.low.app hlow, h.src.app fun op hop _ _ _ => .inl (g_of_ofEvents op hop)⟩
  · obtain ⟨x, hx, hsx⟩ := h.wk i hi
    refine ⟨x, by rw [get_map_set _ _ _ _ (by omega), hx, Option.map_some, hsx.woken], ?_⟩
    by_cases hj : X.j0 ≤ i
    · exact hsx.rely O (by omega) (hrl i hj hi)
    · have h1 := h.old i (by omega)
      rw [h1] at hsx ⊢
      exact .quit hsx.quits
  · obtain ⟨r, hr0, hr⟩ := h.rel i hj hi hst
    exact ⟨r, hr0, hr.appOther g_of_ofEvents (by omega)⟩

/-- The go statement. -/
theorem Cm.spawn (O : X.Ok) (h : Cm X J gs w t D 0) (hJ : J < X.N) {a' child : Goroutine} {x y : MemOp} {m : Nat} (hx : x.g = 0 ∧ x.act = .go (J + 1)) (hy : y.g = J + 1 ∧ y.act = .start)
    (hc : Goes X.P false (RL X J) (DL X J) (atRel X J) m child w) :
    Cm X (J + 1) ((gs.setIfInBounds 0 a').push child) w (t ++ #[x, y]) (upd D J ⟨7, m, 0⟩) 0 := by
  have hm : ∀ op ∈ #[x, y], op = x ∨ op = y := by intro op hop; simpa using hop
  have hnt : ∀ op ∈ #[x, y], op.act.touch? = none := by
    intro op hop
    rcases hm op hop with rfl | rfl
    · rw [hx.2]; rfl
    · rw [hy.2]; rfl
  have hst : ∀ op ∈ #[x, y], op.act ≠ .mark .disable ∧ op.act ≠ .mark .enable := by
    intro op hop
    rcases hm op hop with rfl | rfl
    · rw [hx.2]; exact ⟨by simp, by simp⟩
    · rw [hy.2]; exact ⟨by simp, by simp⟩
  have hge := h.ge
  refine ⟨by simp [h.size], by omega, by omega, fun i hi => ?_, fun i hi => by rw [upd_ne D _ (by omega)]; exact h.old i hi, h.ct.fork O.apart hx hy h.deaf0, h.norel.app fun op hop => ?_, by have := h.t0; simp; omega,
    by rw [Deaf_still t 0 _ hst, h.deaf0], fun i hi => ?_, fun i hj hi hs => ?_, fun i hj hi hs => ?_, h.pay, h.over.app fun op hop => .inr (.inr (hnt op hop)), h.low.app (fun op hop a ha => by rw [hnt op hop] at ha; cases ha), h.src.app fun op hop a ha => by rw [hnt op hop] at ha; cases ha⟩
  · rcases Nat.lt_or_ge i J with hlt | hge'
    · obtain ⟨g, hg, hsg⟩ := h.wk i hlt
      refine ⟨g, ?_, by rw [upd_ne D _ (by omega)]; exact hsg⟩
      rw [Array.getElem?_push_lt (by simp [h.size]; omega), ← Array.getElem?_eq_getElem, Array.getElem?_setIfInBounds_ne (by omega)]
      exact hg
    · obtain rfl : i = J := by omega
      refine ⟨child, ?_, by rw [upd_same]; exact .work hge hc⟩
      rw [show i + 1 = (gs.setIfInBounds 0 a').size by simp [h.size], Array.getElem?_push_size]
  · rcases hm op hop with rfl | rfl
    · rw [hx.2]; simp
    · rw [hy.2]; simp
  · rw [Deaf_still t _ _ hst]
    rcases Nat.lt_or_ge i J with hlt | hge'
    · rw [h.deafW i hlt, upd_ne D _ (by omega)]
    · obtain rfl : i = J := by omega
      rw [upd_same]
      exact Deaf_absent fun a op ha e => by have := h.ct.gs a op ha; omega
  · rcases Nat.lt_or_ge i J with hlt | hge'
    · rw [upd_ne D _ (by omega)] at hs
      obtain ⟨r, hr0, hr⟩ := h.rel i hj hlt hs
      refine ⟨r, hr0, hr.appNot fun op hop => ?_⟩
      rcases hm op hop with rfl | rfl
      · rw [hx.1]; omega
      · rw [hy.1]; omega
    · obtain rfl : i = J := by omega
      rw [upd_same] at hs
      simp at hs
  · rcases Nat.lt_or_ge i J with hlt | hge'
    · rw [upd_ne D _ (by omega)] at hs
      exact h.has i hj hlt hs
    · obtain rfl : i = J := by omega
      rw [upd_same] at hs
      simp at hs
end
end Go.Proofs.Ytehmobcfbifocaa
