/-
  What a lone goroutine comes to on every tape it comes to beside goroutines that only leave. Nothing of a program.
-/
import Derived.Test.YtehmobcfbifocaaCalm9
namespace Go.Proofs.Ytehmobcfbifocaa
open Go Go.Conc
open Go.ConcN

section
variable {P : Program} {ok : Oper → Bool} {K : FuncId → Bool} {Q : Value → World → Prop}
structure KeptW (v v' : World) : Prop where
  tape : v'.tape = v.tape
  size : v.heap.size ≤ v'.heap.size
  os : v'.os = v.os
  output : v'.output = v.output
theorem KeptW.trans {a b c : World} (h : KeptW a b) (k : KeptW b c) : KeptW a c := ⟨k.tape.trans h.tape, Nat.le_trans h.size k.size, k.os.trans h.os, k.output.trans h.output⟩
/-- Where it stops: back in the caller's frame. -/
def BackAt (c : Nat) (S : Nat → Prop) (b : Frame) (base : List Frame) (Q : Value → World → Prop) (w : World) : BStop := fun c' S' g' w' => c' = c ∧ S' = S ∧ ∃ val v', g' = G (b.finish val) base ∧ Q val v' ∧ Sim S v' w' ∧ KeptW w w'

theorem ends_beside (H : KOk P ok K) {b : Frame} {base : List Frame} {c : Nat} {S : Nat → Prop} {fr : Frame} {fs : List Frame} {v : World} (hE : Ends P Q fr fs v) :
    OkF ok K fr → (∀ f ∈ fs, OkF ok K f) → ∀ w, Sim S v w → BW P c S (G fr (fs ++ b :: base)) w (BackAt c S b base Q w) := by
  induction hE with
  | mk hgood _ ih =>
    rename_i fr fs v hnext
    intro h hfs w hs
    have key : ∀ (M : Nat) (gs : Array Goroutine) (w : World) (sl : Option (Nat × Nat)) (t : Trace) (q : Nat → Nat) (B : Nat), sumTo gs.size q < M → gs[0]? = some (G fr (fs ++ b :: base)) → gs.size ≤ c → B ≤ w.heap.size → Sim S v w → Fr P (ShOf S) B gs t q →
        ∃ (k : Nat) (gs' : Array Goroutine) (g' : Goroutine) (w' : World) (sl' : Option (Nat × Nat)) (t' : Trace) (q' : Nat → Nat) (B' : Nat) (c' : Nat) (Sh' : Nat → Prop),
          runNT P k (crowd gs w sl) t = (.next (crowd gs' w' sl'), t') ∧ gs'[0]? = some g' ∧ gs'.size ≤ c' ∧ B' ≤ w'.heap.size ∧ Fr P (ShOf Sh') B' gs' t' q' ∧ BackAt c S b base Q w c' Sh' g' w' := by
      intro M
      induction M with
      | zero => exact fun gs w sl t q B hM => absurd hM (Nat.not_lt_zero _)
      | succ M ihM =>
        intro gs w sl t q B hM h0 hc hB hs hF
        have haw : ∀ g ∈ gs, awake g := by
          intro g hg
          obtain ⟨i, hi⟩ := Array.mem_iff_getElem?.1 hg
          rcases Nat.eq_zero_or_pos i with rfl | hpos
          · rw [h0] at hi
            obtain rfl := Option.some.inj hi
            exact awake_of (.inl rfl)
          · exact awake_of ((hF.leav.old i _ hpos hi).status.elim .inl fun x => .inr (.inr x))
        obtain ⟨i, g, d, sl', hi, hg, hst⟩ := crowd_pick (P := P) (w := w) (sl := sl) haw ⟨0, _, h0, rfl⟩
        rcases Nat.eq_zero_or_pos i with rfl | hpos
        · obtain rfl : g = G fr (fs ++ b :: base) := by rw [h0] at hi; exact (Option.some.inj hi).symm
          obtain ⟨o, v', es, hs1, hb, hf⟩ := hgood w.tape d
          have hs' : Sim S (v.put w.tape d) (w.at d) := ⟨hs.size, hs.out, hs.sh, hs.os, hs.output⟩
          obtain ⟨w', g1, g2, hok, hev⟩ := fac_sim H h hfs hs1 hs' (fun i q _ => rfl)
          have hk0 : KeptW w w' := ⟨g2.kept.tape, g2.kept.size, g2.kept.os, g2.kept.output⟩
          have hlt : 0 < gs.size := hF.pos
          have hgo := g1 b base
          have hmk : ∀ a', stepG P true (G fr (fs ++ b :: base)) (w.at d) = .go a' w' es →
              runT P (crowd gs (w.at d) sl') 0 = (.next (crowd ((gs.map (woken P (G fr (fs ++ b :: base)) a' w')).setIfInBounds 0 a') w' sl'), MemOp.ofEvents 0 (G fr (fs ++ b :: base)).frame.fn (G fr (fs ++ b :: base)).frame.place es) ∧
              ((gs.map (woken P (G fr (fs ++ b :: base)) a' w')).setIfInBounds 0 a').size = gs.size ∧
              Fr P (ShOf S) w'.heap.size ((gs.map (woken P (G fr (fs ++ b :: base)) a' w')).setIfInBounds 0 a') (t ++ MemOp.ofEvents 0 (G fr (fs ++ b :: base)).frame.fn (G fr (fs ++ b :: base)).frame.place es) q := fun a' he => by
            have hsz : ((gs.map (woken P (G fr (fs ++ b :: base)) a' w')).setIfInBounds 0 a').size = gs.size := by simp
            refine ⟨runT_crowd_go (P := P) (sl := sl') (i := 0) hi (show stepG P (0 == 0) _ (w.at d) = _ from he), hsz, (hF.mono (B' := w'.heap.size) (Nat.le_trans hB hk0.size)).own (fun e hem => by rw [← g2.sim.size]; exact hev e hem) hsz fun j x hj hx => ?_⟩
            rw [get_map_set _ _ _ _ (by omega)] at hx
            obtain ⟨y, hy, rfl⟩ := Option.map_eq_some_iff.1 hx
            rw [woken_quitsD (hF.leav.old j y hj hy)]
            exact hy
          cases o with
          | fall c => exact absurd rfl (hf c)
          | back val =>
            obtain ⟨r1, r2, r3⟩ := hmk _ hgo
            exact ⟨1, _, _, w', sl', _, q, w'.heap.size, c, S, by simp only [runNT, hst, r1], get_map_set_same _ _ _ hlt, by omega, Nat.le_refl _, r3, rfl, rfl, val, v', rfl, hb val rfl, g2.sim, hk0⟩
          | to fr' fs' =>
            obtain ⟨r1, r2, r3⟩ := hmk _ hgo
            obtain ⟨k, gs', g', w'', sl'', t', q', B', c', Sh', e1, e2, e3, e4, e5, e6, e7, val, v'', e8, e9, e10, e11⟩ := ih w.tape d fr' fs' v' es hs1 hok.1 hok.2 w' g2.sim _ sl' _ q w'.heap.size (get_map_set_same _ _ _ hlt) (by omega) (Nat.le_refl _) r3
            exact ⟨k + 1, gs', g', w'', sl'', t', q', B', c', Sh', by simp only [runNT, hst, r1]; exact e1, e2, e3, e4, e5, e6, e7, val, v'', e8, e9, e10, hk0.trans e11⟩
        · have hq := hF.leav.old i g hpos hi
          have hi0 : (i == 0) = false := by simp; omega
          have hlt : i < gs.size := (Array.getElem?_eq_some_iff.1 hi).1
          cases hqi : q i with
          | zero => rw [hqi] at hq; rw [hq.1] at hg; cases hg
          | succ k =>
            rw [hqi] at hq
            rcases hq with ⟨hf, _⟩ | ⟨_, g', es, hm, hstp, hq'⟩
            · rw [hf] at hg; cases hg
            have hr := runT_crowd_go (P := P) (sl := sl') (i := i) hi (by rw [hi0]; exact hstp (w.at d))
            have hsz : ((gs.map (woken P g g' (w.at d))).setIfInBounds i g').size = gs.size := by simp
            have hsum : sumTo gs.size (upd q i k) + (k + 1) = sumTo gs.size q + k := by
              have := sumTo_upd q k id hlt
              simpa [hqi] using this
            obtain ⟨n, gs', a'', w'', sl'', t', q', B', c', Sh', e1, e2, e3, e4, e5, e6, e7, val, v'', e8, e9, e10, e11⟩ := ihM _ (w.at d) sl' _ (upd q i k) B (by rw [hsz]; omega)
              (by rw [get_map_set _ _ _ _ (by omega), h0]; simp [woken_run (show (G fr (fs ++ b :: base)).status = .running from rfl)]) (by omega) hB ⟨hs.size, hs.out, hs.sh, hs.os, hs.output⟩
              (hF.slip (fn := g.frame.fn) (pos := g.frame.place) hpos hlt hm hq' hsz (get_map_set_same _ _ _ hlt) fun j x hj hji hx => by
                rw [get_map_set _ _ _ _ (fun e => hji e.symm)] at hx
                obtain ⟨y, hy, rfl⟩ := Option.map_eq_some_iff.1 hx
                rw [woken_quitsD (hF.leav.old j y hj hy)]
                exact hy)
            exact ⟨n + 1, gs', a'', w'', sl'', t', q', B', c', Sh', by simp only [runNT, hst, hr]; exact e1, e2, e3, e4, e5, e6, e7, val, v'', e8, e9, e10, ⟨e11.tape, e11.size, e11.os, e11.output⟩⟩
    exact fun gs sl t q B h0 hc hB hF => key _ gs w sl t q B (Nat.lt_succ_self _) h0 hc hB hs hF
end
end Go.Proofs.Ytehmobcfbifocaa
