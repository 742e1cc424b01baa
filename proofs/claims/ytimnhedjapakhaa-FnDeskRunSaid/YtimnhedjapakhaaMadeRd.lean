/-
  A drawn region that moves a reader on, makes a desk by a call, takes it out of the call's pair, and stores it in a new variable.
-/
import Derived.Test.YtimnhedjapakhaaRegMadeP
import Derived.Test.YtimnhedjapakhaaRegRd
namespace Go.Proofs.Ytimnhedjapakhaa
open Go Go.RowKit

theorem below_grownAt {W W' : World} (h : Below W.heap.size W W') (row : Option Nat) : W.grownBy W' row := ⟨h.os, h.tape, h.output, h.size, fun k hk _ => h.block k hk⟩
/-- What is known of the operations' values: from the c-th on, ahead of the store and behind it. -/
def MadeR0 (c b0 : Nat) (Zp : Value → Prop) (R : World → Value → Prop) (pre : Nat → Value → World → Prop) (i : Nat) (v : Value) (V : World) : Prop :=
  (i < c → pre i v V) ∧ (i = c ∨ i = c + 1 → ∃ a1 n1 c1 a2 n2 c2 z, v = .tuple #[.agg #[.slice a1 n1 c1, .slice a2 n2 c2], z] ∧ Zp z ∧ R V (.agg #[.slice a1 n1 c1, .slice a2 n2 c2])) ∧
  (i = c + 2 → ∃ a1 n1 c1 a2 n2 c2, v = .agg #[.slice a1 n1 c1, .slice a2 n2 c2] ∧ R V (.agg #[.slice a1 n1 c1, .slice a2 n2 c2])) ∧ (i = c + 3 → Zp v) ∧
  (i = c + 4 → ∃ b, v = .pointer (some ⟨b, 0, none⟩) ∧ b0 ≤ b ∧ V.heap[b]? = some (.cells #[.slice none 0 0, .slice none 0 0] 26 (0, 0)))
def MadeR1 (c b0 : Nat) (Zp : Value → Prop) (R : World → Value → Prop) (i : Nat) (v : Value) (V : World) : Prop :=
  (i = c + 1 → ∃ x z, v = .tuple #[x, z] ∧ Zp z) ∧ (i = c + 3 → Zp v) ∧
  (i = c + 4 → ∃ b, v = .pointer (some ⟨b, 0, none⟩) ∧ b0 ≤ b ∧ ∃ a1 n1 c1 a2 n2 c2, V.heap[b]? = some (.cells #[.slice a1 n1 c1, .slice a2 n2 c2] 26 (0, 0)) ∧ R V (.agg #[.slice a1 n1 c1, .slice a2 n2 c2]))
theorem wpIn_region_madeR {F : Fence} {n : Nat} {id : Nat} {ops : Array Oper} {Q : Exit → Act → World → Prop} {a : Act} {W : World} (W0 : World) (Rr len cap p : Nat) (ad : Option Addr) (K jc : Nat) (c : Nat) (L : List (Option Tmp × Nat)) (Zp : Value → Prop) (R : World → Value → Prop)
    (hm : Try.prog.follows .mixedOrders = true) (hb : backB ops = true) (ht : tailB ops (c + 6) = true) (hsz : c + 6 < ops.size)
    (hdep : (depB ops (c + 1) c && depB ops (c + 2) (c + 1) && depB ops (c + 3) (c + 1) && depB ops (c + 5) (c + 2) && depB ops (c + 5) (c + 4)) = true)
    (hnd : ((List.range (c + 5)).all fun i => (i == c + 3) || needs ops (c + 5) ops.size i) = true)
    (hL : dstsOf ops (c + 6) = L) (hok : okPuts L = true) (hjc : jc < c) (hRd : Rd W0 Rr ad len cap W p) (pre : Nat → Value → World → Prop) (hpre : ∀ k v V V', pre k v V → V.grownBy V' (some Rr) → pre k v V')
    (hRb : ∀ V V' q y, R V y → Rd W0 Rr ad len cap V q → V.grownBy V' (some Rr) → R V' y)
    (hRs : ∀ V b a1 n1 c1 a2 n2 c2, R V (.agg #[.slice a1 n1 c1, .slice a2 n2 c2]) → W.heap.size ≤ b → V.heap[b]? = some (.cells #[.slice none 0 0, .slice none 0 0] 26 (0, 0)) → R ((V.setCell ⟨b, 0, none⟩ (.slice a1 n1 c1)).setCell ⟨b, 1, none⟩ (.slice a2 n2 c2)) (.agg #[.slice a1 n1 c1, .slice a2 n2 c2]))
    (hstep : ∀ i o s V q, i < c → ops[i]? = some o → Rd W0 Rr ad len cap V q → (i = jc → q = p) → W.grownBy V (some Rr) → (∀ k, k < c → depB ops i k = true → pre k (s k) V) → ∀ Q' : Exit → Act → World → Prop,
      (∀ v V' q', Rd W0 Rr ad len cap V' q' → (i ≠ jc → q' = q) → q' ≤ q + K → V.grownBy V' (some Rr) → pre i v V' → Q' .normal ((putsOf L a s).put o.dst v) V') → wpListIn F n Try.prog ops Q' [o] (putsOf L a s) V)
    (hcall : ∀ o s V q, ops[c]? = some o → Rd W0 Rr ad len cap V q → W.grownBy V (some Rr) → (∀ k, k < c → depB ops c k = true → pre k (s k) V) → ∀ Q' : Exit → Act → World → Prop,
      (∀ a1 n1 c1 a2 n2 c2 z V', Below V.heap.size V V' → Zp z → R V' (.agg #[.slice a1 n1 c1, .slice a2 n2 c2]) → Q' .normal ((putsOf L a s).put o.dst (.tuple #[.agg #[.slice a1 n1 c1, .slice a2 n2 c2], z])) V') → wpListIn F n Try.prog ops Q' [o] (putsOf L a s) V)
    (hmove : ∀ o s V y (Q' : Exit → Act → World → Prop), ops[c + 1]? = some o → s c = y → Q' .normal ((putsOf L a s).put o.dst y) V → wpListIn F n Try.prog ops Q' [o] (putsOf L a s) V)
    (hext0 : ∀ o s V x z (Q' : Exit → Act → World → Prop), ops[c + 2]? = some o → s (c + 1) = .tuple #[x, z] → Q' .normal ((putsOf L a s).put o.dst x) V → wpListIn F n Try.prog ops Q' [o] (putsOf L a s) V)
    (hext1 : ∀ o s V x z (Q' : Exit → Act → World → Prop), ops[c + 3]? = some o → s (c + 1) = .tuple #[x, z] → Q' .normal ((putsOf L a s).put o.dst z) V → wpListIn F n Try.prog ops Q' [o] (putsOf L a s) V)
    (halloc : ∀ o s V (Q' : Exit → Act → World → Prop), ops[c + 4]? = some o → Q' .normal ((putsOf L a s).put o.dst (.pointer (some ⟨V.heap.size, 0, none⟩))) (V.alloc (.cells #[.slice none 0 0, .slice none 0 0] 26)) → wpListIn F n Try.prog ops Q' [o] (putsOf L a s) V)
    (hstore : ∀ o s V b a1 n1 c1 a2 n2 c2 (Q' : Exit → Act → World → Prop), ops[c + 5]? = some o → s (c + 4) = .pointer (some ⟨b, 0, none⟩) → s (c + 2) = .agg #[.slice a1 n1 c1, .slice a2 n2 c2] → V.heap[b]? = some (.cells #[.slice none 0 0, .slice none 0 0] 26 (0, 0)) →
      Q' .normal ((putsOf L a s).put o.dst undef) ((V.setCell ⟨b, 0, none⟩ (.slice a1 n1 c1)).setCell ⟨b, 1, none⟩ (.slice a2 n2 c2)) → wpListIn F n Try.prog ops Q' [o] (putsOf L a s) V)
    (htail : ∀ s V b a1 n1 c1 a2 n2 c2 q z, q ≤ p + K → Rd W0 Rr ad len cap V q → W.grownBy V (some Rr) → s (c + 4) = .pointer (some ⟨b, 0, none⟩) → W.heap.size ≤ b → V.heap[b]? = some (.cells #[.slice a1 n1 c1, .slice a2 n2 c2] 26 (0, 0)) → R V (.agg #[.slice a1 n1 c1, .slice a2 n2 c2]) → s (c + 3) = z → Zp z → wpListIn F n Try.prog ops Q (ops.toList.drop (c + 6)) (putsOf L a s) V) : (Code.region id ops true).wpIn F n Try.prog Q a W := by
  simp only [Bool.and_eq_true] at hdep
  obtain ⟨⟨⟨⟨d1, d2⟩, d3⟩, d4⟩, d5⟩ := hdep
  have hRW := (Array.getElem?_eq_some_iff.1 hRd.2.2).1
  have hW0 := hRd.2.1
  refine wpIn_region_storeL (c + 5) (c + 6) hm hb ht (by omega) hsz (putsOf L a) (fun Ls V => W.grownBy V (some Rr) ∧ ∃ q, Rd W0 Rr ad len cap V q ∧ (Ls jc = false → q = p) ∧ q ≤ p + K) (fun V V' => V.grownBy V' (some Rr) ∧ ∃ q, Rd W0 Rr ad len cap V q)
    (fun ph k v V => (ph = false → MadeR0 c W.heap.size Zp R pre k v V) ∧ (ph = true → MadeR1 c W.heap.size Zp R k v V)) (puts_self a L hok) (puts_of hL hok) ⟨grownBy_drew (grownBy_refl _ _), p, hRd.drew, fun _ => rfl, by omega⟩ ?mono ?step ?mid ?tail
  case mono =>
    rintro ph k v V V' ⟨h1, h2⟩ ⟨hg, q, hq⟩
    have hbx : ∀ b, W.heap.size ≤ b → (some b : Option Nat) ≠ some Rr := fun b hb e => by injection e with e; omega
    refine ⟨fun e => ?_, fun e => ?_⟩
    · obtain ⟨f1, f2, f3, f4, f5⟩ := h1 e
      refine ⟨fun e => hpre _ _ _ _ (f1 e) hg, fun e => ?_, fun e => ?_, f4, fun e => ?_⟩
      · obtain ⟨a1, n1, c1, a2, n2, c2, z, g1, gz, g2⟩ := f2 e
        exact ⟨a1, n1, c1, a2, n2, c2, z, g1, gz, hRb _ _ _ _ g2 hq hg⟩
      · obtain ⟨a1, n1, c1, a2, n2, c2, g1, g2⟩ := f3 e
        exact ⟨a1, n1, c1, a2, n2, c2, g1, hRb _ _ _ _ g2 hq hg⟩
      · obtain ⟨b, g1, g2, g3⟩ := f5 e
        exact ⟨b, g1, g2, (hg.block _ (Array.getElem?_eq_some_iff.1 g3).1 (hbx b g2)).trans g3⟩
    · obtain ⟨f1, f2, f3⟩ := h2 e
      refine ⟨f1, f2, fun e => ?_⟩
      obtain ⟨b, g1, g2, a1, n1, c1, a2, n2, c2, g3, g4⟩ := f3 e
      exact ⟨b, g1, g2, a1, n1, c1, a2, n2, c2, (hg.block _ (Array.getElem?_eq_some_iff.1 g3).1 (hbx b g2)).trans g3, hRb _ _ _ _ g4 hq hg⟩
  case step =>
    intro Ls i o s V hi hip hLi hnp ho hV hd Q' hQ'
    obtain ⟨hgV, q, hRV, hq0, hqK⟩ := hV
    have hLj : i ≠ jc → (if jc = i then true else Ls jc) = false → q = p := fun e h => by
      rw [if_neg (fun h => e h.symm)] at h
      exact hq0 h
    by_cases e3 : i = c + 3
    · subst e3
      have hx : ∃ x z, s (c + 1) = .tuple #[x, z] ∧ Zp z := by
        cases hph : Ls (c + 5) with
        | false => rw [hph] at hd; obtain ⟨a1, n1, c1, a2, n2, c2, z, g1, gz, _⟩ := ((hd _ d3).1 rfl).2.1 (.inr rfl); exact ⟨_, z, g1, gz⟩
        | true => rw [hph] at hd; exact ((hd _ d3).2 rfl).1 rfl
      obtain ⟨x, z, hx, hz⟩ := hx
      refine hext1 o s V x z Q' ho hx (hQ' _ _ ⟨hgV, q, hRV, hLj (by omega), hqK⟩ ⟨grownBy_refl _ _, q, hRV⟩ ⟨fun _ => ⟨fun e => by omega, fun e => by omega, fun e => by omega, fun _ => hz, fun e => by omega⟩, fun _ => ⟨fun e => by omega, fun _ => hz, fun e => by omega⟩⟩)
    · have hph : Ls (c + 5) = false := by
        cases hph : Ls (c + 5) with
        | false => rfl
        | true =>
          have h1 := hnp hph
          have h2 := List.all_eq_true.1 hnd i (List.mem_range.2 (by omega))
          rw [h1] at h2
          simp at h2
          exact absurd h2 e3
      rw [hph] at hd hQ'
      have hd0 := fun k hk => (hd k hk).1 rfl
      have hq : ∀ v V', Below V.heap.size V V' → i ≠ jc → MadeR0 c W.heap.size Zp R pre i v V' → Q' .normal ((putsOf L a s).put o.dst v) V' := fun v V' h1 hj h2 =>
        hQ' v V' ⟨hgV.trans (below_grownAt h1 _), q, hRV.kept (below_grownAt h1 none) (by simp) (fun _ e => by cases e), hLj hj, hqK⟩ ⟨below_grownAt h1 _, q, hRV⟩ ⟨fun _ => h2, fun e => by cases e⟩
      by_cases ec : i < c
      · refine hstep i o s V q ec ho hRV (fun e => hq0 (by rw [← e]; exact hLi)) hgV (fun k hk hdk => (hd0 k hdk).1 hk) Q' (fun v V' q' h1 h2 h3 h4 h5 => hQ' v V' ⟨hgV.trans h4, q', h1, ?_, ?_⟩ ⟨h4, q, hRV⟩ ⟨fun _ => ⟨fun _ => h5, fun e => by omega, fun e => by omega, fun e => by omega, fun e => by omega⟩, fun e => by cases e⟩)
        · by_cases e : i = jc
          · intro h; exact absurd ((if_pos e.symm).symm.trans h : true = false) (by decide)
          · intro h; rw [h2 e]; exact hLj e h
        · by_cases e : i = jc
          · have := hq0 (by rw [← e]; exact hLi); omega
          · rw [h2 e]; exact hqK
      · by_cases e0 : i = c
        · subst e0
          exact hcall o s V q ho hRV hgV (fun k hk hdk => (hd0 k hdk).1 hk) Q' (fun a1 n1 c1 a2 n2 c2 z V' h1 hz h2 => hq _ V' h1 (by omega) ⟨fun e => by omega, fun _ => ⟨a1, n1, c1, a2, n2, c2, z, rfl, hz, h2⟩, fun e => by omega, fun e => by omega, fun e => by omega⟩)
        · by_cases e1 : i = c + 1
          · subst e1
            have h := (hd0 _ d1).2.1 (.inl rfl)
            exact hmove o s V _ Q' ho rfl (hq _ V (Below.refl _ _) (by omega) ⟨fun e => by omega, fun _ => h, fun e => by omega, fun e => by omega, fun e => by omega⟩)
          · by_cases e2 : i = c + 2
            · subst e2
              obtain ⟨a1, n1, c1, a2, n2, c2, z, g1, gz, g2⟩ := (hd0 _ d2).2.1 (.inr rfl)
              exact hext0 o s V _ _ Q' ho g1 (hq _ V (Below.refl _ _) (by omega) ⟨fun e => by omega, fun e => by omega, fun _ => ⟨a1, n1, c1, a2, n2, c2, rfl, g2⟩, fun e => by omega, fun e => by omega⟩)
            · have e4 : i = c + 4 := by omega
              subst e4
              exact halloc o s V Q' ho (hq _ _ ((Below.refl _ V).alloc (Nat.le_refl _) _) (by omega) ⟨fun e => by omega, fun e => by omega, fun e => by omega, fun e => by omega, fun _ => ⟨V.heap.size, rfl, hgV.size, World.alloc_heap_new V _⟩⟩)
  case mid =>
    intro Ls o s V hph ho hV hd Q' hQ'
    obtain ⟨hgV, q, hRV, hq0, hqK⟩ := hV
    obtain ⟨a1, n1, c1, a2, n2, c2, g1, g2⟩ := ((hd _ d4).1 rfl).2.2.1 rfl
    obtain ⟨b, g3, g4, g5⟩ := ((hd _ d5).1 rfl).2.2.2.2 rfl
    have k0 := grownBy_setAt V b 0 (.slice a1 n1 c1)
    have k1 := grownBy_setAt (V.setCell ⟨b, 0, none⟩ (.slice a1 n1 c1)) b 1 (.slice a2 n2 c2)
    have hne : (some Rr : Option Nat) ≠ some b := fun e => by injection e with e; omega
    have hlo : ∀ k, (some b : Option Nat) = some k → W0.heap.size ≤ k := fun k e => by injection e with e; omega
    refine hstore o s V b a1 n1 c1 a2 n2 c2 Q' ho g3 g1 g5 (hQ' undef _ ⟨(hgV.andThen k0 (fun k e => .inl (by injection e with e; omega))).andThen k1 (fun k e => .inl (by injection e with e; omega)), q, (hRV.kept k0 hne hlo).kept k1 hne hlo, fun h => hq0 ((if_neg (show ¬ jc = c + 5 by omega)).symm.trans h), hqK⟩ (fun k hk hΦ => ⟨fun e => (by cases e), fun _ => ?_⟩) ⟨fun e => (by cases e), fun _ => ⟨fun e => by omega, fun e => by omega, fun e => by omega⟩⟩)
    have h := hΦ.1 rfl
    refine ⟨fun e => ?_, h.2.2.2.1, fun e => ?_⟩
    · obtain ⟨_, _, _, _, _, _, z, e1, ez, _⟩ := h.2.1 (.inr e)
      exact ⟨_, z, e1, ez⟩
    · subst e
      exact ⟨b, g3, g4, a1, n1, c1, a2, n2, c2, desk_set g5 _ _, hRs V b a1 n1 c1 a2 n2 c2 g2 g4 g5⟩
  case tail =>
    intro Ls s V hV hLs hd
    obtain ⟨hgV, q, hRV, hq0, hqK⟩ := hV
    obtain ⟨b, g1, g2, a1, n1, c1, a2, n2, c2, g3, g4⟩ := ((hd (c + 4) (by omega)).2 rfl).2.2 rfl
    exact htail s V b a1 n1 c1 a2 n2 c2 q _ hqK hRV hgV g1 g2 g3 g4 rfl (((hd (c + 3) (by omega)).2 rfl).2.1 rfl)
end Go.Proofs.Ytimnhedjapakhaa
