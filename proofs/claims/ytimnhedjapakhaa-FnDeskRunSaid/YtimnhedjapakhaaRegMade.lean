/-
  A drawn region that makes a desk by a call, takes it out of the call's pair, and stores it in a new variable; the second of the pair may be taken out behind the store.
-/
import Derived.Test.YtimnhedjapakhaaBaseZ
import Derived.Test.YtimnhedjapakhaaS12Z
namespace Go.Proofs.Ytimnhedjapakhaa
open Go Go.RowKit

/-- What is known of the operations' values: from the c-th on, ahead of the store and behind it. -/
def Made0 (c n1 n2 b0 : Nat) (Z : Value) (R : World → Value → Prop) (pre : Nat → Value → World → Prop) (i : Nat) (v : Value) (V : World) : Prop :=
  (i < c → pre i v V) ∧ (i = c ∨ i = c + 1 → ∃ a1 c1 a2 c2, v = .tuple #[.agg #[.slice a1 n1 c1, .slice a2 n2 c2], Z] ∧ R V (.agg #[.slice a1 n1 c1, .slice a2 n2 c2])) ∧
  (i = c + 2 → ∃ a1 c1 a2 c2, v = .agg #[.slice a1 n1 c1, .slice a2 n2 c2] ∧ R V (.agg #[.slice a1 n1 c1, .slice a2 n2 c2])) ∧ (i = c + 3 → v = Z) ∧
  (i = c + 4 → ∃ b, v = .pointer (some ⟨b, 0, none⟩) ∧ b0 ≤ b ∧ V.heap[b]? = some (.cells #[.slice none 0 0, .slice none 0 0] 26 (0, 0)))
def Made1 (c n1 n2 b0 : Nat) (Z : Value) (R : World → Value → Prop) (i : Nat) (v : Value) (V : World) : Prop :=
  (i = c + 1 → ∃ x, v = .tuple #[x, Z]) ∧ (i = c + 3 → v = Z) ∧
  (i = c + 4 → ∃ b, v = .pointer (some ⟨b, 0, none⟩) ∧ b0 ≤ b ∧ ∃ a1 c1 a2 c2, V.heap[b]? = some (.cells #[.slice a1 n1 c1, .slice a2 n2 c2] 26 (0, 0)) ∧ R V (.agg #[.slice a1 n1 c1, .slice a2 n2 c2]))

theorem wpIn_region_made {F : Fence} {n : Nat} {id : Nat} {ops : Array Oper} {Q : Exit → Act → World → Prop} {a : Act} {W : World} (c n1 n2 : Nat) (Z : Value) (R : World → Value → Prop)
    (hm : Try.prog.follows .mixedOrders = true) (hb : backB ops = true) (ht : tailB ops (c + 6) = true) (hsz : c + 6 < ops.size)
    (hdep : (depB ops (c + 1) c && depB ops (c + 2) (c + 1) && depB ops (c + 3) (c + 1) && depB ops (c + 5) (c + 2) && depB ops (c + 5) (c + 4)) = true)
    (hnd : ((List.range (c + 5)).all fun i => (i == c + 3) || needs ops (c + 5) ops.size i) = true)
    (fr : (Nat → Value) → Act) (pre : Nat → Value → World → Prop) (hpre : ∀ k v V V', pre k v V → Below V.heap.size V V' → pre k v V')
    (hRb : ∀ V V' y, R V y → Below V.heap.size V V' → R V' y)
    (hRs : ∀ V b a1 c1 a2 c2, R V (.agg #[.slice a1 n1 c1, .slice a2 n2 c2]) → W.heap.size ≤ b → V.heap[b]? = some (.cells #[.slice none 0 0, .slice none 0 0] 26 (0, 0)) → R ((V.setCell ⟨b, 0, none⟩ (.slice a1 n1 c1)).setCell ⟨b, 1, none⟩ (.slice a2 n2 c2)) (.agg #[.slice a1 n1 c1, .slice a2 n2 c2]))
    (h0 : ∃ s, a = fr s) (hput : ∀ i o s v, i < c + 6 → ops[i]? = some o → (fr s).put o.dst v = fr (fun j => if j = i then v else s j))
    (hstep : ∀ i o s V, i < c → ops[i]? = some o → Below W.heap.size W V → (∀ k, k < c → depB ops i k = true → pre k (s k) V) → ∀ Q' : Exit → Act → World → Prop,
      (∀ v V', Below V.heap.size V V' → pre i v V' → Q' .normal ((fr s).put o.dst v) V') → wpListIn F n Try.prog ops Q' [o] (fr s) V)
    (hcall : ∀ o s V, ops[c]? = some o → Below W.heap.size W V → (∀ k, k < c → depB ops c k = true → pre k (s k) V) → ∀ Q' : Exit → Act → World → Prop,
      (∀ a1 c1 a2 c2 V', Below V.heap.size V V' → R V' (.agg #[.slice a1 n1 c1, .slice a2 n2 c2]) → Q' .normal ((fr s).put o.dst (.tuple #[.agg #[.slice a1 n1 c1, .slice a2 n2 c2], Z])) V') → wpListIn F n Try.prog ops Q' [o] (fr s) V)
    (hmove : ∀ o s V y (Q' : Exit → Act → World → Prop), ops[c + 1]? = some o → s c = y → Q' .normal ((fr s).put o.dst y) V → wpListIn F n Try.prog ops Q' [o] (fr s) V)
    (hext0 : ∀ o s V x z (Q' : Exit → Act → World → Prop), ops[c + 2]? = some o → s (c + 1) = .tuple #[x, z] → Q' .normal ((fr s).put o.dst x) V → wpListIn F n Try.prog ops Q' [o] (fr s) V)
    (hext1 : ∀ o s V x z (Q' : Exit → Act → World → Prop), ops[c + 3]? = some o → s (c + 1) = .tuple #[x, z] → Q' .normal ((fr s).put o.dst z) V → wpListIn F n Try.prog ops Q' [o] (fr s) V)
    (halloc : ∀ o s V (Q' : Exit → Act → World → Prop), ops[c + 4]? = some o → Q' .normal ((fr s).put o.dst (.pointer (some ⟨V.heap.size, 0, none⟩))) (V.alloc (.cells #[.slice none 0 0, .slice none 0 0] 26)) → wpListIn F n Try.prog ops Q' [o] (fr s) V)
    (hstore : ∀ o s V b a1 c1 a2 c2 (Q' : Exit → Act → World → Prop), ops[c + 5]? = some o → s (c + 4) = .pointer (some ⟨b, 0, none⟩) → s (c + 2) = .agg #[.slice a1 n1 c1, .slice a2 n2 c2] → V.heap[b]? = some (.cells #[.slice none 0 0, .slice none 0 0] 26 (0, 0)) →
      Q' .normal ((fr s).put o.dst undef) ((V.setCell ⟨b, 0, none⟩ (.slice a1 n1 c1)).setCell ⟨b, 1, none⟩ (.slice a2 n2 c2)) → wpListIn F n Try.prog ops Q' [o] (fr s) V)
    (htail : ∀ s V b a1 c1 a2 c2, Below W.heap.size W V → s (c + 4) = .pointer (some ⟨b, 0, none⟩) → W.heap.size ≤ b → V.heap[b]? = some (.cells #[.slice a1 n1 c1, .slice a2 n2 c2] 26 (0, 0)) → R V (.agg #[.slice a1 n1 c1, .slice a2 n2 c2]) → s (c + 3) = Z → wpListIn F n Try.prog ops Q (ops.toList.drop (c + 6)) (fr s) V) : (Code.region id ops true).wpIn F n Try.prog Q a W := by
  simp only [Bool.and_eq_true] at hdep
  obtain ⟨⟨⟨⟨d1, d2⟩, d3⟩, d4⟩, d5⟩ := hdep
  refine wpIn_region_store (c + 5) (c + 6) hm hb ht (by omega) hsz fr (fun _ V => Below W.heap.size W V) (fun V V' => Below V.heap.size V V')
    (fun ph k v V => (ph = false → Made0 c n1 n2 W.heap.size Z R pre k v V) ∧ (ph = true → Made1 c n1 n2 W.heap.size Z R k v V)) h0 hput (Below.refl _ _).drew ?mono ?step ?mid ?tail
  case mono =>
    rintro ph k v V V' ⟨h1, h2⟩ hg
    refine ⟨fun e => ?_, fun e => ?_⟩
    · obtain ⟨f1, f2, f3, f4, f5⟩ := h1 e
      refine ⟨fun e => hpre _ _ _ _ (f1 e) hg, fun e => ?_, fun e => ?_, f4, fun e => ?_⟩
      · obtain ⟨a1, c1, a2, c2, g1, g2⟩ := f2 e
        exact ⟨a1, c1, a2, c2, g1, hRb _ _ _ g2 hg⟩
      · obtain ⟨a1, c1, a2, c2, g1, g2⟩ := f3 e
        exact ⟨a1, c1, a2, c2, g1, hRb _ _ _ g2 hg⟩
      · obtain ⟨b, g1, g2, g3⟩ := f5 e
        exact ⟨b, g1, g2, (hg.block _ (Array.getElem?_eq_some_iff.1 g3).1).trans g3⟩
    · obtain ⟨f1, f2, f3⟩ := h2 e
      refine ⟨f1, f2, fun e => ?_⟩
      obtain ⟨b, g1, g2, a1, c1, a2, c2, g3, g4⟩ := f3 e
      exact ⟨b, g1, g2, a1, c1, a2, c2, (hg.block _ (Array.getElem?_eq_some_iff.1 g3).1).trans g3, hRb _ _ _ g4 hg⟩
  case step =>
    intro ph i o s V hi hip hnp ho hV hd Q' hQ'
    by_cases e3 : i = c + 3
    · subst e3
      have hx : ∃ x, s (c + 1) = .tuple #[x, Z] := by
        cases ph with
        | false => obtain ⟨a1, c1, a2, c2, g1, _⟩ := ((hd _ d3).1 rfl).2.1 (.inr rfl); exact ⟨_, g1⟩
        | true => exact ((hd _ d3).2 rfl).1 rfl
      obtain ⟨x, hx⟩ := hx
      refine hext1 o s V x Z Q' ho hx (hQ' _ _ hV (Below.refl _ _) ⟨fun _ => ⟨fun e => by omega, fun e => by omega, fun e => by omega, fun _ => rfl, fun e => by omega⟩, fun _ => ⟨fun e => by omega, fun _ => rfl, fun e => by omega⟩⟩)
    · have hph : ph = false := by
        cases ph with
        | false => rfl
        | true =>
          have h1 := hnp rfl
          have h2 := List.all_eq_true.1 hnd i (List.mem_range.2 (by omega))
          rw [h1] at h2
          simp at h2
          exact absurd h2 e3
      subst hph
      have hd0 := fun k hk => (hd k hk).1 rfl
      have hq : ∀ v V', Below V.heap.size V V' → Made0 c n1 n2 W.heap.size Z R pre i v V' → Q' .normal ((fr s).put o.dst v) V' := fun v V' h1 h2 => hQ' v V' (hV.trans (h1.mono hV.size)) h1 ⟨fun _ => h2, fun e => by cases e⟩
      by_cases ec : i < c
      · exact hstep i o s V ec ho hV (fun k hk hdk => (hd0 k hdk).1 hk) Q' (fun v V' h1 h2 => hq v V' h1 ⟨fun _ => h2, fun e => by omega, fun e => by omega, fun e => by omega, fun e => by omega⟩)
      · by_cases e0 : i = c
        · subst e0
          exact hcall o s V ho hV (fun k hk hdk => (hd0 k hdk).1 hk) Q' (fun a1 c1 a2 c2 V' h1 h2 => hq _ V' h1 ⟨fun e => by omega, fun _ => ⟨a1, c1, a2, c2, rfl, h2⟩, fun e => by omega, fun e => by omega, fun e => by omega⟩)
        · by_cases e1 : i = c + 1
          · subst e1
            have h := (hd0 _ d1).2.1 (.inl rfl)
            exact hmove o s V _ Q' ho rfl (hq _ V (Below.refl _ _) ⟨fun e => by omega, fun _ => h, fun e => by omega, fun e => by omega, fun e => by omega⟩)
          · by_cases e2 : i = c + 2
            · subst e2
              obtain ⟨a1, c1, a2, c2, g1, g2⟩ := (hd0 _ d2).2.1 (.inr rfl)
              exact hext0 o s V _ _ Q' ho g1 (hq _ V (Below.refl _ _) ⟨fun e => by omega, fun e => by omega, fun _ => ⟨a1, c1, a2, c2, rfl, g2⟩, fun e => by omega, fun e => by omega⟩)
            · have e4 : i = c + 4 := by omega
              subst e4
              exact halloc o s V Q' ho (hq _ _ ((Below.refl _ V).alloc (Nat.le_refl _) _) ⟨fun e => by omega, fun e => by omega, fun e => by omega, fun e => by omega, fun _ => ⟨V.heap.size, rfl, hV.size, World.alloc_heap_new V _⟩⟩)
  case mid =>
    intro o s V ho hV hd Q' hQ'
    obtain ⟨a1, c1, a2, c2, g1, g2⟩ := ((hd _ d4).1 rfl).2.2.1 rfl
    obtain ⟨b, g3, g4, g5⟩ := ((hd _ d5).1 rfl).2.2.2.2 rfl
    refine hstore o s V b a1 c1 a2 c2 Q' ho g3 g1 g5 (hQ' undef _ ((hV.setCell (p := ⟨b, 0, none⟩) g4 _).setCell (p := ⟨b, 1, none⟩) g4 _) (fun k hk hΦ => ⟨fun e => (by cases e), fun _ => ?_⟩) ⟨fun e => (by cases e), fun _ => ⟨fun e => by omega, fun e => by omega, fun e => by omega⟩⟩)
    have h := hΦ.1 rfl
    refine ⟨fun e => ?_, h.2.2.2.1, fun e => ?_⟩
    · obtain ⟨_, _, _, _, e1, _⟩ := h.2.1 (.inr e)
      exact ⟨_, e1⟩
    · subst e
      exact ⟨b, g3, g4, a1, c1, a2, c2, desk_set g5 _ _, hRs V b a1 c1 a2 c2 g2 g4 g5⟩
  case tail =>
    intro s V hV hd
    obtain ⟨b, g1, g2, a1, c1, a2, c2, g3, g4⟩ := ((hd (c + 4) (by omega)).2 rfl).2.2 rfl
    exact htail s V b a1 c1 a2 c2 hV g1 g2 g3 g4 (((hd (c + 3) (by omega)).2 rfl).2.1 rfl)
end Go.Proofs.Ytimnhedjapakhaa
