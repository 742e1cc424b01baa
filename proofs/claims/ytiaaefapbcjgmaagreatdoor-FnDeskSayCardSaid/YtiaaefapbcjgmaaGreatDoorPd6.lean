/-
 Parts of the proofs, laid together: Laws12w, RegMadeT, Shaped12.
-/
import Derived.Test.YtiaaefapbcjgmaaGreatDoorRows
import Derived.HandedShaped
import Derived.Stop.LaidErr
import Derived.Lib.LaidTab
import Derived.LaidLaws
import Derived.Test.YtiaaefapbcjgmaaGreatDoorPd5
namespace Go.Proofs.YtiaaefapbcjgmaaGreatDoor
section
open Go Go.RowKit
theorem wpIn_region_madeT {F : Fence} {n : Nat} {id : Nat} {ops : Array Oper} {Q : Exit → Act → World → Prop} {a : Act} {W : World} (c n1 n2 : Nat) (ζ : World → Value → Prop) (R : World → Value → Prop)
    (hm : Tryz.prog.follows .mixedOrders = true) (hb : backB ops = true) (ht : tailB ops (c + 6) = true) (hsz : c + 6 < ops.size)
    (hdep : (depB ops (c + 1) c && depB ops (c + 2) (c + 1) && depB ops (c + 3) (c + 1) && depB ops (c + 5) (c + 2) && depB ops (c + 5) (c + 4)) = true)
    (hnd : ((List.range (c + 5)).all fun i => (i == c + 3) || needs ops (c + 5) ops.size i) = true)
    (fr : (Nat → Value) → Act) (pre : Nat → Value → World → Prop) (hpre : ∀ k v V V', pre k v V → Below V.heap.size V V' → pre k v V')
    (hRb : ∀ V V' y, R V y → Below V.heap.size V V' → R V' y)
    (hζb : ∀ V V' z, ζ V z → Below V.heap.size V V' → ζ V' z)
    (hζs : ∀ V b s1 m1 e1 s2 m2 e2 z, ζ V z → V.heap[b]? = some (.cells #[.slice none 0 0, .slice none 0 0] 31 (0, 0)) → ζ ((V.setCell ⟨b, 0, none⟩ (.slice s1 m1 e1)).setCell ⟨b, 1, none⟩ (.slice s2 m2 e2)) z)
    (hRs : ∀ V b a1 c1 a2 c2, R V (.agg #[.slice a1 n1 c1, .slice a2 n2 c2]) → W.heap.size ≤ b → V.heap[b]? = some (.cells #[.slice none 0 0, .slice none 0 0] 31 (0, 0)) → R ((V.setCell ⟨b, 0, none⟩ (.slice a1 n1 c1)).setCell ⟨b, 1, none⟩ (.slice a2 n2 c2)) (.agg #[.slice a1 n1 c1, .slice a2 n2 c2]))
    (h0 : ∃ s, a = fr s) (hput : ∀ i o s v, i < c + 6 → ops[i]? = some o → (fr s).put o.dst v = fr (fun j => if j = i then v else s j))
    (hstep : ∀ i o s V, i < c → ops[i]? = some o → Below W.heap.size W V → (∀ k, k < c → depB ops i k = true → pre k (s k) V) → ∀ Q' : Exit → Act → World → Prop,
      (∀ v V', Below V.heap.size V V' → pre i v V' → Q' .normal ((fr s).put o.dst v) V') → wpListIn F n Tryz.prog ops Q' [o] (fr s) V)
    (hcall : ∀ o s V, ops[c]? = some o → Below W.heap.size W V → (∀ k, k < c → depB ops c k = true → pre k (s k) V) → ∀ Q' : Exit → Act → World → Prop,
      (∀ a1 c1 a2 c2 z V', Below V.heap.size V V' → R V' (.agg #[.slice a1 n1 c1, .slice a2 n2 c2]) → ζ V' z → Q' .normal ((fr s).put o.dst (.tuple #[.agg #[.slice a1 n1 c1, .slice a2 n2 c2], z])) V') → wpListIn F n Tryz.prog ops Q' [o] (fr s) V)
    (hmove : ∀ o s V y (Q' : Exit → Act → World → Prop), ops[c + 1]? = some o → s c = y → Q' .normal ((fr s).put o.dst y) V → wpListIn F n Tryz.prog ops Q' [o] (fr s) V)
    (hext0 : ∀ o s V x z (Q' : Exit → Act → World → Prop), ops[c + 2]? = some o → s (c + 1) = .tuple #[x, z] → Q' .normal ((fr s).put o.dst x) V → wpListIn F n Tryz.prog ops Q' [o] (fr s) V)
    (hext1 : ∀ o s V x z (Q' : Exit → Act → World → Prop), ops[c + 3]? = some o → s (c + 1) = .tuple #[x, z] → Q' .normal ((fr s).put o.dst z) V → wpListIn F n Tryz.prog ops Q' [o] (fr s) V)
    (halloc : ∀ o s V (Q' : Exit → Act → World → Prop), ops[c + 4]? = some o → Q' .normal ((fr s).put o.dst (.pointer (some ⟨V.heap.size, 0, none⟩))) (V.alloc (.cells #[.slice none 0 0, .slice none 0 0] 31)) → wpListIn F n Tryz.prog ops Q' [o] (fr s) V)
    (hstore : ∀ o s V b a1 c1 a2 c2 (Q' : Exit → Act → World → Prop), ops[c + 5]? = some o → s (c + 4) = .pointer (some ⟨b, 0, none⟩) → s (c + 2) = .agg #[.slice a1 n1 c1, .slice a2 n2 c2] → V.heap[b]? = some (.cells #[.slice none 0 0, .slice none 0 0] 31 (0, 0)) →
      Q' .normal ((fr s).put o.dst undef) ((V.setCell ⟨b, 0, none⟩ (.slice a1 n1 c1)).setCell ⟨b, 1, none⟩ (.slice a2 n2 c2)) → wpListIn F n Tryz.prog ops Q' [o] (fr s) V)
    (htail : ∀ s V b a1 c1 a2 c2, Below W.heap.size W V → s (c + 4) = .pointer (some ⟨b, 0, none⟩) → W.heap.size ≤ b → V.heap[b]? = some (.cells #[.slice a1 n1 c1, .slice a2 n2 c2] 31 (0, 0)) → R V (.agg #[.slice a1 n1 c1, .slice a2 n2 c2]) → ζ V (s (c + 3)) → wpListIn F n Tryz.prog ops Q (ops.toList.drop (c + 6)) (fr s) V) : (Code.region id ops true).wpIn F n Tryz.prog Q a W := by
  simp only [Bool.and_eq_true] at hdep
  obtain ⟨⟨⟨⟨d1, d2⟩, d3⟩, d4⟩, d5⟩ := hdep
  refine wpIn_region_store (c + 5) (c + 6) hm hb ht (by omega) hsz fr (fun _ V => Below W.heap.size W V) (fun V V' => Below V.heap.size V V')
    (fun ph k v V => (ph = false → MadeT0 c n1 n2 W.heap.size ζ R pre k v V) ∧ (ph = true → MadeT1 c n1 n2 W.heap.size ζ R k v V)) h0 hput (Below.refl _ _).drew ?mono ?step ?mid ?tail
  case mono =>
    rintro ph k v V V' ⟨h1, h2⟩ hg
    refine ⟨fun e => ?_, fun e => ?_⟩
    · obtain ⟨f1, f2, f3, f4, f5⟩ := h1 e
      refine ⟨fun e => hpre _ _ _ _ (f1 e) hg, fun e => ?_, fun e => ?_, fun e => hζb _ _ _ (f4 e) hg, fun e => ?_⟩
      · obtain ⟨a1, c1, a2, c2, z, g1, g2, g3⟩ := f2 e
        exact ⟨a1, c1, a2, c2, z, g1, hRb _ _ _ g2 hg, hζb _ _ _ g3 hg⟩
      · obtain ⟨a1, c1, a2, c2, g1, g2⟩ := f3 e
        exact ⟨a1, c1, a2, c2, g1, hRb _ _ _ g2 hg⟩
      · obtain ⟨b, g1, g2, g3⟩ := f5 e
        exact ⟨b, g1, g2, (hg.block _ (gE9.1 g3).1).trans g3⟩
    · obtain ⟨f1, f2, f3⟩ := h2 e
      refine ⟨fun e => by obtain ⟨x, z, g1, g2⟩ := f1 e; exact ⟨x, z, g1, hζb _ _ _ g2 hg⟩, fun e => hζb _ _ _ (f2 e) hg, fun e => ?_⟩
      obtain ⟨b, g1, g2, a1, c1, a2, c2, g3, g4⟩ := f3 e
      exact ⟨b, g1, g2, a1, c1, a2, c2, (hg.block _ (gE9.1 g3).1).trans g3, hRb _ _ _ g4 hg⟩
  case step =>
    intro ph i o s V hi hip hnp ho hV hd Q' hQ'
    by_cases e3 : i = c + 3
    · subst e3
      have hx : ∃ x z, s (c + 1) = .tuple #[x, z] ∧ ζ V z := by
        cases ph with
        | false => obtain ⟨a1, c1, a2, c2, z, g1, _, g3⟩ := ((hd _ d3).1 rfl).2.1 (.inr rfl); exact ⟨_, z, g1, g3⟩
        | true => exact ((hd _ d3).2 rfl).1 rfl
      obtain ⟨x, z, hx, hz⟩ := hx
      refine hext1 o s V x z Q' ho hx (hQ' _ _ hV (Below.refl _ _) ⟨fun _ => ⟨fun e => by omega, fun e => by omega, fun e => by omega, fun _ => hz, fun e => by omega⟩, fun _ => ⟨fun e => by omega, fun _ => hz, fun e => by omega⟩⟩)
    · have hph : ph = false := by
        cases ph with
        | false => rfl
        | true =>
          have h1 := hnp rfl
          have h2 := List.all_eq_true.1 hnd i (List.mem_range.2 (by omega))
          rw [h1] at h2
          simp at h2
          exact absurd h2 e3
      subst hph
      have hd0 := fun k hk => (hd k hk).1 rfl
      have hq : ∀ v V', Below V.heap.size V V' → MadeT0 c n1 n2 W.heap.size ζ R pre i v V' → Q' .normal ((fr s).put o.dst v) V' := fun v V' h1 h2 => hQ' v V' (hV.trans (h1.mono hV.size)) h1 ⟨fun _ => h2, fun e => by cases e⟩
      by_cases ec : i < c
      · exact hstep i o s V ec ho hV (fun k hk hdk => (hd0 k hdk).1 hk) Q' (fun v V' h1 h2 => hq v V' h1 ⟨fun _ => h2, fun e => by omega, fun e => by omega, fun e => by omega, fun e => by omega⟩)
      · by_cases e0 : i = c
        · subst e0
          exact hcall o s V ho hV (fun k hk hdk => (hd0 k hdk).1 hk) Q' (fun a1 c1 a2 c2 z V' h1 h2 h3 => hq _ V' h1 ⟨fun e => by omega, fun _ => ⟨a1, c1, a2, c2, z, rfl, h2, h3⟩, fun e => by omega, fun e => by omega, fun e => by omega⟩)
        · by_cases e1 : i = c + 1
          · subst e1
            have h := (hd0 _ d1).2.1 (.inl rfl)
            exact hmove o s V _ Q' ho rfl (hq _ V (Below.refl _ _) ⟨fun e => by omega, fun _ => h, fun e => by omega, fun e => by omega, fun e => by omega⟩)
          · by_cases e2 : i = c + 2
            · subst e2
              obtain ⟨a1, c1, a2, c2, z, g1, g2, _⟩ := (hd0 _ d2).2.1 (.inr rfl)
              exact hext0 o s V _ _ Q' ho g1 (hq _ V (Below.refl _ _) ⟨fun e => by omega, fun e => by omega, fun _ => ⟨a1, c1, a2, c2, rfl, g2⟩, fun e => by omega, fun e => by omega⟩)
            · have e4 : i = c + 4 := by omega
              subst e4
              exact halloc o s V Q' ho (hq _ _ ((Below.refl _ V).alloc (Nat.le_refl _) _) ⟨fun e => by omega, fun e => by omega, fun e => by omega, fun e => by omega, fun _ => ⟨V.heap.size, rfl, hV.size, aN9 V _⟩⟩)
  case mid =>
    intro o s V ho hV hd Q' hQ'
    obtain ⟨a1, c1, a2, c2, g1, g2⟩ := ((hd _ d4).1 rfl).2.2.1 rfl
    obtain ⟨b, g3, g4, g5⟩ := ((hd _ d5).1 rfl).2.2.2.2 rfl
    refine hstore o s V b a1 c1 a2 c2 Q' ho g3 g1 g5 (hQ' undef _ ((hV.setCell (p := ⟨b, 0, none⟩) g4 _).setCell (p := ⟨b, 1, none⟩) g4 _) (fun k hk hΦ => ⟨fun e => (by cases e), fun _ => ?_⟩) ⟨fun e => (by cases e), fun _ => ⟨fun e => by omega, fun e => by omega, fun e => by omega⟩⟩)
    have h := hΦ.1 rfl
    refine ⟨fun e => ?_, fun e => hζs _ _ _ _ _ _ _ _ _ (h.2.2.2.1 e) g5, fun e => ?_⟩
    · obtain ⟨_, _, _, _, z, e1, _, e3⟩ := h.2.1 (.inr e)
      exact ⟨_, z, e1, hζs _ _ _ _ _ _ _ _ _ e3 g5⟩
    · subst e
      exact ⟨b, g3, g4, a1, c1, a2, c2, desk_set g5 _ _, hRs V b a1 c1 a2 c2 g2 g4 g5⟩
  case tail =>
    intro s V hV hd
    obtain ⟨b, g1, g2, a1, c1, a2, c2, g3, g4⟩ := ((hd (c + 4) (by omega)).2 rfl).2.2 rfl
    exact htail s V b a1 c1 a2 c2 hV g1 g2 g3 g4 (((hd (c + 3) (by omega)).2 rfl).2.1 rfl)
theorem wpIn_region_madeTP {F : Fence} {n : Nat} {id : Nat} {ops : Array Oper} {Q : Exit → Act → World → Prop} {a : Act} {W : World} (c n1 n2 : Nat) (L : List (Option Tmp × Nat)) (ζ : World → Value → Prop) (R : World → Value → Prop)
 (hm : Tryz.prog.follows .mixedOrders = true) (hb : backB ops = true) (ht : tailB ops (c + 6) = true) (hsz : c + 6 < ops.size)
 (hdep : (depB ops (c + 1) c && depB ops (c + 2) (c + 1) && depB ops (c + 3) (c + 1) && depB ops (c + 5) (c + 2) && depB ops (c + 5) (c + 4)) = true)
 (hnd : ((List.range (c + 5)).all fun i => (i == c + 3) || needs ops (c + 5) ops.size i) = true)
 (hL : dstsOf ops (c + 6) = L) (hok : okPuts L = true) (pre : Nat → Value → World → Prop) (hpre : ∀ k v V V', pre k v V → Below V.heap.size V V' → pre k v V')
 (hRb : ∀ V V' y, R V y → Below V.heap.size V V' → R V' y)
 (hζb : ∀ V V' z, ζ V z → Below V.heap.size V V' → ζ V' z)
 (hζs : ∀ V b s1 m1 e1 s2 m2 e2 z, ζ V z → V.heap[b]? = some (.cells #[.slice none 0 0, .slice none 0 0] 31 (0, 0)) → ζ ((V.setCell ⟨b, 0, none⟩ (.slice s1 m1 e1)).setCell ⟨b, 1, none⟩ (.slice s2 m2 e2)) z)
 (hRs : ∀ V b a1 c1 a2 c2, R V (.agg #[.slice a1 n1 c1, .slice a2 n2 c2]) → W.heap.size ≤ b → V.heap[b]? = some (.cells #[.slice none 0 0, .slice none 0 0] 31 (0, 0)) → R ((V.setCell ⟨b, 0, none⟩ (.slice a1 n1 c1)).setCell ⟨b, 1, none⟩ (.slice a2 n2 c2)) (.agg #[.slice a1 n1 c1, .slice a2 n2 c2]))
 (hstep : ∀ i o s V, i < c → ops[i]? = some o → Below W.heap.size W V → (∀ k, k < c → depB ops i k = true → pre k (s k) V) → ∀ Q' : Exit → Act → World → Prop,
  (∀ v V', Below V.heap.size V V' → pre i v V' → Q' .normal ((putsOf L a s).put o.dst v) V') → wpListIn F n Tryz.prog ops Q' [o] (putsOf L a s) V)
 (hcall : ∀ o s V, ops[c]? = some o → Below W.heap.size W V → (∀ k, k < c → depB ops c k = true → pre k (s k) V) → ∀ Q' : Exit → Act → World → Prop,
  (∀ a1 c1 a2 c2 z V', Below V.heap.size V V' → R V' (.agg #[.slice a1 n1 c1, .slice a2 n2 c2]) → ζ V' z → Q' .normal ((putsOf L a s).put o.dst (.tuple #[.agg #[.slice a1 n1 c1, .slice a2 n2 c2], z])) V') → wpListIn F n Tryz.prog ops Q' [o] (putsOf L a s) V)
 (hmove : ∀ o s V y (Q' : Exit → Act → World → Prop), ops[c + 1]? = some o → s c = y → Q' .normal ((putsOf L a s).put o.dst y) V → wpListIn F n Tryz.prog ops Q' [o] (putsOf L a s) V)
 (hext0 : ∀ o s V x z (Q' : Exit → Act → World → Prop), ops[c + 2]? = some o → s (c + 1) = .tuple #[x, z] → Q' .normal ((putsOf L a s).put o.dst x) V → wpListIn F n Tryz.prog ops Q' [o] (putsOf L a s) V)
 (hext1 : ∀ o s V x z (Q' : Exit → Act → World → Prop), ops[c + 3]? = some o → s (c + 1) = .tuple #[x, z] → Q' .normal ((putsOf L a s).put o.dst z) V → wpListIn F n Tryz.prog ops Q' [o] (putsOf L a s) V)
 (halloc : ∀ o s V (Q' : Exit → Act → World → Prop), ops[c + 4]? = some o → Q' .normal ((putsOf L a s).put o.dst (.pointer (some ⟨V.heap.size, 0, none⟩))) (V.alloc (.cells #[.slice none 0 0, .slice none 0 0] 31)) → wpListIn F n Tryz.prog ops Q' [o] (putsOf L a s) V)
 (hstore : ∀ o s V b a1 c1 a2 c2 (Q' : Exit → Act → World → Prop), ops[c + 5]? = some o → s (c + 4) = .pointer (some ⟨b, 0, none⟩) → s (c + 2) = .agg #[.slice a1 n1 c1, .slice a2 n2 c2] → V.heap[b]? = some (.cells #[.slice none 0 0, .slice none 0 0] 31 (0, 0)) →
  Q' .normal ((putsOf L a s).put o.dst undef) ((V.setCell ⟨b, 0, none⟩ (.slice a1 n1 c1)).setCell ⟨b, 1, none⟩ (.slice a2 n2 c2)) → wpListIn F n Tryz.prog ops Q' [o] (putsOf L a s) V)
 (htail : ∀ s V b a1 c1 a2 c2, Below W.heap.size W V → s (c + 4) = .pointer (some ⟨b, 0, none⟩) → W.heap.size ≤ b → V.heap[b]? = some (.cells #[.slice a1 n1 c1, .slice a2 n2 c2] 31 (0, 0)) → R V (.agg #[.slice a1 n1 c1, .slice a2 n2 c2]) → ζ V (s (c + 3)) → wpListIn F n Tryz.prog ops Q (ops.toList.drop (c + 6)) (putsOf L a s) V) : (Code.region id ops true).wpIn F n Tryz.prog Q a W := by
 refine wpIn_region_madeT c n1 n2 ζ R hm hb ht hsz hdep hnd (putsOf L a) pre hpre hRb hζb hζs hRs (puts_self a L hok) ?_ hstep hcall hmove hext0 hext1 halloc hstore htail
 intro i o s v hi ho
 refine puts_put s o.dst i v L a hok ?_
 rw [← hL]
 unfold dstsOf
 refine List.mem_map.2 ⟨i, List.mem_range.2 hi, ?_⟩
 rw [ho]
 rfl
end
section
open Go Go.RowKit Go.Shelf
attribute [local go_sem] Oper.semAt_some
theorem rowsOk_sameW {D : Dk} (h : RowsOk D) : D.1.length ≤ 1000000 ∧ D.2.length ≤ 1000000 ∧ ∀ j, j < D.2.length → (D.2.getD j []).length ≤ 1000000 :=
 ⟨by have := h.2.2.1; omega, by have := h.2.2.2; omega, fun j hj => by have := h.2.1 j hj; omega⟩
theorem sayV_rows (d : Dk) (L : List (List Nat)) : RowsOk (sayV d L).1 := by
 unfold sayV
 split
 · rename_i h
   exact RowsOk.of (sayL_desk L d h.1)
 · exact rowsOk_none
theorem append_txts_at {F : Fence} {k : Nat} {ops : Array Oper} {rest : List Oper} {o : Oper} {a : Act} {Q : Exit → Act → World → Prop} {w : World} (s x : Operand)
 (ho : o.op = .call { callee := .builtin .append, args := #[s, x], argTypes := #[48, 48] }) (hw : Region.wanted o (yielded ops a.tmps) = true)
 (base : Nat) (v : Value) (n : Nat) (xs : List Value) (hs : a.eval s = v) (hown : w.ownsRow base 9 1 v n xs) (g m c : Nat) (L : List (List Nat)) (hx : a.eval x = .slice (some ⟨g, 0, none⟩) m c) (hl : L.length = m)
 (hL : ∀ j l, L[j]? = some l → w.cell? ⟨g, j, none⟩ = some (txt l)) (hn : n + m ≤ 4000000) (hbase : base ≤ w.heap.size)
 (h : ∀ v' w', w'.ownsRow base 9 1 v' (n + m) (xs ++ L.map txt) → w.grownBy w' v.ownBlock → wpListIn F k Tryz.prog ops Q rest (a.put o.dst v') w') :
 wpListIn F k Tryz.prog ops Q (o :: rest) a w := by
 obtain ⟨i0, hi, hz0, hz1, hz2⟩ := info_any Tryz.infoStr
 refine BigFrame.wpListIn_want hw fun K hK => ?_
 obtain ⟨v', w', hr, h2, h3, _, _⟩ := run_append_own_at (P := Tryz.prog) w base 48 o.type 9 i0 (.string ⟨#[]⟩) 1 16 Tryz.underlying48 hi hz0 hz1 hz2 rfl (by decide) v n xs hown ⟨g, 0, none⟩ m c (L.map txt) (by simp [hl]) (fun j u hj => by
  rw [List.getElem?_map] at hj
  obtain ⟨l, hl3, rfl⟩ := Option.map_eq_some_iff.1 hj
  have hadd : (⟨g, 0, none⟩ : Addr).add j = ⟨g, j, none⟩ := by unfold Addr.add; split <;> simp_all
  rw [hadd]
  exact hL j l hl3) (fun u hu => by
  obtain ⟨l, _, rfl⟩ := List.mem_map.1 hu
  rfl) (by unfold maxLen; omega) (by omega) hbase
 unfold Oper.wpIn
 refine ⟨?_, ?_⟩
 · simp [Oper.about, ho, resolve, Target.leads, Sem.run_pure]
 · rw [Oper.semAt_plain F _ _ (by rw [ho]; intro c hc'; cases hc')]
   simp only [execOp, ho, resolve, invoke, builtin, Sem.run_bind, Sem.run_pure, Result.andThen_ok, List.map_toArray, List.map_cons, List.map_nil, hs, hx, hr]
   exact hK _ _ (h v' w' h2 h3)
set_option maxRecDepth 100000 in
set_option maxHeartbeats 8000000 in
theorem lawDeskSay (a0 : Option Addr) (len0 cap0 : Nat) (z0 : List Int) (w : World) (w0 : IsRow .u8 w a0 len0 cap0 z0) (hEnv : Env w) :
 Calls Tryz.prog 5 #[.slice a0 len0 cap0] w fun e w' => e = .returned (.bool true) ∧ Below w.heap.size w w' := by
 by_cases hbig : 1048576 < len0
 · go_enter Tryz.func5, Tryz.ntmps5
   go_wp2
   go_ret
   exact ⟨rfl, Below.refl _ _⟩
 have hbi : ¬ (1048576 : Int) < (len0 : Int) := by omega
 refine (cW9 (n := 9)).1 ?_
 refine callsIn_of_wp Tryz.func5 rfl trivial ?_ rfl
 simp only [Tryz.ntmps5, List.size_toArray, List.length_cons, List.length_nil, Nat.reduceAdd, Nat.reduceSub, Array.replicate_succ, Array.replicate_zero, List.push_toArray, List.append_toArray, List.nil_append, List.cons_append]
 gi_wp2_with fail
 refine ⟨trivial, ?_⟩
 gi_at_call 24
 refine (cW9.2 (drawDeskSay w a0 len0 cap0 z0 w0)).mono ?_
 rintro e w1 ⟨y, d, v, L, rfl, hd, hcp, hz, hL, hLn, hby0, hB1⟩
 obtain ⟨x, p, rfl, hx, hp⟩ := id hd
 obtain ⟨xa, xc, rfl⟩ := hx.shape
 obtain ⟨pa, pc, rfl, _⟩ := id hp
 have hLi := LinesI.of (Texts.of_owns hL)
 have hby : ∀ l ∈ L, (∀ c ∈ l, c < 256) ∧ l.length ≤ 1100000 := fun l hl => ⟨(hby0 l hl).1, by have := (hby0 l hl).2; omega⟩
 have hE1 := hEnv.below hB1
 have hlc : ∃ la lc, v = .slice la L.length lc ∧ L.length ≤ lc ∧ (0 < L.length → ∃ g, la = some ⟨g, 0, none⟩) := by
  rcases hL.2 with ⟨e, h0⟩ | ⟨g, cap, cur, e, _, _, hc, _⟩
  · exact ⟨none, 0, by rw [e, h0], by omega, fun h => by omega⟩
  · exact ⟨_, cap, e, hc, fun _ => ⟨g, rfl⟩⟩
 obtain ⟨la, lc, rfl, hlc, hla⟩ := hlc
 have ba := (Below.refl _ w1).alloc (Nat.le_refl _) (.cells #[.slice xa d.1.length xc, .slice pa d.2.length pc] 31)
 have kd := aN9 w1 (.cells #[.slice xa d.1.length xc, .slice pa d.2.length pc] 31)
 obtain ⟨w2, hw2⟩ : ∃ w2, w1.alloc (.cells #[.slice xa d.1.length xc, .slice pa d.2.length pc] 31) = w2 := ⟨_, rfl⟩
 rw [hw2] at ba kd
 have hd2 := hd.below ba
 have hL2 := hLi.below ba
 have hE2 := hE1.below ba
 have hB2 := hB1.trans (ba.mono hB1.size)
 obtain ⟨bd, hbd⟩ : ∃ bd, w1.heap.size = bd := ⟨_, rfl⟩
 rw [hbd] at kd
 obtain ⟨c0, c1, _, _⟩ := row_at kd
 clear hd hx hp ba hB1 hL hLi hE1 hby0
 have hro := sayV_rows d L
 have hsz := rowsOk_sameW hro
 obtain ⟨⟨D, T⟩, hDT⟩ : ∃ r, sayV d L = r := ⟨_, rfl⟩
 have hI := implSay _ _ d L w2 hd2 hz.dkS hL2 (by omega) hby hE2
 have hS := fun V (h1 : DeskI V (.agg #[.slice xa d.1.length xc, .slice pa d.2.length pc]) d) (h2 : LinesI V (.slice la L.length lc) L) => specSay _ _ d L V h1 hz.dkS h2 (by omega) hby
 rw [hDT] at hI hS hro hsz
 simp only at hI hS hro hsz
 have hTl : T.length ≤ 41 := by
  have h1 : (sayV d L).2 = T := by rw [hDT]
  rw [← h1]
  unfold sayV
  split
  · rw [sayL_len]; omega
  · simp
 obtain ⟨TN, hTN⟩ : ∃ TN, T.length = TN := ⟨_, rfl⟩
 rw [hTN] at hI hS hTl
 gi_wp2_with fail
 clear hbd hw2
 refine ⟨trivial, ?_⟩
 gi_at_call 25
 refine (cW9.2 hI).mono ?_
 clear hI
 rintro e w3 ⟨g, ug, rfl, hg, hug, b3⟩
 have hgc := hg.cap
 have hT3 := Texts.of_owns (show w3.ownsRow w2.heap.size 9 1 ug T.length (T.map txt) by rw [hTN]; exact hug)
 obtain ⟨ua, uc, rfl⟩ := own_shape hug
 have hgd := hg.deskI
 obtain ⟨g1, g2, g3, g4, rfl⟩ := hg.form
 have b3a := (Below.refl _ w3).alloc (Nat.le_refl _) (.cells #[.slice g1 D.1.length g2, .slice g3 D.2.length g4] 31)
 have kx := aN9 w3 (.cells #[.slice g1 D.1.length g2, .slice g3 D.2.length g4] 31)
 have b24 := b3.trans (b3a.mono b3.size)
 have kd4 := (b24.block _ (gE9.1 kd).1).trans kd
 have hd4 := hd2.below b24
 have hL4 := hL2.below b24
 have hgd4 := hgd.below b3a
 have hT4 := hT3.below b3a
 have hE4 := hE2.below b24
 have hB4 := hB2.trans (b24.mono hB2.size)
 obtain ⟨w4, hw4⟩ : ∃ w4, w3.alloc (.cells #[.slice g1 D.1.length g2, .slice g3 D.2.length g4] 31) = w4 := ⟨_, rfl⟩
 rw [hw4] at kx kd4 hd4 hL4 hgd4 hB4 hT4 hE4
 obtain ⟨bx, hbx⟩ : ∃ bx, w3.heap.size = bx := ⟨_, rfl⟩
 rw [hbx] at kx
 obtain ⟨c0, c1, _, _⟩ := row_at kd4
 clear hg hgd b3a b3 b24 kd hd2 hL2 hB2 hT3 hug hE2
 gi_wp2_with fail
 clear hbx hw4
 refine ⟨trivial, ?_⟩
 gi_at_call 26
 refine (cW9.2 (hS _ hd4 hL4)).mono ?_
 clear hS
 rintro e w5 ⟨m, um, rfl, hm, hum, b5⟩
 have hM5 := Texts.of_owns (show w5.ownsRow w4.heap.size 9 1 um T.length (T.map txt) by rw [hTN]; exact hum)
 obtain ⟨ma, mc, rfl⟩ := own_shape hum
 obtain ⟨mx, mp, rfl, hmx, hmp⟩ := id hm
 obtain ⟨m1, m2, rfl⟩ := hmx.shape
 obtain ⟨m3, m4, rfl, _⟩ := id hmp
 have b5a := (Below.refl _ w5).alloc (Nat.le_refl _) (.cells #[.slice m1 D.1.length m2, .slice m3 D.2.length m4] 31)
 have km := aN9 w5 (.cells #[.slice m1 D.1.length m2, .slice m3 D.2.length m4] 31)
 have b46 := b5.trans (b5a.mono b5.size)
 obtain ⟨w6, hw6⟩ : ∃ w6, w5.alloc (.cells #[.slice m1 D.1.length m2, .slice m3 D.2.length m4] 31) = w6 := ⟨_, rfl⟩
 rw [hw6] at b5a km b46
 have kd6 := (b46.block _ (gE9.1 kd4).1).trans kd4
 have kx6 := (b46.block _ (gE9.1 kx).1).trans kx
 have hd6 := hd4.below b46
 have hL6 := hL4.below b46
 have hgd6 := hgd4.below b46
 have hm6 := hm.below b5a
 have hM6 := hM5.below b5a
 have hT6 := hT4.below b46
 have hE6 := hE4.below b46
 have hB6 := hB4.trans (b46.mono hB4.size)
 obtain ⟨x0, x1, _, _⟩ := row_at kx6
 obtain ⟨y0, y1, _, _⟩ := row_at km
 clear hd4 hL4 hgd4 hm hmx hmp b5 b5a kd4 kx km b46 hB4 hM5 hum hT4 hE4
 gi_wp2_with fail
 clear hw6
 refine ⟨trivial, ?_⟩
 gi_at_call 18
 refine (cW9.2 (sameDesk_in _ _ _ w6 hsz hgd6 hm6)).mono ?_
 rintro e w7 ⟨rfl, b7⟩
 have kd7 := (b7.block _ (gE9.1 kd6).1).trans kd6
 have kx7 := (b7.block _ (gE9.1 kx6).1).trans kx6
 have hd7 := hd6.below b7
 have hL7 := hL6.below b7
 have hT7 := hT6.below b7
 have hM7 := hM6.below b7
 have hE7 := hE6.below b7
 have hgd7 := hgd6.below b7
 have hB7 := hB6.trans (b7.mono hB6.size)
 clear hd6 hL6 hgd6 hm6 kd6 kx6 hB6 b7 y0 y1 x0 x1 hT6 hM6 hE6
 gi_wp2_with fail
 refine ⟨trivial, ?_⟩
 gi_at_call 27
 refine (cW9.2 (sameTexts_in _ _ T w7 (by omega) hT7 hM7)).mono ?_
 rintro e wt ⟨rfl, bt⟩
 have kdt := (bt.block _ (gE9.1 kd7).1).trans kd7
 have kxt := (bt.block _ (gE9.1 kx7).1).trans kx7
 have hdt := hd7.below bt
 have hLt := hL7.below bt
 have hgdt := hgd7.below bt
 have hTt := hT7.below bt
 have hEt := hE7.below bt
 have hBt := hB7.trans (bt.mono hB7.size)
 obtain ⟨c0, c1, _, _⟩ := row_at kdt
 have hO := specDeskOk _ d wt hdt hz.dkS
 clear hd7 hL7 hgd7 kd7 kx7 hB7 bt hT7 hM7 hE7
 gi_wp2_with fail
 refine ⟨trivial, ?_⟩
 gi_at_call 13
 refine (cW9.2 hO).mono ?_
 clear hO
 rintro e w8 ⟨rfl, b8⟩
 have kd8 := (b8.block _ (gE9.1 kdt).1).trans kdt
 have kx8 := (b8.block _ (gE9.1 kxt).1).trans kxt
 have hd8 := hdt.below b8
 have hL8 := hLt.below b8
 have hT8 := hTt.below b8
 have hE8 := hEt.below b8
 have hgd8 := hgdt.below b8
 have hB8 := hBt.trans (b8.mono hBt.size)
 obtain ⟨x0, x1, _, _⟩ := row_at kx8
 clear hdt hLt hgdt kdt kxt hBt b8 c0 c1 hTt hEt
 by_cases hok : deskB d = true ∧ L.length ≤ 40
 · obtain ⟨hb, hl⟩ := hok
   rw [hb]
   have hl' : ¬ (L.length : Int) > 40 := by omega
   obtain ⟨H, hH⟩ : ∃ H, L.length / 2 = H := ⟨_, rfl⟩
   have hH2 : H ≤ L.length := by omega
   have hH3 : 0 < L.length → H < L.length := fun h => by omega
   have hq : Int.tdiv (L.length : Int) 2 = (H : Int) := by rw [Int.tdiv_eq_ediv_of_nonneg (by omega)]; omega
   have hw : IntKind.i64.wrap (H : Int) = (H : Int) := IntWalk.i64_in _ (by omega)
   have hHi : (H : Int) ≤ (lc : Int) := by omega
   have hHl : (H : Int) ≤ (L.length : Int) := by omega
   rw [sayV_yes hb hl] at hDT
   have hne := sayL_ne L d hb
   have hDb := sayL_desk L d hb
   rw [hDT] at hne hDb
   simp only at hne hDb
   obtain ⟨hr1, hr2⟩ := say_halves d L H
   have hAb := sayL_desk (L.take H) d hb
   have hlt : (L.take H).length = H := by rw [List.length_take]; omega
   have hld : (L.drop H).length = L.length - H := List.length_drop ..
   have hT1l := sayL_len (L.take H) d
   have hTL : TN = L.length := by
    have := sayL_len L d
    rw [hDT] at this
    simp only at this
    omega
   obtain ⟨⟨A, T1⟩, hA⟩ : ∃ r, sayL d (L.take H) = r := ⟨_, rfl⟩
   rw [hA] at hr1 hr2 hAb hT1l
   simp only at hr1 hr2 hAb hT1l
   have hT2l := sayL_len (L.drop H) A
   obtain ⟨⟨D', T2⟩, hA2⟩ : ∃ r, sayL A (L.drop H) = r := ⟨_, rfl⟩
   rw [hA2, hDT] at hr1 hr2
   rw [hA2] at hT2l
   simp only at hr1 hr2 hT2l
   have hr1' := hr1.symm
   subst hr1'
   clear hr1
   have hI1 := fun V (h1 : DeskI V (.agg #[.slice xa d.1.length xc, .slice pa d.2.length pc]) d) (h2 : LinesI V (.slice la H lc) (L.take H)) (hE : Env V) => implSay_yes _ _ d (L.take H) V h1 hb (by omega) h2 (fun l hl => hby l (List.mem_of_mem_take hl)) hE
   have hI2 := fun V y u (h1 : DeskI V y A) (h2 : LinesI V u (L.drop H)) (hE : Env V) => implSay_yes y u A (L.drop H) V h1 hAb (by omega) h2 (fun l hl => hby l (List.mem_of_mem_drop hl)) hE
   rw [hA, hlt] at hI1
   rw [hA2, hld] at hI2
   simp only at hI1 hI2
   have hArow := (RowsOk.of hAb).1
   have hDrow := (RowsOk.of hDb).1
   have hI1h := hide hI1
   have hI2h := hide hI2
   clear hI1 hI2 hA hA2 hDT hH hby
   gi_wp2
   refine wpIn_region_madeTP 4 A.1.length A.2.length [(some 71, 0), (some 72, 1), (some 73, 2), (some 74, 3), (some 75, 4), (some 70, 5), (some 76, 6), (some 77, 7), (some 10, 8), (none, 9)] (fun V z => ∃ g, z = .slice (some ⟨g, 0, none⟩) H H ∧ V.ownsRow w8.heap.size 9 1 z H (T1.map txt)) (fun V y => DeskI V y A) (by kernel_rfl) (by kernel_rfl) (by kernel_rfl) (by decide) (by kernel_rfl) (by kernel_rfl) (by rfl) (by decide)
    (fun i v V => match i with | 0 => v = .agg #[.slice xa d.1.length xc, .slice pa d.2.length pc] | 1 => v = .slice la L.length lc | 2 => v = .int .i64 H | 3 => v = .slice la H lc | _ => True)
    (fun i v V V' h hb => match i, h with | 0, h => h | 1, h => h | 2, h => h | 3, h => h | (_ + 4), _ => trivial)
    (fun V V' y h hB => h.below hB)
    (fun V V' z h hB => by obtain ⟨g, h1, h2⟩ := h; exact ⟨g, h1, own_more h2 hB⟩)
    (fun V b s1 m1 e1 s2 m2 e2 z h hz => by obtain ⟨g, h1, h2⟩ := h; exact ⟨g, h1, own_desk (own_desk h2 hz 0 _) (set_cells hz 0 _) 1 _⟩)
    (fun V b' a1 c1 a2 c2 h _ hz => deskI_store h rfl hz hArow)
    ?stepA ?callA ?moveA ?extaA ?extbA ?alloA ?storA ?tailA
   case stepA =>
    rintro i oo s V hi ho hV hd Q' hQ
    obtain ⟨q0, q1, _, _⟩ := row_at ((hV.block _ (gE9.1 kd8).1).trans kd8)
    rcases (show i = 0 ∨ i = 1 ∨ i = 2 ∨ i = 3 by omega) with rfl | rfl | rfl | rfl
    all_goals
     simp at ho
     subst ho
     simp only [putsOf, Act.put, List.setIfInBounds_toArray, List.set_cons_succ, List.set_cons_zero] at hQ ⊢
     have hQ' := hide hQ
     clear hQ
    · clear hd
      gi_wp2
      exact hQ'.out _ _ (Below.refl _ _) rfl
    · clear hd
      gi_wp2
      exact hQ'.out _ _ (Below.refl _ _) rfl
    · clear hd
      gi_wp2
      exact hQ'.out _ _ (Below.refl _ _) rfl
    · have e1 : s 1 = .slice la L.length lc := hd 1 (by decide) (by kernel_rfl)
      have e2 : s 2 = .int .i64 H := hd 2 (by decide) (by kernel_rfl)
      clear hd
      gi_wp2
      have hr := hQ'.out
      simp only [e1, e2] at hr ⊢
      exact hr _ _ (Below.refl _ _) rfl
   case callA =>
    rintro oo s V ho hV hd Q' hQ
    simp at ho
    subst ho
    simp only [putsOf, Act.put, List.setIfInBounds_toArray, List.set_cons_succ, List.set_cons_zero] at hQ ⊢
    have hQ' := hide hQ
    clear hQ
    have e1 : s 0 = .agg #[.slice xa d.1.length xc, .slice pa d.2.length pc] := hd 0 (by decide) (by kernel_rfl)
    have e2 : s 3 = .slice la H lc := hd 3 (by decide) (by kernel_rfl)
    have hS := hI1h.out V (hd8.below hV) (lines_take (hL8.below hV) H hH2) (hE8.below hV)
    clear hd
    gi_wp2_with (refine ⟨trivial, ?_⟩; gi_at_call 25; go_loud (refine (cW9.2 hS).mono ?_; rintro e W9 ⟨y9, g9, rfl, hy9, ht9, hB9⟩))
    obtain ⟨y1, y2, y3, y4, rfl⟩ := hy9.form
    have hr := hQ'.out
    simp only [e1, e2] at hr ⊢
    exact hr _ _ _ _ _ _ hB9 hy9.deskI ⟨g9, rfl, own_fromN ht9 (by have := hV.size; omega)⟩
   case moveA =>
    rintro oo s V y Q' ho hs hQ
    simp at ho
    subst ho
    simp only [putsOf, Act.put, List.setIfInBounds_toArray, List.set_cons_succ, List.set_cons_zero] at hQ ⊢
    have hQ' := hide hQ
    clear hQ
    gi_wp2
    have hr := hQ'.out
    simp only [hs] at hr ⊢
    exact hr
   case extaA =>
    rintro oo s V y z Q' ho hs hQ
    simp at ho
    subst ho
    simp only [putsOf, Act.put, List.setIfInBounds_toArray, List.set_cons_succ, List.set_cons_zero] at hQ ⊢
    have hQ' := hide hQ
    clear hQ
    replace hs : s 5 = .tuple #[y, z] := hs
    gi_wp2
    have hr := hQ'.out
    simp only [hs] at hr ⊢
    exact hr
   case extbA =>
    rintro oo s V y z Q' ho hs hQ
    simp at ho
    subst ho
    simp only [putsOf, Act.put, List.setIfInBounds_toArray, List.set_cons_succ, List.set_cons_zero] at hQ ⊢
    have hQ' := hide hQ
    clear hQ
    replace hs : s 5 = .tuple #[y, z] := hs
    gi_wp2
    have hr := hQ'.out
    simp only [hs] at hr ⊢
    exact hr
   case alloA =>
    rintro oo s V Q' ho hQ
    simp at ho
    subst ho
    simp only [putsOf, Act.put, List.setIfInBounds_toArray, List.set_cons_succ, List.set_cons_zero] at hQ ⊢
    have hQ' := hide hQ
    clear hQ
    gi_wp2
    exact hQ'.out
   case storA =>
    rintro oo s V b' a1 c1 a2 c2 Q' ho hs1 hs2 hz hQ
    obtain ⟨z0, z1, z2, z3⟩ := row_at hz
    simp at ho
    subst ho
    simp only [putsOf, Act.put, List.setIfInBounds_toArray, List.set_cons_succ, List.set_cons_zero] at hQ ⊢
    have hQ' := hide hQ
    clear hQ
    replace hs1 : s 8 = .pointer (some ⟨b', 0, none⟩) := hs1
    replace hs2 : s 6 = .agg #[.slice a1 A.1.length c1, .slice a2 A.2.length c2] := hs2
    gi_wp2
    have hr := hQ'.out
    simp only [hs1, hs2] at hr ⊢
    exact hr
   case tailA =>
    rintro s w9 b t1 t2 t3 t4 hV f8 hb8 ka hA9 hζ
    replace f8 : s 8 = .pointer (some ⟨b, 0, none⟩) := f8
    obtain ⟨g1, f7, hT1⟩ : ∃ g1, s 7 = .slice (some ⟨g1, 0, none⟩) H H ∧ w9.ownsRow w8.heap.size 9 1 (.slice (some ⟨g1, 0, none⟩) H H) H (T1.map txt) := by
     obtain ⟨g1, h1, h2⟩ := hζ
     exact ⟨g1, h1, by rw [← h1]; exact h2⟩
    have kd9 := (hV.block _ (gE9.1 kd8).1).trans kd8
    have kx9 := (hV.block _ (gE9.1 kx8).1).trans kx8
    have hL9 := hL8.below hV
    have hg9 := hgd8.below hV
    have hT9 := hT8.below hV
    have hE9 := hE8.below hV
    have hB9 := hB8.trans (hV.mono hB8.size)
    have z89 := hV.size
    clear hd8 hL8 hgd8 hB8 kd8 kx8 hV hT8 hE8 hI1h
    simp only [putsOf, Act.put, List.setIfInBounds_toArray, List.set_cons_succ, List.set_cons_zero]
    simp only [List.drop_succ_cons, List.drop_zero]
    simp only [f7, f8]
    gi_wp2
    refine wpIn_region_madeTP 4 D.1.length D.2.length [(some 79, 0), (some 80, 1), (some 81, 2), (some 82, 3), (some 83, 4), (some 78, 5), (some 84, 6), (some 85, 7), (some 12, 8), (none, 9)] (fun V z => ∃ g, z = .slice (some ⟨g, 0, none⟩) (L.length - H) (L.length - H) ∧ V.ownsRow w8.heap.size 9 1 z (L.length - H) (T2.map txt)) (fun V y => DeskI V y D) (by kernel_rfl) (by kernel_rfl) (by kernel_rfl) (by decide) (by kernel_rfl) (by kernel_rfl) (by rfl) (by decide)
     (fun i v V => match i with | 0 => v = .agg #[.slice t1 A.1.length t2, .slice t3 A.2.length t4] | 1 => v = .slice la L.length lc | 2 => v = .int .i64 H | 3 => LinesI V v (L.drop H) | _ => True)
     (fun i v V V' h hb => match i, h with | 0, h => h | 1, h => h | 2, h => h | 3, h => h.below hb | (_ + 4), _ => trivial)
     (fun V V' y h hB => h.below hB)
     (fun V V' z h hB => by obtain ⟨g, h1, h2⟩ := h; exact ⟨g, h1, own_more h2 hB⟩)
     (fun V b s1 m1 e1 s2 m2 e2 z h hz => by obtain ⟨g, h1, h2⟩ := h; exact ⟨g, h1, own_desk (own_desk h2 hz 0 _) (set_cells hz 0 _) 1 _⟩)
     (fun V b' a1 c1 a2 c2 h _ hz => deskI_store h rfl hz hDrow)
     ?stepB ?callB ?moveB ?extaB ?extbB ?alloB ?storB ?tailB
    case stepB =>
     rintro i oo s V hi ho hV hd Q' hQ
     obtain ⟨q0, q1, _, _⟩ := row_at ((hV.block _ (gE9.1 ka).1).trans ka)
     rcases (show i = 0 ∨ i = 1 ∨ i = 2 ∨ i = 3 by omega) with rfl | rfl | rfl | rfl
     all_goals
      simp at ho
      subst ho
      simp only [putsOf, Act.put, List.setIfInBounds_toArray, List.set_cons_succ, List.set_cons_zero] at hQ ⊢
      have hQ' := hide hQ
      clear hQ
     · clear hd
       gi_wp2
       exact hQ'.out _ _ (Below.refl _ _) rfl
     · clear hd
       gi_wp2
       exact hQ'.out _ _ (Below.refl _ _) rfl
     · clear hd
       gi_wp2
       exact hQ'.out _ _ (Below.refl _ _) rfl
     · have e1 : s 1 = .slice la L.length lc := hd 1 (by decide) (by kernel_rfl)
       have e2 : s 2 = .int .i64 H := hd 2 (by decide) (by kernel_rfl)
       clear hd
       rcases Nat.eq_zero_or_pos L.length with h0 | h0
       · have hL0 : L = [] := List.length_eq_zero_iff.1 h0
         subst hL0
         obtain rfl : H = 0 := by simpa using hH2
         simp only [List.length_nil] at e1 e2
         gi_wp2
         have hr := hQ'.out
         simp only [e1, e2] at hr ⊢
         exact hr _ _ (Below.refl _ _) ⟨la, lc, rfl, fun h => absurd h (Nat.lt_irrefl 0)⟩
       · obtain ⟨g, rfl⟩ := hla h0
         have hH4 := hH3 h0
         have hcH : ¬ lc = H := by omega
         have hcH2 : ¬ (lc : Int) = (H : Int) := by omega
         gi_wp2
         have hr := hQ'.out
         simp only [e1, e2] at hr ⊢
         exact hr _ _ (Below.refl _ _) (lines_drop (hL9.below hV) H hH2)
    case callB =>
     rintro oo s V ho hV hd Q' hQ
     simp at ho
     subst ho
     simp only [putsOf, Act.put, List.setIfInBounds_toArray, List.set_cons_succ, List.set_cons_zero] at hQ ⊢
     have hQ' := hide hQ
     clear hQ
     have e1 : s 0 = .agg #[.slice t1 A.1.length t2, .slice t3 A.2.length t4] := hd 0 (by decide) (by kernel_rfl)
     have e2 : LinesI V (s 3) (L.drop H) := hd 3 (by decide) (by kernel_rfl)
     have hS := hI2h.out V _ _ (hA9.below hV) e2 (hE9.below hV)
     clear hd
     gi_wp2_with (refine ⟨trivial, ?_⟩; gi_at_call 25; go_loud (refine (cW9.2 hS).mono ?_; rintro e W9 ⟨y9, g9, rfl, hy9, ht9, hB9⟩))
     obtain ⟨y1, y2, y3, y4, rfl⟩ := hy9.form
     have hr := hQ'.out
     simp only [e1] at hr ⊢
     exact hr _ _ _ _ _ _ hB9 hy9.deskI ⟨g9, rfl, own_fromN ht9 (by have := hV.size; omega)⟩
    case moveB =>
     rintro oo s V y Q' ho hs hQ
     simp at ho
     subst ho
     simp only [putsOf, Act.put, List.setIfInBounds_toArray, List.set_cons_succ, List.set_cons_zero] at hQ ⊢
     have hQ' := hide hQ
     clear hQ
     gi_wp2
     have hr := hQ'.out
     simp only [hs] at hr ⊢
     exact hr
    case extaB =>
     rintro oo s V y z Q' ho hs hQ
     simp at ho
     subst ho
     simp only [putsOf, Act.put, List.setIfInBounds_toArray, List.set_cons_succ, List.set_cons_zero] at hQ ⊢
     have hQ' := hide hQ
     clear hQ
     replace hs : s 5 = .tuple #[y, z] := hs
     gi_wp2
     have hr := hQ'.out
     simp only [hs] at hr ⊢
     exact hr
    case extbB =>
     rintro oo s V y z Q' ho hs hQ
     simp at ho
     subst ho
     simp only [putsOf, Act.put, List.setIfInBounds_toArray, List.set_cons_succ, List.set_cons_zero] at hQ ⊢
     have hQ' := hide hQ
     clear hQ
     replace hs : s 5 = .tuple #[y, z] := hs
     gi_wp2
     have hr := hQ'.out
     simp only [hs] at hr ⊢
     exact hr
    case alloB =>
     rintro oo s V Q' ho hQ
     simp at ho
     subst ho
     simp only [putsOf, Act.put, List.setIfInBounds_toArray, List.set_cons_succ, List.set_cons_zero] at hQ ⊢
     have hQ' := hide hQ
     clear hQ
     gi_wp2
     exact hQ'.out
    case storB =>
     rintro oo s V b' a1 c1 a2 c2 Q' ho hs1 hs2 hz hQ
     obtain ⟨z0, z1, z2, z3⟩ := row_at hz
     simp at ho
     subst ho
     simp only [putsOf, Act.put, List.setIfInBounds_toArray, List.set_cons_succ, List.set_cons_zero] at hQ ⊢
     have hQ' := hide hQ
     clear hQ
     replace hs1 : s 8 = .pointer (some ⟨b', 0, none⟩) := hs1
     replace hs2 : s 6 = .agg #[.slice a1 D.1.length c1, .slice a2 D.2.length c2] := hs2
     gi_wp2
     have hr := hQ'.out
     simp only [hs1, hs2] at hr ⊢
     exact hr
    case tailB =>
     rintro s w10 bc u1 u2 u3 u4 hV f8 hbc kc hC10 hζ
     replace f8 : s 8 = .pointer (some ⟨bc, 0, none⟩) := f8
     obtain ⟨g2, f7, hT2⟩ : ∃ g2, s 7 = .slice (some ⟨g2, 0, none⟩) (L.length - H) (L.length - H) ∧ w10.ownsRow w8.heap.size 9 1 (.slice (some ⟨g2, 0, none⟩) (L.length - H) (L.length - H)) (L.length - H) (T2.map txt) := by
      obtain ⟨g2, h1, h2⟩ := hζ
      exact ⟨g2, h1, by rw [← h1]; exact h2⟩
     simp only [putsOf, Act.put, List.setIfInBounds_toArray, List.set_cons_succ, List.set_cons_zero]
     simp only [List.drop_succ_cons, List.drop_zero]
     simp only [f7, f8]
     have kx10 := (hV.block _ (gE9.1 kx9).1).trans kx9
     have hg10 := hg9.below hV
     have hT10 := hT9.below hV
     have hE10 := hE9.below hV
     have hT110 := own_more hT1 hV
     have hB10 := hB9.trans (hV.mono hB9.size)
     have z810 := lT9 z89 hV.size
     obtain ⟨x0, x1, _, _⟩ := row_at kx10
     have hTh := hide hT10
     obtain ⟨ua', uc', heq, htc⟩ := hT10
     rw [hTN] at heq htc
     injection heq with heq1 _ heq2
     subst heq1
     subst heq2
     clear hL9 hg9 hB9 kd9 kx9 hV ka hA9 hT9 hE9 hT1 hI2h hζ
     gi_wp2
     gi_loopw [14] (fun i wr => ∃ k : Nat, k ≤ TN ∧ i = .int .i64 k ∧ wr = w10) (fun i _ => TN - (intOf i).toNat)
     case atStart => exact ⟨0, Nat.zero_le _, rfl, rfl⟩
     case round =>
      obtain ⟨k, hk, rfl, hwr⟩ := hrel
      obtain rfl : w10 = wr := hwr.symm
      clear hwr
      by_cases hlt : k < TN
      · have hki : (k : Int) < (TN : Int) := by omega
        obtain ⟨ga, rfl, hga, hcc⟩ := htc (by omega)
        obtain ⟨l, hl0⟩ : ∃ l, T[k]? = some l := ⟨_, eG9 (by omega)⟩
        have e1 := hcc k l hl0
        have hln := hne l (List.mem_of_getElem? hl0)
        unfold txt at e1
        have hS0 : (str l).toList ≠ [] := by
         rw [str_toList]
         cases l with
         | nil => exact absurd rfl hln
         | cons c r => simp
        obtain ⟨S, hS⟩ : ∃ S, str l = S := ⟨_, rfl⟩
        rw [hS] at e1 hS0
        have hS1 : (S.toList == []) = false := by rw [beq_eq_false_iff_ne]; exact hS0
        have hS2 : S.toList.isEmpty = false := by
         cases h : S.toList with
         | nil => exact absurd h hS0
         | cons c r => rfl
        clear hcc hS hl0 hln
        gi_wp2
        go_roundw
        case rel => exact ⟨k + 1, by omega, by go_num, by trivial⟩
        case measure => simp [intOf]; omega
      · obtain rfl : k = TN := by omega
        have hki : ¬ (k : Int) < (k : Int) := by omega
        have ht3 : str turnT = ⟨#[116, 117, 114, 110]⟩ := by kernel_rfl
        have hcell1 : str [99, 101, 108, 108, 32, 52, 32, 50] = ⟨#[99, 101, 108, 108, 32, 52, 32, 50]⟩ := by kernel_rfl
        have hcell2 : str [54] = ⟨#[54]⟩ := by kernel_rfl
        have bA := (Below.refl _ w10).alloc (Nat.le_refl _) (.cells #[.string ⟨#[116, 117, 114, 110]⟩, .string ⟨#[116, 117, 114, 110]⟩, .string ⟨#[116, 117, 114, 110]⟩] 9)
        have kA := aN9 w10 (.cells #[.string ⟨#[116, 117, 114, 110]⟩, .string ⟨#[116, 117, 114, 110]⟩, .string ⟨#[116, 117, 114, 110]⟩] 9)
        have hLA : LinesI (w10.alloc (.cells #[.string ⟨#[116, 117, 114, 110]⟩, .string ⟨#[116, 117, 114, 110]⟩, .string ⟨#[116, 117, 114, 110]⟩] 9)) (.slice (some ⟨w10.heap.size, 0, none⟩) 3 3) [turnT, turnT, turnT] := ⟨_, 3, rfl, fun _ => ⟨_, 0, rfl, by rw [World.size_alloc]; omega, fun j hj => by
         have hj3 : j < 3 := hj
         rcases (show j = 0 ∨ j = 1 ∨ j = 2 by omega) with rfl | rfl | rfl <;> (unfold World.cell?; rw [kA]; simp [txt, ht3])⟩⟩
        obtain ⟨wA, hwA⟩ : ∃ wA, w10.alloc (.cells #[.string ⟨#[116, 117, 114, 110]⟩, .string ⟨#[116, 117, 114, 110]⟩, .string ⟨#[116, 117, 114, 110]⟩] 9) = wA := ⟨_, rfl⟩
        rw [hwA] at bA hLA
        have hZ := implSay_yes _ _ D [turnT, turnT, turnT] wA (hg10.below bA) hDb (by decide) hLA (by
         intro l hl
         have : l = turnT := by simpa using hl
         subst this
         decide) (hE10.below bA)
        have hst := say_turns hDb
        obtain ⟨⟨Z, ZT⟩, hZe⟩ : ∃ r, sayL D [turnT, turnT, turnT] = r := ⟨_, rfl⟩
        rw [hZe] at hZ hst
        simp only [List.length_cons, List.length_nil] at hZ hst
        have kxA := (bA.block _ (gE9.1 kx10).1).trans kx10
        have kcA := (bA.block _ (gE9.1 kc).1).trans kc
        obtain ⟨x0, x1, _, _⟩ := row_at kxA
        have hsth := hide hst
        clear hZe hLA kA ht3 hst
        gi_wp2_with fail
        refine ⟨trivial, ?_⟩
        gi_at_call 25
        refine (cW9.2 hZ).mono ?_
        rintro e wB ⟨z, gz, rfl, hzo, _, bB⟩
        have hzd := hzo.deskI
        obtain ⟨z1, z2, z3, z4, rfl⟩ := hzo.form
        have bBa := (Below.refl _ wB).alloc (Nat.le_refl _) (.cells #[.slice z1 Z.1.length z2, .slice z3 Z.2.length z4] 31)
        have kz := aN9 wB (.cells #[.slice z1 Z.1.length z2, .slice z3 Z.2.length z4] 31)
        have hzd2 := hzd.below bBa
        obtain ⟨wC, hwC⟩ : ∃ wC, wB.alloc (.cells #[.slice z1 Z.1.length z2, .slice z3 Z.2.length z4] 31) = wC := ⟨_, rfl⟩
        rw [hwC] at bBa kz hzd2
        obtain ⟨bz, hbz⟩ : ∃ bz, wB.heap.size = bz := ⟨_, rfl⟩
        rw [hbz] at kz
        have bAC := bB.trans (bBa.mono bB.size)
        have b10C := bA.trans (bAC.mono bA.size)
        have kxC := (bAC.block _ (gE9.1 kxA).1).trans kxA
        obtain ⟨x0, x1, _, _⟩ := row_at kxC
        have hLC := implLine _ D [99, 101, 108, 108, 32, 52, 32, 50] wC (hg10.below b10C) hgc (deskB_size hDb) (by decide) (by decide) (hE10.below b10C)
        rw [line_cell hDb] at hLC
        simp only [hcell1, hcell2] at hLC
        clear hZ hzo hzd bB bBa kxA bA hwA
        gi_wp2_with fail
        refine ⟨trivial, ?_⟩
        gi_at_call 14
        refine (cW9.2 hLC).mono ?_
        rintro e wD ⟨q, rfl, hqo, bD⟩
        obtain ⟨q1, q2, q3, q4, rfl⟩ := hqo.form
        have bDa := (Below.refl _ wD).alloc (Nat.le_refl _) (.cells #[.slice q1 D.1.length q2, .slice q3 D.2.length q4] 31)
        obtain ⟨wE, hwE⟩ : ∃ wE, wD.alloc (.cells #[.slice q1 D.1.length q2, .slice q3 D.2.length q4] 31) = wE := ⟨_, rfl⟩
        rw [hwE] at bDa
        have bCE := bD.trans (bDa.mono bD.size)
        have b10E := b10C.trans (bCE.mono b10C.size)
        have kxE := (bCE.block _ (gE9.1 kxC).1).trans kxC
        have kzE := (bCE.block _ (gE9.1 kz).1).trans kz
        have kcE := (b10E.block _ (gE9.1 kc).1).trans kc
        have hzE := hzd2.below bCE
        have hgE := hg10.below b10E
        have hcE := hC10.below b10E
        have hTE := hTh.out.below b10E
        have hT1E := own_more hT110 b10E
        have hT2E := own_more hT2 b10E
        have hBE := hB10.trans (b10E.mono hB10.size)
        obtain ⟨x0, x1, _, _⟩ := row_at kxE
        obtain ⟨y0, y1, _, _⟩ := row_at kcE
        obtain ⟨v0, v1, _, _⟩ := row_at kzE
        clear hLC bD bDa kxC kz kcA b10C hcell1 hcell2
        gi_wp2_with fail
        refine ⟨trivial, ?_⟩
        gi_at_call 18
        refine (cW9.2 (sameDesk_in _ _ D wE hsz hcE hgE)).mono ?_
        rintro e wF ⟨rfl, bF⟩
        have kxF := (bF.block _ (gE9.1 kxE).1).trans kxE
        have kzF := (bF.block _ (gE9.1 kzE).1).trans kzE
        obtain ⟨x0, x1, _, _⟩ := row_at kxF
        obtain ⟨v0, v1, _, _⟩ := row_at kzF
        have bFG := (Below.refl _ wF).alloc (Nat.le_refl _) (.cells #[] 9)
        have hG : (wF.alloc (.cells #[] 9)).ownsRow wF.heap.size 9 1 (.slice (some ⟨wF.heap.size, 0, none⟩) 0 0) 0 [] := World.ownsRow_made _ _ _ (Nat.le_refl _) (by decide) rfl
        have sFG := World.size_alloc wF (.cells #[] 9)
        obtain ⟨wG, hwG⟩ : ∃ wG, wF.alloc (.cells #[] 9) = wG := ⟨_, rfl⟩
        rw [hwG] at bFG hG sFG
        have bEG := bF.trans (bFG.mono bF.size)
        have hT1G := own_more hT1E bEG
        have hT2G := own_more hT2E bEG
        have l1 := (hT1E.lt g1 rfl).2
        have l2 := (hT2E.lt g2 rfl).2
        have sEF := bF.size
        have hTG := hTE.below bEG
        have hc1 : ∀ j l, T1[j]? = some l → wG.cell? ⟨g1, j, none⟩ = some (txt l) := fun j l hj => by
         have h := hT1G.cells (g := g1) rfl j (txt l) (by rw [List.getElem?_map, hj]; rfl)
         rwa [show (⟨g1, 0, none⟩ : Addr).add j = ⟨g1, j, none⟩ by unfold Addr.add; split <;> simp_all] at h
        have sG : wF.heap.size ≤ wG.heap.size := by omega
        obtain ⟨bs, hbs⟩ : ∃ bs, wF.heap.size = bs := ⟨_, rfl⟩
        rw [hbs] at hG
        have hl1 : T1.length = H := by omega
        have hl2 : T2.length = L.length - H := by omega
        have hTlen : T.length = L.length := hTN.trans (by omega)
        have hHL : H + (L.length - H) = L.length := Nat.add_sub_cancel' hH2
        have hTm : T.length ≤ 1000000 := by
         rw [hTlen]
         omega
        have hn1 : 0 + H ≤ 4000000 := by omega
        have hn2 : H + (L.length - H) ≤ 4000000 := by omega
        have hb1 : bs ≤ wG.heap.size := by omega
        have hEb : wE.heap.size ≤ bs := by omega
        have hg2b : g2 ≠ bs := by omega
        have hZm : Z.1.length ≤ 1000000000 := by
         rw [hsth.out]
         omega
        obtain ⟨zx, zp, hze, hzI, _⟩ := id hzE
        injection hze with hze
        simp at hze
        obtain ⟨rfl, rfl⟩ := hze
        obtain ⟨gx, gp, hge, hxI, _⟩ := id hgE
        injection hge with hge
        simp at hge
        obtain ⟨rfl, rfl⟩ := hge
        replace hxI := (show ∀ v, Ints wE v D.1 → Ints wE v Z.1 from fun v h => by rw [hsth.out]; exact h) _ hxI
        have hzIh := hide hzI
        have hxIh := hide hxI
        clear hzI hxI
        gi_wp2_with (first
         | (refine append_txts_at (ops := _) (a := _) _ _ rfl rfl bs _ H _ rfl hv1 g2 (L.length - H) (L.length - H) T2 rfl hl2 hc2 hn2 hbH ?_
            go_loud (intro v2 wI hv2 hgr2
                     have bEI : Below wE.heap.size wE wI := by
                      refine ⟨hgr2.os.trans (hgr1.os.trans bEG.os), hgr2.tape.trans (hgr1.tape.trans bEG.tape), hgr2.output.trans (hgr1.output.trans bEG.output), lT9 bEG.size (lT9 hgr1.size hgr2.size), fun k hk => ?_⟩
                      refine (hgr2.block k (lL9 (lL9 hk bEG.size) hgr1.size) (fun e => ?_)).trans ((hgr1.block k (lL9 hk bEG.size) (fun e => ?_)).trans (bEG.block k hk))
                      · exact absurd (hv1.lt k e.symm).1 (Nat.not_le.2 (lL9 hk hEb))
                      · exact absurd (Option.some.inj (show some k = some bs from e)) (Nat.ne_of_lt (lL9 hk hEb))
                     rw [hHL] at hv2
                     have hfT := Texts.of_owns (show wI.ownsRow bs 9 1 v2 T.length (T.map txt) by rw [hTlen, ← hr2, List.map_append]; exact hv2)
                     obtain ⟨vb, vd, rfl⟩ := own_shape hv2
                     have hTI := hTE.below bEI
                     rw [← hTN, hTlen] at hTI
                     have kxI := (bEI.block _ (gE9.1 kxE).1).trans kxE
                     have kzI := (bEI.block _ (gE9.1 kzE).1).trans kzE
                     obtain ⟨x0, x1, _, _⟩ := row_at kxI
                     obtain ⟨v0, v1, _, _⟩ := row_at kzI
                     clear hv2 hgr2))
         | (refine append_txts_at (ops := _) (a := _) _ _ rfl rfl bs _ 0 [] rfl hG g1 H H T1 rfl hl1 hc1 hn1 hb1 ?_
            go_loud (intro v1 wH hv1 hgr1
                     simp only [Nat.zero_add, List.nil_append] at hv1
                     obtain ⟨va, vc, rfl⟩ := own_shape hv1
                     have hT2H := hT2G.kept hgr1 (.inr (fun e => absurd (Option.some.inj (show some g2 = some bs from e)) hg2b))
                     have hc2 : ∀ j l, T2[j]? = some l → wH.cell? ⟨g2, j, none⟩ = some (txt l) := fun j l hj => by
                      have h := hT2H.cells (g := g2) rfl j (txt l) (by rw [List.getElem?_map, hj]; rfl)
                      rwa [show (⟨g2, 0, none⟩ : Addr).add j = ⟨g2, j, none⟩ by unfold Addr.add; split <;> simp_all] at h
                     have hbH := lT9 hb1 hgr1.size)))
        refine ⟨trivial, ?_⟩
        gi_at_call 27
        refine (cW9.2 (sameTexts_in (.slice vb L.length vd) (.slice ua L.length uc) T wI hTm hfT hTI)).mono ?_
        rintro e wJ ⟨rfl, bJ⟩
        have bEJ := bEI.trans (bJ.mono bEI.size)
        have kxJ := (bJ.block _ (gE9.1 kxI).1).trans kxI
        have kzJ := (bJ.block _ (gE9.1 kzI).1).trans kzI
        obtain ⟨x0, x1, _, _⟩ := row_at kxJ
        obtain ⟨v0, v1, _, _⟩ := row_at kzJ
        have hzJ := hzIh.out.below bEJ
        have hxJ := hxIh.out.below bEJ
        have hBJ := hBE.trans (bEJ.mono hBE.size)
        clear hTI hfT hv1 hT2H hc2 hTE hzE hgE hcE hT1E hT2E hT1G hT2G hTG hc1 kxI kzI kxF kzF kxE kzE hG hE10 hg10 hC10 hTh
        gi_wp2_with fail
        refine ⟨trivial, ?_⟩
        gi_at_call 28
        refine (cW9.2 (sameInts_in _ _ Z.1 wJ hZm hzJ hxJ)).mono ?_
        rintro e wK ⟨rfl, bK⟩
        clear hzJ hxJ
        gi_wp2
        go_ret
        exact ⟨rfl, hBJ.trans (bK.mono hBJ.size)⟩
 · have hV : sayV d L = (([], []), []) := by unfold sayV; rw [if_neg hok]
   rw [hV] at hDT
   injection hDT with hD0 hT0
   subst hD0
   subst hT0
   have hTN0 : TN = 0 := by rw [← hTN]; rfl
   subst hTN0
   have hNo := noDesk_in _ w8 hgd8
   clear hV hTN
   cases hb : deskB d with
   | false =>
     gi_wp2_with (first
      | (refine ⟨trivial, ?_⟩; gi_at_call 22; go_loud (refine (cW9.2 hNo).mono ?_; clear hNo; rintro e w9 ⟨rfl, b9⟩))
      | (refine ⟨trivial, ?_⟩; gi_at_call 19; go_loud (refine (cW9.2 (alive_in _)).mono ?_; rintro e w10 ⟨rfl, b10⟩)))
     go_ret
     exact ⟨rfl, hB8.trans ((b9.trans (b10.mono b9.size)).mono hB8.size)⟩
   | true =>
     have hl' : (L.length : Int) > 40 := by
      rcases Nat.lt_or_ge 40 L.length with h | h
      · omega
      · exact absurd ⟨hb, h⟩ hok
     gi_wp2_with (first
      | (refine ⟨trivial, ?_⟩; gi_at_call 22; go_loud (refine (cW9.2 hNo).mono ?_; clear hNo; rintro e w9 ⟨rfl, b9⟩))
      | (refine ⟨trivial, ?_⟩; gi_at_call 19; go_loud (refine (cW9.2 (alive_in _)).mono ?_; rintro e w10 ⟨rfl, b10⟩)))
     go_ret
     exact ⟨rfl, hB8.trans ((b9.trans (b10.mono b9.size)).mono hB8.size)⟩
end
section
open Go Go.RowKit
variable {H : Type} {enc : TypeId × Value → H}
theorem returnsInHanded_of_change_and_shaped {a : Assume} {C : Checked} {os : Os} {f : FuncId} {fn : Func} {s : ChangeSpec} {conds : List PathCond} {apart fresh handsOn again : Bool} {X : World → Array Value → Prop}
 (hX : ∀ (w w' : World) (args : Array Value), w.heap = w'.heap → X w args → X w' args)
 (own : ownKnob C.prog.godebug = none) (started : os.Started) (noInit : C.prog.inits.idxOf? f = none) (hfn : C.prog.funcs[f]? = some fn)
 (witness : ∃ (w : World) (tape : Tape) (i : Input), w.os = os ∧ (w.forCall tape i).Shaped C.prog ∧ i.vars = [] ∧ Input.okWide C.prog (w.forCall tape i) .any w.heap.size f i ∧
  ((s.pre enc C.prog fn conds apart (w.forCall tape i).memory i.args ∧ X (w.forCall tape i).memory i.args) ∧ sizedMet enc C.prog fn (OpenSpec.ofChange s) apart (w.forCall tape i).memory i.args) ∧ a.holds C.prog (lone (Frame.enter C.prog f i.args .normal) [] (w.forCall tape i)))
 (contract : ∀ (W : World) (base : Nat) (args : Array Value) (ds gs : List (DataW H)) (before : List MemPlace),
  (∀ (j : Nat) t v, fn.params[j]? = some t → args[j]? = some v → Value.okWide C.prog W .any base t v) →
  DataW.Whole enc C.prog fn.params.toList s.vars apart W args.toList ds gs before →
  conds.all (PathCond.test C.prog ⟨fn.params.toList, ds, s.plain.varTypes C.prog, gs⟩) = true →
  W.ShapedOpen C.prog → X W args →
  a.holds C.prog (lone (Frame.enter C.prog f args .normal) [] W) →
  Calls C.prog f args W fun e W' => ∃ v, e = .returned v ∧ s.post enc C.prog fn apart fresh handsOn again W args v W') :
 ReturnsInHanded a C os f .any (fun w args => (s.pre enc C.prog fn conds apart w args ∧ X w args) ∧ sizedMet enc C.prog fn (OpenSpec.ofChange s) apart w args) (s.post enc C.prog fn apart fresh handsOn again) := by
 refine returnsInHanded_of_calls own started noInit witness ?_
 intro w tape i _ hsh _ hok hpre hholds
 obtain ⟨_, _, _, fn', hfn', _, _, _, _, hval⟩ := hok
 have e : fn' = fn := Option.some.inj (hfn'.symm.trans hfn)
 subst e
 obtain ⟨⟨⟨ds, gs, before, hw, hc⟩, hx⟩, hz⟩ := hpre
 have hw' := DataW.Whole.of_heap (w' := w.forCall tape i) (by rfl) hw
 refine (contract (w.forCall tape i) w.heap.size i.args ds gs before hval hw' hc hsh (hX _ _ _ (by rfl) hx) hholds).mono fun e W' ⟨v, he, hp⟩ => ?_
 subst he
 exact ChangeSpec.post_blind hp
def laid7 : List (String × DataW Unit) := [("math/bits.deBruijn32tab", Rows.laid_math_bits_deBruijn32tab), ("math/bits.deBruijn64tab", Rows.laid_math_bits_deBruijn64tab), ("internal/strconv.uint64pow10", Rows.laid_internal_strconv_uint64pow10), ("unicode/utf8.acceptRanges", Rows.laid_unicode_utf8_acceptRanges), ("strconv.ErrRange", Rows.laid_strconv_ErrRange), ("strconv.ErrSyntax", Rows.laid_strconv_ErrSyntax), ("unicode/utf8.first", Rows.laid_unicode_utf8_first)]
theorem errStar : "*" ++ "errors.errorString" = "*errors.errorString" := by decide
theorem errRow (u : TypeId) (h : Tryz.prog.typeName? 3 u = some "*errors.errorString") : u = 226 :=
 typeName_ptr_named (nm := "errors.errorString") (by rw [errStar]; kernel_rfl) (by kernel_rfl) (by decide) u (by rw [errStar]; exact h)
theorem env_of_laid {W : World} (hsh : W.ShapedOpen Tryz.prog) (hL : laidMet Tryz.prog laid7 W) : Env W := by
 have h3 : laidMet Tryz.prog (("internal/strconv.uint64pow10", Lib.tabData .u64 Lib.pow10Tab) :: _) W := hL.tail.tail
 have h5 := h3.tail.tail
 have h6 := h5.tail
 obtain ⟨a0, s0, hv0, _, _, _⟩ := laid_sentinel (te := 228) h5 (g := Tryz.atoiA_ren.g 16) (by kernel_rfl) (ti := 89) (by kernel_rfl) Tryz.underlying89 errRow Tryz.underlying226 Tryz.underlying228 rfl rfl Tryz.underlying9 (by kernel_rfl) (by kernel_rfl)
 obtain ⟨a1, s1, hv1, _, _, _⟩ := laid_sentinel (te := 228) h6 (g := Tryz.atoiA_ren.g 15) (by kernel_rfl) (ti := 89) (by kernel_rfl) Tryz.underlying89 errRow Tryz.underlying226 Tryz.underlying228 rfl rfl Tryz.underlying9 (by kernel_rfl) (by kernel_rfl)
 have k1 := World.var?_cell (g := Tryz.atoiA_ren.g 15) (by kernel_rfl) hv1 0
 have k0 := World.var?_cell (g := Tryz.atoiA_ren.g 16) (by kernel_rfl) hv0 0
 simp only [List.getElem?_toArray, List.getElem?_cons_zero] at k0 k1
 have hp := Lib.tabIs_of_head (g := Tryz.itoaA_ren.g 17) (t := 201) (e := 162) (n := 20) (by kernel_rfl) (by kernel_rfl) Tryz.underlying201 Tryz.underlying162 (by kernel_rfl) (by kernel_rfl) h3
 exact ⟨Tryz.splitA.s1_3 W hsh, hp, ⟨_, k1, .inr ⟨_, _, rfl⟩⟩, ⟨_, k0, .inr ⟨_, _, rfl⟩⟩⟩
end
end Go.Proofs.YtiaaefapbcjgmaaGreatDoor
