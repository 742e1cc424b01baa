/-
  The walk of the law on DeskNew.
-/
import Derived.Test.YtcjkjpainfhfkaaImpl12a
import Derived.Test.YtcjkjpainfhfkaaLawKit7
import Derived.Test.YtcjkjpainfhfkaaSpec12j
import Derived.Test.YtcjkjpainfhfkaaDraw9
import Derived.Test.YtcjkjpainfhfkaaKit4
namespace Go.Proofs.Ytcjkjpainfhfkaa
open Go.RowKit Go.BigFrame

theorem drawDeskNew (w : World) (a : Option Addr) (len cap : Nat) (zs : List Int) (h : IsRow .u8 w a len cap zs) : Calls Try.prog 11 #[.slice a len cap] w fun e w' => Side w' e ∧ Below w.heap.size w w' := by
  go_enter Try.func11, Try.ntmps11
  go_wp2_with fail
  go_at_call 26
  refine (open_in w a len cap zs h).mono ?_
  rintro e w1 ⟨R, n, c, rfl, hb, hR⟩
  go_wp2_with fail
  go_at_call 29
  refine (l20Side_in w R n c _ a 3 (by omega) (by omega) _ hb hR (by omega)).mono ?_
  rintro e w2 ⟨⟨v, xs, rfl, hi, hl, hlen⟩, p', hR2⟩
  go_wp2
  go_ret
  exact ⟨⟨_, _, rfl, hi, hl, hlen⟩, hR2.1⟩

theorem deskI_new {W : World} {base : Nat} {x : Value} {xs : List Int} (hx : W.ownsRow base 3 1 x (newV xs).1.length ((newV xs).1.map (Value.int .i64))) : DeskI W (.agg #[x, .slice none 0 0]) (newV xs) := by
  refine ⟨x, _, rfl, Ints.of_owns hx, ?_⟩
  have : (newV xs).2 = [] := by unfold newV; split <;> rfl
  rw [this]
  exact PastI.none _ _ _

set_option maxRecDepth 100000 in
set_option maxHeartbeats 2000000 in
theorem lawDeskNew (a0 : Option Addr) (len0 cap0 : Nat) (z0 : List Int) (w : World) (w0 : IsRow .u8 w a0 len0 cap0 z0) :
    Calls Try.prog 4 #[.slice a0 len0 cap0] w fun e w' => e = .returned (.bool true) ∧ Below w.heap.size w w' := by
  by_cases hbig : 1048576 < len0
  · go_enter Try.func4, Try.ntmps4
    go_wp2
    go_ret
    exact ⟨rfl, Below.refl _ _⟩
  · go_enter Try.func4, Try.ntmps4
    go_wp2_with fail
    go_at_call 11
    refine (drawDeskNew w a0 len0 cap0 z0 w0).mono ?_
    rintro e w1 ⟨⟨v, xs, rfl, hv, hlies, hxl⟩, hB1⟩
    have hsz : ∀ d : Dk, d = newV xs → d.1.length ≤ 1000000 ∧ d.2.length ≤ 1000000 ∧ ∀ j, j < d.2.length → (d.2.getD j []).length ≤ 1000000 := fun d hd => by
      subst hd; unfold newV; split
      · exact ⟨by simp; omega, by simp, fun j hj => by simp at hj⟩
      · exact ⟨by simp, by simp, fun j hj => by simp at hj⟩
    go_wp2_with fail
    go_at_call 12
    refine (implDeskNew v xs w1 hv (by omega)).mono ?_
    rintro e w2 ⟨g, rfl, hg, hB2⟩
    have hgd := hg.deskI
    have hgo := hide hg.deskI
    have hok := fun V (hV : Below w2.heap.size w2 V) (hb : deskB (newV xs) = true) => implDeskOk g (newV xs) V (hgd.below hV) ⟨by have := (hsz _ rfl).1; omega, by have := (hsz _ rfl).2.1; omega, fun j => by
      by_cases hj : j < (newV xs).2.length
      · have := (hsz _ rfl).2.2 j hj; omega
      · rw [List.getD, List.getElem?_eq_none (by omega)]; simp⟩
    obtain ⟨g1, g2, g3, g4, rfl⟩ := hg.form
    have hv2 := hv.below hB2
    have hD2 := hB1.trans (hB2.mono hB1.size)
    have ha := (Below.refl _ w2).alloc (Nat.le_refl _) (.cells #[.slice g1 (newV xs).1.length g2, .slice g3 (newV xs).2.length g4] 26)
    have k4 := World.alloc_heap_new w2 (.cells #[.slice g1 (newV xs).1.length g2, .slice g3 (newV xs).2.length g4] 26)
    have l4 : w2.heap.size < (w2.alloc (.cells #[.slice g1 (newV xs).1.length g2, .slice g3 (newV xs).2.length g4] 26)).heap.size := by simp
    go_wp2_with fail
    obtain ⟨w3, hw3⟩ : ∃ w3, w2.alloc (.cells #[.slice g1 (newV xs).1.length g2, .slice g3 (newV xs).2.length g4] 26) = w3 := ⟨_, rfl⟩
    rw [hw3] at ha k4 l4 ⊢
    clear hw3
    go_at_call 13
    refine (specNew v xs w3 (hv2.below ha) (by omega)).mono ?_
    rintro e w4 ⟨x, rfl, hx, hB4⟩
    have hxd := deskI_new hx
    obtain ⟨xa, xc, rfl⟩ := own_form hx
    have hb := (Below.refl _ w4).alloc (Nat.le_refl _) (.cells #[.slice xa (newV xs).1.length xc, .slice none 0 0] 26)
    have k5 := World.alloc_heap_new w4 (.cells #[.slice xa (newV xs).1.length xc, .slice none 0 0] 26)
    have l5 : w4.heap.size < (w4.alloc (.cells #[.slice xa (newV xs).1.length xc, .slice none 0 0] 26)).heap.size := by simp
    have b24 := ha.trans (hB4.mono ha.size)
    cases hs : sideB xs with
    | false =>
      have hnv : newV xs = ([], []) := by unfold newV; rw [hs]; rfl
      have hSd := fun W (hW : Ints W v xs) => implSide v xs W hW (by omega)
      rw [hs] at hSd
      simp only [hnv, List.length_nil] at hgd hxd k4 hb k5 l5 ⊢
      clear hok hgo
      obtain ⟨w4', hw4⟩ : ∃ w5, w4.alloc (.cells #[.slice xa 0 xc, .slice none 0 0] 26) = w5 := ⟨_, rfl⟩
      rw [hw4] at hb k5 l5
      have hb' := hb.setCell (p := ⟨w4.heap.size, 1, none⟩) (Nat.le_refl _) (.slice none 0 0)
      have k5' := set_cells k5 1 (.slice none 0 0)
      obtain ⟨_, y1, _, y3⟩ := row_at k5
      clear hb k5 l5
      obtain ⟨w5, hw5⟩ : ∃ w5, w4'.setCell ⟨w4.heap.size, 1, none⟩ (.slice none 0 0) = w5 := ⟨_, rfl⟩
      rw [hw5] at hb' k5'
      have hb := hb'
      have k5 : w5.heap[w4.heap.size]? = some (.cells #[.slice xa 0 xc, .slice none 0 0] 26 (0, 0)) := k5'
      clear hb' k5'
      have b25 := b24.trans (hb.mono b24.size)
      have hDs := sameDesk_in _ _ ([], []) w5 ⟨by simp, by simp, fun j hj => by simp at hj⟩ (hgd.below b25) (hxd.below hb)
      have k45 := (hb.block _ (Nat.lt_of_lt_of_le l4 hB4.size)).trans ((hB4.block _ l4).trans k4)
      obtain ⟨c0, c1, _, _⟩ := row_at k45
      obtain ⟨e0, e1, _, _⟩ := row_at k5
      have l45 := (Array.getElem?_eq_some_iff.1 k45).1
      have hv5 := hv2.below b25
      have hgd5 := hgd.below b25
      have hD5 := hD2.trans (b25.mono hD2.size)
      clear hgd hxd hB4 ha hb b24 k4 k5 l4 hv2 hx
      go_wp2_with (first
        | (go_at_call 14; go_loud (refine hDs.mono ?_; clear hDs; rintro e w6 ⟨rfl, b6⟩; obtain ⟨c0, c1, _, _⟩ := row_at ((b6.block _ l45).trans k45)))
        | (go_at_call 15; go_loud (refine (noDesk_in _ w6 (hgd5.below b6)).mono ?_; rintro e w7 ⟨rfl, b7⟩))
        | (go_at_call 16; go_loud (refine (hSd w7 ((hv5.below b6).below b7)).mono ?_; clear hSd; rintro e w8 ⟨rfl, b8⟩))
        | (go_at_call 10; go_loud (refine (alive_in _).mono ?_; rintro e w9 ⟨rfl, b9⟩)))
      go_ret
      exact ⟨rfl, hD5.trans ((b6.trans ((b7.trans ((b8.trans (b9.mono b8.size)).mono b7.size)).mono b6.size)).mono hD5.size)⟩
    | true =>
      have hnv : newV xs = (xs, []) := by unfold newV; rw [hs]; rfl
      have hlen := sideB_len hs
      have hdb : deskB (xs, []) = true := deskB_is.2 ⟨fun r hr => by simp at hr, hs, by simp⟩
      simp only [hnv, List.length_nil] at hgd hxd k4 hb k5 l5 hok ⊢
      rw [hdb] at hok
      clear hgo
      obtain ⟨w4', hw4⟩ : ∃ w5, w4.alloc (.cells #[.slice xa xs.length xc, .slice none 0 0] 26) = w5 := ⟨_, rfl⟩
      rw [hw4] at hb k5 l5
      have hb' := hb.setCell (p := ⟨w4.heap.size, 1, none⟩) (Nat.le_refl _) (.slice none 0 0)
      have k5' := set_cells k5 1 (.slice none 0 0)
      obtain ⟨_, y1, _, y3⟩ := row_at k5
      clear hb k5 l5
      obtain ⟨w5, hw5⟩ : ∃ w5, w4'.setCell ⟨w4.heap.size, 1, none⟩ (.slice none 0 0) = w5 := ⟨_, rfl⟩
      rw [hw5] at hb' k5'
      have hb := hb'
      have k5 : w5.heap[w4.heap.size]? = some (.cells #[.slice xa xs.length xc, .slice none 0 0] 26 (0, 0)) := k5'
      clear hb' k5'
      have b25 := b24.trans (hb.mono b24.size)
      have hgd5 := hgd.below b25
      have hDs := sameDesk_in _ _ (xs, []) w5 ⟨by simp; omega, by simp, fun j hj => by simp at hj⟩ hgd5 (hxd.below hb)
      have hsi := fun W (h1 : Ints W (.slice g1 xs.length g2) xs) (h2 : Ints W v xs) => sameInts_in (.slice g1 xs.length g2) v xs W (by omega) h1 h2
      have k45 := (hb.block _ (Nat.lt_of_lt_of_le l4 hB4.size)).trans ((hB4.block _ l4).trans k4)
      obtain ⟨c0, c1, _, _⟩ := row_at k45
      obtain ⟨e0, e1, _, _⟩ := row_at k5
      have l45 := (Array.getElem?_eq_some_iff.1 k45).1
      have hv5 := hv2.below b25
      have hg5 : Ints w5 (.slice g1 xs.length g2) xs := by
        obtain ⟨x', p', e, h1, _⟩ := hgd5
        injection e with e
        simp at e
        rw [← e.1] at h1
        exact h1
      have hD5 := hD2.trans (b25.mono hD2.size)
      clear hgd hxd hB4 ha hb b24 k4 k5 l4 hv2 hx hgd5
      go_wp2_with (first
        | (go_at_call 14; go_loud (refine hDs.mono ?_; clear hDs; rintro e w6 ⟨rfl, b6⟩; have k6 := (b6.block _ l45).trans k45; obtain ⟨c0, c1, _, _⟩ := row_at k6; have l6 := (Array.getElem?_eq_some_iff.1 k6).1))
        | (go_at_call 8; go_loud (refine (hok w6 (b25.trans (b6.mono b25.size)) trivial).mono ?_; clear hok; rintro e w7 ⟨rfl, b7⟩; obtain ⟨c0, c1, _, _⟩ := row_at ((b7.block _ l6).trans k6)))
        | (go_at_call 17; go_loud (refine (hsi w7 ((hg5.below b6).below b7) ((hv5.below b6).below b7)).mono ?_; clear hsi; rintro e w8 ⟨rfl, b8⟩; obtain ⟨c0, c1, _, _⟩ := row_at ((b8.block _ (Nat.lt_of_lt_of_le l6 b7.size)).trans ((b7.block _ l6).trans k6)))))
      go_ret
      exact ⟨rfl, hD5.trans ((b6.trans ((b7.trans (b8.mono b7.size)).mono b6.size)).mono hD5.size)⟩
end Go.Proofs.Ytcjkjpainfhfkaa
