/-
  The draws of chapter 12: a text that is often that of a deed.
-/
import Derived.Test.YtdgolpgggahknaaDoorDraw12g
import Derived.Test.YtdgolpgggahknaaDoorSpecZ
namespace Go.Proofs.YtdgolpgggahknaaDoor
open Go Go.RowKit
attribute [local go_sem] Oper.semAt_some

theorem rd_belowD {W0 w w' : World} {R len cap p : Nat} {a : Option Addr} (h : Rd W0 R a len cap w p) (hB : Below w.heap.size w w') : Rd W0 R a len cap w' p :=
  ⟨h.1.trans (hB.mono h.1.size), h.2.1, (hB.block R (Array.getElem?_eq_some_iff.1 h.2.2).1).trans h.2.2⟩

set_option maxRecDepth 100000 in
set_option maxHeartbeats 1000000 in
theorem drawReadDeed (w : World) (a : Option Addr) (len cap : Nat) (zs : List Int) (h : IsRow .u8 w a len cap zs) : Calls Tryd.prog 14 #[.slice a len cap] w fun e w' => ∃ v, e = .returned v ∧ TxtLe 40 v ∧ Below w.heap.size w w' := by
  have ho := open_in w a len cap zs h
  go_enter Tryd.func14, Tryd.ntmps14
  go_wp2_with fail
  go_at_call 28
  refine ho.mono ?_
  rintro e w2 ⟨R, n, c, rfl, hb, hR⟩
  go_wp2_with fail
  go_at_call 30
  refine (l20Side0_in w R n c _ a _ hb hR (by omega)).mono ?_
  rintro e w3 ⟨v, xs, rfl, hown, hx1, hx2, p3, hp3, hR3, hg3⟩
  obtain ⟨ra, rc, rfl⟩ := own_shape hown
  go_wp2_with fail
  go_at_call 29
  refine (l20Deed_in w R n c _ a _ hb hR3 (by omega) ra xs.length rc (by omega)).mono ?_
  rintro e w4 ⟨⟨k, m, hk, hm, rfl⟩, p4, hp4, hR4, hg4⟩
  have hT := specDeedText k m hk hm w4
  have hl := fun x hx => (deed_byte k m x hx).1
  have hln := deed_len k m
  have hv : TxtLe 40 (.string (str (deedT k m))) := ⟨_, rfl, hl, by omega⟩
  have hSp := fun V q (h : Rd w R a n c V q) hq => l20Spoil_in w R n c q _ V hb h hq (deedT k m) hl (by omega)
  have hle : 2 * (deedT k m).length + 10 ≤ 40 := by omega
  generalize 2 * (deedT k m).length + 10 = M at *
  obtain ⟨S, hS⟩ : ∃ S, str (deedT k m) = S := ⟨_, rfl⟩
  rw [hS] at hT hv hSp
  unfold dV at *
  clear hS hl hln hown hR3 hg3 hR hg4
  go_wp2_with fail
  go_at_call 11
  refine hT.mono ?_
  rintro e w5 ⟨rfl, hB5⟩
  have hR5 := rd_belowD hR4 hB5
  clear hR4 hT hB5
  go_wp2_with fail
  go_at_call 40
  refine (pick_in w R n c _ a _ _ hb hR5 (by omega)).mono ?_
  rintro e w6 ⟨x, rfl, _, _, _, hR6, _, _⟩
  by_cases hx : x = 0
  · subst hx
    go_wp2_with fail
    go_at_call 41
    refine (hSp _ _ hR6 (by omega)).mono ?_
    rintro e w7 ⟨⟨v, rfl, hvt⟩, p7, _, hR7, _⟩
    obtain ⟨lv, rfl, h1, h2⟩ := hvt
    go_wp2
    go_ret
    exact ⟨_, rfl, ⟨lv, rfl, h1, by omega⟩, hR7.1⟩
  · have hxb : (x == 0) = false := by rw [beq_eq_false_iff_ne]; exact hx
    clear hSp
    go_wp2
    go_ret
    exact ⟨_, rfl, hv, hR6.1⟩
end Go.Proofs.YtdgolpgggahknaaDoor
