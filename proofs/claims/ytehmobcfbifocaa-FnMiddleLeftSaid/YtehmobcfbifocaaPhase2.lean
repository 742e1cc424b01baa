/-
  A call of sumInLots, whole: in whatever company of goroutines that only leave.
-/
import Derived.Test.YtehmobcfbifocaaPhase
import Derived.Test.YtehmobcfbifocaaCalm17
namespace Go.Proofs.Ytehmobcfbifocaa
open Go Go.Conc Go.ConcN Go.RowKit Go.Conc.Lib Go.ConcR.Gen Go.ConcN.Gen
open Go.ConcR (KK wgBlock WgAt stA smA rd wr mk Payload Aside2 DC0 ofEvent_cell)

section
variable {W : World} {Sh : Nat → Prop} {c C Bb n nC capC capB : Nat} {by' : Int} {row : Nat → Int} {rest : Nat → Value} {b₀ : Frame} {a₀ : Act} {ops₀ : Array Oper} {i₀ : Nat} {rest₀ : List Nat} {k₀ : List Item} {cs : List Frame}
/-- What is asked of a call. -/
structure SumAsk (W : World) (Sh : Nat → Prop) (c C Bb n nC capC capB : Nat) (by' : Int) (row : Nat → Int) (rest : Nat → Value) : Prop where
  hC : C < W.heap.size
  hBb : Bb < W.heap.size
  hne : C ≠ Bb
  hn : 1 ≤ n ∧ n ≤ 1000 ∧ n ≤ nC ∧ n ≤ capC ∧ n ≤ capB
  hc : c ≤ 100000
  shC : ¬ Sh C
  shB : ¬ Sh Bb
  sh : Rows1 Sh W
  byOk : 2 ≤ by' ∧ by' ≤ 100000
  rowOk : ∀ o, o < n → 0 ≤ row o ∧ row o < by'
  pay : PayAt C nC W
  hrow : ∀ o, o < n → W.cell? ⟨Bb, o, none⟩ = some (.int .i64 (row o))
  hrest : ∀ o, n ≤ o → o < nC → Has C o (rest o) W

theorem SumAsk.lt (A : SumAsk W Sh c C Bb n nC capC capB by' row rest) (b : Nat) (h : Sh b) : b < W.heap.size := by
  obtain ⟨cs, e, fr, h1⟩ := A.sh b h
  exact (Array.getElem?_eq_some_iff.1 h1).1
theorem stp_fit {j0 t0 : Nat} (A : SumAsk W Sh c C Bb n nC capC capB by' row rest) (hj : j0 ≤ 100000) : (stp W Sh C Bb n nC capC capB by' row rest j0 t0).Fit :=
  ⟨A.hC, A.hBb, A.hne, A.hn, hj, fun _ ⟨a, e, h⟩ => ⟨a, e, A.lt _ h, fun e => A.shC ((show a.block = C from e) ▸ h), fun e => A.shB ((show a.block = Bb from e) ▸ h)⟩, A.byOk, A.rowOk⟩
theorem stp_first {j0 t0 : Nat} {w : World} (A : SumAsk W Sh c C Bb n nC capC capB by' row rest)
    (h : HW W ((((W.heap.push (.cells #[.slice (some ⟨C, 0, none⟩) n capC] 37)).push (.cells #[.slice (some ⟨Bb, 0, none⟩) n capB] 37)).push (.cells #[.int .i64 by'] 3)).push (wgBlock wgl.tWg 0 0)) w) :
    SFp (stp W Sh C Bb n nC capC capB by' row rest j0 t0) W w ∧ WgAt wgl.tWg (W.heap.size + 3) w 0 0 ∧ (∀ b, b < W.heap.size → w.heap[b]? = W.heap[b]?) := by
  have hB := A.hBb
  have low : ∀ b, b < W.heap.size → w.heap[b]? = W.heap[b]? := fun b hb => by
    rw [h.heap, Array.getElem?_push, Array.getElem?_push, Array.getElem?_push, Array.getElem?_push]
    simp only [Array.size_push]
    rw [if_neg (by omega), if_neg (by omega), if_neg (by omega), if_neg (by omega)]
  have e0 : w.heap[W.heap.size]? = some (.cells #[.slice (some ⟨C, 0, none⟩) n capC] 37) := by
    rw [h.heap, Array.getElem?_push, Array.getElem?_push, Array.getElem?_push, Array.getElem?_push]
    simp only [Array.size_push]
    rw [if_neg (by omega), if_neg (by omega), if_neg (by omega), if_pos trivial]
  have e1 : w.heap[W.heap.size + 1]? = some (.cells #[.slice (some ⟨Bb, 0, none⟩) n capB] 37) := by
    rw [h.heap, Array.getElem?_push, Array.getElem?_push, Array.getElem?_push]
    simp only [Array.size_push]
    rw [if_neg (by omega), if_neg (by omega), if_pos trivial]
  have e2 : w.heap[W.heap.size + 2]? = some (.cells #[.int .i64 by'] 3) := by
    rw [h.heap, Array.getElem?_push, Array.getElem?_push]
    simp only [Array.size_push]
    rw [if_neg (by omega), if_pos trivial]
  have e3 : w.heap[W.heap.size + 3]? = some (wgBlock wgl.tWg 0 0) := by
    rw [h.heap, Array.getElem?_push]
    simp only [Array.size_push]
    rw [if_pos trivial]
  exact ⟨⟨h.tape, h.os, h.output, by rw [h.heap]; simp [stp], fun b hb _ => low b hb, e0, e1, e2, fun o ho => (cell_of_block (low _ hB) o).trans (A.hrow o ho)⟩, e3, low⟩

set_option maxRecDepth 100000 in
set_option maxHeartbeats 4000000 in
/-- Back from Wait: to the caller. -/
theorem epi39 {S : StP} {B : Nat} {I : World → Prop} (hI : ∀ w w₁, AtRel w w₁ → I w → I w₁) (Sh' : Nat → Prop) (t8 t9 t10 t11 t12 t13 t14 t15 t16 t17 : Value) (w : World) (hF : I w) :
    Goes Try.prog true AtRel (DF Sh' B) (fun g' w' => g' = G (b₀.at (a₀.put ((ops₀[i₀]?).bind (·.dst)) (.tuple #[])) (.inRegion ops₀ rest₀ :: k₀)) cs ∧ I w') 10
      (G ((base 39).at ((⟨T39 S S.lots t8 t9 t10 t11 t12 t13 t14 t15 t16 t17, []⟩ : Act).put ((ops39[0]?).bind (·.dst)) (.tuple #[])) (.inRegion ops39 [] :: [])) (b₀.at a₀ (.inRegion ops₀ (i₀ :: rest₀) :: k₀) :: cs)) w := by
  simp only [ops39, opsOf, R39, lastPart, Try.f39, Option.getD_some]
  refine Goes.step rfl (fun _ h₁ => ?_)
  replace hF := hI _ _ h₁ hF
  clear h₁
  rw [stepG_region_end]
  simp only [goes_go]
  refine ⟨DF.none (by intro e he; simp at he), ?_⟩
  refine Goes.step rfl (fun _ h₁ => ?_)
  replace hF := hI _ _ h₁ hF
  clear h₁
  rw [stepG_end]
  simp only [goes_go]
  refine ⟨DF.none (by intro e he; simp at he), ?_⟩
  refine Goes.step rfl (fun _ h₁ => ?_)
  replace hF := hI _ _ h₁ hF
  clear h₁
  refine goes_leave0 rfl rfl Try.func39 rfl ⟨DF.none (by intro e he; simp at he), ?_⟩
  exact Goes.stop (fun w₁ h₁ => ⟨rfl, hI _ _ h₁ hF⟩)

/-- A call, whole. -/
theorem sum39 (A : SumAsk W Sh c C Bb n nC capC capB by' row rest) :
    BW Try.prog c Sh (G ((base 39).at ⟨#[.slice (some ⟨C, 0, none⟩) n capC, .slice (some ⟨Bb, 0, none⟩) n capB, .int .i64 by', undef, undef, undef, undef, undef, undef, undef, undef, undef, undef, undef, undef, undef, undef, undef], []⟩ [.code (Try.f39.body.getD .skip)]) (b₀.at a₀ (.inRegion ops₀ (i₀ :: rest₀) :: k₀) :: cs)) W
      (fun c' Sh' g' w' => c' = c + 16 ∧ g' = G (b₀.at (a₀.put ((ops₀[i₀]?).bind (·.dst)) (.tuple #[])) (.inRegion ops₀ rest₀ :: k₀)) cs ∧ SumPost W Sh C nC n by' row rest Sh' w') := by
  intro gs sl t q B h0 hc hB hF
  have hpos := hF.pos
  have hAc := A.hc
  have hAC := A.hC
  obtain ⟨K1, gs1, a1, w1, sl1, t1, q1, e1, e2, e3, ⟨rfl, e4⟩, hF1⟩ := walkFr (P := Try.prog) (Sh := ShOf Sh) (B := B) (D := DF Sh B) (fun _ _ _ hd => hd) _ 20 gs _ W sl t q (Nat.le_refl _) h0 hF
    (pro39 (W := W) (Sh := Sh) (C := C) (Bb := Bb) (n := n) (nC := nC) (capC := capC) (capB := capB) (by' := by') (row := row) (rest := rest) (B := B) (b₀.at a₀ (.inRegion ops₀ (i₀ :: rest₀) :: k₀) :: cs))
  obtain ⟨S, hS⟩ : ∃ S, S = stp W Sh C Bb n nC capC capB by' row rest (gs.size - 1) t1.size := ⟨_, rfl⟩
  have F : S.Fit := hS ▸ stp_fit A (by omega)
  have hj0 : S.j0 = gs.size - 1 := by rw [hS]; rfl
  have hN0 : S.N0 = W.heap.size := by rw [hS]; rfl
  have hSC : S.C = C := by rw [hS]; rfl
  have hSn : S.n = n := by rw [hS]; rfl
  have hSnC : S.nC = nC := by rw [hS]; rfl
  have hSSh : S.Sh = ShOf Sh := by rw [hS]; rfl
  have hlots := S.lots_spec F
  obtain ⟨hP, hWg, hlow⟩ := stp_first (j0 := gs.size - 1) (t0 := t1.size) A e4
  rw [← hS] at hP
  rw [← hN0] at hWg
  have hval : ∀ o, S.ph.val o = if o < n then .int .i64 ((prevOf row o + row o).tmod by') else rest o := fun o => by rw [hS]; rfl
  have hpay : PayF S.ph w1 := by
    refine ⟨?_, fun o ho hfree => ?_⟩
    · obtain ⟨cs', h1, h2⟩ := A.pay
      refine ⟨cs', ?_, ?_⟩
      · show w1.heap[S.C]? = _
        rw [hSC, hlow C hAC]
        exact h1
      · show cs'.size = S.nC
        rw [hSnC]
        exact h2
    · have hno : n ≤ o := Nat.le_of_not_lt fun hlt => by
        have h1 : S.n = n := hSn
        refine hfree (S.j0 + o / 64) (by show S.j0 ≤ S.j0 + o / 64; omega) ?_
        show S.fr (S.j0 + o / 64) ≤ o ∧ o < min (S.fr (S.j0 + o / 64) + 64) S.n
        unfold StP.fr
        omega
      have ho' : o < nC := by rw [← hSnC]; exact ho
      have := A.hrest o hno ho'
      rw [hval, if_neg (by omega)]
      show w1.cell? ⟨S.C, o, none⟩ = _
      rw [hSC]
      exact (cell_of_block (hlow C hAC) o).trans this
  have hT : T39p (stp W Sh C Bb n nC capC capB by' row rest 0 0) = T39p S := by rw [hS]; rfl
  rw [hT] at e3
  obtain ⟨K2, gs2, a2, w2, sl2, t2, q2, f1, f2, f3, f4, f5, f6, f6l, f7⟩ := phaseG (X := S.ph) (Fin := Fin39 S W (b₀.at a₀ (.inRegion ops₀ (i₀ :: rest₀) :: k₀) :: cs)) (S.ok F) anch_run (anch_round F) (Sh := ShOf Sh) (B := B) (sl := sl1) hF1 e3 (by show gs1.size = S.j0 + 1; omega)
    (by show S.t0 = t1.size; rw [hS]; rfl) (fun l => by show (S.Sh l ∨ _) ↔ _; rw [hSSh]; exact Iff.rfl) (by show B ≤ S.N0 + 3; omega) hWg hpay (starts39 F w1 ⟨hP, ⟨0, 0, hWg⟩⟩)
  obtain ⟨t8, t9, t10, t11, t12, t13, t14, t15, t16, t17, m, hG⟩ := f3
  have hShA : S.ph.ShA = ShOf (fun b => Sh b ∨ b = W.heap.size + 3) := by
    funext l
    apply propext
    show (S.Sh l ∨ ShN (S.N0 + 3) l) ↔ _
    rw [hSSh, hN0]
    constructor
    · rintro (⟨a, e, h⟩ | ⟨a, e, h⟩)
      · exact ⟨a, e, .inl h⟩
      · exact ⟨a, e, .inr h⟩
    · rintro ⟨a, e, h | h⟩
      · exact .inl ⟨a, e, h⟩
      · exact .inr ⟨a, e, h⟩
  have hBv : S.ph.B = W.heap.size + 5 + S.lots := by show S.B = _; unfold StP.B; omega
  rw [hShA, hBv] at f5
  have hInv : ∀ w w₁ : World, AtRel w w₁ → (PayF S.ph w ∧ WgLive wgl.tWg (S.N0 + 3) w ∧ ∀ i, S.ph.j0 ≤ i → i < S.ph.N → ∀ o, S.ph.lot i o → Has S.ph.C o (S.ph.val o) w) → (PayF S.ph w₁ ∧ WgLive wgl.tWg (S.N0 + 3) w₁ ∧ ∀ i, S.ph.j0 ≤ i → i < S.ph.N → ∀ o, S.ph.lot i o → Has S.ph.C o (S.ph.val o) w₁) := by
    rintro w _ ⟨d, rfl⟩ h
    exact h
  have hG2 := goes_weak (P := Try.prog) (main := true) (R := AtRel) (R' := AtRel) (D := DC0) (D' := DF (fun b => Sh b ∨ b = W.heap.size + 3) (W.heap.size + 5 + S.lots)) (fun w => PayF S.ph w ∧ WgLive wgl.tWg (S.N0 + 3) w ∧ ∀ i, S.ph.j0 ≤ i → i < S.ph.N → ∀ o, S.ph.lot i o → Has S.ph.C o (S.ph.val o) w)
    (fun _ _ h => h) hInv (fun w w' es hi hd => by obtain ⟨rfl, rfl⟩ := hd; exact ⟨fun e he => by simp at he, hi⟩) (fun g w hi hs => (⟨hs, hi⟩ : (fun g w => (g = _ ∧ SF S W S.lots w) ∧ PayF S.ph w ∧ WgLive wgl.tWg (S.N0 + 3) w ∧ ∀ i, S.ph.j0 ≤ i → i < S.ph.N → ∀ o, S.ph.lot i o → Has S.ph.C o (S.ph.val o) w) g w)) m _ w2 ⟨f6, f6l, f7⟩ hG
  obtain ⟨K3, gs3, a3, w3, sl3, t3, q3, i1, i2, i3, ⟨⟨rfl, i4⟩, i5⟩, i6⟩ := walkFr (P := Try.prog) (fun _ _ _ hd => hd) _ m gs2 _ w2 sl2 t2 q2 (Nat.le_refl _) f2 f5 hG2
  obtain ⟨K4, gs4, a4, w4, sl4, t4, q4, j1, j2, j3, ⟨rfl, j4, j5⟩, j6⟩ := walkFr (P := Try.prog) (fun _ _ _ hd => hd) _ 10 gs3 _ w3 sl3 t3 q3 (Nat.le_refl _) i3 i6
    (epi39 (S := S) (B := W.heap.size + 5 + S.lots) (b₀ := b₀) (a₀ := a₀) (ops₀ := ops₀) (i₀ := i₀) (rest₀ := rest₀) (k₀ := k₀) (cs := cs) (I := fun w => SF S W S.lots w ∧ PayF S.ph w ∧ WgLive wgl.tWg (S.N0 + 3) w ∧ ∀ i, S.ph.j0 ≤ i → i < S.ph.N → ∀ o, S.ph.lot i o → Has S.ph.C o (S.ph.val o) w)
      (fun w w₁ r h => ⟨by obtain ⟨d, rfl⟩ := r; exact ⟨h.1.tape, h.1.os, h.1.output, h.1.size, h.1.low, h.1.c, h.1.b, h.1.d, h.1.f, h.1.row⟩, hInv w w₁ r h.2⟩) (fun b => Sh b ∨ b = W.heap.size + 3) t8 t9 t10 t11 t12 t13 t14 t15 t16 t17 w3 ⟨i4, i5⟩)
  obtain ⟨⟨p1, p2⟩, plive, p3⟩ := j5
  have hsz := j4.size
  rw [hN0] at hsz
  have hN : S.ph.N = S.j0 + S.lots := rfl
  refine ⟨K1 + (K2 + (K3 + K4)), gs4, _, w4, sl4, t4, q4, W.heap.size + 5 + S.lots, c + 16, _, run_chain _ e1 (run_chain _ f1 (run_chain _ i1 j1)), j3, by omega, by omega, j6, rfl, rfl, ⟨j4.tape, j4.os, j4.output, by omega, fun b hb hbC => j4.low b (by omega) (by omega), fun b hb => ?_, ?_, ?_, fun o ho => ?_, fun o ho ho' => ?_⟩⟩
  · rcases hb with hb | hb
    · exact .inl hb
    · exact .inr (by omega)
  · rintro b (hb | rfl)
    · have h1 := A.lt b hb
      obtain ⟨cs', e, fr, h2⟩ := A.sh b hb
      exact ⟨cs', e, fr, (j4.low b (by omega) (fun e => A.shC ((e.trans hSC) ▸ hb))).trans h2⟩
    · obtain ⟨st, sm, hl⟩ := plive
      rw [hN0] at hl
      exact ⟨_, _, _, hl⟩
  · have : PayAt S.C S.nC w4 := p1
    rwa [hSC, hSnC] at this
  · have h1 := p3 (S.j0 + o / 64) (by show S.j0 ≤ _; omega) (by rw [hN]; omega) o (by
      show S.fr (S.j0 + o / 64) ≤ o ∧ o < min (S.fr (S.j0 + o / 64) + 64) S.n
      unfold StP.fr
      omega)
    rw [hval, if_pos ho] at h1
    have h2 : Has S.C o _ w4 := h1
    rwa [hSC] at h2
  · have h1 := p2 o (by show o < S.nC; omega) (fun i hi hl => by
      have h2 : o < min (S.fr i + 64) S.n := hl.2
      omega)
    rw [hval, if_neg (by omega)] at h1
    have h2 : Has S.C o _ w4 := h1
    rwa [hSC] at h2
end
end Go.Proofs.Ytehmobcfbifocaa
