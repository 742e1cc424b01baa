/-
  A worker's round: its test, the cell that it makes, the step on. Made by gen_work7.py.
-/
import Derived.Test.YtehmobcfbifocaaWork2
import Derived.Test.YtehmobcfbifocaaRegTail
namespace Go.Proofs.Ytehmobcfbifocaa
open Go Go.Conc Go.ConcN Go.RowKit Go.Conc.Lib Go.ConcR.Gen Go.ConcN.Gen
open Go.ConcR (KK wgBlock WgAt stA smA rd wr mk Payload Aside2 DC0 ofEvent_cell)

def firstLoop : Code → Code
  | .seq a b => match firstLoop a with
    | .skip => firstLoop b
    | c => c
  | .block _ c => firstLoop c
  | .loop c => c
  | _ => .skip
/-- The body of the worker's loop. -/
noncomputable def LB : Code := firstLoop (Try.f43.body.getD .skip)
section
variable {X : Ph} {i : Nat} {K : WkP} {p : Nat} {w : World} {Stop : Goroutine → World → Prop} {ds : List Deferred} {cs : List Frame} {m : Nat}
theorem nmCellAt : (Try.f35.name == "runtime.NumGoroutine") = false := by kernel_rfl
theorem byw {z : Int} (h0 : -1000000 ≤ z) (h1 : z ≤ 1000000) : IntKind.wrap .i64 z = z := by
  rw [IntKind.wrap_i64]
  omega
theorem ev_min {P : Program} {ts : Array TypeId} {t : TypeId} {k k' : IntKind} {x y : Int} {w : World} {es : Array Event} : (Builtin.min_ ts t #[.int k x, .int k' y]).events P w es = es := by
  simp [Builtin.min_, Builtin.min2, go_sem]
set_option maxRecDepth 100000 in
set_option maxHeartbeats 4000000 in
theorem work_round (hO : K.Ok X i) (hp : X.lot i p) (hF : WK X i K p w) (t6 t7 t8 t9 t10 t11 t12 t13 t14 t15 t16 t17 t18 t19 t20 t21 t22 t23 t24 t25 t26 t27 t28 t29 : Value)
    (hT : ∀ (t6 t7 t8 t9 t10 t11 t12 t13 t14 t15 t16 t17 t18 t19 t20 t21 t22 t23 t24 t25 t26 t27 t28 t29 : Value) (w : World), WK X i K (p + 1) w → Goes Try.prog false (RL X i) (DL X i) Stop m (G ((baseD 43).at ⟨#[.pointer (some ⟨X.Wg, 0, none⟩), .pointer (some ⟨K.bf, 0, none⟩), .pointer (some ⟨K.bc, 0, none⟩), .pointer (some ⟨K.bb, 0, none⟩), .pointer (some ⟨K.bd, 0, none⟩), .int .i64 (p + 1 : Nat), t6, t7, t8, t9, t10, t11, t12, t13, t14, t15, t16, t17, t18, t19, t20, t21, t22, t23, t24, t25, t26, t27, t28, t29], ds⟩ [.code LB, .inLoop LB, .inBlock 0]) cs) w) :
    Goes Try.prog false (RL X i) (DL X i) Stop (m + 800) (G ((baseD 43).at ⟨#[.pointer (some ⟨X.Wg, 0, none⟩), .pointer (some ⟨K.bf, 0, none⟩), .pointer (some ⟨K.bc, 0, none⟩), .pointer (some ⟨K.bb, 0, none⟩), .pointer (some ⟨K.bd, 0, none⟩), .int .i64 (p : Nat), t6, t7, t8, t9, t10, t11, t12, t13, t14, t15, t16, t17, t18, t19, t20, t21, t22, t23, t24, t25, t26, t27, t28, t29], ds⟩ [.code LB, .inLoop LB, .inBlock 0]) cs) w := by
  have hsm := hO.small
  have hfn := hO.frn
  have hlo := (hO.lot p).1 hp
  have hw1 : IntKind.wrap .i64 ((K.fr : Int) + 64) = (K.fr : Int) + 64 := byw (by omega) (by omega)
  have hw2 : IntKind.wrap .i64 ((p : Int) - 1) = (p : Int) - 1 := byw (by omega) (by omega)
  have hw3 : IntKind.wrap .i64 ((p : Int) + 1) = ((p + 1 : Nat) : Int) := by
    rw [byw (by omega) (by omega)]
    omega
  have hro := hO.rowOk
  have hby := hO.byOk
  have hp2 : prevOf K.row p + K.row p ≤ 1000000 ∧ 0 ≤ prevOf K.row p + K.row p := by
    have h1 := hro p (by omega)
    cases p with
    | zero => simp only [prevOf]; omega
    | succ q =>
      have h2 := hro q (by omega)
      simp only [prevOf]
      omega
  have hw4 : IntKind.wrap .i64 (prevOf K.row p + K.row p) = prevOf K.row p + K.row p := byw (by omega) (by omega)
  have hb0 : K.by' ≠ 0 := by omega
  have hx0 : ¬ ((p : Int) < 0) := by omega
  have hx1 : (p : Int) < (K.n : Int) := by omega
  have hx2 : ¬ ((K.n : Int) ≤ (p : Int)) := by omega
  have hlt : (p : Int) < min ((K.fr : Int) + 64) (K.n : Int) := by omega
  simp only [LB, firstLoop, Try.f43, Option.getD_some] at hT ⊢
  refine Goes.step rfl (fun _ h₁ => ?_)
  replace hF := hF.rely hO h₁
  clear h₁
  rw [stepG_seq]
  simp only [goes_go]
  refine ⟨dl_none (by intro e he; simp at he), ?_⟩
  refine Goes.step rfl (fun _ h₁ => ?_)
  replace hF := hF.rely hO h₁
  clear h₁
  rw [stepG_seq]
  simp only [goes_go]
  refine ⟨dl_none (by intro e he; simp at he), ?_⟩
  refine Goes.step rfl (fun _ h₁ => ?_)
  replace hF := hF.rely hO h₁
  clear h₁
  rw [stepG_region]
  simp only [goes_go, List.size_toArray, List.length_cons, List.length_nil, Nat.reduceAdd, Nat.zero_add, List.range, List.range.loop]
  refine ⟨dl_none (by intro e he; simp at he), ?_⟩
  refine Goes.step rfl (fun _ h₁ => ?_)
  replace hF := hF.rely hO h₁
  clear h₁
  refine goes_oper_k rfl rfl (by decide) (fun Kx hKx => ?_)
  go_simp
  refine hKx _ _ ⟨dl_none ?_, ?_⟩
  · intro e he
    have hm := mem_listed he
    simp [go_sem, *] at hm
  clear hKx Kx
  refine Goes.step rfl (fun _ h₁ => ?_)
  replace hF := hF.rely hO h₁
  clear h₁
  refine goes_oper_k rfl rfl (by decide) (fun Kx hKx => ?_)
  have hz := hF.f
  go_simp
  refine hKx _ _ ⟨⟨AL.refl _, fun e he => ?_⟩, ?_⟩
  · have hm := mem_listed he
    simp [go_sem, *] at hm
    subst hm
    exact evR hO _ (by simp [WkP.rd]) rfl
  clear hKx Kx hz
  refine Goes.step rfl (fun _ h₁ => ?_)
  replace hF := hF.rely hO h₁
  clear h₁
  refine goes_oper_k rfl rfl (by decide) (fun Kx hKx => ?_)
  go_simp
  refine hKx _ _ ⟨dl_none ?_, ?_⟩
  · intro e he
    have hm := mem_listed he
    simp [go_sem, *] at hm
  clear hKx Kx
  refine Goes.step rfl (fun _ h₁ => ?_)
  replace hF := hF.rely hO h₁
  clear h₁
  refine goes_oper_k rfl rfl (by decide) (fun Kx hKx => ?_)
  have hz := hF.c
  go_simp
  refine hKx _ _ ⟨⟨AL.refl _, fun e he => ?_⟩, ?_⟩
  · have hm := mem_listed he
    simp [go_sem, *] at hm
    subst hm
    exact evR hO _ (by simp [WkP.rd]) rfl
  clear hKx Kx hz
  refine Goes.step rfl (fun _ h₁ => ?_)
  replace hF := hF.rely hO h₁
  clear h₁
  refine goes_oper_k rfl rfl (by decide) (fun Kx hKx => ?_)
  go_simp
  refine hKx _ _ ⟨dl_none ?_, ?_⟩
  · intro e he
    have hm := mem_listed he
    simp [go_sem, *] at hm
  clear hKx Kx
  refine Goes.step rfl (fun _ h₁ => ?_)
  replace hF := hF.rely hO h₁
  clear h₁
  refine goes_oper_k rfl rfl (by decide) (fun Kx hKx => ?_)
  go_simp
  refine hKx _ _ ⟨dl_none ?_, ?_⟩
  · intro e he
    have hm := mem_listed he
    simp [go_sem, ev_min, *] at hm
  clear hKx Kx
  refine Goes.step rfl (fun _ h₁ => ?_)
  replace hF := hF.rely hO h₁
  clear h₁
  refine goes_oper_k rfl rfl (by decide) (fun Kx hKx => ?_)
  go_simp
  refine hKx _ _ ⟨dl_none ?_, ?_⟩
  · intro e he
    have hm := mem_listed he
    simp [go_sem, *] at hm
  clear hKx Kx
  refine Goes.step rfl (fun _ h₁ => ?_)
  replace hF := hF.rely hO h₁
  clear h₁
  rw [stepG_region_end]
  simp only [goes_go]
  refine ⟨dl_none (by intro e he; simp at he), ?_⟩
  refine Goes.step rfl (fun _ h₁ => ?_)
  replace hF := hF.rely hO h₁
  clear h₁
  rw [stepG_cond (t := true) (by first | rfl | (simp [Act.eval]; omega))]
  simp only [goes_go, ↓reduceIte]
  refine ⟨dl_none (by intro e he; simp at he), ?_⟩
  refine Goes.step rfl (fun _ h₁ => ?_)
  replace hF := hF.rely hO h₁
  clear h₁
  rw [stepG_skip]
  simp only [goes_go]
  refine ⟨dl_none (by intro e he; simp at he), ?_⟩
  refine Goes.step rfl (fun _ h₁ => ?_)
  replace hF := hF.rely hO h₁
  clear h₁
  rw [stepG_seq]
  simp only [goes_go]
  refine ⟨dl_none (by intro e he; simp at he), ?_⟩
  refine Goes.step rfl (fun _ h₁ => ?_)
  replace hF := hF.rely hO h₁
  clear h₁
  rw [stepG_block]
  simp only [goes_go]
  refine ⟨dl_none (by intro e he; simp at he), ?_⟩
  obtain ⟨t12', e12⟩ : ∃ v, v = Value.int IntKind.i64 (if (K.n : Int) < (K.fr : Int) + 64 then (K.n : Int) else (K.fr : Int) + 64) := ⟨_, rfl⟩
  obtain ⟨t13', e13⟩ : ∃ v, v = Value.bool (decide ((p : Int) < if (K.n : Int) < (K.fr : Int) + 64 then (K.n : Int) else (K.fr : Int) + 64)) := ⟨_, rfl⟩
  rw [← e12, ← e13]
  clear e12 e13
  let V : Nat → Value := fun j => match j with
    | 0 => .slice (some ⟨X.C, 0, none⟩) K.n K.capC
    | 1 => .int .i64 (p : Int)
    | 2 => .slice (some ⟨K.Bb, 0, none⟩) K.n K.capB
    | 3 => .int .i64 (p : Int)
    | 4 => .int .i64 ((p : Int) - 1)
    | 5 => .int .i64 (prevOf K.row p)
    | 6 => .slice (some ⟨K.Bb, 0, none⟩) K.n K.capB
    | 7 => .int .i64 (p : Int)
    | 8 => .pointer (some ⟨K.Bb, p, none⟩)
    | 9 => .int .i64 (K.row p)
    | 10 => .int .i64 (prevOf K.row p + K.row p)
    | 11 => .int .i64 K.by'
    | 12 => .int .i64 (sumOf K p)
    | 13 => .pointer (some ⟨X.C, p, none⟩)
    | _ => undef
  refine Goes.mono (goes_drawn (s := 50) (m := m + 12) (by kernel_rfl) (fun _ => dl_drew) (by kernel_rfl) (fun L a w => ∃ s : Nat → Value, a = (⟨#[.pointer (some ⟨X.Wg, 0, none⟩), .pointer (some ⟨K.bf, 0, none⟩), .pointer (some ⟨K.bc, 0, none⟩), .pointer (some ⟨K.bb, 0, none⟩), .pointer (some ⟨K.bd, 0, none⟩), .int .i64 (p : Int), t6, .int .i64 (p : Int), .int .i64 (K.fr : Int), .int .i64 ((K.fr : Int) + 64), .slice (some ⟨X.C, 0, none⟩) K.n K.capC, .int .i64 (K.n : Int), t12', t13', t14, t15, s 0, s 1, s 2, s 3, s 4, s 5, s 6, s 7, s 8, s 9, s 10, s 11, s 12, s 13], ds⟩ : Act) ∧ WK X i K (if L 14 = true then p + 1 else p) w ∧ (L 14 = true → ∀ j, j < 14 → L j = true) ∧ ∀ j, j < 14 → L j = true → s j = V j) ?step ?hend ?hI) (by simp)
  case hI =>
    intro w₁ h₁
    exact ⟨fun j => match j with | 0 => t16 | 1 => t17 | 2 => t18 | 3 => t19 | 4 => t20 | 5 => t21 | 6 => t22 | 7 => t23 | 8 => t24 | 9 => t25 | 10 => t26 | 11 => t27 | 12 => t28 | 13 => t29 | _ => undef, rfl, by simpa using (hF.rely hO h₁).drew, by simp, by simp⟩
  case hend =>
    rintro L a w hL ⟨s, rfl, hF, -, -⟩
    rw [if_pos (hL 14 (by decide))] at hF
    clear hL
    refine Goes.step rfl (fun _ h₁ => ?_)
    replace hF := hF.rely hO h₁
    clear h₁
    rw [stepG_region_end]
    simp only [goes_go]
    refine ⟨dl_none (by intro e he; simp at he), ?_⟩
    refine Goes.step rfl (fun _ h₁ => ?_)
    replace hF := hF.rely hO h₁
    clear h₁
    rw [stepG_inBlock]
    simp only [goes_go]
    refine ⟨dl_none (by intro e he; simp at he), ?_⟩
    refine Goes.step rfl (fun _ h₁ => ?_)
    replace hF := hF.rely hO h₁
    clear h₁
    rw [stepG_region]
    simp only [goes_go, List.size_toArray, List.length_cons, List.length_nil, Nat.reduceAdd, Nat.zero_add, List.range, List.range.loop]
    refine ⟨dl_none (by intro e he; simp at he), ?_⟩
    refine Goes.step rfl (fun _ h₁ => ?_)
    replace hF := hF.rely hO h₁
    clear h₁
    refine goes_oper_k rfl rfl (by decide) (fun Kx hKx => ?_)
    go_simp
    refine hKx _ _ ⟨dl_none ?_, ?_⟩
    · intro e he
      have hm := mem_listed he
      simp [go_sem, *] at hm
    clear hKx Kx
    refine Goes.step rfl (fun _ h₁ => ?_)
    replace hF := hF.rely hO h₁
    clear h₁
    refine goes_oper_k rfl rfl (by decide) (fun Kx hKx => ?_)
    go_simp
    refine hKx _ _ ⟨dl_none ?_, ?_⟩
    · intro e he
      have hm := mem_listed he
      simp [go_sem, *] at hm
    clear hKx Kx
    refine Goes.step rfl (fun _ h₁ => ?_)
    replace hF := hF.rely hO h₁
    clear h₁
    refine goes_oper_k rfl rfl (by decide) (fun Kx hKx => ?_)
    go_simp
    refine hKx _ _ ⟨dl_none ?_, ?_⟩
    · intro e he
      have hm := mem_listed he
      simp [go_sem, *] at hm
    clear hKx Kx
    refine Goes.step rfl (fun _ h₁ => ?_)
    replace hF := hF.rely hO h₁
    clear h₁
    rw [stepG_region_end]
    simp only [goes_go]
    refine ⟨dl_none (by intro e he; simp at he), ?_⟩
    refine Goes.step rfl (fun _ h₁ => ?_)
    replace hF := hF.rely hO h₁
    clear h₁
    rw [stepG_inLoop]
    simp only [goes_go]
    refine ⟨dl_none (by intro e he; simp at he), ?_⟩
    exact (hT _ _ _ _ _ _ _ _ _ _ _ _ _ _ _ _ _ _ _ _ _ _ _ _ _ hF).mono (by omega)
  case step =>
    rintro L a w i' o rest m' ho hLi hde ⟨s, rfl, hF, hall, hs⟩ hK
    have dep := fun k h => dep_of (k := k) ho hde h
    have hi15 : i' < 15 := (Array.getElem?_eq_some_iff.1 ho).1
    have hi : i' = 0 ∨ i' = 1 ∨ i' = 2 ∨ i' = 3 ∨ i' = 4 ∨ i' = 5 ∨ i' = 6 ∨ i' = 7 ∨ i' = 8 ∨ i' = 9 ∨ i' = 10 ∨ i' = 11 ∨ i' = 12 ∨ i' = 13 ∨ i' = 14 := by omega
    clear ho hde hi15
    have upd : ∀ k j, j < 14 → (if j = k then true else L j) = true → (if j = k then V k else s j) = V j := fun k j hj h => by
      by_cases e : j = k
      · rw [if_pos e, e]
      · rw [if_neg e] at h ⊢
        exact hs j hj h
    rcases hi with rfl | rfl | rfl | rfl | rfl | rfl | rfl | rfl | rfl | rfl | rfl | rfl | rfl | rfl | rfl
    · have h14 : L 14 = false := by
        cases h : L 14 with
        | false => rfl
        | true => exact absurd (hall h 0 (by decide)) (by rw [hLi]; simp)
      rw [if_neg (by rw [h14]; simp)] at hF
      clear hs hall dep
      refine Goes.mono (n := m' + 1) ?_ (by omega)
      refine Goes.step rfl (fun _ h₁ => ?_)
      replace hF := hF.rely hO h₁
      clear h₁
      refine goes_oper_k rfl rfl (by decide) (fun Kx hKx => ?_)
      have hz := hF.c
      go_simp
      refine hKx _ _ ⟨⟨AL.refl _, fun e he => ?_⟩, ?_⟩
      · have hm := mem_listed he
        simp [go_sem, *] at hm
        subst hm
        exact evR hO _ (by simp [WkP.rd]) rfl
      clear hKx Kx hz
      exact hK _ _ ⟨fun j => if j = 0 then V 0 else s j, by rfl, by simpa [h14] using hF, by simp [h14], upd 0⟩
    · have h14 : L 14 = false := by
        cases h : L 14 with
        | false => rfl
        | true => exact absurd (hall h 1 (by decide)) (by rw [hLi]; simp)
      rw [if_neg (by rw [h14]; simp)] at hF
      clear hs hall dep
      refine Goes.mono (n := m' + 1) ?_ (by omega)
      refine Goes.step rfl (fun _ h₁ => ?_)
      replace hF := hF.rely hO h₁
      clear h₁
      refine goes_oper_k rfl rfl (by decide) (fun Kx hKx => ?_)
      go_simp
      refine hKx _ _ ⟨dl_none ?_, ?_⟩
      · intro e he
        have hm := mem_listed he
        simp [go_sem, *] at hm
      clear hKx Kx
      exact hK _ _ ⟨fun j => if j = 1 then V 1 else s j, by rfl, by simpa [h14] using hF, by simp [h14], upd 1⟩
    · have h14 : L 14 = false := by
        cases h : L 14 with
        | false => rfl
        | true => exact absurd (hall h 2 (by decide)) (by rw [hLi]; simp)
      rw [if_neg (by rw [h14]; simp)] at hF
      clear hs hall dep
      refine Goes.mono (n := m' + 1) ?_ (by omega)
      refine Goes.step rfl (fun _ h₁ => ?_)
      replace hF := hF.rely hO h₁
      clear h₁
      refine goes_oper_k rfl rfl (by decide) (fun Kx hKx => ?_)
      have hz := hF.b
      go_simp
      refine hKx _ _ ⟨⟨AL.refl _, fun e he => ?_⟩, ?_⟩
      · have hm := mem_listed he
        simp [go_sem, *] at hm
        subst hm
        exact evR hO _ (by simp [WkP.rd]) rfl
      clear hKx Kx hz
      exact hK _ _ ⟨fun j => if j = 2 then V 2 else s j, by rfl, by simpa [h14] using hF, by simp [h14], upd 2⟩
    · have h14 : L 14 = false := by
        cases h : L 14 with
        | false => rfl
        | true => exact absurd (hall h 3 (by decide)) (by rw [hLi]; simp)
      rw [if_neg (by rw [h14]; simp)] at hF
      clear hs hall dep
      refine Goes.mono (n := m' + 1) ?_ (by omega)
      refine Goes.step rfl (fun _ h₁ => ?_)
      replace hF := hF.rely hO h₁
      clear h₁
      refine goes_oper_k rfl rfl (by decide) (fun Kx hKx => ?_)
      go_simp
      refine hKx _ _ ⟨dl_none ?_, ?_⟩
      · intro e he
        have hm := mem_listed he
        simp [go_sem, *] at hm
      clear hKx Kx
      exact hK _ _ ⟨fun j => if j = 3 then V 3 else s j, by rfl, by simpa [h14] using hF, by simp [h14], upd 3⟩
    · have h14 : L 14 = false := by
        cases h : L 14 with
        | false => rfl
        | true => exact absurd (hall h 4 (by decide)) (by rw [hLi]; simp)
      rw [if_neg (by rw [h14]; simp)] at hF
      have q3 : L 3 = true := dep 3 (by kernel_rfl)
      have e3 : s 3 = .int .i64 (p : Int) := hs 3 (by decide) q3
      clear hs hall dep
      refine Goes.mono (n := m' + 1) ?_ (by omega)
      refine Goes.step rfl (fun _ h₁ => ?_)
      replace hF := hF.rely hO h₁
      clear h₁
      refine goes_oper_k rfl rfl (by decide) (fun Kx hKx => ?_)
      go_simp
      refine hKx _ _ ⟨dl_none ?_, ?_⟩
      · intro e he
        have hm := mem_listed he
        simp [go_sem, *] at hm
      clear hKx Kx
      exact hK _ _ ⟨fun j => if j = 4 then V 4 else s j, by simp [e3] <;> rfl, by simpa [h14] using hF, by simp [h14], upd 4⟩
    · have h14 : L 14 = false := by
        cases h : L 14 with
        | false => rfl
        | true => exact absurd (hall h 5 (by decide)) (by rw [hLi]; simp)
      rw [if_neg (by rw [h14]; simp)] at hF
      have q2 : L 2 = true := dep 2 (by kernel_rfl)
      have e2 : s 2 = .slice (some ⟨K.Bb, 0, none⟩) K.n K.capB := hs 2 (by decide) q2
      have q4 : L 4 = true := dep 4 (by kernel_rfl)
      have e4 : s 4 = .int .i64 ((p : Int) - 1) := hs 4 (by decide) q4
      clear hs hall dep
      refine Goes.mono (n := m' + 45) ?_ (by omega)
      simp only [e2, e4]
      refine Goes.step rfl (fun _ h₁ => ?_)
      replace hF := hF.rely hO h₁
      clear h₁
      refine goes_call rfl rfl (by decide) rfl Try.func35 nmCellAt rfl ⟨dl_none (by intro e he; simp at he), ?_⟩
      walk_nrmf Try.f35
      have hA := @cellAt_goes X i K p
      simp only [Try.f35, Option.getD_some] at hA
      exact hA (m := m' + 4) hO (by omega) hF fun w hF => (hK _ _ ⟨fun j => if j = 5 then V 5 else s j, by simp [e2, e4] <;> rfl, by simpa [h14] using hF, by simp [h14], upd 5⟩).mono (by omega)
    · have h14 : L 14 = false := by
        cases h : L 14 with
        | false => rfl
        | true => exact absurd (hall h 6 (by decide)) (by rw [hLi]; simp)
      rw [if_neg (by rw [h14]; simp)] at hF
      clear hs hall dep
      refine Goes.mono (n := m' + 1) ?_ (by omega)
      refine Goes.step rfl (fun _ h₁ => ?_)
      replace hF := hF.rely hO h₁
      clear h₁
      refine goes_oper_k rfl rfl (by decide) (fun Kx hKx => ?_)
      have hz := hF.b
      go_simp
      refine hKx _ _ ⟨⟨AL.refl _, fun e he => ?_⟩, ?_⟩
      · have hm := mem_listed he
        simp [go_sem, *] at hm
        subst hm
        exact evR hO _ (by simp [WkP.rd]) rfl
      clear hKx Kx hz
      exact hK _ _ ⟨fun j => if j = 6 then V 6 else s j, by rfl, by simpa [h14] using hF, by simp [h14], upd 6⟩
    · have h14 : L 14 = false := by
        cases h : L 14 with
        | false => rfl
        | true => exact absurd (hall h 7 (by decide)) (by rw [hLi]; simp)
      rw [if_neg (by rw [h14]; simp)] at hF
      clear hs hall dep
      refine Goes.mono (n := m' + 1) ?_ (by omega)
      refine Goes.step rfl (fun _ h₁ => ?_)
      replace hF := hF.rely hO h₁
      clear h₁
      refine goes_oper_k rfl rfl (by decide) (fun Kx hKx => ?_)
      go_simp
      refine hKx _ _ ⟨dl_none ?_, ?_⟩
      · intro e he
        have hm := mem_listed he
        simp [go_sem, *] at hm
      clear hKx Kx
      exact hK _ _ ⟨fun j => if j = 7 then V 7 else s j, by rfl, by simpa [h14] using hF, by simp [h14], upd 7⟩
    · have h14 : L 14 = false := by
        cases h : L 14 with
        | false => rfl
        | true => exact absurd (hall h 8 (by decide)) (by rw [hLi]; simp)
      rw [if_neg (by rw [h14]; simp)] at hF
      have q6 : L 6 = true := dep 6 (by kernel_rfl)
      have e6 : s 6 = .slice (some ⟨K.Bb, 0, none⟩) K.n K.capB := hs 6 (by decide) q6
      have q7 : L 7 = true := dep 7 (by kernel_rfl)
      have e7 : s 7 = .int .i64 (p : Int) := hs 7 (by decide) q7
      clear hs hall dep
      refine Goes.mono (n := m' + 1) ?_ (by omega)
      refine Goes.step rfl (fun _ h₁ => ?_)
      replace hF := hF.rely hO h₁
      clear h₁
      refine goes_oper_k rfl rfl (by decide) (fun Kx hKx => ?_)
      go_simp
      refine hKx _ _ ⟨dl_none ?_, ?_⟩
      · intro e he
        have hm := mem_listed he
        simp [go_sem, *] at hm
      clear hKx Kx
      exact hK _ _ ⟨fun j => if j = 8 then V 8 else s j, by simp [e6, e7] <;> rfl, by simpa [h14] using hF, by simp [h14], upd 8⟩
    · have h14 : L 14 = false := by
        cases h : L 14 with
        | false => rfl
        | true => exact absurd (hall h 9 (by decide)) (by rw [hLi]; simp)
      rw [if_neg (by rw [h14]; simp)] at hF
      have q8 : L 8 = true := dep 8 (by kernel_rfl)
      have e8 : s 8 = .pointer (some ⟨K.Bb, p, none⟩) := hs 8 (by decide) q8
      clear hs hall dep
      refine Goes.mono (n := m' + 1) ?_ (by omega)
      have hpn : p < K.n := by omega
      refine Goes.step rfl (fun _ h₁ => ?_)
      replace hF := hF.rely hO h₁
      clear h₁
      refine goes_oper_k rfl rfl (by decide) (fun Kx hKx => ?_)
      have hz := hF.r p hpn
      go_simp
      refine hKx _ _ ⟨⟨AL.refl _, fun e he => ?_⟩, ?_⟩
      · have hm := mem_listed he
        simp [go_sem, *] at hm
        subst hm
        exact evR hO _ (by simp [WkP.rd]) rfl
      clear hKx Kx hz
      exact hK _ _ ⟨fun j => if j = 9 then V 9 else s j, by simp [e8] <;> rfl, by simpa [h14] using hF, by simp [h14], upd 9⟩
    · have h14 : L 14 = false := by
        cases h : L 14 with
        | false => rfl
        | true => exact absurd (hall h 10 (by decide)) (by rw [hLi]; simp)
      rw [if_neg (by rw [h14]; simp)] at hF
      have q5 : L 5 = true := dep 5 (by kernel_rfl)
      have e5 : s 5 = .int .i64 (prevOf K.row p) := hs 5 (by decide) q5
      have q9 : L 9 = true := dep 9 (by kernel_rfl)
      have e9 : s 9 = .int .i64 (K.row p) := hs 9 (by decide) q9
      clear hs hall dep
      refine Goes.mono (n := m' + 1) ?_ (by omega)
      refine Goes.step rfl (fun _ h₁ => ?_)
      replace hF := hF.rely hO h₁
      clear h₁
      refine goes_oper_k rfl rfl (by decide) (fun Kx hKx => ?_)
      go_simp
      refine hKx _ _ ⟨dl_none ?_, ?_⟩
      · intro e he
        have hm := mem_listed he
        simp [go_sem, *] at hm
      clear hKx Kx
      exact hK _ _ ⟨fun j => if j = 10 then V 10 else s j, by simp [e5, e9] <;> rfl, by simpa [h14] using hF, by simp [h14], upd 10⟩
    · have h14 : L 14 = false := by
        cases h : L 14 with
        | false => rfl
        | true => exact absurd (hall h 11 (by decide)) (by rw [hLi]; simp)
      rw [if_neg (by rw [h14]; simp)] at hF
      clear hs hall dep
      refine Goes.mono (n := m' + 1) ?_ (by omega)
      refine Goes.step rfl (fun _ h₁ => ?_)
      replace hF := hF.rely hO h₁
      clear h₁
      refine goes_oper_k rfl rfl (by decide) (fun Kx hKx => ?_)
      have hz := hF.d
      go_simp
      refine hKx _ _ ⟨⟨AL.refl _, fun e he => ?_⟩, ?_⟩
      · have hm := mem_listed he
        simp [go_sem, *] at hm
        subst hm
        exact evR hO _ (by simp [WkP.rd]) rfl
      clear hKx Kx hz
      exact hK _ _ ⟨fun j => if j = 11 then V 11 else s j, by rfl, by simpa [h14] using hF, by simp [h14], upd 11⟩
    · have h14 : L 14 = false := by
        cases h : L 14 with
        | false => rfl
        | true => exact absurd (hall h 12 (by decide)) (by rw [hLi]; simp)
      rw [if_neg (by rw [h14]; simp)] at hF
      have q10 : L 10 = true := dep 10 (by kernel_rfl)
      have e10 : s 10 = .int .i64 (prevOf K.row p + K.row p) := hs 10 (by decide) q10
      have q11 : L 11 = true := dep 11 (by kernel_rfl)
      have e11 : s 11 = .int .i64 K.by' := hs 11 (by decide) q11
      clear hs hall dep
      refine Goes.mono (n := m' + 1) ?_ (by omega)
      refine Goes.step rfl (fun _ h₁ => ?_)
      replace hF := hF.rely hO h₁
      clear h₁
      refine goes_oper_k rfl rfl (by decide) (fun Kx hKx => ?_)
      go_simp
      refine hKx _ _ ⟨dl_none ?_, ?_⟩
      · intro e he
        have hm := mem_listed he
        simp [go_sem, *] at hm
      clear hKx Kx
      exact hK _ _ ⟨fun j => if j = 12 then V 12 else s j, by simp [e10, e11] <;> rfl, by simpa [h14] using hF, by simp [h14], upd 12⟩
    · have h14 : L 14 = false := by
        cases h : L 14 with
        | false => rfl
        | true => exact absurd (hall h 13 (by decide)) (by rw [hLi]; simp)
      rw [if_neg (by rw [h14]; simp)] at hF
      have q0 : L 0 = true := dep 0 (by kernel_rfl)
      have e0 : s 0 = .slice (some ⟨X.C, 0, none⟩) K.n K.capC := hs 0 (by decide) q0
      have q1 : L 1 = true := dep 1 (by kernel_rfl)
      have e1 : s 1 = .int .i64 (p : Int) := hs 1 (by decide) q1
      clear hs hall dep
      refine Goes.mono (n := m' + 1) ?_ (by omega)
      refine Goes.step rfl (fun _ h₁ => ?_)
      replace hF := hF.rely hO h₁
      clear h₁
      refine goes_oper_k rfl rfl (by decide) (fun Kx hKx => ?_)
      go_simp
      refine hKx _ _ ⟨dl_none ?_, ?_⟩
      · intro e he
        have hm := mem_listed he
        simp [go_sem, *] at hm
      clear hKx Kx
      exact hK _ _ ⟨fun j => if j = 13 then V 13 else s j, by simp [e0, e1] <;> rfl, by simpa [h14] using hF, by simp [h14], upd 13⟩
    · rw [if_neg (by rw [hLi]; simp)] at hF
      have q0 : L 0 = true := dep 0 (by kernel_rfl)
      have e0 : s 0 = .slice (some ⟨X.C, 0, none⟩) K.n K.capC := hs 0 (by decide) q0
      have q1 : L 1 = true := dep 1 (by kernel_rfl)
      have e1 : s 1 = .int .i64 (p : Int) := hs 1 (by decide) q1
      have q2 : L 2 = true := dep 2 (by kernel_rfl)
      have e2 : s 2 = .slice (some ⟨K.Bb, 0, none⟩) K.n K.capB := hs 2 (by decide) q2
      have q3 : L 3 = true := dep 3 (by kernel_rfl)
      have e3 : s 3 = .int .i64 (p : Int) := hs 3 (by decide) q3
      have q4 : L 4 = true := dep 4 (by kernel_rfl)
      have e4 : s 4 = .int .i64 ((p : Int) - 1) := hs 4 (by decide) q4
      have q5 : L 5 = true := dep 5 (by kernel_rfl)
      have e5 : s 5 = .int .i64 (prevOf K.row p) := hs 5 (by decide) q5
      have q6 : L 6 = true := dep 6 (by kernel_rfl)
      have e6 : s 6 = .slice (some ⟨K.Bb, 0, none⟩) K.n K.capB := hs 6 (by decide) q6
      have q7 : L 7 = true := dep 7 (by kernel_rfl)
      have e7 : s 7 = .int .i64 (p : Int) := hs 7 (by decide) q7
      have q8 : L 8 = true := dep 8 (by kernel_rfl)
      have e8 : s 8 = .pointer (some ⟨K.Bb, p, none⟩) := hs 8 (by decide) q8
      have q9 : L 9 = true := dep 9 (by kernel_rfl)
      have e9 : s 9 = .int .i64 (K.row p) := hs 9 (by decide) q9
      have q10 : L 10 = true := dep 10 (by kernel_rfl)
      have e10 : s 10 = .int .i64 (prevOf K.row p + K.row p) := hs 10 (by decide) q10
      have q11 : L 11 = true := dep 11 (by kernel_rfl)
      have e11 : s 11 = .int .i64 K.by' := hs 11 (by decide) q11
      have q12 : L 12 = true := dep 12 (by kernel_rfl)
      have e12 : s 12 = .int .i64 (sumOf K p) := hs 12 (by decide) q12
      have q13 : L 13 = true := dep 13 (by kernel_rfl)
      have e13 : s 13 = .pointer (some ⟨X.C, p, none⟩) := hs 13 (by decide) q13
      have hq14 : ∀ j, j < 14 → L j = true := by
        intro j hj
        have : j = 0 ∨ j = 1 ∨ j = 2 ∨ j = 3 ∨ j = 4 ∨ j = 5 ∨ j = 6 ∨ j = 7 ∨ j = 8 ∨ j = 9 ∨ j = 10 ∨ j = 11 ∨ j = 12 ∨ j = 13 := by omega
        rcases this with rfl | rfl | rfl | rfl | rfl | rfl | rfl | rfl | rfl | rfl | rfl | rfl | rfl | rfl <;> assumption
      have hs14 : ∀ j, j < 14 → s j = V j := fun j hj => hs j hj (hq14 j hj)
      clear hs hall dep
      refine Goes.mono (n := m' + 1) ?_ (by omega)
      have hpC : p < X.nC := by have := hO.n; omega
      refine Goes.step rfl (fun _ h₁ => ?_)
      replace hF := hF.rely hO h₁
      clear h₁
      refine goes_oper_k rfl rfl (by decide) (fun Kx hKx => ?_)
      obtain ⟨u, hu1, hu2⟩ := hF.cellAt hpC
      go_simp
      refine hKx _ _ ⟨⟨al_set hF.pay hp _, fun e he => ?_⟩, ?_⟩
      · have hm := mem_listed he
        simp [go_sem, storedEv, *] at hm
        subst hm
        exact evO hO p hp
      clear hKx Kx hu1 hu2
      exact hK _ _ ⟨s, by simp [e0, e1, e2, e3, e4, e5, e6, e7, e8, e9, e10, e11, e12, e13], by simpa using hF.next hO hp, fun _ j hj => (if_neg (show ¬ j = 14 by omega)).trans (hq14 j hj), fun j hj _ => hs14 j hj⟩
end
end Go.Proofs.Ytehmobcfbifocaa
