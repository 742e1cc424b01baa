/-
  The program's LeftOf: for every argument what it hands back, and nothing that was there is written.
-/
import Derived.Test.YtjghhmgnbcabdaaSmall4
import Derived.Test.YtjghhmgnbcabdaaImpl2b
import Derived.Test.YtjghhmgnbcabdaaMap3
import Derived.Test.YtjghhmgnbcabdaaVals4
namespace Go.Proofs.Ytjghhmgnbcabdaa
open Go.RowKit Go.Shelf
attribute [local go_sem] Oper.semAt_some

set_option maxRecDepth 100000 in
set_option maxHeartbeats 1000000 in
theorem leftIn_in (R X Y p : Nat) (hp : prm p) (hX : X ≤ 999999999) (hY : Y ≤ 999999999) (w : World) (h : Sm w R p) : Calls Try.prog 41 #[.pointer (some ⟨R, 0, none⟩), .int .i64 X, .int .i64 Y] w fun e w' =>
    e = .returned (.int .i64 ((bin X Y % p : Nat) : Int)) ∧ Sm w' R p ∧ w.grownBy w' (some R) := by
  have hp2 := prm_two hp
  have hR := h.lt
  refine (callsIn_wide (n := 9)).1 ?_
  refine callsIn_of_wp_marks Try.func41 rfl trivial ?_ rfl
  simp only [Try.ntmps41, List.size_toArray, List.length_cons, List.length_nil, Nat.reduceAdd, Nat.reduceSub, Array.replicate_succ, Array.replicate_zero, List.push_toArray, List.append_toArray, List.nil_append, List.cons_append]
  have hc0 : ((w.alloc (.cells #[.pointer (some ⟨R, 0, none⟩)] 89)).alloc (.cells #[.int .i64 1] 3)).cell? ⟨R, 0, none⟩ = some (.int .i64 p) := ((h.kept (World.grownBy_alloc w _ none) (by simp)).kept (World.grownBy_alloc _ _ none) (by simp)).cell0
  have hcb : ((w.alloc (.cells #[.pointer (some ⟨R, 0, none⟩)] 89)).alloc (.cells #[.int .i64 1] 3)).cell? ⟨w.heap.size, 0, none⟩ = some (.pointer (some ⟨R, 0, none⟩)) := ((Boxed.new w _ _).alloc _).cell
  gi_wp2_with (refine ⟨trivial, ?_⟩; gi_at_call 37; refine (callsIn_wide.2 (digitsBeside_in _ _ _ _)).mono ?_; rintro e w' ⟨rfl, rfl⟩)
  clear hc0 hcb
  obtain ⟨W0, hW0⟩ : ∃ W0, (((((w.alloc (.cells #[.pointer (some ⟨R, 0, none⟩)] 89)).alloc (.cells #[.int .i64 1] 3)).alloc (.cells #[.int .i64 X] 3)).alloc (.cells #[.int .i64 Y] 3)).alloc (.cells #[.int .i64 p] 3)) = W0 := ⟨_, rfl⟩
  have hsz1 : W0.heap.size ≤ w.heap.size + 5 := by rw [← hW0]; simp
  have hsz2 : w.heap.size + 5 ≤ W0.heap.size := by rw [← hW0]; simp
  have hb0 : Boxed W0 w.heap.size 89 (.pointer (some ⟨R, 0, none⟩)) := by rw [← hW0]; exact ((((boxed_at _ _ (by simp)).alloc _).alloc _).alloc _).alloc _
  have hb1 : Boxed W0 (w.heap.size + 1) 3 (.int .i64 1) := by rw [← hW0]; exact (((boxed_at _ _ (by simp)).alloc _).alloc _).alloc _
  have hb3 : Boxed W0 (w.heap.size + 1 + 1) 3 (.int .i64 X) := by rw [← hW0]; exact ((boxed_at _ _ (by simp)).alloc _).alloc _
  have hb4 : Boxed W0 (w.heap.size + 1 + 1 + 1) 3 (.int .i64 Y) := by rw [← hW0]; exact (boxed_at _ _ (by simp)).alloc _
  have hb5 : Boxed W0 (w.heap.size + 1 + 1 + 1 + 1) 3 (.int .i64 p) := by rw [← hW0]; exact boxed_at _ _ (by simp)
  have hgr : w.grownBy W0 (some R) := by
    rw [← hW0]
    exact grown_seq (grown_seq (grown_seq (grown_seq (grown_seq (row := some R) (grownBy_refl w none) (World.grownBy_alloc _ _ none) (fun _ e => by cases e) (fun _ e => by cases e)) (World.grownBy_alloc _ _ none) (fun _ e _ => e) (fun _ e => by cases e)) (World.grownBy_alloc _ _ none) (fun _ e _ => e) (fun _ e => by cases e)) (World.grownBy_alloc _ _ none) (fun _ e _ => e) (fun _ e => by cases e)) (World.grownBy_alloc _ _ none) (fun _ e _ => e) (fun _ e => by cases e)
  have hsm : Sm W0 R p := by
    rw [← hW0]
    exact ((((h.kept (World.grownBy_alloc _ _ none) (by simp)).kept (World.grownBy_alloc _ _ none) (by simp)).kept (World.grownBy_alloc _ _ none) (by simp)).kept (World.grownBy_alloc _ _ none) (by simp)).kept (World.grownBy_alloc _ _ none) (by simp)
  rw [hW0]
  clear hW0
  have hone : prodL ([] : List (Nat × Nat)) % p = 1 := by show 1 % p = 1; exact Nat.mod_eq_of_lt (by omega)
  refine wpIn_rangeFunc_mem rfl (by omega) (gf := 55) (lb := #[.pointer (some ⟨w.heap.size + 1 + 1, 0, none⟩), .pointer (some ⟨w.heap.size + 1 + 1 + 1 + 1, 0, none⟩), .pointer (some ⟨w.heap.size + 1 + 1 + 1, 0, none⟩)]) rfl trivial (enters_of Try.func55 (by kernel_rfl) rfl)
    (beside_stops (9 - 1) (w.heap.size + 1 + 1) (w.heap.size + 1 + 1 + 1 + 1) (w.heap.size + 1 + 1 + 1) X Y p (by omega) (by omega) hp2.1 (by omega) (by omega) W0 (by omega) (by omega) (by omega) hb3.cell hb5.cell hb4.cell) (fun _ _ => rfl) (by omega)
    (fun pre x W o h => by obtain ⟨R1, R2, m, k, ht, h1, h2, h3⟩ := h; exact ⟨R1, R2, m, k, ht, h1.of_block (World.putObj_heap_other (by unfold Two at ht; omega)), h2.of_block (World.putObj_heap_other (by unfold Two at ht; omega)), h3⟩) (fun xs W o h => h) (fun pre W o h => h)
    (fun pre W => Boxed W w.heap.size 89 (.pointer (some ⟨R, 0, none⟩)) ∧ Boxed W (w.heap.size + 1) 3 (.int .i64 ((prodL pre % p : Nat) : Int)) ∧ Sm W R p ∧ w.grownBy W (some R)) (fun _ _ _ => False)
    (fun s A B row hs hg hr => ⟨hs.1.kept hg (fun e => by have := hr _ e.symm; omega), hs.2.1.kept hg (fun e => by have := hr _ e.symm; omega), hs.2.2.1.kept hg (fun e => by have := hr _ e.symm; omega), grown_seq hs.2.2.2 hg (fun k e _ => e) (fun k e hk => by have := hr _ e; omega)⟩)
    (fun _ _ _ _ _ hs _ _ => hs) ⟨hb0, by rw [hone]; exact hb1, hsm, hgr⟩
    (fun x => { tmps := #[.pointer (some ⟨R, 0, none⟩), .int .i64 X, .int .i64 Y, .pointer (some ⟨w.heap.size, 0, none⟩), undef, undef, .int .i64 0, .pointer (some ⟨w.heap.size + 1, 0, none⟩), .int .i64 x.1, .int .i64 x.2, .int .i64 X, .int .i64 Y, .pointer (some ⟨R, 0, none⟩), .pointer (some ⟨R, 0, none⟩), .pointer (some ⟨R, 0, none⟩), .int .i64 p,
      .func (.func 55) #[] #[.pointer (some ⟨w.heap.size + 1 + 1, 0, none⟩), .pointer (some ⟨w.heap.size + 1 + 1 + 1 + 1, 0, none⟩), .pointer (some ⟨w.heap.size + 1 + 1 + 1, 0, none⟩)], .int .i64 x.1, .int .i64 x.2, undef, undef, undef, undef, undef, undef, undef, undef, undef, undef, undef, undef], defers := [] }) ?assign ?body ?done ?stop
  case assign =>
    intro l x W K hK
    gi_wp2
    exact hK
  case body =>
    rintro l pre ⟨u, v⟩ W hlt ⟨hx0, hx1, hS, hB⟩ ⟨R1, R2, m, k, _, _, _, _, hu, hv⟩
    simp only at hu hv
    have hstep := prodL_step (p := p) pre (u, v)
    simp only at hstep
    have hAl : prodL pre % p < p := Nat.mod_lt _ (by omega)
    have hCl : bin u v % p < p := Nat.mod_lt _ (by omega)
    have hcall := fun V (hV : Sm V R p) => smallCell_in R p u v hp hu hv V hV
    obtain ⟨A, hA⟩ : ∃ A, prodL pre % p = A := ⟨_, rfl⟩
    obtain ⟨C, hC⟩ : ∃ C, bin u v % p = C := ⟨_, rfl⟩
    rw [hA, hC] at hstep
    rw [hA] at hAl hx1
    rw [hC] at hCl
    simp only [hC] at hcall
    clear hA hC
    obtain ⟨D, hD⟩ : ∃ D, A * C = D := ⟨_, rfl⟩
    have hDl : D ≤ 13 * 13 := by rw [← hD]; exact Nat.mul_le_mul (by omega) (by omega)
    have hDi : (A : Int) * (C : Int) = (D : Int) := by rw [← hD]; simp
    rw [hD] at hstep
    clear hD
    have hq := tmod_n D p
    rw [hstep] at hq
    have hrl : prodL (pre ++ [(u, v)]) % p < p := Nat.mod_lt _ (by omega)
    clear hstep
    obtain ⟨E, hE⟩ : ∃ E, prodL (pre ++ [(u, v)]) % p = E := ⟨_, rfl⟩
    rw [hE] at hq hrl
    have hE' := hide hE
    clear hE
    have hw1 : IntKind.i64.wrap (D : Int) = D := IntWalk.i64_in _ (by omega)
    have hw2 : IntKind.i64.wrap (E : Int) = E := IntWalk.i64_in _ (by omega)
    have hp0 : ((p : Int) == 0) = false := by simp; omega
    obtain ⟨Pre, hPre⟩ : ∃ Pre : World → Prop, Pre = fun V => Boxed V w.heap.size 89 (.pointer (some ⟨R, 0, none⟩)) ∧ Boxed V (w.heap.size + 1) 3 (.int .i64 A) ∧ Sm V R p ∧ W.grownBy V (some R) := ⟨_, rfl⟩
    obtain ⟨Post, hPost⟩ : ∃ Post : World → Prop, Post = fun V => Boxed V w.heap.size 89 (.pointer (some ⟨R, 0, none⟩)) ∧ Boxed V (w.heap.size + 1) 3 (.int .i64 E) ∧ Sm V R p ∧ ∃ V0, W.grownBy V0 (some R) ∧ V0.grownBy V (some (w.heap.size + 1)) := ⟨_, rfl⟩
    have p0 : Pre W.drew := by rw [hPre]; exact ⟨hx0, hx1, hS.drew, grownBy_drew (grownBy_refl _ _)⟩
    have pbox : ∀ V, Pre V → V.cell? ⟨w.heap.size, 0, none⟩ = some (.pointer (some ⟨R, 0, none⟩)) := fun V h => by rw [hPre] at h; exact h.1.cell
    have pleft : ∀ V, Pre V → V.cell? ⟨w.heap.size + 1, 0, none⟩ = some (.int .i64 A) := fun V h => by rw [hPre] at h; exact h.2.1.cell
    have pfr : ∀ V, Pre V → V.frozen? ⟨w.heap.size + 1, 0, none⟩ = false := fun V h => by rw [hPre] at h; exact h.2.1.frozen
    have pp : ∀ V, Pre V → V.cell? ⟨R, 0, none⟩ = some (.int .i64 p) := fun V h => by rw [hPre] at h; exact h.2.2.1.cell0
    have pcall : ∀ V, Pre V → Calls Try.prog 59 #[.pointer (some ⟨R, 0, none⟩), .int .i64 u, .int .i64 v] V fun e w' => e = .returned (.int .i64 C) ∧ Pre w' := fun V h => by
      rw [hPre] at h ⊢
      exact (hcall V h.2.2.1).mono fun e w' ⟨h1, h2, h3⟩ => ⟨h1, h.1.kept h3 (by simp; omega), h.2.1.kept h3 (by simp; omega), h2, h.2.2.2.trans h3⟩
    have ppost : ∀ V, Pre V → Post (V.setCell ⟨w.heap.size + 1, 0, none⟩ (.int .i64 E)) := fun V h => by
      rw [hPre] at h
      rw [hPost]
      exact ⟨h.1.other (by omega) _, h.2.1.set _, h.2.2.1.kept (grownBy_set (grownBy_refl V (some (w.heap.size + 1))) 0 (.int .i64 E)) (by simp; omega), V, h.2.2.2, grownBy_set (grownBy_refl _ _) _ _⟩
    have hPost' := hide hPost
    clear hcall hPre hPost
    gi_wp2
    refine wpIn_region_inv (by kernel_rfl) (by kernel_rfl) (fun M b V => ∃ s0 s1 s2 s3 s4 s5 s6 s7 s8 s9 s10 : Value, b = { tmps := #[.pointer (some ⟨R, 0, none⟩), .int .i64 X, .int .i64 Y, .pointer (some ⟨w.heap.size, 0, none⟩), undef, undef, .int .i64 0, .pointer (some ⟨w.heap.size + 1, 0, none⟩), .int .i64 u, .int .i64 v, .int .i64 X, .int .i64 Y, .pointer (some ⟨R, 0, none⟩), .pointer (some ⟨R, 0, none⟩), .pointer (some ⟨R, 0, none⟩), .int .i64 p,
      .func (.func 55) #[] #[.pointer (some ⟨w.heap.size + 1 + 1, 0, none⟩), .pointer (some ⟨w.heap.size + 1 + 1 + 1 + 1, 0, none⟩), .pointer (some ⟨w.heap.size + 1 + 1 + 1, 0, none⟩)], .int .i64 u, .int .i64 v, s0, s1, s2, s3, s4, s5, s6, s7, s8, s9, s10, undef], defers := [] } ∧
        (M 0 = true → s0 = .int .i64 A) ∧ (M 1 = true → s1 = .pointer (some ⟨R, 0, none⟩)) ∧ (M 2 = true → s2 = .int .i64 u) ∧ (M 3 = true → s3 = .int .i64 v) ∧
        (M 4 = true → s4 = .int .i64 C ∧ M 1 = true) ∧ (M 5 = true → s5 = .int .i64 D ∧ M 0 = true ∧ M 4 = true) ∧ (M 6 = true → s6 = .pointer (some ⟨R, 0, none⟩)) ∧ (M 7 = true → s7 = .pointer (some ⟨R, 0, none⟩) ∧ M 6 = true) ∧
        (M 8 = true → s8 = .pointer (some ⟨R, 0, none⟩) ∧ M 7 = true) ∧ (M 9 = true → s9 = .int .i64 p ∧ M 8 = true) ∧ (M 10 = true → s10 = .int .i64 E ∧ M 5 = true ∧ M 9 = true) ∧
        ((M 11 = false ∧ Pre V) ∨ (M 11 = true ∧ M 0 = true ∧ M 1 = true ∧ M 4 = true ∧ M 6 = true ∧ M 9 = true ∧ Post V))) ?h0 ?step ?fin
    case h0 => exact ⟨undef, undef, undef, undef, undef, undef, undef, undef, undef, undef, undef, rfl, by simp, by simp, by simp, by simp, by simp, by simp, by simp, by simp, by simp, by simp, by simp, .inl ⟨rfl, p0⟩⟩
    case step =>
      rintro M b V i o ho hMi hde ⟨s0, s1, s2, s3, s4, s5, s6, s7, s8, s9, s10, rfl, f0, f1, f2, f3, f4, f5, f6, f7, f8, f9, f10, fw⟩ Q' hQ'
      have hi : i < 12 := (Array.getElem?_eq_some_iff.1 ho).1
      have hQ := hide hQ'
      clear hQ'
      rcases (show i = 0 ∨ i = 1 ∨ i = 2 ∨ i = 3 ∨ i = 4 ∨ i = 5 ∨ i = 6 ∨ i = 7 ∨ i = 8 ∨ i = 9 ∨ i = 10 ∨ i = 11 by omega) with rfl | rfl | rfl | rfl | rfl | rfl | rfl | rfl | rfl | rfl | rfl | rfl
      all_goals
        simp at ho
        subst ho
        simp [Region.binds] at hde
      case' inl => have gw := fw; rcases gw with ⟨fw0, hP⟩ | ⟨h11, h1, h2, h3, h4, h5, _⟩; have hc := pleft V hP
      case' inr.inl => have gw := fw; rcases gw with ⟨fw0, hP⟩ | ⟨h11, h1, h2, h3, h4, h5, _⟩; have hc := pbox V hP
      case' inr.inr.inr.inr.inl => obtain rfl := f1 hde.1; obtain rfl := f2 hde.2.1; obtain rfl := f3 hde.2.2; rcases fw with ⟨fw0, hP⟩ | ⟨h11, h1, h2, h3, h4, h5, _⟩; have hcl := pcall V hP
      case' inr.inr.inr.inr.inr.inl => obtain rfl := f0 hde.1; obtain ⟨rfl, _⟩ := f4 hde.2
      case' inr.inr.inr.inr.inr.inr.inl => have gw := fw; rcases gw with ⟨fw0, hP⟩ | ⟨h11, h1, h2, h3, h4, h5, _⟩; have hc := pbox V hP
      case' inr.inr.inr.inr.inr.inr.inr.inl => obtain rfl := f6 hde
      case' inr.inr.inr.inr.inr.inr.inr.inr.inl => obtain ⟨rfl, _⟩ := f7 hde
      case' inr.inr.inr.inr.inr.inr.inr.inr.inr.inl => obtain ⟨rfl, _⟩ := f8 hde; have gw := fw; rcases gw with ⟨fw0, hP⟩ | ⟨h11, h1, h2, h3, h4, h5, _⟩; have hc := pp V hP
      case' inr.inr.inr.inr.inr.inr.inr.inr.inr.inr.inl => obtain ⟨rfl, _⟩ := f5 hde.1; obtain ⟨rfl, _⟩ := f9 hde.2
      case' inr.inr.inr.inr.inr.inr.inr.inr.inr.inr.inr => obtain ⟨rfl, g5, g9⟩ := f10 hde.1; rcases fw with ⟨fw0, hP⟩ | ⟨h11, h1, h2, h3, h4, h5, _⟩; have hc := pleft V hP; have hfz := pfr V hP
      all_goals
        first | (rw [h1] at hMi; cases hMi; done) | (rw [h2] at hMi; cases hMi; done) | (rw [h3] at hMi; cases hMi; done) | (rw [h4] at hMi; cases hMi; done) | (rw [h5] at hMi; cases hMi; done) | (rw [h11] at hMi; cases hMi; done) | skip
      all_goals
        gi_wp2_with (refine ⟨trivial, ?_⟩; gi_at_call 59; refine (callsIn_wide.2 hcl).mono ?_; clear hcl; rintro e W3 ⟨rfl, hP3⟩)
        refine hQ.out _ _ ⟨_, _, _, _, _, _, _, _, _, _, _, rfl, ?_, ?_, ?_, ?_, ?_, ?_, ?_, ?_, ?_, ?_, ?_, ?_⟩
        all_goals first
          | (intro hM; first
            | exact rfl
            | exact ⟨rfl, by simpa using hde⟩
            | exact ⟨rfl, by simpa using hde.1⟩
            | exact ⟨rfl, by simpa using hde.1, by simpa using hde.2⟩
            | exact f0 (by simpa using hM)
            | exact f1 (by simpa using hM)
            | exact f2 (by simpa using hM)
            | exact f3 (by simpa using hM)
            | exact f6 (by simpa using hM)
            | (have g := f4 (by simpa using hM); exact ⟨by first | rfl | exact g.1, by first | (simp; done) | simpa using g.2⟩)
            | (have g := f5 (by simpa using hM); exact ⟨by first | rfl | exact g.1, by first | (simp; done) | simpa using g.2.1, by first | (simp; done) | simpa using g.2.2⟩)
            | (have g := f7 (by simpa using hM); exact ⟨by first | rfl | exact g.1, by first | (simp; done) | simpa using g.2⟩)
            | (have g := f8 (by simpa using hM); exact ⟨by first | rfl | exact g.1, by first | (simp; done) | simpa using g.2⟩)
            | (have g := f9 (by simpa using hM); exact ⟨by first | rfl | exact g.1, by first | (simp; done) | simpa using g.2⟩)
            | (have g := f10 (by simpa using hM); exact ⟨by first | rfl | exact g.1, by first | (simp; done) | simpa using g.2.1, by first | (simp; done) | simpa using g.2.2⟩))
          | exact .inl ⟨by simpa using fw0, hP⟩
          | exact .inl ⟨by simpa using fw0, hP3⟩
          | exact .inr ⟨by simp, by simpa using (f5 g5).2.1, by simpa using (f4 (f5 g5).2.2).2, by simpa using (f5 g5).2.2, by simpa using (f7 (f8 (f9 g9).2).2).2, by simpa using g9, ppost V hP⟩
          | exact fw.elim (fun ⟨a, b⟩ => .inl ⟨by simpa using a, b⟩) (fun ⟨a, b, c, d, e, f, z⟩ => .inr ⟨by simpa using a, by simpa using b, by simpa using c, by simpa using d, by simpa using e, by simpa using f, z⟩)
    case fin =>
      rintro M b V hall ⟨s0, s1, s2, s3, s4, s5, s6, s7, s8, s9, s10, rfl, _, _, _, _, _, _, _, _, _, _, _, fw⟩
      rcases fw with ⟨a, _⟩ | ⟨_, _, _, _, _, _, hP3⟩
      · rw [hall 11 (by simp)] at a; cases a
      · rw [hPost'.out] at hP3
        obtain ⟨q0, q1, q2, V0, q3, q4⟩ := hP3
        gi_wp2
        refine ⟨(KeepsSet.of_grownBy q3 (fun r e => by cases e; omega)).trans (KeepsSet.of_grownBy q4 (fun r e => by cases e; omega)), q0, by rw [hE'.out]; exact q1, q2, grown_seq (grown_seq hB q3 (fun _ e _ => e) (fun _ e _ => e)) q4 (fun _ e _ => e) (fun k e hk => by cases e; omega)⟩
  case done =>
    rintro ys W hys ⟨hx0, hx1, hS, hB⟩ hK
    obtain rfl : ys = pairs p X Y := hys
    rw [prodL_left hp] at hx1
    have hc := hx1.cell
    gi_wp2
    refine ⟨by simp, .inl ⟨_, _, rfl, run_takeDeferred hK, ?_⟩⟩
    refine ⟨_, results_tmp rfl _ _ _, rfl, hS.kept (grownBy_putObj' W _ _) (by simp; omega), ?_⟩
    exact grown_seq hB (grownBy_putObj' W _ _) (fun _ e _ => e) (fun k e hk => by cases e; omega)
  case stop =>
    rintro c pre W _ h _
    exact h.elim

/-- The small triangle's block: as it is laid, and with the prime in it. -/
def smZ : Array Value := #[.int .i64 0, .int .u32 0, .int .i32 0, .int .u32 0] ++ Array.replicate 256 (.int .i64 0)
def smP (p : Int) : Array Value := #[.int .i64 p, .int .u32 0, .int .i32 0, .int .u32 0] ++ Array.replicate 256 (.int .i64 0)
theorem smP_built (p : Int) : Try.prog.built 65 [(0, .int .i64 p)] = some (smP p) := by kernel_rfl
theorem smZ_zero (w : World) : (zeroValue 65).run Try.prog w = .ok (.agg smZ) w := by kernel_rfl
theorem smP_info (p : Int) : (Try.prog.info? 65).map (·.size) = some (smP p).size := by kernel_rfl
theorem smZ_size (p : Int) : smZ.size = (smP p).size := by kernel_rfl
theorem smP_one (p : Int) : (smP p).all (·.oneCell') = true := by kernel_rfl
theorem smP_size (p : Int) : (smP p).size = 260 := by kernel_rfl
theorem smP_at (p : Nat) (i : Nat) (v : Value) (h : smV p 0 0 (fun _ => 0) i = some v) : (smP p)[i]? = some v := by
  unfold smV at h
  unfold smP
  by_cases e0 : i = 0
  · subst e0; simpa using h
  · by_cases e1 : i = 1
    · subst e1; simpa using h
    · by_cases e2 : i = 2
      · subst e2; simpa using h
      · by_cases e3 : 4 ≤ i ∧ i < 260
        · rw [if_neg e0, if_neg e1, if_neg e2, if_pos e3] at h
          rw [Array.getElem?_append_right (by simp; omega), Array.getElem?_replicate, if_pos (by simp; omega)]
          exact h
        · rw [if_neg e0, if_neg e1, if_neg e2, if_neg e3] at h; cases h

theorem build_sm {ops : Array Oper} {rest : List Oper} {o : Oper} {a : Act} {w : World} {Q : Exit → Act → World → Prop} (hg : o.guard = none) (x : Operand) (ho : o.op = .build 65 #[(0, x)]) (p : Int) (hx : a.eval x = .int .i64 p)
    (h : wpList Try.prog ops Q rest (a.put o.dst (.agg (smP p))) w) : wpList Try.prog ops Q (o :: rest) a w := by
  refine wpList_plain hg fun K hK => ?_
  unfold Oper.wp execOp
  simp only [ho]
  have := run_build (P := Try.prog) w 65 #[(0, .int .i64 p)] (smP p) (smP_built p)
  simp [hx, this]
  exact hK _ _ h
theorem alloc_sm {ops : Array Oper} {rest : List Oper} {o : Oper} {a : Act} {w : World} {Q : Exit → Act → World → Prop} (hg : o.guard = none) (ho : o.op = .alloc 65)
    (h : wpList Try.prog ops Q rest (a.put o.dst (.pointer (some ⟨w.heap.size, 0, none⟩))) (w.alloc (.cells smZ 65))) : wpList Try.prog ops Q (o :: rest) a w := by
  refine wpList_plain hg fun K hK => ?_
  unfold Oper.wp execOp
  simp only [ho]
  have hr : (Instr.alloc 65 true (.tuple #[])).run Try.prog w = .ok (.pointer (some ⟨w.heap.size, 0, none⟩)) (w.alloc (.cells smZ 65)) := by
    unfold Instr.alloc
    simp only [Sem.run_bind, smZ_zero, Result.andThen_ok]
    rfl
  simp [hr]
  exact hK _ _ h
theorem store_sm {ops : Array Oper} {rest : List Oper} {o : Oper} {a : Act} {w : World} {Q : Exit → Act → World → Prop} (hgd : o.guard = none) (x y : Operand) (ho : o.op = .store 65 x y) (g p : Nat)
    (hx : a.eval x = .pointer (some ⟨g, 0, none⟩)) (hy : a.eval y = .agg (smP p)) (hg : w.heap[g]? = some (.cells smZ 65 (0, 0)))
    (h : ∀ w', SmAt w' g p 0 0 (fun _ => 0) → w.grownBy w' (some g) → wpList Try.prog ops Q rest (a.put o.dst undef) w') : wpList Try.prog ops Q (o :: rest) a w :=
  wpList_store_row hgd 65 x y ho g (smP p) hx hy 65 smZ hg (smP_info p) (smZ_size p) (smP_one p)
    (h _ ⟨smP p, setRow_heap w g smZ _ _ _ hg, smP_size p, smP_at p⟩ ⟨rfl, rfl, rfl, by simp, fun k _ hr => setRow_other w g k _ (fun e => hr (by rw [e]))⟩)

set_option maxHeartbeats 400000 in
theorem implLeft (row place p : Int) (hpf : Fits p) (w : World) : Calls Try.prog 24 #[.int .i64 row, .int .i64 place, .int .i64 p] w fun e w' => e = .returned (.int .i64 (leftV row place p)) ∧ Below w.heap.size w w' := by
  by_cases h1 : row < 0 ∨ 999999999 < row
  · rw [leftV_bad (h1.imp id .inl)]
    go_enter Try.func24, Try.ntmps24
    go_wp2_with (go_at_call 31; refine (within_f _ _ _ (by omega)).mono ?_; rintro e w' ⟨rfl, rfl⟩)
    go_ret
    exact ⟨rfl, Below.refl _ _⟩
  · by_cases h2 : place < 0 ∨ 999999999 < place
    · rw [leftV_bad (.inr (.inr (h2.imp id .inl)))]
      go_enter Try.func24, Try.ntmps24
      go_wp2_with (first | (go_at_call 31; refine (within_t _ _ _ (by omega) (by omega)).mono ?_; rintro e w' ⟨rfl, rfl⟩) | (go_at_call 31; refine (within_f _ _ _ (by omega)).mono ?_; rintro e w' ⟨rfl, rfl⟩))
      go_ret
      exact ⟨rfl, Below.refl _ _⟩
    · cases hpr : prmI p with
      | false =>
        rw [leftV_bad (.inr (.inr (.inr (.inr hpr))))]
        have hP := fun w => implPrime_is hpf hpr w
        clear hpr
        go_enter Try.func24, Try.ntmps24
        go_wp2_with (first | (go_at_call 31; refine (within_t _ _ _ (by omega) (by omega)).mono ?_; rintro e w' ⟨rfl, rfl⟩) | (go_at_call 32; refine (hP _).mono ?_; rintro e w' ⟨rfl, hB⟩))
        go_ret
        exact ⟨rfl, hB⟩
      | true =>
        have hP := fun w => implPrime_is hpf hpr w
        obtain ⟨B, rfl, hB⟩ := prmI_t hpr
        obtain ⟨N, rfl⟩ : ∃ N : Nat, row = N := ⟨row.toNat, by omega⟩
        obtain ⟨K, rfl⟩ : ∃ K : Nat, place = K := ⟨place.toNat, by omega⟩
        have hN : N ≤ 999999999 := by omega
        have hK : K ≤ 999999999 := by omega
        rw [leftV_nat hN hK hB]
        have hU := fun R w h => leftIn_in R N K B hB hN hK w h
        generalize bin N K % B = T at *
        clear hpr
        go_enter Try.func24, Try.ntmps24
        go_wp2_with (first
          | (go_at_call 31; refine (within_t _ _ _ (by omega) (by omega)).mono ?_; rintro e w' ⟨rfl, rfl⟩)
          | (go_at_call 32; refine (hP _).mono ?_; rintro e w1 ⟨rfl, hB1⟩)
          | (refine build_sm rfl _ rfl B rfl ?_)
          | (refine alloc_sm rfl rfl ?_)
          | (refine store_sm rfl _ _ rfl w1.heap.size B rfl rfl (heap_alloc_new _ _) ?_; intro w2 hS2 hg2)
          | (go_at_call 41; refine (hU _ _ (.inl hS2)).mono ?_; rintro e w3 ⟨rfl, _, hg3⟩))
        go_ret
        refine ⟨rfl, ?_⟩
        have hb1 := (hB1.alloc hB1.size (.cells smZ 65)).grown hg2 (by have := hB1.size; simp; omega) (fun k e => by cases e; exact hB1.size)
        exact hb1.grown hg3 hb1.size (fun k e => by cases e; exact hB1.size)
end Go.Proofs.Ytjghhmgnbcabdaa
