/-
  The program's small triangle is filled: all rows that are digits, of which the prime's rest is kept.
-/
import Derived.Test.YtjghhmgnbcabdaaOnce4
import Derived.Test.YtjghhmgnbcabdaaImplRow
import Derived.Test.YtjghhmgnbcabdaaRegInv
namespace Go.Proofs.Ytjghhmgnbcabdaa
open Go.RowKit Go.Shelf
attribute [local go_sem] Oper.semAt_some

theorem grown_seq {w W W' : World} {r1 r2 row : Option Nat} (h1 : w.grownBy W r1) (h2 : W.grownBy W' r2) (k1 : ∀ k, r1 = some k → k < w.heap.size → row = some k) (k2 : ∀ k, r2 = some k → k < w.heap.size → row = some k) : w.grownBy W' row :=
  ⟨h2.os.trans h1.os, h2.tape.trans h1.tape, h2.output.trans h1.output, Nat.le_trans h1.size h2.size, fun b hb hr =>
    (h2.block b (Nat.lt_of_lt_of_le hb h1.size) (fun e => hr (k2 b e.symm hb).symm)).trans (h1.block b hb (fun e => hr (k1 b e.symm hb).symm))⟩

/-- The cells when j rows have been made. -/
def tabU (p j i : Nat) : Nat := if i / 16 < j then bin (i / 16) (i % 16) % p else 0
theorem tabU_zero (p i : Nat) : tabU p 0 i = 0 := by unfold tabU; rw [if_neg (by omega)]
theorem tabU_at {p j a b : Nat} (ha : a < j) (hb : b < 16) : tabU p j (16 * a + b) = bin a b % p := by
  unfold tabU; rw [show (16 * a + b) / 16 = a by omega, show (16 * a + b) % 16 = b by omega, if_pos ha]

/-- Row x has been copied and kept. -/
theorem tab_next {p x : Nat} {d s : Int} {i : Nat} {v : Value} {V : Nat → Option Value} (hV : ∀ i, (i < 4 ∨ 4 + x * 16 + 16 ≤ i ∨ i < 4 + x * 16) → V i = smV p d s (tabU p x) i) (h : smV p d s (tabU p (x + 1)) i = some v) :
    (if 4 + x * 16 ≤ i ∧ i < 4 + x * 16 + 16 then some (Value.int .i64 ((bin x (i - (4 + x * 16)) % p : Nat) : Int)) else V i) = some v := by
  by_cases e : 4 + x * 16 ≤ i ∧ i < 4 + x * 16 + 16
  · rw [if_pos e]
    unfold smV at h
    by_cases e2 : i < 260
    · rw [if_neg (by omega), if_neg (by omega), if_neg (by omega), if_pos (by omega)] at h
      unfold tabU at h
      rw [show (i - 4) / 16 = x by omega, if_pos (by omega), show (i - 4) % 16 = i - (4 + x * 16) by omega] at h
      exact h
    · rw [if_neg (by omega), if_neg (by omega), if_neg (by omega), if_neg (by omega)] at h; cases h
  · rw [if_neg e, hV i (by omega), ← h]
    unfold smV tabU
    by_cases e2 : 4 ≤ i
    · have : ((i - 4) / 16 < x) = ((i - 4) / 16 < x + 1) := by apply propext; omega
      simp only [this]
    · rw [if_neg (show ¬ (4 ≤ i ∧ i < 260) by omega), if_neg (show ¬ (4 ≤ i ∧ i < 260) by omega)]

/-- 'copy(d, s)' into a part of a block. -/
theorem copy_blk (w : World) (ty : TypeId) (g off dL dC b sL sC N : Nat) (t : TypeId) (V : Nat → Option Value) (f : Nat → Nat)
    (hle : sL ≤ dL) (hfit : off + sL ≤ N) (hr : BlkAt w g t N V)
    (hs : ∀ i, i < sL → w.cell? ⟨b, i, none⟩ = some (.int .i64 (f i))) :
    ∃ w', (Builtin.copy_ #[76, 76] ty #[.slice (some ⟨g, off, none⟩) dL dC, .slice (some ⟨b, 0, none⟩) sL sC]).run Try.prog w = .ok (.int .i64 sL) w' ∧
      BlkAt w' g t N (fun i => if off ≤ i ∧ i < off + sL then some (.int .i64 (f (i - off))) else V i) ∧ w.grownBy w' (some g) := by
  obtain ⟨cur, h1, h2, h3⟩ := hr
  have hmin : Nat.min sL dL = sL := Nat.min_eq_left hle
  have hrun := run_copy_row Try.prog w 76 76 ty 3 g off dL dC ⟨b, 0, none⟩ sL sC cur t ((List.range sL).map fun i => Value.int .i64 (f i)) Try.underlying76 (by kernel_rfl) h1 (by rw [hmin]; simp)
    (fun j v hj => by
      rw [List.getElem?_map] at hj
      by_cases e : j < sL
      · rw [List.getElem?_range e] at hj
        have hadd : (⟨b, 0, none⟩ : Addr).add j = ⟨b, j, none⟩ := by unfold Addr.add; split <;> simp_all
        rw [hadd, hs j e]; simpa using hj
      · rw [List.getElem?_eq_none (by simp; omega)] at hj; cases hj) (by simp; omega) (fun v hv => by simp at hv; obtain ⟨i, _, rfl⟩ := hv; rfl)
  refine ⟨_, by simpa [goInt] using hrun, ⟨_, setRow_heap w g cur _ t _ h1, by simp; omega, fun i v hi => ?_⟩, ⟨rfl, rfl, rfl, by simp, fun k _ hr => setRow_other w g k _ (fun e => hr (by rw [e]))⟩⟩
  · have ht : (List.take off cur.toList).length = off := by simp; omega
    dsimp only at hi
    rw [List.getElem?_toArray]
    by_cases e1 : i < off
    · rw [if_neg (by omega)] at hi
      rw [List.getElem?_append_left (by omega), List.getElem?_take, if_pos e1, Array.getElem?_toList]; exact h3 i v hi
    · rw [List.getElem?_append_right (by omega), ht]
      by_cases e2 : i < off + sL
      · rw [if_pos ⟨by omega, e2⟩] at hi
        rw [List.getElem?_append_left (by simp; omega), List.getElem?_map, List.getElem?_range (by omega)]
        exact hi
      · rw [if_neg (by omega)] at hi
        rw [List.getElem?_append_right (by simp; omega), List.getElem?_drop, Array.getElem?_toList]
        simp only [List.length_map, List.length_range]
        rw [show off + sL + (i - off - sL) = i by omega]; exact h3 i v hi

set_option maxRecDepth 100000 in
set_option maxHeartbeats 1000000 in
theorem fill_in (R p : Nat) (hp : prm p) (w : World) (h : SmAt w R p 0 1 (fun _ => 0)) : Calls Try.prog 73 #[.pointer (some ⟨R, 0, none⟩)] w fun e w' =>
    (∃ v, e = .returned v) ∧ SmAt w' R p 0 1 (tabU p p) ∧ w.grownBy w' (some R) := by
  have hp2 := prm_two hp
  have hRw := BlkAt.lt h
  obtain ⟨L, hL⟩ : ∃ L, p = L + 1 := ⟨p - 1, by omega⟩
  refine (callsIn_wide (n := 9)).1 ?_
  refine callsIn_of_wp_marks Try.func73 rfl trivial ?_ rfl
  simp only [Try.ntmps73, List.size_toArray, List.length_cons, List.length_nil, Nat.reduceAdd, Nat.reduceSub, Array.replicate_succ, Array.replicate_zero, List.push_toArray, List.append_toArray, List.nil_append, List.cons_append]
  have h1 : SmAt (w.alloc (.cells #[.pointer (some ⟨R, 0, none⟩)] 89)) R p 0 1 (fun _ => 0) := BlkAt.kept h (World.grownBy_alloc w _ none) (by simp)
  have hc0 := SmAt.cell0 h1
  have hpi : (p : Int) - 1 = (L : Int) := by omega
  have hLb : L ≤ 12 := by omega
  have hL' := hide hL
  clear hL
  gi_wp2_with (refine ⟨trivial, ?_⟩; gi_at_call 69; refine (callsIn_wide.2 (rowsTo_in _ _)).mono ?_; rintro e w' ⟨rfl, rfl⟩)
  clear hc0 hpi
  obtain ⟨W0, hW0⟩ : ∃ W0, ((w.alloc (.cells #[.pointer (some ⟨R, 0, none⟩)] 89)).alloc (Obj.cells #[Value.int IntKind.i64 L] 3)) = W0 := ⟨_, rfl⟩
  have hsz1 : W0.heap.size ≤ w.heap.size + 2 := by rw [← hW0]; simp
  have hsz2 : w.heap.size + 2 ≤ W0.heap.size := by rw [← hW0]; simp
  have hbox : Boxed W0 w.heap.size 89 (.pointer (some ⟨R, 0, none⟩)) := by rw [← hW0]; exact (Boxed.new w _ _).alloc _
  have hbx : Boxed W0 (w.heap.size + 1) 3 (.int .i64 L) := by rw [← hW0]; have := Boxed.new (w.alloc (.cells #[.pointer (some ⟨R, 0, none⟩)] 89)) 3 (.int .i64 L); rwa [World.size_alloc] at this
  have hgr : w.grownBy W0 (some R) := by rw [← hW0]; exact grown_seq (World.grownBy_alloc w _ none) (World.grownBy_alloc _ _ none) (fun _ e => by cases e) (fun _ e => by cases e)
  have hsm : SmAt W0 R p 0 1 (fun _ => 0) := by rw [← hW0]; exact BlkAt.kept h1 (World.grownBy_alloc _ _ none) (by simp)
  rw [hW0]
  clear hW0 h1
  refine wpIn_rangeFunc_mem rfl (by omega) (gf := 98) (lb := #[.pointer (some ⟨w.heap.size + 1, 0, none⟩)]) rfl trivial (enters_of Try.func98 (by kernel_rfl) rfl)
    (rows_stops (9 - 1) (w.heap.size + 1) L (by omega) (by omega) W0 (by omega) hbx.cell) (fun _ _ => rfl) (by omega)
    (fun pre x W o h => ⟨h.1, h.2.1, h.2.2.of_block (World.putObj_heap_other (by omega))⟩) (fun xs W o h => ⟨h.1, h.2.of_block (World.putObj_heap_other (by omega))⟩)
    (fun pre W o h => by obtain ⟨j, h1, h2, h3⟩ := h; exact ⟨j, h1, h2, h3.of_block (World.putObj_heap_other (by omega))⟩)
    (fun pre W => Boxed W w.heap.size 89 (.pointer (some ⟨R, 0, none⟩)) ∧ SmAt W R p 0 1 (tabU p pre.length) ∧ w.grownBy W (some R)) (fun _ _ _ => False)
    (fun s A B row hs hg hr => ⟨hs.1.kept hg (fun e => by have := hr _ e.symm; omega), BlkAt.kept hs.2.1 hg (fun e => by have := hr _ e.symm; omega), grown_seq hs.2.2 hg (fun k e _ => e) (fun k e hk => by have := hr _ e; omega)⟩)
    (fun _ _ _ _ _ hs _ _ => hs) ⟨hbox, hsm.weaken (fun i v hi => by rw [show tabU p ([] : List Nat).length = fun _ => 0 by funext i; exact tabU_zero p i] at hi; exact hi), hgr⟩
    (fun x => { tmps := #[.pointer (some ⟨R, 0, none⟩), .pointer (some ⟨w.heap.size, 0, none⟩), .slice (some ⟨W0.heap.size + 2, 0, none⟩) (x + 1) (L + 1), undef, .pointer (some ⟨R, 0, none⟩), .pointer (some ⟨R, 0, none⟩), .pointer (some ⟨R, 0, none⟩), .int .i64 p, .int .i64 L,
      .func (.func 98) #[] #[.pointer (some ⟨w.heap.size + 1, 0, none⟩)], .slice (some ⟨W0.heap.size + 2, 0, none⟩) (x + 1) (L + 1), undef, undef, undef, undef, undef, undef, undef, undef, undef, undef, undef, undef, undef, undef, undef, undef, undef, undef, undef, undef, undef, undef], defers := [] }) ?assign ?body ?done ?stop
  case assign =>
    intro l x W K hK
    gi_wp2
    exact hK
  case body =>
    rintro l pre x W hlt ⟨hb, hS, hB⟩ ⟨hpre, hx, hrow⟩
    have hc := hb.cell
    have hpl : pre.length = x := by subst hpre; simp
    rw [hpl] at hS
    have hc0 := SmAt.cell0 hS
    have hx16 : (x : Int) < 16 := by omega
    obtain ⟨W2, hcp, hS2, hg2⟩ := copy_blk W 3 R (4 + x * 16) 16 16 (W0.heap.size + 2) (x + 1) (L + 1) 260 _ _ (bin x) (by omega) (by omega) hS (fun i hi => hrow.cell (i := i) (by omega))
    have hb2 := hb.kept hg2 (by simp; omega)
    have hcb := hb2.cell
    have hcz : W2.cell? ⟨R, 0, none⟩ = some (.int .i64 p) := BlkAt.cell hS2 (by rw [if_neg (by omega)]; rfl)
    gi_wp2
    have hkl := keepLeft_blk R (4 + x * 16) 16 16 260 _ _ (bin x) p W2.drew (by omega) (by omega) (by omega) (by omega) (fun i => bin_small x i (by omega)) (hS2.of_block rfl) (fun i hi => by
      by_cases e : i < x + 1
      · rw [if_pos (by omega), show 4 + x * 16 + i - (4 + x * 16) = i by omega]
      · rw [if_neg (by omega), Nat.add_assoc, smV_at p 0 1 _ (by omega)]
        unfold tabU
        rw [if_neg (by omega), bin_over x i (by omega)])
    have hcb' : W2.drew.cell? ⟨w.heap.size, 0, none⟩ = some (.pointer (some ⟨R, 0, none⟩)) := hcb
    have hcz' : W2.drew.cell? ⟨R, 0, none⟩ = some (.int .i64 p) := hcz
    have hbl : ∀ k, k ≠ R → k < W.heap.size → W2.drew.heap[k]? = W.heap[k]? := fun k hk hlt => hg2.block k hlt (fun e => hk (by injection e))
    obtain ⟨Post, hPost⟩ : ∃ Post : World → Prop, Post = fun W3 => SmAt W3 R p 0 1 (tabU p (x + 1)) ∧ W.grownBy W3 (some R) := ⟨_, rfl⟩
    have hkl' : Calls Try.prog 102 #[.slice (some ⟨R, 4 + x * 16, none⟩) 16 16, .int .i64 p] W2.drew fun e w' => (∃ v, e = .returned v) ∧ Post w' := hkl.mono fun e w' ⟨h1, h2, h3⟩ => ⟨h1, by
      rw [hPost]
      refine ⟨h2.weaken (fun i v hi => tab_next (V := fun i => if 4 + x * 16 ≤ i ∧ i < 4 + x * 16 + (x + 1) then some (.int .i64 (bin x (i - (4 + x * 16)))) else smV p 0 1 (tabU p x) i) (fun i hi => ?_) hi), grown_seq hg2 (⟨h3.os, h3.tape, h3.output, h3.size, h3.block⟩ : W2.grownBy w' (some R)) (fun _ e _ => e) (fun _ e _ => e)⟩
      rw [if_neg (by omega)]⟩
    have hPost' := hide hPost
    clear hS2 hkl hcb hcz hc hc0 hcp hrow hPost
    refine wpIn_region_inv (by kernel_rfl) (by kernel_rfl) (fun M b V => ∃ s0 s1 s2 s3 s4 s5 s6 s7 s8 s9 s10 : Value, b = { tmps := #[.pointer (some ⟨R, 0, none⟩), .pointer (some ⟨w.heap.size, 0, none⟩), .slice (some ⟨W0.heap.size + 2, 0, none⟩) (x + 1) (L + 1), .int .i64 x, .pointer (some ⟨R, 0, none⟩), .pointer (some ⟨R, 0, none⟩), .pointer (some ⟨R, 0, none⟩), .int .i64 p, .int .i64 L,
        .func (.func 98) #[] #[.pointer (some ⟨w.heap.size + 1, 0, none⟩)], .slice (some ⟨W0.heap.size + 2, 0, none⟩) (x + 1) (L + 1), .slice (some ⟨W0.heap.size + 2, 0, none⟩) (x + 1) (L + 1), .int .i64 ((x : Int) + 1), .int .i64 x, .pointer (some ⟨R, 0, none⟩), .int .i64 x, .pointer (some ⟨R, 0, none⟩), .pointer (some ⟨R, 4, none⟩), .pointer (some ⟨R, 4 + x * 16, none⟩), .slice (some ⟨R, 4 + x * 16, none⟩) 16 16, .slice (some ⟨W0.heap.size + 2, 0, none⟩) (x + 1) (L + 1), .int .i64 ((x : Int) + 1), s0, s1, s2, s3, s4, s5, s6, s7, s8, s9, s10], defers := [] } ∧
        (M 0 = true → s0 = .pointer (some ⟨R, 0, none⟩)) ∧ (M 1 = true → s1 = .int .i64 x) ∧ (M 2 = true → s2 = .pointer (some ⟨R, 0, none⟩) ∧ M 0 = true) ∧ (M 3 = true → s3 = .pointer (some ⟨R, 4, none⟩) ∧ M 2 = true) ∧
        (M 4 = true → s4 = .pointer (some ⟨R, 4 + x * 16, none⟩) ∧ M 3 = true) ∧ (M 5 = true → s5 = .slice (some ⟨R, 4 + x * 16, none⟩) 16 16 ∧ M 4 = true) ∧ (M 6 = true → s6 = .pointer (some ⟨R, 0, none⟩)) ∧ (M 7 = true → s7 = .pointer (some ⟨R, 0, none⟩) ∧ M 6 = true) ∧
        (M 8 = true → s8 = .pointer (some ⟨R, 0, none⟩) ∧ M 7 = true) ∧ (M 9 = true → s9 = .int .i64 p ∧ M 8 = true) ∧
        ((M 10 = false ∧ V = W2.drew) ∨ (M 10 = true ∧ M 0 = true ∧ M 6 = true ∧ M 9 = true ∧ Post V))) ?h0 ?step ?fin
    case h0 => exact ⟨undef, undef, undef, undef, undef, undef, undef, undef, undef, undef, undef, rfl, by simp, by simp, by simp, by simp, by simp, by simp, by simp, by simp, by simp, by simp, .inl ⟨rfl, rfl⟩⟩
    case step =>
      rintro M b V i o ho hMi hde ⟨s0, s1, s2, s3, s4, s5, s6, s7, s8, s9, s10, rfl, f0, f1, f2, f3, f4, f5, f6, f7, f8, f9, fw⟩ Q' hQ'
      have hi : i < 11 := (Array.getElem?_eq_some_iff.1 ho).1
      have hQ := hide hQ'
      clear hQ'
      rcases (show i = 0 ∨ i = 1 ∨ i = 2 ∨ i = 3 ∨ i = 4 ∨ i = 5 ∨ i = 6 ∨ i = 7 ∨ i = 8 ∨ i = 9 ∨ i = 10 by omega) with rfl | rfl | rfl | rfl | rfl | rfl | rfl | rfl | rfl | rfl | rfl
      all_goals
        simp at ho
        subst ho
        simp [Region.binds] at hde
      case' inl => rcases fw with ⟨fw0, rfl⟩ | ⟨_, h1, h2, h3, _⟩
      case' inr.inr.inl => obtain rfl := f0 hde
      case' inr.inr.inr.inl => obtain ⟨rfl, h0⟩ := f2 hde
      case' inr.inr.inr.inr.inl => obtain ⟨rfl, h0⟩ := f3 hde.1; obtain rfl := f1 hde.2
      case' inr.inr.inr.inr.inr.inl => obtain ⟨rfl, h0⟩ := f4 hde
      case' inr.inr.inr.inr.inr.inr.inl => rcases fw with ⟨fw0, rfl⟩ | ⟨_, h1, h2, h3, _⟩
      case' inr.inr.inr.inr.inr.inr.inr.inl => obtain rfl := f6 hde
      case' inr.inr.inr.inr.inr.inr.inr.inr.inl => obtain ⟨rfl, h0⟩ := f7 hde
      case' inr.inr.inr.inr.inr.inr.inr.inr.inr.inl => obtain ⟨rfl, h0⟩ := f8 hde; rcases fw with ⟨fw0, rfl⟩ | ⟨_, h1, h2, h3, _⟩
      case' inr.inr.inr.inr.inr.inr.inr.inr.inr.inr => obtain ⟨rfl, h5⟩ := f5 hde.1; obtain ⟨rfl, h9⟩ := f9 hde.2; rcases fw with ⟨fw0, rfl⟩ | ⟨h1, _⟩
      all_goals
        first | (rw [h1] at hMi; cases hMi; done) | (rw [h2] at hMi; cases hMi; done) | (rw [h3] at hMi; cases hMi; done) | skip
      all_goals
        gi_wp2_with (refine ⟨trivial, ?_⟩; gi_at_call 102; refine (callsIn_wide.2 hkl').mono ?_; clear hkl'; rintro e W3 ⟨⟨v, rfl⟩, hP3⟩)
        refine hQ.out _ _ ⟨_, _, _, _, _, _, _, _, _, _, _, rfl, ?_, ?_, ?_, ?_, ?_, ?_, ?_, ?_, ?_, ?_, ?_⟩
        all_goals first
          | (intro hM; first
            | exact rfl
            | exact ⟨rfl, by simpa using hde⟩
            | exact ⟨rfl, by simpa using hde.1⟩
            | exact f0 (by simpa using hM)
            | exact f1 (by simpa using hM)
            | exact f6 (by simpa using hM)
            | (have g := f2 (by simpa using hM); exact ⟨by first | rfl | exact g.1, by first | (simp; done) | simpa using g.2⟩)
            | (have g := f3 (by simpa using hM); exact ⟨by first | rfl | exact g.1, by first | (simp; done) | simpa using g.2⟩)
            | (have g := f4 (by simpa using hM); exact ⟨by first | rfl | exact g.1, by first | (simp; done) | simpa using g.2⟩)
            | (have g := f5 (by simpa using hM); exact ⟨by first | rfl | exact g.1, by first | (simp; done) | simpa using g.2⟩)
            | (have g := f7 (by simpa using hM); exact ⟨by first | rfl | exact g.1, by first | (simp; done) | simpa using g.2⟩)
            | (have g := f8 (by simpa using hM); exact ⟨by first | rfl | exact g.1, by first | (simp; done) | simpa using g.2⟩)
            | (have g := f9 (by simpa using hM); exact ⟨by first | rfl | exact g.1, by first | (simp; done) | simpa using g.2⟩))
          | exact .inl ⟨by simpa using fw0, rfl⟩
          | exact .inr ⟨by simp, by simpa using (f2 (f3 (f4 h5).2).2).2, by simpa using (f7 (f8 h9).2).2, by simpa using hde.2, hP3⟩
          | exact fw.elim (fun ⟨u, v⟩ => .inl ⟨by simpa using u, v⟩) (fun ⟨u, v, x, y, z⟩ => .inr ⟨by simpa using u, by simpa using v, by simpa using x, by simpa using y, z⟩)
    case fin =>
      rintro M b V hall ⟨s0, s1, s2, s3, s4, s5, s6, s7, s8, s9, s10, rfl, _, _, _, _, _, _, _, _, _, _, fw⟩
      rcases fw with ⟨u, _⟩ | ⟨_, _, _, _, hP3⟩
      · rw [hall 10 (by simp)] at u; cases u
      · rw [hPost'.out] at hP3
        obtain ⟨hS3, hg3⟩ := hP3
        gi_wp2
        refine ⟨KeepsSet.of_grownBy hg3 (fun r e => by cases e; omega), hb.kept hg3 (by simp; omega), ?_, grown_seq hB hg3 (fun _ e _ => e) (fun _ e _ => e)⟩
        rw [show (pre ++ [x]).length = x + 1 by simp [hpl]]
        exact hS3
  case done =>
    rintro ys W ⟨rfl, hrow⟩ ⟨hb, hS, hB⟩ hK
    rw [List.length_range] at hS
    gi_wp2
    refine ⟨by simp, .inl ⟨_, _, rfl, run_takeDeferred hK, ?_⟩⟩
    refine ⟨_, results_none rfl _ _ _, ⟨_, rfl⟩, ?_, ?_⟩
    · rw [hL'.out]; rw [hL'.out] at hS; exact BlkAt.kept hS (grownBy_putObj' W _ _) (by simp; omega)
    · exact grown_seq hB (grownBy_putObj' W _ _) (fun _ e _ => e) (fun k e hk => by cases e; omega)
  case stop =>
    rintro c pre W _ h _
    exact h.elim
end Go.Proofs.Ytjghhmgnbcabdaa
