/-
  The model's ComesAgain: for every ring what it hands back.
-/
import Derived.Test.YtmnmbelmcdfcjaaSpec10b
import Derived.Test.YtmnmbelmcdfcjaaQuietBelow
import Derived.OwnWalk
namespace Go.Proofs.Ytmnmbelmcdfcjaa
open Go.RowKit Go.BigFrame

/-- After k rounds the first n numbers are as after r. -/
def Same (f : Nat → Nat) (n r k : Nat) : Prop := ∀ q, q < n → dR f k q = dR f r q
def againR (xs : List Int) : Option (Nat × Nat) := match againN xs with
  | some r => match backI (ringF xs) xs.length r with
    | some i => some (r, i + 1)
    | none => none
  | none => none
def againI (xs : List Int) : Int := match againR xs with | some (r, _) => r | none => -1
def againJ (xs : List Int) : Int := match againR xs with | some (_, b) => b | none => -1
def againB (xs : List Int) : Bool := (againR xs).isSome
theorem again_no {xs : List Int} (h : ringB xs = false) : againI xs = -1 ∧ againJ xs = -1 ∧ againB xs = false := by
  have : againR xs = none := by unfold againR againN; rw [h]; rfl
  unfold againI againJ againB; rw [this]; exact ⟨rfl, rfl, rfl⟩
theorem back_none {f : Nat → Nat} {n r : Nat} (h : ∀ k, k < r → ¬ Same f n r k) : backI f n r = none := by
  unfold backI
  rw [firstI_none]
  intro i hi
  cases e : sameB f n r (r - 1 - i) with
  | false => rfl
  | true => exact absurd (sameB_iff.1 e) (h _ (by omega))
theorem back_some {f : Nat → Nat} {n r i : Nat} (hi : i < r) (h1 : Same f n r (r - 1 - i)) (h2 : ∀ j, j < i → ¬ Same f n r (r - 1 - j)) : backI f n r = some i := by
  unfold backI
  rw [firstI_some]
  refine ⟨hi, sameB_iff.2 h1, fun j hj => ?_⟩
  cases e : sameB f n r (r - 1 - j) with
  | false => rfl
  | true => exact absurd (sameB_iff.1 e) (h2 j hj)
theorem again_at {xs : List Int} (h : ringB xs = true) {r i : Nat} (hr : r ≤ 2000) (hi : i < r) (h1 : Same (ringF xs) xs.length r (r - 1 - i)) (h2 : ∀ j, j < i → ¬ Same (ringF xs) xs.length r (r - 1 - j)) (h3 : ∀ s, s < r → ∀ k, k < s → ¬ Same (ringF xs) xs.length s k) :
    againI xs = r ∧ againJ xs = ((i + 1 : Nat) : Int) ∧ againB xs = true := by
  have hb := back_some hi h1 h2
  have ha : againN xs = some r := by
    unfold againN
    rw [if_pos h, firstI_some]
    exact ⟨by omega, by rw [hb]; rfl, fun j hj => by rw [back_none (h3 j hj)]; rfl⟩
  have : againR xs = some (r, i + 1) := by unfold againR; rw [ha]; simp only; rw [hb]
  unfold againI againJ againB; rw [this]; exact ⟨rfl, rfl, rfl⟩
theorem again_none {xs : List Int} (h : ringB xs = true) (h3 : ∀ s, s ≤ 2000 → ∀ k, k < s → ¬ Same (ringF xs) xs.length s k) : againI xs = -1 ∧ againJ xs = -1 ∧ againB xs = false := by
  have ha : againN xs = none := by
    unfold againN
    rw [if_pos h, firstI_none]
    intro j hj
    rw [back_none (h3 j (by omega))]; rfl
  have : againR xs = none := by unfold againR; rw [ha]
  unfold againI againJ againB; rw [this]; exact ⟨rfl, rfl, rfl⟩

set_option maxRecDepth 100000 in
set_option maxHeartbeats 8000000 in
theorem specAgain (v : Value) (xs : List Int) (w : World) (hv : Ints w v xs) (hlies : Lies v) (hl : xs.length ≤ 10000000) : Calls Try.prog 34 #[v] w fun e w' =>
    e = .returned (.tuple #[.int .i64 (againI xs), .int .i64 (againJ xs), .bool (againB xs)]) ∧ Below w.heap.size w w' := by
  have hA : Below w.heap.size w (w.alloc (.cells #[] 23)) := (Below.refl _ w).alloc (Nat.le_refl _) _
  have hAB : Below w.heap.size w ((w.alloc (.cells #[] 23)).alloc (.cells #[] 3)) := hA.alloc (by simp) _
  have hmade : ((w.alloc (.cells #[] 23)).alloc (.cells #[] 3)).ownsRow w.heap.size 3 1 (.slice (some ⟨w.heap.size + 1, 0, none⟩) 0 0) 0 [] := by
    have := World.ownsRow_made (base := w.heap.size) (e := 3) (size := 1) (w.alloc (.cells #[] 23)) #[] 0 (by simp) (by decide) rfl
    rw [World.size_alloc] at this
    exact this
  have hout : ((w.alloc (.cells #[] 23)).alloc (.cells #[] 3)).ownsRow w.heap.size 23 1 (.slice (some ⟨w.heap.size, 0, none⟩) 0 0) 0 [] :=
    (World.ownsRow_made (base := w.heap.size) (e := 23) (size := 1) w #[] 0 (Nat.le_refl _) (by decide) rfl).alloc _
  have hvAB := hv.below hAB
  obtain ⟨a0, c0, rfl⟩ := hv.shape
  obtain ⟨I, hI⟩ : ∃ I, againI xs = I := ⟨_, rfl⟩
  obtain ⟨J, hJ⟩ : ∃ J, againJ xs = J := ⟨_, rfl⟩
  obtain ⟨B, hBB⟩ : ∃ B, againB xs = B := ⟨_, rfl⟩
  rw [hI, hJ, hBB]
  go_enter Try.func34, Try.ntmps34
  go_wp2_with (at_builtin; refine append_ints rfl _ _ rfl w.heap.size _ 0 [] rfl hmade _ xs rfl hvAB hlies (by omega) (by simp; omega) ?_; intro nw w2 hnw hgr2)
  rw [Nat.zero_add, List.nil_append] at hnw
  replace hgr2 : ((w.alloc (.cells #[] 23)).alloc (.cells #[] 3)).grownBy w2 (some (w.heap.size + 1)) := hgr2
  have hout2 : w2.ownsRow w.heap.size 23 1 (.slice (some ⟨w.heap.size, 0, none⟩) 0 0) 0 [] := hout.kept hgr2 (.inr (by simp [Value.ownBlock]))
  have hB2 : Below w.heap.size w w2 := hAB.grown hgr2 hAB.size (fun k e => by injection e; omega)
  clear hmade hout hA hAB hvAB hgr2
  cases hside : ringB xs with
  | false =>
    obtain ⟨rfl, rfl, rfl⟩ : I = -1 ∧ J = -1 ∧ B = false := by have := again_no hside; rw [hI, hJ, hBB] at this; exact this
    have hS := specRing nw xs w2 (Ints.of_owns hnw) (by omega)
    rw [hside] at hS
    obtain ⟨a1, c1, rfl⟩ := own_form hnw
    clear hnw hv hlies hside hout2
    refine wp_loop_rounds 1 ?_
    rw [rounds_succ]
    go_wp2_with (go_at_call 17; refine hS.mono ?_; clear hS; rintro e w' ⟨rfl, rfl⟩)
    go_ret3
    exact ⟨rfl, hB2⟩
  | true =>
    have hlen := ringB_len hside
    have hf := ringF_le hside
    have hp := ringF_per (xs := xs)
    have hz := rgL_self hside
    have hat := fun {r i : Nat} h1 h2 h3 h4 h5 => again_at hside (r := r) (i := i) h1 h2 h3 h4 h5
    have hnone := fun h3 => again_none hside h3
    simp only [hI, hJ, hBB] at hat hnone
    rw [← hz] at hnw
    rw [rgL_len] at hnw
    clear hz hside hv hlies hl hI hJ hBB
    generalize ringF xs = f at *
    generalize xs.length = n at *
    go_loopw [5, 6, 7] (fun o nw i wr => ∃ (r : Nat) (us : List Value), r ≤ 2001 ∧ i = .int .i64 r ∧ us.length = r ∧ wr.ownsRow w.heap.size 23 1 o r us ∧ (∀ j, j < r → wr.ownsRow w.heap.size 3 1 (us.getD j undef) n ((rgL (dR f j) n).map (Value.int .i64))) ∧ wr.ownsRow w.heap.size 3 1 nw n ((rgL (dR f r) n).map (Value.int .i64)) ∧ Below w.heap.size w wr ∧ Hid (∀ s, s < r → ∀ k, k < s → ¬ Same f n s k)) (fun _ _ i _ => 2001 - (intOf i).toNat)
    case atStart => exact ⟨0, [], by omega, rfl, rfl, hout2, fun j hj => by omega, hnw, hB2, hide (fun s hs => by omega)⟩
    case round =>
      clear hout2 hB2 hnw
      obtain ⟨r, us, hr, rfl, hus, hout, hrows, hnow, hB, hfirst⟩ := hrel
      obtain ⟨g, cg, rfl, _, hg, _, hcg⟩ := owns_open hnow (by omega)
      by_cases hlt : r < 2001
      · have hri : (r : Int) ≤ 2000 := by omega
        have hin := Ints.of_owns hnow
        have hS := specRing _ _ wr hin (by rw [rgL_len]; omega)
        rw [rgL_ring (hundred hf r) n hlen.1 hlen.2] at hS
        have hcn : ∀ q, q < n → wr.cell? ⟨g, q, none⟩ = some (.int .i64 (dR f r q : Nat)) := fun q hq => hcg q _ (by unfold rgL; rw [List.getElem?_map, List.getElem?_map, List.getElem?_range hq]; rfl)
        obtain ⟨ao, co, eo⟩ := own_form hout
        have hread : ∀ k, k < r → ∃ G b cb, ao = some ⟨G, 0, none⟩ ∧ G < wr.heap.size ∧ b < wr.heap.size ∧ wr.cell? ⟨G, k, none⟩ = some (.slice (some ⟨b, 0, none⟩) n cb) ∧ ∀ q, q < n → wr.cell? ⟨b, q, none⟩ = some (.int .i64 (dR f k q : Nat)) := fun k hk => by
          rcases hout.2 with ⟨_, h0⟩ | ⟨G, cap, cur, e1, _, hG, _⟩
          · omega
          · rw [eo] at e1
            injection e1 with e1 _ _
            obtain ⟨b, cb, hu, _, hb2, _, hcc⟩ := owns_open (hrows k hk) (by omega)
            refine ⟨G, b, cb, e1, (Array.getElem?_eq_some_iff.1 hG).1, hb2, ?_, fun q hq => hcc q _ (by unfold rgL; rw [List.getElem?_map, List.getElem?_map, List.getElem?_range hq]; rfl)⟩
            rw [eo, e1] at hout
            have h8 := hout.cellAt k (by omega)
            rw [h8, ← hu, List.getD, List.getElem?_eq_getElem (by omega)]; rfl
        subst eo
        obtain ⟨wo, hwo⟩ : ∃ wo : World, wo = wr := ⟨_, rfl⟩
        have hin' := hin
        go_wp2_with (go_at_call 17; refine hS.mono ?_; clear hS; rintro e w' ⟨rfl, rfl⟩)
        rw [← hwo] at hout hrows hnow hB hg hin hcn hread
        go_loopw [8, 9, 10] (fun i _ _ wi => ∃ t : Nat, t ≤ r ∧ i = .int .i64 ((r : Int) - 1 - (t : Nat)) ∧ Below wo.heap.size wo wi ∧ Hid (∀ s, s < t → ¬ Same f n r (r - 1 - s))) (fun i _ _ _ => (intOf i + 1).toNat)
        case atStart => exact ⟨0, by omega, by go_num, hwo ▸ Below.refl _ _, hide (fun s hs => by omega)⟩
        case round =>
          clear hwo
          obtain ⟨t, ht, rfl, hC, hdiff⟩ := hrel
          by_cases htl : t < r
          · obtain ⟨k, hk⟩ : ∃ k, r - 1 - t = k := ⟨_, rfl⟩
            have hkr : k < r := by omega
            obtain ⟨G, b, cb, rfl, hG, hb, hcG, hcb⟩ := hread k hkr
            have hki : (r : Int) - 1 - (t : Int) = (k : Int) := by omega
            have hk0 : (0 : Int) ≤ (k : Int) := by omega
            have hkr2 : (k : Int) < (r : Int) := by omega
            have hkw : IntKind.i64.wrap ((k : Int) - 1) = (k : Int) - 1 := IntWalk.i64_in _ (by omega)
            rw [hki]
            go_wp2
            go_loopw [9, 10] (fun s i wi => ∃ (j : Nat) (bb : Bool), j ≤ n ∧ i = .int .i64 j ∧ s = .bool bb ∧ Below wo.heap.size wo wi ∧ Hid (bb = true ↔ ∀ q, q < j → dR f k q = dR f r q)) (fun _ i _ => n - (intOf i).toNat)
            case atStart => exact ⟨0, true, by omega, rfl, rfl, hC, hide ⟨fun _ q hq => by omega, fun _ => rfl⟩⟩
            case round =>
              clear hC
              obtain ⟨j, bb, hj, rfl, rfl, hC, hbb⟩ := hrel
              by_cases hjl : j < n
              · have q1 : ∀ m : After wo, m.now.cell? ⟨G, k, none⟩ = some (.slice (some ⟨b, 0, none⟩) n cb) := fun m => (m.ok.cell (p := ⟨G, k, none⟩) hG).trans hcG
                have q2 : ∀ m : After wo, m.now.cell? ⟨b, j, none⟩ = some (.int .i64 (dR f k j : Nat)) := fun m => (m.ok.cell (p := ⟨b, j, none⟩) hb).trans (hcb j hjl)
                have q3 : ∀ m : After wo, m.now.cell? ⟨g, j, none⟩ = some (.int .i64 (dR f r j : Nat)) := fun m => (m.ok.cell (p := ⟨g, j, none⟩) hg).trans (hcn j hjl)
                have hji : (j : Int) < (n : Int) := by omega
                have hb2 : ∀ B2 : Bool, (B2 = (bb && (dR f k j == dR f r j))) → Hid (B2 = true ↔ ∀ q, q < j + 1 → dR f k q = dR f r q) := fun B2 e => hide (by
                  subst e
                  rw [Bool.and_eq_true, beq_iff_eq, hbb.out]
                  constructor
                  · rintro ⟨h1, h2⟩ q hq
                    by_cases e : q = j
                    · subst e; exact h2
                    · exact h1 q (by omega)
                  · intro h; exact ⟨fun q hq => h q (by omega), h j (by omega)⟩)
                have hcast : (((dR f k j : Nat) : Int) == ((dR f r j : Nat) : Int)) = (dR f k j == dR f r j) := by rw [Bool.eq_iff_iff, beq_iff_eq, beq_iff_eq]; exact Int.ofNat_inj
                clear hcn hread hat hnone hf hp hrows hout hnow hin hcG hcb hbb hfirst hdiff
                generalize dR f k j = x at *
                generalize dR f r j = y at *
                obtain ⟨eqb, heq⟩ : ∃ eqb, (x == y) = eqb := ⟨_, rfl⟩
                rw [heq] at hcast hb2
                cases bb
                all_goals
                  go_wp2
                  refine wp_region_below wo (by kernel_rfl) (by kernel_rfl) hC ?_
                  repeat (go_big_quiet_step (fail))
                  refine wpQuiet_nil ?_
                  rintro _ ⟨nq, rfl⟩
                  clear q1 q2 q3
                  go_wp2
                  go_roundw
                  case rel => exact ⟨j + 1, _, by omega, by go_num, rfl, nq.ok, hb2 _ (by first | rfl | simp)⟩
                  case measure => simp [intOf]; omega
              · obtain rfl : j = n := by omega
                have hjn : ¬ (j : Int) < (j : Int) := by omega
                cases bb with
                | true =>
                  have hs : Same f j r (r - 1 - t) := by rw [hk]; exact hbb.out.1 rfl
                  obtain ⟨e1, e2, e3⟩ := hat (r := r) (i := t) (by omega) htl hs hdiff.out hfirst.out
                  have e4 : (r : Int) - (k : Int) = ((t + 1 : Nat) : Int) := by omega
                  rw [← e4] at e2
                  subst e1 e2 e3
                  have hrw : IntKind.i64.wrap ((r : Int) - (k : Int)) = (r : Int) - (k : Int) := IntWalk.i64_in _ (by omega)
                  clear hcn hread hat hnone hf hp hrows hout hnow hin hcG hcb hbb
                  go_wp2
                  go_ret3
                  exact ⟨rfl, hB.trans (hC.mono hB.size)⟩
                | false =>
                  have hdiff' : Hid (∀ s, s < t + 1 → ¬ Same f j r (r - 1 - s)) := hide (fun s hs => by
                    by_cases e : s = t
                    · subst e
                      rw [hk]
                      intro h
                      have := hbb.out.2 h
                      cases this
                    · exact hdiff.out s (by omega))
                  clear hcn hread hat hnone hf hp hrows hout hnow hin hcG hcb hbb hdiff
                  go_wp2
                  go_roundw
                  case rel => exact ⟨t + 1, by omega, by first | (go_num; done) | (rw [show (k : Int) - 1 = (r : Int) - 1 - ((t + 1 : Nat) : Int) by omega]), hC, hdiff'⟩
                  case measure => simp [intOf] <;> omega
          · obtain rfl : t = r := by omega
            have hki : ¬ (0 : Int) ≤ (t : Int) - 1 - (t : Int) := by omega
            have hout' := own_below hout hC
            have hrows' := fun j hj => own_below (hrows j hj) hC
            have hnow' := own_below hnow hC
            have hB' := hB.trans (hC.mono hB.size)
            have hfirst' : Hid (∀ s, s < t + 1 → ∀ k, k < s → ¬ Same f n s k) := hide (fun s hs k hk => by
              by_cases e : s = t
              · subst e
                have := hdiff.out (s - 1 - k) (by omega)
                rwa [show s - 1 - (s - 1 - k) = k by omega] at this
              · exact hfirst.out s (by omega) k hk)
            clear hcn hread hat hnone hrows hout hnow hin hB hC hdiff hfirst hcg
            go_wp2_with (at_builtin; refine append_slice rfl _ _ rfl rfl w.heap.size _ t us rfl hout' rfl (by omega) (by have := hB'.size; omega) ?_; intro o2 w3 hout3 hgr3)
            have hgr4 : wr.grownBy w3 (Value.slice ao t co).ownBlock := (World.grownBy_alloc wr _ _).trans hgr3
            have hB3 : Below w.heap.size w w3 := (hB'.alloc hB'.size _).grown hgr3 (by have := hB'.size; simp; omega) (fun k hk => (hout'.lt k hk).1)
            have hnow3 := hnow'.kept hgr4 (own_apart hnow' hout')
            have hrows3 : ∀ j, j < t + 1 → w3.ownsRow w.heap.size 3 1 ((us ++ [Value.slice (some ⟨g, 0, none⟩) n cg]).getD j undef) n ((rgL (dR f j) n).map (Value.int .i64)) := fun j hj => by
              by_cases e : j = t
              · subst e
                rw [List.getD, List.getElem?_append_right (by omega), hus, Nat.sub_self]
                exact hnow3
              · have h1 := (hrows' j (by omega)).kept hgr4 (own_apart (hrows' j (by omega)) hout')
                rw [List.getD, List.getElem?_append_left (by omega)]
                exact h1
            have hU := specRound _ _ w3 (Ints.of_owns hnow3) (by rw [rgL_len]; omega)
            rw [roundV_rgL (hundred hf t) hlen.1 hlen.2 (per_dR hp t), dR_next, rgL_len] at hU
            clear hrows' hgr3 hgr4 hout' hnow' hB' hf hp hnow3
            go_wp2_with (go_at_call 22; refine hU.mono ?_; clear hU; rintro e w4 ⟨u, rfl, hu, hB4⟩)
            go_roundw
            case rel => exact ⟨t + 1, us ++ [Value.slice (some ⟨g, 0, none⟩) n cg], by omega, by go_num, by simp [hus], own_below hout3 hB4, fun j hj => own_below (hrows3 j hj) hB4, owns_from hu hB3.size, hB3.trans (hB4.mono hB3.size), hfirst'⟩
            case measure => simp [intOf]; omega
      · obtain rfl : r = 2001 := by omega
        obtain ⟨e1, e2, e3⟩ := hnone fun s hs => hfirst.out s (by omega)
        subst e1 e2 e3
        clear hat hnone hf hp hrows hout hnow hcg
        go_wp2
        go_ret3
        exact ⟨rfl, hB⟩
end Go.Proofs.Ytmnmbelmcdfcjaa
