/-
  The model's l12Made: what a deed makes of a row.
-/
import Derived.Test.YtimnhedjapakhaaSpec12j
import Derived.Test.YtimnhedjapakhaaSpecZ
import Derived.Test.YtimnhedjapakhaaSpec10
namespace Go.Proofs.Ytimnhedjapakhaa
open Go.RowKit Go.Shelf
attribute [local go_sem] Oper.semAt_some

theorem made_flip {row : List Int} {k n : Int} (h : k = 0 ∧ 0 ≤ n ∧ n ≤ (row.length : Int) - 1) : madeV row k n = flipV row n.toNat := by unfold madeV; rw [if_pos h]
theorem made_put {row : List Int} {k n : Int} (h : k = 1 ∧ 0 ≤ n ∧ n ≤ 1 ∧ (row.length : Int) < 12) : madeV row k n = row ++ [n] := by unfold madeV; rw [if_neg (by omega), if_pos h]
theorem made_none {row : List Int} {k n : Int} (h0 : ¬ (k = 0 ∧ 0 ≤ n ∧ n ≤ (row.length : Int) - 1)) (h1 : ¬ (k = 1 ∧ 0 ≤ n ∧ n ≤ 1 ∧ (row.length : Int) < 12)) (h2 : ¬ (k = 2 ∧ n = 0)) (h3 : ¬ (k = 3 ∧ n = 0)) (h4 : ¬ (k = 4 ∧ n = 0)) : madeV row k n = [] := by
  unfold madeV; rw [if_neg h0, if_neg h1, if_neg h2, if_neg h3, if_neg h4]

theorem flip_ints {W : World} {g m cb : Nat} {row : List Int} (h : RowAt W g row.length (fun i => if i = m then 1 - row.getD m 0 else row.getD i 0)) : Ints W.drew (.slice (some ⟨g, 0, none⟩) row.length cb) (flipV row (Int.toNat (m : Int))) := by
  rw [Int.toNat_natCast]
  have hl : (flipV row m).length = row.length := by unfold flipV; rw [List.length_set]
  refine .inr ⟨g, cb, by rw [hl], h.lt, fun i hi => ?_⟩
  rw [hl] at hi
  refine (h.cell hi).trans ?_
  congr 2
  unfold flipV
  rw [show (row.set m (1 - row.getD m 0)).getD i 0 = ((row.set m (1 - row.getD m 0))[i]?).getD 0 from rfl, List.getElem?_set]
  by_cases e : m = i
  · subst e; rw [if_pos rfl, if_pos rfl, if_pos hi]; rfl
  · rw [if_neg (fun e2 => e e2.symm), if_neg e]; rfl

def mdP (base n : Nat) (xs : List Value) (ks : List Kd) (c : Bool) (k : Nat) (v : Value) (V : World) : Prop := match c with | true => (k = 6 → V.ownsRow base 3 1 v n xs) | false => (kdAt ks k).holds v V
theorem mdP.mono {base n : Nat} {xs : List Value} {ks : List Kd} (c : Bool) (k : Nat) (v : Value) (V V' : World) (h : mdP base n xs ks c k v V) (hB : Below V.heap.size V V') : mdP base n xs ks c k v V' := by
  cases c with
  | false => exact Kd.mono _ h hB
  | true => exact fun e => own_below (h e) hB

set_option maxRecDepth 100000 in
set_option maxHeartbeats 2000000 in
theorem specMade (u : Value) (row : List Int) (k n : Int) (w : World) (hu : Ints w u row) (hs : sideB row = true) (hk : Fits k) (hn : Fits n) : Calls Try.prog 42 #[u, dV k n] w fun e w' =>
    ∃ r, e = .returned r ∧ Ints w' r (madeV row k n) ∧ Below w.heap.size w w' ∧ ∀ g, r.ownBlock = some g → w.heap.size ≤ g := by
  have hlen := sideB_len hs
  have hBa : Below w.heap.size w (w.alloc (.cells #[.int .i64 k, .int .i64 n] 32)) := (Below.refl _ w).alloc (Nat.le_refl _) _
  have hB0 : Below w.heap.size w ((w.alloc (.cells #[.int .i64 k, .int .i64 n] 32)).alloc (.cells #[] 3)) := hBa.alloc hBa.size _
  have hb0 : ((w.alloc (.cells #[.int .i64 k, .int .i64 n] 32)).alloc (.cells #[] 3)).heap[w.heap.size]? = some (.cells #[.int .i64 k, .int .i64 n] 32 (0, 0)) := (Below.heap_alloc _ _ _ (by simp)).trans (World.alloc_heap_new w _)
  have hmade : ((w.alloc (.cells #[.int .i64 k, .int .i64 n] 32)).alloc (.cells #[] 3)).ownsRow (w.heap.size + 1) 3 1 (.slice (some ⟨w.heap.size + 1, 0, none⟩) 0 0) 0 [] := by
    have h := World.ownsRow_made (base := w.heap.size + 1) (e := 3) (size := 1) (w.alloc (.cells #[.int .i64 k, .int .i64 n] 32)) #[] 0 (by simp) (by decide) rfl
    simpa using h
  have hsz := Nat.le_of_eq (show ((w.alloc (.cells #[.int .i64 k, .int .i64 n] 32)).alloc (.cells #[] 3)).heap.size = w.heap.size + 2 by simp)
  have hsz2 := Nat.le_of_eq (show w.heap.size + 2 = ((w.alloc (.cells #[.int .i64 k, .int .i64 n] 32)).alloc (.cells #[] 3)).heap.size by simp)
  have q2 := equal_deed hk hn (k' := 2) (n' := 0) (by constructor <;> omega) (by constructor <;> omega) ((w.alloc (.cells #[.int .i64 k, .int .i64 n] 32)).alloc (.cells #[] 3))
  have q3 := equal_deed hk hn (k' := 3) (n' := 0) (by constructor <;> omega) (by constructor <;> omega) ((w.alloc (.cells #[.int .i64 k, .int .i64 n] 32)).alloc (.cells #[] 3))
  have q4 := equal_deed hk hn (k' := 4) (n' := 0) (by constructor <;> omega) (by constructor <;> omega) ((w.alloc (.cells #[.int .i64 k, .int .i64 n] 32)).alloc (.cells #[] 3))
  have hu0 := hu.below hB0
  obtain ⟨W1, hW1⟩ : ∃ W1, (w.alloc (.cells #[.int .i64 k, .int .i64 n] 32)).alloc (.cells #[] 3) = W1 := ⟨_, rfl⟩
  rw [hW1] at hB0 hb0 hmade q2 q3 q4 hu0 hsz hsz2
  obtain ⟨d0, d1, _, _⟩ := row_at hb0
  obtain ⟨g, c, rfl, hg, hc⟩ := hu0.cells hlen.1
  have hlies : Lies (.slice (some ⟨g, 0, none⟩) row.length c) := .inr ⟨_, _, _, rfl⟩
  unfold dV
  by_cases h0 : k = 0 ∧ 0 ≤ n ∧ n ≤ (row.length : Int) - 1
  · rw [made_flip h0]
    obtain ⟨rfl, h1, h2⟩ := h0
    obtain ⟨m, rfl⟩ : ∃ m : Nat, n = m := ⟨n.toNat, by omega⟩
    have hm : m < row.length := by omega
    clear q2 q3 q4 hBa hlies hu
    go_enter Try.func42, Try.ntmps42
    go_wp2_with (first
      | (go_at_call 65; refine (l1In_t _ _ _ _ (by omega) (by omega)).mono ?_; rintro e w' ⟨rfl, rfl⟩)
      | (at_builtin; go_loud (refine append_row rfl _ _ rfl (w.heap.size + 1) _ 0 [] rfl hmade g row.length c row rfl rfl hc (by omega) (by omega) ?_; intro y w2 hy hg2; replace hg2 : W1.grownBy w2 (some (w.heap.size + 1)) := hg2; rw [Nat.zero_add, List.nil_append] at hy; obtain ⟨gb, cb, rfl, hgb, hra⟩ := RowAt.of_owns hy (by omega); have hd1 := (hg2.cell d1 (by simp)); have hcz := hra.cell hm; have hfz := hra.frozen m)))
    have hmi : (m : Int) < (row.length : Int) := by omega
    have hzb := sideB_at hs hm
    obtain ⟨z, hz⟩ : ∃ z, row.getD m 0 = z := ⟨_, rfl⟩
    rw [hz] at hcz hzb
    go_region
    go_wp2
    go_ret
    refine ⟨_, rfl, ?_, ?_, fun q e => by simp [Value.ownBlock] at e; omega⟩
    · rw [← hz]
      exact flip_ints (hra.set (1 - row.getD m 0))
    · exact ((hB0.grown hg2 hB0.size (fun k e => by injection e with e; omega)).setCell (p := ⟨gb, m, none⟩) (by show w.heap.size ≤ gb; omega) _).drew
  by_cases h1 : k = 1 ∧ 0 ≤ n ∧ n ≤ 1 ∧ (row.length : Int) < 12
  · rw [made_put h1]
    obtain ⟨rfl, hn0, hn1, hl12⟩ := h1
    clear q2 q3 q4 hBa hlies hu h0
    refine (callsIn_wide (n := 9)).1 ?_
    refine callsIn_of_wp Try.func42 rfl trivial ?_ rfl
    simp only [Try.ntmps42, List.size_toArray, List.length_cons, List.length_nil, Nat.reduceAdd, Nat.reduceSub, Array.replicate_succ, Array.replicate_zero, List.push_toArray, List.append_toArray, List.nil_append, List.cons_append]
    gi_wp2_with (first
      | (refine ⟨trivial, ?_⟩; gi_at_call 65; refine (callsIn_wide.2 (l1In_t _ _ _ _ (by assumption) (by assumption))).mono ?_; rintro e w' ⟨rfl, rfl⟩)
      | (refine ⟨trivial, ?_⟩))
    have hn' : row.length ≤ 12 := hlen.2
    refine wpIn_region_two 6 7 (by kernel_rfl) (by kernel_rfl) (by kernel_rfl) (by decide) (by decide)
      (fun s => { tmps := #[.slice (some ⟨g, 0, none⟩) row.length c, .agg #[.int .i64 1, .int .i64 n], undef, .pointer (some ⟨w.heap.size, 0, none⟩), .slice none 0 0, .slice (some ⟨w.heap.size + 1, 0, none⟩) 0 0, .slice (some ⟨w.heap.size + 1, 0, none⟩) 0 0, .bool false, .pointer (some ⟨w.heap.size, 0, none⟩), .int .i64 1, .bool false, .bool false, undef, undef, undef, undef, undef, undef, .bool false, undef, undef, undef, undef, undef, undef, undef, undef, undef, undef, undef, undef, undef, .bool true, .pointer (some ⟨w.heap.size, 0, none⟩), .int .i64 1, .bool true, .bool true, .pointer (some ⟨w.heap.size, 1, none⟩), .int .i64 n, .bool true, .bool true, .bool true, .slice (some ⟨g, 0, none⟩) row.length c, .int .i64 row.length, .bool true, .bool true, s 0, s 1, s 2, s 3, s 4, s 5, s 6, undef, undef, undef, undef, undef, undef, undef, undef, undef, undef, undef, undef, undef, undef, undef, undef, undef, undef, undef], defers := [] })
      (fun _ V => Below W1.heap.size W1 V) (fun V V' => Below V.heap.size V V')
      (mdP W1.heap.size (row.length + 1) (row.map (Value.int .i64) ++ [.int .i64 n]) [.val (.slice (some ⟨w.heap.size + 1, 0, none⟩) 0 0), .val (.slice (some ⟨g, 0, none⟩) row.length c), .own W1.heap.size row.length (row.map (Value.int .i64)), .val (.pointer (some ⟨w.heap.size, 1, none⟩)), .val (.int .i64 n), .one (.int .i64 n), .val undef])
      ⟨fun _ => undef, rfl⟩ ?put (Below.refl _ _).drew mdP.mono ?step ?mid ?tail
    case put =>
      intro i o s v hi ho
      rcases (show i = 0 ∨ i = 1 ∨ i = 2 ∨ i = 3 ∨ i = 4 ∨ i = 5 ∨ i = 6 by omega) with rfl | rfl | rfl | rfl | rfl | rfl | rfl
      all_goals
        simp at ho
        subst ho
        simp [Act.put]
    case step =>
      rintro ph i op s V hi hip hneed ho hV hd Q' hQ
      rcases (show i = 0 ∨ i = 1 ∨ i = 2 ∨ i = 3 ∨ i = 4 ∨ i = 5 by omega) with rfl | rfl | rfl | rfl | rfl | rfl
      all_goals
        cases ph with
        | true => cases ((hneed rfl).symm.trans (by kernel_rfl) : false = true)
        | false => _
      all_goals
        simp at ho
        subst ho
        simp [Act.put] at hQ
        have hQ' := hide hQ
        clear hQ
        have hV1 : Below W1.heap.size W1 V := hV
      · clear hd hV
        gi_wp2
        exact hQ'.out _ _ hV1 (Below.refl _ _) rfl
      · clear hd hV
        gi_wp2
        exact hQ'.out _ _ hV1 (Below.refl _ _) rfl
      · have e1 : s 0 = .slice (some ⟨w.heap.size + 1, 0, none⟩) 0 0 := hd 0 (by kernel_rfl)
        have e2 : s 1 = .slice (some ⟨g, 0, none⟩) row.length c := hd 1 (by kernel_rfl)
        have hcV : ∀ i, i < row.length → V.cell? ⟨g, i, none⟩ = some (.int .i64 (row.getD i 0)) := fun i hi => (hV1.cell (p := ⟨g, i, none⟩) hg).trans (hc i hi)
        clear hd hV
        refine append_copy_in rfl _ _ rfl W1.heap.size ⟨w.heap.size + 1, 0, none⟩ e1 g row.length c row e2 rfl hcV hlen.1 (by omega) hV1.size ?_
        intro v' w' how hBw
        gi_wp2
        have hr := hQ'.out
        rw [e1, e2] at hr
        exact hr _ _ (hV1.trans (hBw.mono hV1.size)) hBw how
      · clear hd hV
        gi_wp2
        exact hQ'.out _ _ hV1 (Below.refl _ _) rfl
      · have e1 : s 3 = .pointer (some ⟨w.heap.size, 1, none⟩) := hd 3 (by kernel_rfl)
        have hcc := (hV1.cell (p := ⟨w.heap.size, 1, none⟩) (by show w.heap.size < _; omega)).trans d1
        clear hd hV
        gi_wp2
        have hr := hQ'.out
        rw [e1] at hr
        exact hr _ _ hV1 (Below.refl _ _) rfl
      · have e1 : s 4 = .int .i64 n := hd 4 (by kernel_rfl)
        clear hd hV
        gi_wp2
        have hr := hQ'.out
        rw [e1] at hr
        exact hr _ _ (hV1.alloc hV1.size _) ((Below.refl _ V).alloc (Nat.le_refl _) _) ⟨V.heap.size, rfl, by simp, (Boxed.new V 3 (.int .i64 n)).cell⟩
    case mid =>
      rintro op s V ho hV hd Q' hQ
      have hV1 : Below W1.heap.size W1 V := hV
      simp at ho
      subst ho
      simp [Act.put] at hQ
      have hQ' := hide hQ
      clear hQ
      have e1 : V.ownsRow W1.heap.size 3 1 (s 2) row.length (row.map (Value.int .i64)) := hd 2 (by kernel_rfl)
      obtain ⟨q, e9, hq, hcq⟩ : ∃ q, s 5 = .slice (some ⟨q, 0, none⟩) 1 1 ∧ q < V.heap.size ∧ V.cell? ⟨q, 0, none⟩ = some (.int .i64 n) := hd 5 (by kernel_rfl)
      clear hd hV
      have hVs := hV1.size
      have hcn : ∀ i, i < 1 → V.cell? ⟨q, i, none⟩ = some (.int .i64 ([n].getD i 0)) := fun i hi => by
        obtain rfl : i = 0 := by omega
        exact hcq
      refine append_row_in rfl _ _ rfl W1.heap.size (s 2) row.length _ rfl e1 q 1 1 [n] e9 rfl hcn (by omega) hVs ?_
      intro v' w' how hgr
      gi_wp2
      have hr := hQ'.out
      rw [e9] at hr
      refine hr _ _ (hV1.grown hgr hVs (fun k e => (e1.lt k e).1)) (fun k x hk h => fun e => absurd e hk) (fun _ => how)
    case tail =>
      rintro s V hV hd
      have hV1 : Below W1.heap.size W1 V := hV
      have e6 : V.ownsRow W1.heap.size 3 1 (s 6) (row.length + 1) (row.map (Value.int .i64) ++ [.int .i64 n]) := hd 6 (by omega) rfl
      clear hd hV
      simp only [List.drop_succ_cons, List.drop_zero]
      gi_wp2
      have e7 : V.ownsRow W1.heap.size 3 1 (s 6) (row ++ [n]).length ((row ++ [n]).map (Value.int .i64)) := by simpa using e6
      refine bodyPost_ret (results_tmp rfl _ _ _) rfl ⟨s 6, rfl, Ints.of_owns e7, hB0.trans (hV1.mono hB0.size), fun q e => Nat.le_trans hB0.size (e7.lt q e).1⟩
  by_cases h2 : k = 2 ∧ n = 0
  · obtain ⟨rfl, rfl⟩ := h2
    have hU := specUnder9 _ row W1 hu0 (by omega)
    have hr : madeV row 2 0 = undrV row := rfl
    rw [hr]
    generalize undrV row = R at *
    have e2 : decide ((2 : Int) = 2 ∧ (0 : Int) = 0) = true := by decide
    rw [e2] at q2
    clear q3 q4 e2 hBa hlies hu hr
    go_enter Try.func42, Try.ntmps42
    go_wp2_with (go_at_call 77; refine hU.mono ?_; clear hU; rintro e w2 ⟨r, rfl, hr, hB2⟩)
    go_ret
    exact ⟨_, rfl, Ints.of_owns hr, hB0.trans (hB2.mono hB0.size), fun q e => Nat.le_trans hB0.size (hr.lt q e).1⟩
  by_cases h3 : k = 3 ∧ n = 0
  · obtain ⟨rfl, rfl⟩ := h3
    have hU := specTurned _ row W1 hu0 hlies (by omega)
    have hr : madeV row 3 0 = turnV row := rfl
    rw [hr]
    generalize turnV row = R at *
    have e2 : decide ((3 : Int) = 2 ∧ (0 : Int) = 0) = false := by decide
    have e3 : decide ((3 : Int) = 3 ∧ (0 : Int) = 0) = true := by decide
    rw [e2] at q2
    rw [e3] at q3
    clear q4 e2 e3 hBa hlies hu hr
    go_enter Try.func42, Try.ntmps42
    go_wp2_with (go_at_call 78; refine hU.mono ?_; clear hU; rintro e w2 ⟨r, rfl, hr, hB2⟩)
    go_ret
    exact ⟨_, rfl, Ints.of_owns hr, hB0.trans (hB2.mono hB0.size), fun q e => Nat.le_trans hB0.size (hr.lt q e).1⟩
  by_cases h4 : k = 4 ∧ n = 0
  · obtain ⟨rfl, rfl⟩ := h4
    have hU := specRound _ row W1 hu0 (by omega)
    have hr : madeV row 4 0 = roundV row := rfl
    rw [hr]
    generalize roundV row = R at *
    have e2 : decide ((4 : Int) = 2 ∧ (0 : Int) = 0) = false := by decide
    have e3 : decide ((4 : Int) = 3 ∧ (0 : Int) = 0) = false := by decide
    have e4 : decide ((4 : Int) = 4 ∧ (0 : Int) = 0) = true := by decide
    rw [e2] at q2
    rw [e3] at q3
    rw [e4] at q4
    clear e2 e3 e4 hBa hlies hu hr
    go_enter Try.func42, Try.ntmps42
    go_wp2_with (go_at_call 79; refine hU.mono ?_; clear hU; rintro e w2 ⟨r, rfl, hr, hB2⟩)
    go_ret
    exact ⟨_, rfl, Ints.of_owns hr, hB0.trans (hB2.mono hB0.size), fun q e => Nat.le_trans hB0.size (hr.lt q e).1⟩
  rw [made_none h0 h1 h2 h3 h4]
  rw [decide_eq_false h2] at q2
  rw [decide_eq_false h3] at q3
  rw [decide_eq_false h4] at q4
  have g2 := hide h2
  have g3 := hide h3
  have g4 := hide h4
  clear h2 h3 h4 hlies hu hBa
  by_cases k0 : k = 0
  · subst k0
    have hb : n < 0 ∨ (row.length : Int) - 1 < n := by omega
    clear h0 h1
    go_enter Try.func42, Try.ntmps42
    go_wp2_with (go_at_call 65; refine (l1In_f _ _ _ _ (by assumption)).mono ?_; rintro e w' ⟨rfl, rfl⟩)
    go_ret
    exact ⟨_, rfl, Ints.none _ _ _, hB0, fun q e => by simp [Value.ownBlock] at e; omega⟩
  · by_cases k1 : k = 1
    · subst k1
      by_cases hb : n < 0 ∨ 1 < n
      · clear h0 h1
        go_enter Try.func42, Try.ntmps42
        go_wp2_with (go_at_call 65; refine (l1In_f _ _ _ _ (by assumption)).mono ?_; rintro e w' ⟨rfl, rfl⟩)
        go_ret
        exact ⟨_, rfl, Ints.none _ _ _, hB0, fun q e => by simp [Value.ownBlock] at e; omega⟩
      · have hlb : ¬ (row.length : Int) < 12 := by omega
        have hn0 : 0 ≤ n := by omega
        have hn1 : n ≤ 1 := by omega
        clear h0 h1
        go_enter Try.func42, Try.ntmps42
        go_wp2_with (go_at_call 65; refine (l1In_t _ _ _ _ (by assumption) (by assumption)).mono ?_; rintro e w' ⟨rfl, rfl⟩)
        go_ret
        exact ⟨_, rfl, Ints.none _ _ _, hB0, fun q e => by simp [Value.ownBlock] at e; omega⟩
    · have b0 : (k == 0) = false := by rw [beq_eq_false_iff_ne]; exact k0
      have b1 : (k == 1) = false := by rw [beq_eq_false_iff_ne]; exact k1
      clear h0 h1
      go_enter Try.func42, Try.ntmps42
      go_wp2_with fail
      all_goals try subst_vars
      all_goals first
        | exact absurd ⟨rfl, rfl⟩ g2.out
        | exact absurd ⟨rfl, rfl⟩ g3.out
        | exact absurd ⟨rfl, rfl⟩ g4.out
        | (go_ret; exact ⟨_, rfl, Ints.none _ _ _, hB0, fun q e => by simp [Value.ownBlock] at e; omega⟩)
end Go.Proofs.Ytimnhedjapakhaa
