/-
  The program's circles: circleOf, ring, after, ended.
-/
import Derived.Test.YtmnmbelmcdfcjaaKey10
namespace Go.Proofs.Ytmnmbelmcdfcjaa
open Go.RowKit Go.BigFrame

theorem implRing (v : Value) (xs : List Int) (w : World) (hv : Ints w v xs) (hl : xs.length ≤ 1000000000) : Calls Try.prog 16 #[v] w fun e w' => e = .returned (.bool (ringB xs)) ∧ Below w.heap.size w w' := by
  have hA := allWithin_in v xs 8 100 w hv (by omega) hl
  have e1 : withB xs 8 100 = ringB xs := rfl
  rw [e1] at hA
  generalize ringB xs = b at *
  clear hv hl e1
  go_enter Try.func16, Try.ntmps16
  go_wp2_with (go_at_call 41; refine hA.mono ?_; rintro e w' ⟨rfl, rfl⟩)
  go_ret
  exact ⟨rfl, Below.refl _ _⟩

theorem ended_in (g : Nat → Nat) (n : Nat) (hg : ∀ i, i < 8 → g i ≤ 1000000) (w : World) : Calls Try.prog 50 #[crV g n] w fun e w' => (∃ b, e = .returned (.bool b) ∧ (b = true ↔ ∀ i, i < 8 → g i = 0)) ∧ Below w.heap.size w w' := by
  obtain ⟨r, hr, hz⟩ := equal_arr g hg (w.alloc (.cells (crA g n) 47))
  have hz' := hide hz
  clear hz
  unfold crV
  unfold crA at *
  go_enter Try.func50, Try.ntmps50
  go_wp2
  go_ret
  exact ⟨⟨r, rfl, hz'.out⟩, (Below.refl _ w).alloc (Nat.le_refl _) _⟩

theorem ring_in (f : Nat → Nat) (n : Nat) (hn : n ≤ 8) (w : World) : Calls Try.prog 46 #[crV (cz f n) n] w fun e w' =>
    ∃ r, e = .returned r ∧ w'.ownsRow w.heap.size 3 1 r n ((rgL f n).map (Value.int .i64)) ∧ Below w.heap.size w w' := by
  obtain ⟨W, hW⟩ : ∃ W, w.alloc (.cells (crA (cz f n) n) 47) = W := ⟨_, rfl⟩
  have hC : CrAt W w.heap.size (cz f n) n := by rw [← hW]; exact CrAt.new w _ _
  have hB : Below w.heap.size w W := by rw [← hW]; exact (Below.refl _ w).alloc (Nat.le_refl _) _
  have hcl := clone_in w.heap.size n 8 (rgL f n) W (rgL_len f n) (by omega) (fun k u hu => by
    have hk : k < n := by
      have := (List.getElem?_eq_some_iff.1 hu).1
      simpa [rgL] using this
    rw [hC.cell (by omega), cz_in hk]
    unfold rgL at hu
    rw [List.getElem?_map, List.getElem?_map, List.getElem?_range hk] at hu
    exact hu)
  have h8 := hC.count
  have hn1 : (n : Int) ≤ 8 := by omega
  have hn0 : (0 : Int) ≤ (n : Int) := by omega
  go_enter Try.func46, Try.ntmps46
  go_wp2_with (first | (refine box_cr rfl _ rfl (cz f n) n rfl ?_; rw [hW]) | (go_at_call 57; refine hcl.mono ?_; clear hcl; rintro e w3 ⟨v, rfl, hown, hB3⟩))
  go_ret
  exact ⟨_, rfl, owns_from hown hB.size, hB.trans (hB3.mono hB.size)⟩

theorem cz_next {f : Nat → Nat} {n k : Nat} (g : Nat → Nat) (hk : k < n) (h : ∀ i, i < 8 → g i = cz (dF f) k i) : ∀ i, i < 8 → (if i = k then dF f k else g i) = cz (dF f) (k + 1) i := fun i hi => by
  by_cases e : i = k
  · subst e; rw [if_pos rfl, cz_in (by omega)]
  · rw [if_neg e, h i hi]
    unfold cz
    by_cases h2 : i < k
    · rw [if_pos h2, if_pos (by omega)]
    · rw [if_neg h2, if_neg (by omega)]

theorem grown_cell (W : World) (b p : Nat) (v : Value) : W.grownBy (W.setCell ⟨b, p, none⟩ v) (some b) := ⟨rfl, rfl, rfl, by simp [World.setCell], fun k _ hk => Below.heap_setCell _ _ _ k (fun e => hk (by simp [e]))⟩

set_option maxRecDepth 100000 in
set_option maxHeartbeats 1000000 in
theorem after_in (f : Nat → Nat) (n : Nat) (h1 : 1 ≤ n) (hn : n ≤ 8) (hf : ∀ k, f k ≤ 100) (hp : per n f) (w : World) : Calls Try.prog 45 #[crV (cz f n) n] w fun e w' =>
    e = .returned (crV (cz (dF f) n) n) ∧ Below w.heap.size w w' := by
  obtain ⟨W, hW⟩ : ∃ W, w.alloc (.cells (crA (cz f n) n) 47) = W := ⟨_, rfl⟩
  have hC : CrAt W w.heap.size (cz f n) n := by rw [← hW]; exact CrAt.new w _ _
  have hB : Below w.heap.size w W := by rw [← hW]; exact (Below.refl _ w).alloc (Nat.le_refl _) _
  have hs : W.heap.size = w.heap.size + 1 := by rw [← hW]; simp
  have h8 := hC.count
  go_enter Try.func45, Try.ntmps45
  go_wp2_with (refine box_cr rfl _ rfl (cz f n) n rfl ?_; rw [hW])
  go_loopw [12] (fun i wr => ∃ (k : Nat) (g : Nat → Nat), k ≤ n ∧ i = .int .i64 k ∧ CrAt wr w.heap.size (cz f n) n ∧ wr.heap[w.heap.size + 1]? = some (.cells (crA (fun _ => 0) 0) 47 (0, 0)) ∧ CrAt wr (w.heap.size + 1 + 1) g n ∧ Hid (∀ i, i < 8 → g i = cz (dF f) k i) ∧ Below w.heap.size w wr) (fun i _ => n - (intOf i).toNat)
  case atStart =>
    refine ⟨0, fun _ => 0, by omega, rfl, (hC.alloc _).alloc _, ?_, ?_, hide (fun i _ => rfl), (hB.alloc hB.size _).alloc (by simp; omega) _⟩
    · have h2 := CrAt.new W (fun _ => 0) 0
      rw [hs] at h2
      exact h2.alloc _
    · have h2 := CrAt.new (W.alloc (.cells (crA (fun _ => 0) 0) 47)) (fun _ => 0) n
      rw [World.size_alloc, hs] at h2
      exact h2
  case round =>
    clear hC hB h8 hW hs
    obtain ⟨k, g, hk, rfl, hC, hR, hF, hg, hB⟩ := hrel
    have hl0 := hC.lt
    have hl2 := hF.lt
    by_cases hlt : k < n
    · obtain ⟨m, hm⟩ : ∃ m, (k + 1) % n = m := ⟨_, rfl⟩
      have hml : m < n := by rw [← hm]; exact Nat.mod_lt _ (by omega)
      have hfm : f m = f (k + 1) := by rw [← hm]; exact per_mod hp (k + 1)
      have hq : Int.tmod ((k : Int) + 1) (n : Int) = (m : Int) := by have := tmod_n (k + 1) n; rw [hm] at this; simpa using this
      have c1 := hC.cell (i := k) (by omega)
      have c2 := hC.cell (i := m) (by omega)
      have c8 := hC.count
      rw [cz_in hlt] at c1
      rw [cz_in hml, hfm] at c2
      have q1 : ∀ M : After wr, M.now.cell? ⟨w.heap.size, k, none⟩ = some (.int .i64 (f k : Nat)) := fun M => (M.ok.cell (p := ⟨w.heap.size, k, none⟩) hl0).trans c1
      have q2 : ∀ M : After wr, M.now.cell? ⟨w.heap.size, m, none⟩ = some (.int .i64 (f (k + 1) : Nat)) := fun M => (M.ok.cell (p := ⟨w.heap.size, m, none⟩) hl0).trans c2
      have q8 : ∀ M : After wr, M.now.cell? ⟨w.heap.size, 8, none⟩ = some (.int .i64 n) := fun M => (M.ok.cell (p := ⟨w.heap.size, 8, none⟩) hl0).trans c8
      have hf0 := hf k
      have hf1 := hf (k + 1)
      have hn0 : ((n : Int) == 0) = false := by rw [beq_eq_false_iff_ne]; omega
      have hki : (k : Int) < (n : Int) := by omega
      have hk8 : (k : Int) < 8 := by omega
      have hm8 : (m : Int) < 8 := by omega
      have hw1 : IntKind.i64.wrap (m : Int) = m := IntWalk.i64_in _ (by omega)
      have hnext := hide (cz_next g hlt hg.out)
      have hd : dF f k = ad (f k) (f (k + 1)) := rfl
      rw [hd, ad_max] at hnext
      have cg := hF.cell (i := k) (by omega)
      have cf := hF.frozen k
      clear hm hfm hg c1 c2 c8 hd hp hf
      generalize f k = x at *
      generalize f (k + 1) = y at *
      have hmx : ((if x < y then (y : Int) else (x : Int)) - if y < x then (y : Int) else (x : Int)) = ((max x y - min x y : Nat) : Int) := by
        split <;> split <;> omega
      have hmx' := hide hmx
      clear hmx
      go_wp2
      refine wp_region_below wr (by kernel_rfl) (by kernel_rfl) (Below.refl _ wr) ?_
      repeat (go_big_quiet_step (fail))
      refine wpQuiet_nil ?_
      rintro _ ⟨nq, rfl⟩
      have hb2 := nq.ok.block _ hl2
      have cg' := (nq.ok.cell (p := ⟨w.heap.size + 1 + 1, k, none⟩) hl2).trans cg
      have hF' : CrAt nq.now (w.heap.size + 1 + 1) g n := hF.of_block hb2
      have cf' := hF'.frozen k
      clear q1 q2 q8 cg cf
      go_wp2
      go_roundw
      case rel =>
        rw [hmx'.out]
        exact ⟨k + 1, _, by omega, by go_num, (hC.of_block (nq.ok.block _ hl0)).kept (grown_cell _ _ _ _) (by simp; omega), ((grown_cell _ _ _ _).block _ (Nat.lt_of_lt_of_le (by omega) nq.ok.size) (by simp)).trans ((nq.ok.block _ (by omega)).trans hR), hF'.set (by omega) _, hnext,
          (hB.trans (nq.ok.mono hB.size)).setCell (p := ⟨w.heap.size + 1 + 1, k, none⟩) (by show w.heap.size ≤ w.heap.size + 1 + 1; omega) _⟩
      case measure => simp [intOf]; omega
    · obtain rfl : k = n := by omega
      have hC' := hF.congr hg.out
      clear hf hp hg
      go_wp2_with (first | (refine load_cr rfl _ rfl (w.heap.size + 1 + 1) rfl hC' ?_) | (refine store_cr rfl _ _ rfl (w.heap.size + 1) _ _ rfl rfl hR rfl ?_; intro w5 hC5 hg5))
      refine bodyPost_ret (results_circle rfl _ _ (w.heap.size + 1) _ _ rfl hC5) rfl ⟨rfl, hB.grown hg5 hB.size (fun _ e => by cases e; omega)⟩

theorem splice_circle (f : Nat → Nat) (n : Nat) (hn : n ≤ 8) :
    (splice [Value.int .i64 0, .int .i64 0, .int .i64 0, .int .i64 0, .int .i64 0, .int .i64 0, .int .i64 0, .int .i64 0, .int .i64 n] 0 ((List.range n).map fun i => Value.int .i64 (f i : Nat))).toArray = crA (cz f n) n := by
  unfold splice crA cz
  match n, hn with
  | 0, _ => rfl
  | 1, _ => rfl
  | 2, _ => rfl
  | 3, _ => rfl
  | 4, _ => rfl
  | 5, _ => rfl
  | 6, _ => rfl
  | 7, _ => rfl
  | 8, _ => rfl

set_option maxHeartbeats 1000000 in
theorem circleOf_in (v : Value) (xs : List Int) (w : World) (hv : Ints w v xs) (hs : ringB xs = true) : Calls Try.prog 44 #[v] w fun e w' =>
    e = .returned (crV (cz (ringF xs) xs.length) xs.length) ∧ Below w.heap.size w w' := by
  have hlen := ringB_len hs
  obtain ⟨g, cap, rfl, hg, hc⟩ := ints_open hv hlen.1
  have hcf : ∀ i, i < xs.length → w.cell? ⟨g, i, none⟩ = some (.int .i64 (ringF xs i : Nat)) := fun i hi => by rw [hc i hi, ringF_get hs hi]
  clear hc hv hs
  generalize ringF xs = f at *
  generalize xs.length = n at *
  obtain ⟨W, hW⟩ : ∃ W, (w.alloc (.cells #[.int .i64 0, .int .i64 0, .int .i64 0, .int .i64 0, .int .i64 0, .int .i64 0, .int .i64 0, .int .i64 0, .int .i64 0] 47)).alloc
    (.cells #[.int .i64 0, .int .i64 0, .int .i64 0, .int .i64 0, .int .i64 0, .int .i64 0, .int .i64 0, .int .i64 0, .int .i64 n] 47) = W := ⟨_, rfl⟩
  have hB : Below w.heap.size w W := by rw [← hW]; exact ((Below.refl _ w).alloc (Nat.le_refl _) _).alloc (by simp) _
  have hR : W.heap[w.heap.size]? = some (.cells (crA (fun _ => 0) 0) 47 (0, 0)) := by
    rw [← hW]; exact (CrAt.new w (fun _ => 0) 0).alloc _
  have hF : W.heap[w.heap.size + 1]? = some (.cells [Value.int .i64 0, .int .i64 0, .int .i64 0, .int .i64 0, .int .i64 0, .int .i64 0, .int .i64 0, .int .i64 0, .int .i64 n].toArray 47 (0, 0)) := by
    rw [← hW]
    have := World.alloc_heap_new (w.alloc (.cells (crA (fun _ => 0) 0) 47)) (.cells #[.int .i64 0, .int .i64 0, .int .i64 0, .int .i64 0, .int .i64 0, .int .i64 0, .int .i64 0, .int .i64 0, .int .i64 n] 47)
    rw [World.size_alloc] at this
    exact this
  have hwr : W.heap.size = w.heap.size + 2 := by rw [← hW]; simp
  have hsp := splice_circle f n hlen.2
  obtain ⟨cur, hcur⟩ : ∃ cur : List Value, cur = [Value.int .i64 0, .int .i64 0, .int .i64 0, .int .i64 0, .int .i64 0, .int .i64 0, .int .i64 0, .int .i64 0, .int .i64 n] := ⟨_, rfl⟩
  obtain ⟨cs, hcs⟩ : ∃ cs : List Value, cs = (List.range n).map fun i => Value.int .i64 (f i : Nat) := ⟨_, rfl⟩
  rw [← hcur, ← hcs] at hsp
  rw [← hcur] at hF
  have hcl : cur.length = 9 := by rw [hcur]; rfl
  have hcn : cs.length = n := by rw [hcs]; simp
  have hsrc : ∀ j u, cs[j]? = some u → W.cell? ((⟨g, 0, none⟩ : Addr).add j) = some u := fun j u hj => by
    have hj1 : j < n := by rw [← hcn]; exact (List.getElem?_eq_some_iff.1 hj).1
    have hadd : (⟨g, 0, none⟩ : Addr).add j = ⟨g, j, none⟩ := by unfold Addr.add; split <;> simp_all
    rw [hadd, hB.cell (p := ⟨g, j, none⟩) hg, hcf j hj1]
    rw [hcs, List.getElem?_map, List.getElem?_range hj1] at hj
    exact hj
  have hone : ∀ u ∈ cs, u.oneCell' = true := by
    intro u hu
    rw [hcs] at hu
    obtain ⟨i, _, rfl⟩ := List.mem_map.1 hu
    rfl
  have hsz : (Try.prog.info? 3).map (·.size) = some 1 := by kernel_rfl
  have hcf' := hide hcs
  have hcur' := hide hcur
  clear hcs hcur
  go_enter Try.func44, Try.ntmps44
  go_wp2_with (first
    | (refine wpList_copy_splice rfl _ _ _ _ rfl 3 Try.underlying23 hsz _ _ _ _ _ _ rfl rfl (w.heap.size + 1) 0 cur 47 hF cs (by rw [hcn]; show n = min n 8; omega) (fun _ => ⟨rfl, _, rfl, hsrc⟩) (by omega) hone (w.heap.size + 1) W (Below.refl _ _) (by omega) ?_; go_loud (intro w2 hG hB2; have hG2 := hG.out; rw [hsp] at hG2; have hC2 : CrAt w2 (w.heap.size + 1) (cz f n) n := hG2; have hR2 := (hB2.block _ (Nat.lt_succ_self _)).trans hR; clear hG hG2))
    | (refine load_cr rfl _ rfl (w.heap.size + 1) rfl hC2 ?_)
    | (refine store_cr rfl _ _ rfl w.heap.size _ _ rfl rfl hR2 rfl ?_; intro w5 hC5 hg5))
  refine bodyPost_ret (results_circle rfl _ _ w.heap.size _ _ rfl hC5) rfl ⟨rfl, (hB.trans (hB2.mono (by omega))).grown hg5 (Nat.le_trans hB.size hB2.size) (fun _ e => by cases e; omega)⟩
end Go.Proofs.Ytmnmbelmcdfcjaa
