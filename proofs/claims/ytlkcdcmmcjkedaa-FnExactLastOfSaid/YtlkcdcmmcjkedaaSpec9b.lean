/-
  The model's RowsUnder, OnesIn and TurnedOf: for every row what they hand back.
-/
import Derived.Test.YtlkcdcmmcjkedaaRows2
import Derived.Test.YtlkcdcmmcjkedaaKit2
namespace Go.Proofs.Ytlkcdcmmcjkedaa
open Go.RowKit

def sliceLen : Value → Nat
  | .slice _ n _ => n
  | _ => 0
theorem rowsV_at {xs : List Int} (h : sideB xs = true) {j : Nat} (hj : j < xs.length) : (rowsV xs).getD j [] = stL (natL xs) j (xs.length - j) := by
  rw [rowsV_yes h]; simp [List.getD, hj]
theorem rowsV_length {xs : List Int} (h : sideB xs = true) : (rowsV xs).length = xs.length := by rw [rowsV_yes h]; simp

set_option maxHeartbeats 2000000 in
theorem specRows (v : Value) (xs : List Int) (w : World) (hv : Ints w v xs) (hlies : Lies v) (hl : xs.length ≤ 10000000) : Calls Try.prog 32 #[v] w fun e w' =>
    ∃ r, e = .returned r ∧ OwnSS w' w.heap.size r (rowsV xs) ∧ Below w.heap.size w w' := by
  have hA : Below w.heap.size w (w.alloc (.cells #[] 23)) := (Below.refl _ w).alloc (Nat.le_refl _) _
  have hAB : Below w.heap.size w ((w.alloc (.cells #[] 23)).alloc (.cells #[] 3)) := hA.alloc (by simp) _
  have hmade : ((w.alloc (.cells #[] 23)).alloc (.cells #[] 3)).ownsRow w.heap.size 3 1 (.slice (some ⟨w.heap.size + 1, 0, none⟩) 0 0) 0 [] := by
    have := World.ownsRow_made (base := w.heap.size) (e := 3) (size := 1) (w.alloc (.cells #[] 23)) #[] 0 (by simp) (by decide) rfl
    rw [World.size_alloc] at this
    exact this
  have hout : ((w.alloc (.cells #[] 23)).alloc (.cells #[] 3)).ownsRow w.heap.size 23 1 (.slice (some ⟨w.heap.size, 0, none⟩) 0 0) 0 [] :=
    (World.ownsRow_made (base := w.heap.size) (e := 23) (size := 1) w #[] 0 (Nat.le_refl _) (by decide) rfl).alloc _
  have hvAB := hv.below hAB
  obtain ⟨a0, c0, rfl⟩ := hv.shape
  obtain ⟨rows, hrv⟩ : ∃ rows, rowsV xs = rows := ⟨_, rfl⟩
  rw [hrv]
  go_enter Try.func32, Try.ntmps32
  go_wp2_with (at_builtin; refine append_ints rfl _ _ rfl w.heap.size _ 0 [] rfl hmade _ xs rfl hvAB hlies (by omega) (by simp; omega) ?_; intro nw w2 hnw hgr2)
  rw [Nat.zero_add, List.nil_append] at hnw
  replace hgr2 : ((w.alloc (.cells #[] 23)).alloc (.cells #[] 3)).grownBy w2 (some (w.heap.size + 1)) := hgr2
  have hout2 : w2.ownsRow w.heap.size 23 1 (.slice (some ⟨w.heap.size, 0, none⟩) 0 0) 0 [] := hout.kept hgr2 (.inr (by simp [Value.ownBlock]))
  have hB2 : Below w.heap.size w w2 := hAB.grown hgr2 hAB.size (fun k e => by injection e; omega)
  clear hmade hout hA hAB hvAB hgr2
  cases hside : sideB xs with
  | false =>
    obtain rfl : rows = [] := by rw [← hrv, rowsV_no hside]
    have hS := specSide nw xs w2 (Ints.of_owns hnw) (by omega)
    rw [hside] at hS
    obtain ⟨a1, c1, rfl⟩ := own_form hnw
    by_cases h0 : 0 < xs.length
    · have h0i : (0 : Int) < (xs.length : Int) := by omega
      generalize xs.length = n at *
      go_wp2
      refine wp_loop_rounds 1 ?_
      rw [rounds_succ]
      go_wp2_with (go_at_call 25; refine hS.mono ?_; clear hS; rintro e w' ⟨rfl, rfl⟩)
      go_ret
      exact ⟨_, rfl, OwnSS.nil hout2, hB2⟩
    · obtain h0e : xs.length = 0 := by omega
      rw [h0e] at *
      go_wp2
      refine wp_loop_rounds 1 ?_
      rw [rounds_succ]
      go_wp2
      go_ret
      exact ⟨_, rfl, OwnSS.nil hout2, hB2⟩
  | true =>
    have hlen := sideB_len hside
    have hf := side_bit hside
    have hrl := rowsV_length hside
    have hra := fun j (hj : j < xs.length) => rowsV_at hside hj
    have hz := stL_zero hside
    rw [← hz] at hnw
    rw [stL_len] at hnw
    rw [hrv] at hrl hra
    clear hz hside hv hlies hl hrv
    generalize natL xs = f at *
    generalize xs.length = n at *
    go_wp2
    go_loopw [3, 4] (fun o nw wr => ∃ (i : Nat) (us : List Value), i ≤ n ∧ us.length = i ∧ wr.ownsRow w.heap.size 23 1 o i us ∧ (∀ j, j < i → wr.ownsRow w.heap.size 3 1 (us.getD j undef) (n - j) ((stL f j (n - j)).map (Value.int .i64))) ∧ wr.ownsRow w.heap.size 3 1 nw (n - i) ((stL f i (n - i)).map (Value.int .i64)) ∧ Below w.heap.size w wr) (fun _ nw _ => sliceLen nw)
    case atStart => exact ⟨0, [], by omega, rfl, hout2, fun j hj => by omega, hnw, hB2⟩
    case round =>
      clear hout2 hB2
      obtain ⟨i, us, hi, hus, hout, hrows, hnow, hB⟩ := hrel
      by_cases hlt : i < n
      · obtain ⟨m, hm⟩ : ∃ m, n - i = m + 1 := ⟨n - i - 1, by omega⟩
        rw [hm] at hnow
        obtain ⟨g, cap, rfl, _, hg, _, _⟩ := owns_open hnow (by omega)
        have hin : Ints wr (.slice (some ⟨g, 0, none⟩) (m + 1) cap) (stL f i (m + 1)) := Ints.of_owns hnow
        have hS := specSide _ _ wr hin (by rw [stL_len]; omega)
        rw [stL_side hf i (m + 1) (by omega) (by omega)] at hS
        have hm1 : (0 : Int) < (m : Int) + 1 := by omega
        go_wp2_with (first
          | (go_at_call 25; refine hS.mono ?_; clear hS; rintro e w' ⟨rfl, rfl⟩)
          | (at_builtin; refine append_slice rfl _ _ rfl rfl w.heap.size _ i us rfl hout rfl (by omega) (by have := hB.size; omega) ?_; intro o2 w3 hout3 hgr3))
        have hgr4 : wr.grownBy w3 _ := (World.grownBy_alloc wr _ _).trans hgr3
        have hB3 : Below w.heap.size w w3 := (hB.alloc hB.size _).grown hgr3 (by have := hB.size; simp; omega) (fun k hk => (hout.lt k hk).1)
        have hnow3 := hnow.kept hgr4 (own_apart hnow hout)
        have hrows3 : ∀ j, j < i + 1 → w3.ownsRow w.heap.size 3 1 ((us ++ [Value.slice (some ⟨g, 0, none⟩) (m + 1) cap]).getD j undef) (n - j) ((stL f j (n - j)).map (Value.int .i64)) := fun j hj => by
          by_cases e : j = i
          · subst e
            rw [hm, List.getD, List.getElem?_append_right (by omega), hus, Nat.sub_self]
            exact hnow3
          · have h1 := (hrows j (by omega)).kept hgr4 (own_apart (hrows j (by omega)) hout)
            rw [List.getD, List.getElem?_append_left (by omega)]
            exact h1
        have hin3 : Ints w3 (.slice (some ⟨g, 0, none⟩) (m + 1) cap) (stL f i (m + 1)) := Ints.of_owns hnow3
        have hU := specUnder9 _ _ w3 hin3 (by rw [stL_len]; omega)
        have hun : undrV (stL f i (m + 1)) = stL f (i + 1) m := by rw [undrV_yes (stL_side hf i (m + 1) (by omega) (by omega)), stL_len, Nat.add_sub_cancel, stL_next]
        rw [hun, stL_len] at hU
        clear hun hin hin3 hrows hgr3 hgr4 hout hnow hB hg
        go_wp2_with (go_at_call 28; refine hU.mono ?_; clear hU; rintro e w4 ⟨r, rfl, hr, hB4⟩)
        obtain ⟨ar, cr, rfl⟩ := own_form hr
        go_roundw
        case rel =>
          refine ⟨i + 1, us ++ [Value.slice (some ⟨g, 0, none⟩) (m + 1) cap], by omega, by simp [hus], own_below hout3 hB4, fun j hj => own_below (hrows3 j hj) hB4, ?_, hB3.trans (hB4.mono hB3.size)⟩
          rw [show n - (i + 1) = m by omega]
          exact owns_from hr hB3.size
        case measure => simp [sliceLen]
      · obtain rfl : i = n := by omega
        rw [Nat.sub_self] at hnow
        obtain ⟨ar, cr, rfl⟩ := own_form hnow
        go_wp2
        go_ret
        refine ⟨_, rfl, ⟨us, by rw [hus, hrl], by rw [hus]; exact hout, fun j hj => ?_⟩, hB⟩
        rw [hrl] at hj
        rw [hra j hj, stL_len]
        exact hrows j hj

set_option maxHeartbeats 2000000 in
theorem specOnes (v : Value) (xs : List Int) (w : World) (hv : Ints w v xs) (hlies : Lies v) (hl : xs.length ≤ 10000000) : Calls Try.prog 35 #[v] w fun e w' => e = .returned (.int .i64 (onesV xs)) ∧ Below w.heap.size w w' := by
  have hS := specSide v xs w hv (by omega)
  cases hside : sideB xs with
  | false =>
    rw [onesV_no hside]
    rw [hside] at hS
    clear hv hside
    go_enter Try.func35, Try.ntmps35
    go_wp2_with (go_at_call 25; refine hS.mono ?_; clear hS; rintro e w' ⟨rfl, rfl⟩)
    go_ret
    exact ⟨rfl, Below.refl _ _⟩
  | true =>
    have hR := specRows v xs w hv hlies hl
    have hlen := sideB_len hside
    have hf := side_bit hside
    have hrl := rowsV_length hside
    have hra := fun j (hj : j < xs.length) => rowsV_at hside hj
    rw [onesV_yes hside]
    rw [hside] at hS
    generalize rowsV xs = rows at *
    generalize natL xs = f at *
    generalize xs.length = n at *
    obtain ⟨T, hT⟩ : ∃ T, tot (st f) n = T := ⟨_, rfl⟩
    have hT' := hide (show totU f n n = T by rw [totU_all, hT])
    rw [hT]
    have htl := fun i hi => totU_le hf hlen.2 i hi
    clear hv hside hl hlies hT
    go_enter Try.func35, Try.ntmps35
    go_wp2_with (first | (go_at_call 25; refine hS.mono ?_; clear hS; rintro e w' ⟨rfl, rfl⟩) | (go_at_call 32; refine hR.mono ?_; clear hR; rintro e w1 ⟨r, rfl, hown, hB⟩))
    obtain ⟨G, cap, rfl, hG, hread⟩ := hown.read (by omega)
    rw [hrl] at *
    clear hown
    go_loop [3, 5] (fun o i => ∃ k : Nat, k ≤ n ∧ i = .int .i64 k ∧ o = .int .i64 (totU f n k : Nat)) (fun _ i => n - (intOf i).toNat)
    case atStart => exact ⟨0, by omega, rfl, rfl⟩
    case round =>
      obtain ⟨k, hk, rfl, rfl⟩ := hrel
      by_cases hlt : k < n
      · obtain ⟨u, hcu, hiu, _⟩ := hread k hlt
        rw [hra k hlt] at hiu
        obtain ⟨b, cb, rfl, hb, hcb⟩ := hiu.cells (by rw [stL_len]; omega)
        have hcb' : ∀ j, j < n - k → w1.cell? ⟨b, j, none⟩ = some (.int .i64 (st f k j : Nat)) := fun j hj => by
          rw [hcb j (by rw [stL_len]; exact hj), stL_getD f k (n - k) j hj]
        rw [stL_len] at hcu
        clear hcb hiu
        have hki : (k : Int) < (n : Int) := by omega
        have htk := htl k (by omega)
        have hst : totU f n (k + 1) = totU f n k + sumF (st f k) (n - k) := rfl
        have hbit := st_le hf k
        have hst' := hide hst
        have hsb := sumF_bit hbit
        have hLn : n - k ≤ 12 := by omega
        clear hst hread hra hT' htl
        generalize n - k = L at *
        generalize totU f n k = t at *
        go_wp2
        go_loop [3, 6] (fun o i => ∃ j : Nat, j ≤ L ∧ i = .int .i64 j ∧ o = .int .i64 ((t : Int) + (sumF (st f k) j : Nat))) (fun _ i => L - (intOf i).toNat)
        case atStart => exact ⟨0, by omega, rfl, by simp [sumF]⟩
        case round =>
          obtain ⟨j, hj, rfl, rfl⟩ := hrel
          have hsj := hsb j
          by_cases hjl : j < L
          · have hcj := hcb' j hjl
            have hbj := hbit j
            have hss : sumF (st f k) (j + 1) = sumF (st f k) j + st f k j := rfl
            have hss' := hide hss
            have hji : (j : Int) < (L : Int) := by omega
            clear hcb' hbit hsb hss hst'
            generalize st f k j = z at *
            generalize sumF (st f k) j = s at *
            go_wp2
            go_round
            case rel => exact ⟨j + 1, by omega, by go_num, by rw [hss'.out]; go_num⟩
            case measure => simp [intOf]; omega
          · obtain rfl : j = L := by omega
            have hjn : ¬ (j : Int) < (j : Int) := by omega
            clear hcb' hbit hsb
            go_wp2
            go_round
            case rel => exact ⟨k + 1, by omega, by go_num, by rw [hst'.out]; go_num⟩
            case measure => simp [intOf]; omega
      · obtain rfl : k = n := by omega
        rw [hT'.out]
        clear hread hra hT' htl hf
        go_wp2
        go_ret
        exact ⟨rfl, hB⟩

set_option maxHeartbeats 2000000 in
theorem specTurned (v : Value) (xs : List Int) (w : World) (hv : Ints w v xs) (hlies : Lies v) (hl : xs.length ≤ 10000000) : Calls Try.prog 41 #[v] w fun e w' =>
    ∃ r, e = .returned r ∧ w'.ownsRow w.heap.size 3 1 r (turnV xs).length ((turnV xs).map (Value.int .i64)) ∧ Below w.heap.size w w' := by
  have hA : Below w.heap.size w (w.alloc (.cells #[] 3)) := (Below.refl _ w).alloc (Nat.le_refl _) _
  have hmade : (w.alloc (.cells #[] 3)).ownsRow w.heap.size 3 1 (.slice (some ⟨w.heap.size, 0, none⟩) 0 0) 0 [] := World.ownsRow_made _ _ _ (Nat.le_refl _) (by decide) rfl
  have hR := specRows v xs (w.alloc (.cells #[] 3)) (hv.below hA) hlies hl
  cases hside : sideB xs with
  | false =>
    rw [turnV_no hside]
    rw [rowsV_no hside] at hR
    have hem : Calls Try.prog 32 #[v] (w.alloc (.cells #[] 3)) fun e w' => ∃ a c, e = .returned (.slice a 0 c) ∧ Below (w.alloc (.cells #[] 3)).heap.size (w.alloc (.cells #[] 3)) w' := hR.mono fun e w' ⟨r, he, hown, hB⟩ => by
      obtain ⟨us, h1, h2, _⟩ := hown
      obtain ⟨a, c, rfl⟩ := own_form h2
      rw [h1] at he
      exact ⟨a, c, he, hB⟩
    clear hR hv hside
    go_enter Try.func41, Try.ntmps41
    go_wp2_with (go_at_call 32; refine hem.mono ?_; clear hem; rintro e w1 ⟨a, c, rfl, hB⟩)
    refine wp_loop_rounds 1 ?_
    rw [rounds_succ]
    go_wp2
    go_ret
    exact ⟨_, rfl, own_below hmade hB, hA.trans (hB.mono hA.size)⟩
  | true =>
    have hlen := sideB_len hside
    have hf := side_bit hside
    have hrl := rowsV_length hside
    have hra := fun j (hj : j < xs.length) => rowsV_at hside hj
    rw [turnV_yes hside]
    generalize rowsV xs = rows at *
    generalize natL xs = f at *
    generalize xs.length = n at *
    clear hv hside hl hlies
    go_enter Try.func41, Try.ntmps41
    go_wp2_with (go_at_call 32; refine hR.mono ?_; clear hR; rintro e w1 ⟨r, rfl, hown, hB⟩)
    have hrd : ∃ G cap, r = .slice (some ⟨G, 0, none⟩) n cap ∧ w.heap.size < G ∧ G < w1.heap.size ∧ ∀ j, j < n → ∃ b cb, w.heap.size < b ∧ b < w1.heap.size ∧ w1.cell? ⟨G, j, none⟩ = some (.slice (some ⟨b, 0, none⟩) (n - j) cb) ∧ w1.cell? ⟨b, n - j - 1, none⟩ = some (.int .i64 (side f n j : Nat)) := by
      obtain ⟨us, h1, h2, h3⟩ := hown
      have h2s := h2.lt
      rcases h2.2 with ⟨_, hn⟩ | ⟨G, cap, cur, rfl, hb, hg, _⟩
      · omega
      · rw [World.size_alloc] at hb
        refine ⟨G, cap, by rw [h1, hrl], by omega, (Array.getElem?_eq_some_iff.1 hg).1, fun j hj => ?_⟩
        have h4 := h3 j (by omega)
        rw [hra j hj, stL_len] at h4
        obtain ⟨b, cb, hu, hb1, hb2, _, hcc⟩ := owns_open h4 (by omega)
        rw [World.size_alloc] at hb1
        refine ⟨b, cb, by omega, hb2, ?_, ?_⟩
        · rw [h2.cellAt j (by omega), ← hu, List.getD, List.getElem?_eq_getElem (by omega)]; rfl
        · exact hcc (n - j - 1) _ (by unfold stL; rw [List.getElem?_map, List.getElem?_map, List.getElem?_range (by omega)]; unfold side; rw [show n - j - 1 = n - 1 - j by omega]; rfl)
    have hm1 := own_below hmade hB
    have hB1 := hA.trans (hB.mono hA.size)
    obtain ⟨G, cap, rfl, hG0, hG, hread⟩ := hrd
    have hside1 := side_le hf n
    clear hown hmade hA hra hrl
    go_loopw [3, 5] (fun o i wr => ∃ k : Nat, k ≤ n ∧ i = .int .i64 k ∧ wr.ownsRow w.heap.size 3 1 o k (((List.range k).map fun j => (side f n j : Int)).map (Value.int .i64)) ∧ Below w.heap.size w wr ∧ (∀ b, w.heap.size < b → b < w1.heap.size → wr.heap[b]? = w1.heap[b]?) ∧ w1.heap.size ≤ wr.heap.size ∧ ∀ b, o.ownBlock = some b → b = w.heap.size ∨ w1.heap.size ≤ b) (fun _ i _ => n - (intOf i).toNat)
    case atStart => exact ⟨0, by omega, rfl, hm1, hB1, fun _ _ _ => rfl, Nat.le_refl _, fun b e => by injection e with e; exact .inl e.symm⟩
    case round =>
      obtain ⟨k, hk, rfl, hown, hBr, hkeep, hsz, hob⟩ := hrel
      by_cases hlt : k < n
      · obtain ⟨b, cb, hb0, hb1, hcG, hcb⟩ := hread k hlt
        have hcG' : wr.cell? ⟨G, k, none⟩ = some (.slice (some ⟨b, 0, none⟩) (n - k) cb) := (World.cell?_of_block (hkeep G hG0 hG)).trans hcG
        have hcb' : wr.cell? ⟨b, n - k - 1, none⟩ = some (.int .i64 (side f n k : Nat)) := (World.cell?_of_block (hkeep b hb0 hb1)).trans hcb
        have hsl := hside1 k
        have hsn : ((List.range (k + 1)).map fun j => (side f n j : Int)) = ((List.range k).map fun j => (side f n j : Int)) ++ [(side f n k : Int)] := by rw [List.range_succ, List.map_append]; rfl
        have hsn' := hide hsn
        obtain ⟨L, hL⟩ : ∃ L, n - k = L + 1 := ⟨n - k - 1, by omega⟩
        rw [hL] at hcG' hcb'
        rw [Nat.add_sub_cancel] at hcb'
        have hki : (k : Int) < (n : Int) := by omega
        have hw1 : IntKind.i64.wrap (L : Int) = L := IntWalk.i64_in _ (by omega)
        have hLi : (L : Int) < (L : Int) + 1 := by omega
        have hown' := hown
        generalize ((List.range k).map fun j => (side f n j : Int)) = ys at *
        generalize side f n k = z at *
        clear hread hcG hcb hsn hside1 hown'
        go_wp2
        go_region_law ((refine step_append_at (by rfl) _ _ (by rfl) w.heap.size _ _ _ (by rfl) hown.drew (by rfl) (by omega) (by have := hBr.size; simp; omega) ?_; intro v' w3 hown' hgrow hat))
        all_goals
          have hat' := hat
          have hgs := hgrow.size
          rw [World.size_alloc] at hgs
          go_wp2
          go_roundw
          case rel =>
            refine ⟨k + 1, by omega, by go_num, by rw [hsn'.out, List.map_append]; exact hown', (hBr.drew.alloc (by have := hBr.size; simp; omega) _).grown hgrow (by have := hBr.size; simp; omega) (fun b hb => (hown.lt b hb).1), fun b h0 h1 => ?_, ?_, fun b e => ?_⟩
            · rw [hgrow.block b (by rw [World.size_alloc]; show b < wr.heap.size + 1; omega) (fun e => by rcases hob b e.symm with h | h <;> omega)]
              rw [← hkeep b h0 h1]
              exact (World.grownBy_alloc wr.drew _ none).block b (by show b < wr.heap.size; omega) (by simp)
            · have : wr.drew.heap.size = wr.heap.size := rfl
              omega
            · rcases hat' with h | h
              · exact hob b (h ▸ e)
              · rw [h] at e; injection e with e
                have : wr.drew.heap.size = wr.heap.size := rfl
                omega
          case measure => simp [intOf]; omega
      · obtain rfl : k = n := by omega
        have hki : ¬ (k : Int) < (k : Int) := by omega
        clear hread hside1
        go_wp2
        go_ret
        exact ⟨_, rfl, by simpa using hown, hBr⟩
end Go.Proofs.Ytlkcdcmmcjkedaa
