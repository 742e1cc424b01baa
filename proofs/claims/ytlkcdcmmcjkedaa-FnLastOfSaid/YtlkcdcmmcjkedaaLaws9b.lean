/-
  The walks of the laws on LastOf and SideOk.
-/
import Derived.Test.YtlkcdcmmcjkedaaLaws9
import Derived.Test.YtlkcdcmmcjkedaaImpl4
namespace Go.Proofs.Ytlkcdcmmcjkedaa
open Go.RowKit Go.BigFrame

set_option maxRecDepth 100000 in
set_option maxHeartbeats 2000000 in
theorem lawEnd (a0 : Option Addr) (len0 cap0 : Nat) (z0 : List Int) (w : World) (w0 : IsRow .u8 w a0 len0 cap0 z0) :
    Calls Try.prog 8 #[.slice a0 len0 cap0] w fun e w' => e = .returned (.bool true) ∧ Below w.heap.size w w' := by
  by_cases hbig : 1048576 < len0
  · go_enter Try.func8, Try.ntmps8
    go_wp2
    go_ret
    exact ⟨rfl, Below.refl _ _⟩
  · go_enter Try.func8, Try.ntmps8
    go_wp2_with fail
    go_at_call 37
    refine (drawLast w a0 len0 cap0 z0 w0).mono ?_
    rintro e w1 ⟨⟨v, xs, rfl, hv, hlies, hxl⟩, hB1⟩
    have hI : ∀ W, Below w1.heap.size w1 W → Calls Try.prog 38 #[v] W fun e w' => e = .returned (.int .i64 (endV xs)) ∧ Below W.heap.size W w' := fun W h => implEnd v xs W (hv.below h) hlies (by omega)
    have hS : ∀ W, Below w1.heap.size w1 W → Calls Try.prog 39 #[v] W fun e w' => e = .returned (.int .i64 (endV xs)) ∧ Below W.heap.size W w' := fun W h => specLast v xs W (hv.below h) (by omega)
    have hD1 := Below.refl w1.heap.size w1
    cases hside : sideB xs with
    | false =>
      rw [endV_no hside] at hI hS
      clear hv hlies hside
      go_wp2_with (first | (go_at_call 38; (with_reducible refine (hI _ hD1).mono ?_); rintro e w' ⟨rfl, hB'⟩; replace hD1 := hD1.trans (hB'.mono hD1.size); clear hB') | (go_at_call 39; (with_reducible refine (hS _ hD1).mono ?_); rintro e w' ⟨rfl, hB'⟩; replace hD1 := hD1.trans (hB'.mono hD1.size); clear hB') | (go_at_call 21; refine (alive_in _).mono ?_; rintro e w' ⟨rfl, hB'⟩; replace hD1 := hD1.trans (hB'.mono hD1.size); clear hB'))
      go_ret
      exact ⟨rfl, hB1.trans (hD1.mono hB1.size)⟩
    | true =>
      have hlen := sideB_len hside
      have hf := side_bit hside
      have hrl := rowsV_length hside
      have hra := rowsV_at hside (j := xs.length - 1) (by omega)
      rw [endV_yes hside] at hI hS
      have hR : ∀ W, Below w1.heap.size w1 W → Calls Try.prog 32 #[v] W fun e w' => ∃ r, e = .returned r ∧ OwnSS w' W.heap.size r (rowsV xs) ∧ Below W.heap.size W w' := fun W h => specRows v xs W (hv.below h) hlies (by omega)
      obtain ⟨g, cap, rfl, hg, hc⟩ := hv.cells hlen.1
      have hcf : ∀ i, i < xs.length → w1.cell? ⟨g, i, none⟩ = some (.int .i64 (natL xs i : Nat)) := fun i hi => by rw [hc i hi, side_get hside hi]
      clear hv hside hc hlies hxl
      generalize natL xs = f at *
      obtain ⟨n, hn⟩ : ∃ n, xs.length = n + 1 := ⟨xs.length - 1, by omega⟩
      rw [hn] at hI hS hR hlen hcf hrl hra ⊢
      rw [Nat.add_sub_cancel] at hra hI hS
      rw [show n + 1 - n = 1 by omega] at hra
      have hn12 : n ≤ 11 := by omega
      have hlast := last_left hf n
      have hL := fun W => implRowLeft (n : Nat) (2 : Nat) W
      rw [rowLV_nat (by omega) (by omega) (by omega)] at hL
      have hrn : (rowLN 2 n).length = n + 1 := rowLN_len 2 n
      have hrg : ∀ i, i < n + 1 → (rowLN 2 n).getD i 0 = ((leftN 2 n i : Nat) : Int) := fun i hi => by unfold rowLN; rw [rowLP_getD 2 n (n + 1) i hi]
      rw [hrn] at hL
      have hL' : ∀ W, Calls Try.prog 22 #[.int .i64 n, .int .i64 2] W fun e w' => ∃ v, e = .returned v ∧ w'.ownsRow W.heap.size 3 1 v (n + 1) ((rowLN 2 n).map (Value.int .i64)) ∧ Below W.heap.size W w' := hL
      have hlb : ∀ i, leftN 2 n i ≤ 1 := fun i => by have := leftN_lt (q := 2) (by omega) n i; omega
      obtain ⟨T, hT⟩ : ∃ T, st f n 0 = T := ⟨_, rfl⟩
      have hTl : T ≤ 1 := by rw [← hT]; exact st_le hf n 0
      have hra' : (rowsV xs).getD n [] = [(T : Int)] := by rw [hra]; simp [stL, hT]
      generalize rowsV xs = rows at *
      rw [hT] at hI hS hlast
      generalize rowLN 2 n = L at *
      generalize hll : leftN 2 n = l at *
      have hsb : ∀ k, sumF (fun j => l j * f j) k ≤ k := fun k => sumF_bit (fun j => by have h1 := hlb j; have h2 := hf j; have := Nat.mul_le_mul h1 h2; omega) k
      clear hL hra hn hll
      have k1 : (n : Int) + 1 - 1 = (n : Int) := by omega
      have k2 : IntKind.i64.wrap (n : Int) = (n : Int) := IntWalk.i64_in _ (by omega)
      have hTn : ¬ (T : Int) < 0 := by omega
      go_wp2_with fail
      go_at_call 38
      refine (hI _ hD1).mono ?_
      rintro e w2 ⟨rfl, b2⟩
      have hD2 := hD1.trans (b2.mono hD1.size)
      go_wp2_with fail
      go_at_call 39
      refine (hS _ hD2).mono ?_
      rintro e w3 ⟨rfl, b3⟩
      have hD3 := hD2.trans (b3.mono hD2.size)
      go_wp2_with fail
      go_at_call 32
      refine (hR _ hD3).mono ?_
      rintro e w4 ⟨r, rfl, hown4, b4⟩
      have hD4 := hD3.trans (b4.mono hD3.size)
      obtain ⟨G, cG, rfl, hG, hGr⟩ := hown4.read (by omega)
      obtain ⟨u, hu1, hu2, _⟩ := hGr n (by omega)
      rw [hra'] at hu2
      obtain ⟨gu, cu, rfl, hgu, hcu⟩ := hu2.cells (by simp)
      have hcu0 := hcu 0 (by simp)
      rw [show ([(T : Int)] : List Int).getD 0 0 = (T : Int) from rfl] at hcu0
      rw [hrl] at *
      clear hown4 hGr hu2 hcu hI hS hR b2 b3 b4 hD1 hD2 hD3 hra'
      go_wp2_with fail
      go_at_call 22
      refine (hL' _).mono ?_
      rintro e w5 ⟨v5, rfl, hown5, b5⟩
      have hD5 := hD4.trans (b5.mono hD4.size)
      obtain ⟨gl, cl, rfl, _, hgl, _, hcl⟩ := owns_open hown5 (by omega)
      have hcl' : ∀ i, i < n + 1 → w5.cell? ⟨gl, i, none⟩ = some (.int .i64 (l i : Nat)) := fun i hi => hcl i _ (by rw [List.getElem?_map, ← hrg i hi, List.getD, List.getElem?_eq_getElem (by omega)]; rfl)
      have hu5 : w5.cell? ⟨G, n, none⟩ = _ := (b5.cell (p := ⟨G, n, none⟩) hG).trans hu1
      have hc5 : w5.cell? ⟨gu, 0, none⟩ = _ := (b5.cell (p := ⟨gu, 0, none⟩) hgu).trans hcu0
      have hG5 : G < w5.heap.size := Nat.lt_of_lt_of_le hG b5.size
      have hgu5 : gu < w5.heap.size := Nat.lt_of_lt_of_le hgu b5.size
      have hcf5 : ∀ i, i < n + 1 → w5.cell? ⟨g, i, none⟩ = some (.int .i64 (f i : Nat)) := fun i hi => (hD5.cell (p := ⟨g, i, none⟩) hg).trans (hcf i hi)
      have hg5 : g < w5.heap.size := Nat.lt_of_lt_of_le hg hD5.size
      clear hL' hcl hrg hown5 hu1 hcu0 hcf hrn b5 hD4 hlb
      go_wp2
      go_loopw [7, 8] (fun o i wr => ∃ k : Nat, k ≤ n + 1 ∧ i = .int .i64 k ∧ o = .int .i64 (sumF (fun j => l j * f j) k : Nat) ∧ Below w5.heap.size w5 wr) (fun _ i _ => n + 1 - (intOf i).toNat)
      case atStart => exact ⟨0, by omega, rfl, rfl, Below.refl _ _⟩
      case round =>
        obtain ⟨k, hk, rfl, rfl, hB⟩ := hrel
        have hsk := hsb k
        by_cases hlt : k < n + 1
        · have hss : sumF (fun j => l j * f j) (k + 1) = sumF (fun j => l j * f j) k + l k * f k := rfl
          have q1 : ∀ m : After w5, m.now.cell? ⟨gl, k, none⟩ = some (.int .i64 (l k : Nat)) := fun m => (m.ok.cell (p := ⟨gl, k, none⟩) hgl).trans (hcl' k hlt)
          have q2 : ∀ m : After w5, m.now.cell? ⟨g, k, none⟩ = some (.int .i64 (f k : Nat)) := fun m => (m.ok.cell (p := ⟨g, k, none⟩) hg5).trans (hcf5 k hlt)
          have hsk1 := hsb (k + 1)
          rw [hss] at hsk1
          have hss' := hide hss
          have hki : (k : Int) < (n : Int) + 1 := by omega
          have hfk := hf k
          clear hss hsb hcf5 hcl' hf hlast hu5 hc5
          generalize f k = z at *
          generalize l k = y at *
          generalize sumF (fun j => l j * f j) k = s at *
          obtain ⟨p, hp⟩ : ∃ p, y * z = p := ⟨_, rfl⟩
          have hpi : (y : Int) * (z : Int) = (p : Int) := by rw [← hp]; simp
          rw [hp] at hsk1 hss'
          have j1 : IntKind.i64.wrap (p : Int) = (p : Int) := IntWalk.i64_in _ (by omega)
          have j2 : IntKind.i64.wrap ((s : Int) + (p : Int)) = (s : Int) + (p : Int) := IntWalk.i64_in _ (by omega)
          clear hp
          go_wp2
          refine wp_region_below w5 (by kernel_rfl) (by kernel_rfl) hB ?_
          repeat (go_big_quiet_step (fail))
          refine wpQuiet_nil ?_
          rintro _ ⟨nq, rfl⟩
          clear q1 q2
          go_wp2
          go_roundw
          case rel => exact ⟨k + 1, by omega, by go_num, by rw [hss'.out]; go_num, nq.ok⟩
          case measure => simp [intOf]; omega
        · obtain rfl : k = n + 1 := by omega
          have hq := tmod_nat' (sumF (fun j => l j * f j) (n + 1)) 2
          rw [← hlast] at hq
          have hq' : Int.tmod ((sumF (fun j => l j * f j) (n + 1) : Nat) : Int) 2 = (T : Int) := hq
          have c1 : wr.cell? ⟨G, n, none⟩ = _ := (hB.cell (p := ⟨G, n, none⟩) hG5).trans hu5
          have c2 : wr.cell? ⟨gu, 0, none⟩ = _ := (hB.cell (p := ⟨gu, 0, none⟩) hgu5).trans hc5
          have hki : ¬ (n : Int) + 1 < (n : Int) + 1 := by omega
          have j1 : IntKind.i64.wrap (T : Int) = (T : Int) := IntWalk.i64_in _ (by omega)
          clear hq hsb hcf5 hcl' hf hlast hu5 hc5
          generalize sumF (fun j => l j * f j) (n + 1) = s at *
          go_wp2
          go_ret
          exact ⟨rfl, hB1.trans ((hD5.trans (hB.mono hD5.size)).mono hB1.size)⟩
end Go.Proofs.Ytlkcdcmmcjkedaa
