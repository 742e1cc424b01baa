/-
  Contracts of the laws' own helpers over rows of strings: sameTexts, eqStringS, markText, markStringS, heldStringS.
-/
import Derived.Test.YtghfmoanpgaijaaStrKit
import Derived.Test.YtghfmoanpgaijaaLawKit
import Derived.Test.YtghfmoanpgaijaaQuietBelow
import Derived.Laws.BytesString
namespace Go.Proofs.Ytghfmoanpgaijaa
open Go Go.RowKit

set_option maxHeartbeats 400000 in
theorem eqStringS_in (v u : Value) (L : List (List Nat)) (w : World) (hn : L.length ≤ 1000000) (hv : Texts w v L) (hu : Texts w u L) :
    Calls Try.prog 17 #[v, u] w fun e w' => e = .returned (.bool true) ∧ Below w.heap.size w w' := by
  obtain ⟨a, cap, rfl, hc⟩ := hv
  obtain ⟨b, cap2, rfl, hd⟩ := hu
  go_enter Try.func17, Try.ntmps17
  go_wp2
  go_loopw [5] (fun i wr => ∃ k : Nat, k ≤ L.length ∧ i = .int .i64 k ∧ Below w.heap.size w wr) (fun i _ => L.length - (intOf i).toNat)
  case atStart => exact ⟨0, Nat.zero_le _, rfl, Below.refl _ _⟩
  case round =>
    obtain ⟨k, hk, rfl, hB⟩ := hrel
    by_cases hlt : k < L.length
    · obtain ⟨g, rfl, hg, hcc⟩ := hc (by omega)
      obtain ⟨g2, rfl, hg2, hdd⟩ := hd (by omega)
      have h1 := (hB.cell (p := ⟨g, k, none⟩) (by exact hg)).trans (hcc k _ (List.getElem?_eq_getElem hlt))
      have h2 := (hB.cell (p := ⟨g2, k, none⟩) (by exact hg2)).trans (hdd k _ (List.getElem?_eq_getElem hlt))
      unfold txt at h1 h2
      generalize str L[k] = Z at *
      clear hc hd hcc hdd
      go_wp2
      go_region
      all_goals
        go_wp2
        go_roundw
        case rel => exact ⟨k + 1, by omega, by go_num, hB.drew⟩
        case measure => simp [intOf]; omega
    · obtain rfl : k = L.length := by omega
      clear hc hd
      go_wp2
      go_ret
      exact ⟨rfl, hB⟩

/-- The digits of a number, with as many rounds as f. -/
def digF : Nat → Nat → List Nat
  | 0, _ => []
  | f + 1, k => if k = 0 then [] else digF f (k / 10) ++ [48 + k % 10]
theorem digF_zero (f : Nat) : digF f 0 = [] := by cases f <;> rfl
theorem digF_len : ∀ f k, (digF f k).length ≤ f
  | 0, _ => Nat.le_refl _
  | f + 1, k => by
    unfold digF
    split
    · exact Nat.zero_le _
    · have := digF_len f (k / 10); simp; omega
def markT (k : Nat) : ByteArray := str (109 :: digF 20 k)
theorem markT_size (k : Nat) : (markT k).size ≤ 21 := by unfold markT; rw [str_size]; have := digF_len 20 k; simp; omega

set_option maxHeartbeats 1000000 in
theorem markText_in (k : Nat) (h1 : 1 ≤ k) (hk : k ≤ 1000000000) (w : World) : Calls Try.prog 31 #[.int .i64 k] w fun e w' => e = .returned (.string (markT k)) ∧ Below w.heap.size w w' := by
  have hconv : ∀ (x : Nat) (w : World), (convert 22 9 (.slice (some ⟨w.heap.size, 0, none⟩) 1 1)).run Try.prog (w.alloc (.cells #[.int .u8 x] 5)) = .ok (.string (str [x])) (w.alloc (.cells #[.int .u8 x] 5)) := fun x w => by
    rw [run_convert_bytes_string _ _ _ 5 _ _ _ Try.underlying22 Try.underlying5 Try.underlying9]
    rw [run_bytesToString _ ⟨w.heap.size, 0, none⟩ 1 1 [(x : Int)] (run_loadCells_list _ ⟨w.heap.size, 0, none⟩ [.int .u8 x] (cell_one_new _ _ _))]
    rfl
  obtain ⟨R, hR⟩ : ∃ R, markT k = R := ⟨_, rfl⟩
  have hR' := hide hR
  rw [hR]
  clear hR
  have hk0 : ¬ (k : Int) ≤ 0 := by omega
  have hB0 := Below.refl w.heap.size w
  go_enter Try.func31, Try.ntmps31
  go_wp2
  go_loopw [0, 3] (fun a s wr => ∃ (f q : Nat) (d : List Nat), a = .int .i64 q ∧ s = .string (str d) ∧ q ≤ 1000000000 ∧ q < 10 ^ f ∧ d.length + f ≤ 20 ∧ Hid (digF f q ++ d = digF 20 k) ∧ Below w.heap.size w wr) (fun a _ _ => (intOf a).toNat)
  case atStart => exact ⟨20, k, [], rfl, rfl, hk, by omega, by simp, hide (by simp), hB0⟩
  case round =>
    obtain ⟨f, q, d, rfl, rfl, hq, hqf, hdf, hd, hB⟩ := hrel
    by_cases h0 : 0 < q
    · obtain ⟨f, rfl⟩ : ∃ g, f = g + 1 := ⟨f - 1, by
        rcases f with _ | f
        · simp at hqf; omega
        · omega⟩
      have hd2 := hd.out
      rw [show digF (f + 1) q = digF f (q / 10) ++ [48 + q % 10] by show (if q = 0 then [] else _) = _; rw [if_neg (by omega)]] at hd2
      rw [List.append_assoc] at hd2
      have hq1 : Int.tmod (q : Int) 10 = ((q % 10 : Nat) : Int) := tmod_n q 10
      have hq2 : Int.tdiv (q : Int) 10 = ((q / 10 : Nat) : Int) := tdiv_n q 10
      have hqd : q / 10 < 10 ^ f := by rw [Nat.div_lt_iff_lt_mul (by decide)]; rwa [Nat.pow_succ] at hqf
      have hr := Nat.mod_lt q (show 0 < 10 by decide)
      have hql : q / 10 < q := by omega
      have hsd := str_size d
      have hs1 := str_size [48 + q % 10]
      have happ := str_app [48 + q % 10] d
      generalize q / 10 = p at *
      generalize q % 10 = r at *
      obtain ⟨Z, hZ⟩ : ∃ Z, str d = Z := ⟨_, rfl⟩
      obtain ⟨Y, hY⟩ : ∃ Y, str [48 + r] = Y := ⟨_, rfl⟩
      rw [hZ] at hsd happ ⊢
      have hcv := fun w => hconv (48 + r) w
      rw [hY] at hcv hs1 happ
      have hzs : Z.size ≤ 100 := by omega
      have hys : Y.size ≤ 100 := by simp at hs1; omega
      obtain ⟨X, hX⟩ : ∃ X, str ([48 + r] ++ d) = X := ⟨_, rfl⟩
      rw [hX] at happ
      have hcast : ((48 + r : Nat) : Int) = 48 + (r : Int) := by omega
      simp only [hcast] at hcv
      have hw1 : IntKind.i64.wrap (r : Int) = r := IntWalk.i64_in _ (by omega)
      have hw2 : IntKind.u8.wrap (48 + (r : Int)) = 48 + (r : Int) := IntWalk.u8_in _ (by omega)
      have hw3 : IntKind.i64.wrap (p : Int) = p := IntWalk.i64_in _ (by omega)
      have hX' := hide hX
      have hd3 := hide hd2
      clear hd hd2 hconv hX hZ hY hs1 hsd hcast
      go_wp2
      go_roundw
      case rel => exact ⟨f, p, [48 + r] ++ d, rfl, by rw [hX'.out], by omega, hqd, by simp; omega, hd3, hB.alloc hB.size _⟩
      case measure => simp [intOf]; omega
    · obtain rfl : q = 0 := by omega
      have hd2 := hd.out
      rw [digF_zero, List.nil_append] at hd2
      have hsd := str_size d
      have hfin : (⟨#[109]⟩ : ByteArray) ++ str d = R := by rw [← hR'.out]; unfold markT; rw [← hd2]; exact str_app [109] d
      obtain ⟨Z, hZ⟩ : ∃ Z, str d = Z := ⟨_, rfl⟩
      rw [hZ] at hsd hfin ⊢
      have hzs : Z.size ≤ 100 := by omega
      clear hd hd2 hconv hZ hsd
      go_wp2
      go_ret
      exact ⟨rfl, hB⟩

/-- A block of strings, known whole. -/
def TextAt (w : World) (g N : Nat) (f : Nat → ByteArray) : Prop :=
  ∃ cur : Array Value, w.heap[g]? = some (.cells cur 9 (0, 0)) ∧ N ≤ cur.size ∧ ∀ i, i < N → cur[i]? = some (.string (f i))
theorem TextAt.lt {w : World} {g N : Nat} {f : Nat → ByteArray} (h : TextAt w g N f) : g < w.heap.size := by
  obtain ⟨cur, h1, _⟩ := h; exact (Array.getElem?_eq_some_iff.1 h1).1
theorem TextAt.cell {w : World} {g N : Nat} {f : Nat → ByteArray} (h : TextAt w g N f) {i : Nat} (hi : i < N) : w.cell? ⟨g, i, none⟩ = some (.string (f i)) := by
  obtain ⟨cur, h1, h2, h3⟩ := h
  rw [cell_of_row w g i cur 9 (0, 0) h1]; exact h3 i hi
theorem TextAt.frozen {w : World} {g N : Nat} {f : Nat → ByteArray} (h : TextAt w g N f) (i : Nat) : w.frozen? ⟨g, i, none⟩ = false := by
  obtain ⟨cur, h1, _⟩ := h
  simp [World.frozen?, h1]
theorem TextAt.congr {w : World} {g N : Nat} {f f' : Nat → ByteArray} (h : TextAt w g N f) (he : ∀ i, i < N → f i = f' i) : TextAt w g N f' := by
  obtain ⟨cur, h1, h2, h3⟩ := h
  exact ⟨cur, h1, h2, fun i hi => by rw [← he i hi]; exact h3 i hi⟩
theorem TextAt.set {w : World} {g N : Nat} {f : Nat → ByteArray} (h : TextAt w g N f) {p : Nat} (z : ByteArray) : TextAt (w.setCell ⟨g, p, none⟩ (.string z)) g N (fun i => if i = p then z else f i) := by
  obtain ⟨cur, h1, h2, h3⟩ := h
  obtain ⟨hlt, hk⟩ := Array.getElem?_eq_some_iff.1 h1
  have h2' : ∀ i, i < N → i < cur.size := fun i hi => Nat.lt_of_lt_of_le hi h2
  refine ⟨cur.setIfInBounds p (.string z), ?_, by simpa using h2, fun i hi => ?_⟩
  · show (w.heap.modify g _)[g]? = _
    rw [Array.getElem?_eq_getElem (by rw [Array.size_modify]; exact hlt), Array.getElem_modify_self, hk]; rfl
  · rw [Array.getElem?_setIfInBounds]
    by_cases e : p = i
    · subst e; simp [h2' _ hi]
    · rw [if_neg e, h3 i hi]; simp only []; rw [if_neg (fun h : i = p => e h.symm)]
theorem TextAt.of_block {w w' : World} {g N : Nat} {f : Nat → ByteArray} (h : TextAt w g N f) (hb : w'.heap[g]? = w.heap[g]?) : TextAt w' g N f := by
  obtain ⟨cur, h1, h2, h3⟩ := h
  exact ⟨cur, hb.trans h1, h2, h3⟩
theorem TextAt.of_owns {w : World} {base : Nat} {v : Value} {L : List (List Nat)} (h : w.ownsRow base 9 1 v L.length (L.map txt)) (hn : 0 < L.length) :
    ∃ g cap, v = .slice (some ⟨g, 0, none⟩) L.length cap ∧ base ≤ g ∧ TextAt w g L.length (fun i => str (L.getD i [])) := by
  rcases h.2 with ⟨_, h0⟩ | ⟨g, cap, cur, rfl, hb, hgb, hc, _, hs, ht⟩
  · omega
  · refine ⟨g, cap, rfl, hb, cur, hgb, by omega, fun i hi => ?_⟩
    have h1 : (cur.toList.take (L.length * 1))[i]? = some (.string (str (L.getD i []))) := by
      rw [ht, List.getElem?_map, List.getElem?_eq_getElem hi]; simp [List.getD, txt, hi]
    rw [List.getElem?_take, if_pos (by omega)] at h1
    rw [← Array.getElem?_toList]; exact h1
theorem grownBy_more {w a b : World} {row : Option Nat} (h : w.grownBy a row) (hB : Below a.heap.size a b) : w.grownBy b row :=
  ⟨hB.os.trans h.os, hB.tape.trans h.tape, hB.output.trans h.output, Nat.le_trans h.size hB.size, fun k hk hr => (hB.block k (Nat.lt_of_lt_of_le hk h.size)).trans (h.block k hk hr)⟩
theorem Texts.grown {w w' : World} {v : Value} {L : List (List Nat)} {g : Nat} (h : Texts w v L) (hg : w.grownBy w' (some g)) (hne : v.ownBlock ≠ some g) : Texts w' v L := by
  obtain ⟨a, cap, rfl, hc⟩ := h
  refine ⟨a, cap, rfl, fun h0 => ?_⟩
  obtain ⟨b, rfl, hb, hcc⟩ := hc h0
  have hbg : some b ≠ some g := by simpa [Value.ownBlock] using hne
  exact ⟨b, rfl, Nat.lt_of_lt_of_le hb hg.size, fun j l hj => hg.cell (hcc j l hj) (by exact hbg)⟩

set_option maxHeartbeats 1000000 in
/-- markStringS: it writes marks into the cells, and hands back the next number. -/
theorem markTexts_in (g cap n : Nat) (f : Nat → ByteArray) (w : World) (hn : n ≤ 1000000) (hr : TextAt w g n f) (m : Nat) (hm1 : 1 ≤ m) (hm : m ≤ 1000000) :
    Calls Try.prog 18 #[.slice (some ⟨g, 0, none⟩) n cap, .int .i64 m] w fun e w' => e = .returned (.int .i64 ((m + n : Nat) : Int)) ∧ TextAt w' g n (fun i => markT (m + i)) ∧ w.grownBy w' (some g) := by
  go_enter Try.func18, Try.ntmps18
  go_wp2
  go_loopw [1, 5] (fun q i wr => ∃ k : Nat, k ≤ n ∧ i = .int .i64 k ∧ q = .int .i64 ((m : Int) + k) ∧ TextAt wr g n (fun i => if i < k then markT (m + i) else f i) ∧ w.grownBy wr (some g)) (fun _ i _ => n - (intOf i).toNat)
  case atStart => exact ⟨0, Nat.zero_le _, rfl, by simp, hr.congr (fun i _ => by rw [if_neg (by omega)]), grownBy_refl _ _⟩
  case round =>
    obtain ⟨k, hk, rfl, rfl, hrow, hg⟩ := hrel
    by_cases hlt : k < n
    · have hM : ∀ w : World, Calls Try.prog 31 #[.int .i64 ((m : Int) + k)] w fun e w' => e = .returned (.string (markT (m + k))) ∧ Below w.heap.size w w' := fun w => by
        have h := markText_in (m + k) (by omega) (by omega) w
        rwa [show ((m + k : Nat) : Int) = (m : Int) + k by omega] at h
      obtain ⟨Z, hZ⟩ : ∃ Z, markT (m + k) = Z := ⟨_, rfl⟩
      rw [hZ] at hM
      have hZ' := hide hZ
      have hki : (k : Int) < (n : Int) := by omega
      clear hZ hr
      go_wp2_with (go_at_call 31; (with_reducible refine (hM _).mono ?_); rintro e w2 ⟨rfl, hB2⟩; have hrow2 := hrow.of_block (hB2.block g hrow.lt); have hc := hrow2.cell (i := k) hlt; have hf := hrow2.frozen k)
      go_roundw
      case rel =>
        refine ⟨k + 1, by omega, by go_num, by go_num, ((hrow2.set (p := k) Z).congr fun i hi => ?_), grownBy_set (grownBy_more hg hB2) _ _⟩
        by_cases e : i = k
        · subst e; rw [if_pos rfl, if_pos (by omega), hZ'.out]
        · rw [if_neg e]
          by_cases e2 : i < k
          · rw [if_pos e2, if_pos (by omega)]
          · rw [if_neg e2, if_neg (by omega)]
      case measure => simp [intOf]; omega
    · obtain rfl : k = n := by omega
      have hki : ¬ (k : Int) < (k : Int) := by omega
      go_wp2
      go_ret
      exact ⟨ret_int (by omega), hrow.congr (fun i hi => by rw [if_pos hi]), hg⟩

set_option maxHeartbeats 1000000 in
/-- heldStringS: where the cells hold the marks it hands back the next number. -/
theorem heldTexts_in (g cap n : Nat) (w : World) (hn : n ≤ 1000000) (m : Nat) (hm1 : 1 ≤ m) (hm : m ≤ 1000000) (hr : TextAt w g n (fun i => markT (m + i))) :
    Calls Try.prog 19 #[.slice (some ⟨g, 0, none⟩) n cap, .int .i64 m] w fun e w' => e = .returned (.int .i64 ((m + n : Nat) : Int)) ∧ Below w.heap.size w w' := by
  have hB0 := Below.refl w.heap.size w
  go_enter Try.func19, Try.ntmps19
  go_wp2
  go_loopw [1, 5] (fun q i wr => ∃ k : Nat, k ≤ n ∧ i = .int .i64 k ∧ q = .int .i64 ((m : Int) + k) ∧ Below w.heap.size w wr) (fun _ i _ => n - (intOf i).toNat)
  case atStart => exact ⟨0, Nat.zero_le _, rfl, by simp, hB0⟩
  case round =>
    obtain ⟨k, hk, rfl, rfl, hB⟩ := hrel
    by_cases hlt : k < n
    · have hM : ∀ w : World, Calls Try.prog 31 #[.int .i64 ((m : Int) + k)] w fun e w' => e = .returned (.string (markT (m + k))) ∧ Below w.heap.size w w' := fun w => by
        have h := markText_in (m + k) (by omega) (by omega) w
        rwa [show ((m + k : Nat) : Int) = (m : Int) + k by omega] at h
      have hc1 := fun q : After w => (hr.of_block (q.ok.block g hr.lt)).cell (i := k) hlt
      obtain ⟨Z, hZ⟩ : ∃ Z, markT (m + k) = Z := ⟨_, rfl⟩
      simp only [hZ] at hM hc1
      have hki : (k : Int) < (n : Int) := by omega
      clear hZ hr
      go_wp2
      refine wp_region_below w (by kernel_rfl) (by kernel_rfl) hB ?_
      repeat (go_big_quiet_step ((go_at_call 31; with_reducible exact after_of (hM _))))
      refine wpQuiet_nil ?_
      rintro _ ⟨nq, rfl⟩
      clear hc1 hM
      go_wp2
      go_roundw
      case rel => exact ⟨k + 1, by omega, by go_num, by go_num, nq.ok⟩
      case measure => simp [intOf]; omega
    · obtain rfl : k = n := by omega
      have hki : ¬ (k : Int) < (k : Int) := by omega
      go_wp2
      go_ret
      exact ⟨ret_int (by omega), hB⟩
end Go.Proofs.Ytghfmoanpgaijaa
