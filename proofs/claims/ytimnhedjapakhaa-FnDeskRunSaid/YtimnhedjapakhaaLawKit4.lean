/-
  The laws' helpers over rows of rows: eqIntSS, sameRows, markIntSS, heldIntSS.
-/
import Derived.Test.YtimnhedjapakhaaSpecZ
import Derived.Test.YtimnhedjapakhaaBaseZ
namespace Go.Proofs.Ytimnhedjapakhaa
open Go.RowKit Go.BigFrame

set_option maxRecDepth 100000 in
set_option maxHeartbeats 1000000 in
theorem eqSS_in (v u : Value) (rows : List (List Int)) (w : World) (hn : rows.length ≤ 1000000) (hlen : ∀ j, j < rows.length → (rows.getD j []).length ≤ 1000000) (hv : RowsI w v rows) (hu : RowsI w u rows) :
    Calls Try.prog 55 #[v, u] w fun e w' => e = .returned (.bool true) ∧ Below w.heap.size w w' := by
  obtain ⟨a, c, rfl, hv⟩ := hv
  obtain ⟨a', c', rfl, hu⟩ := hu
  obtain ⟨n, hn'⟩ : ∃ n, rows.length = n := ⟨_, rfl⟩
  rw [hn'] at hn hlen hv hu ⊢
  clear hn'
  go_enter Try.func55, Try.ntmps55
  go_wp2
  go_loopw [5] (fun i wr => ∃ k : Nat, k ≤ n ∧ i = .int .i64 k ∧ Below w.heap.size w wr) (fun i _ => n - (intOf i).toNat)
  case atStart => exact ⟨0, Nat.zero_le _, rfl, Below.refl _ _⟩
  case round =>
    obtain ⟨k, hk, rfl, hB⟩ := hrel
    by_cases hlt : k < n
    · obtain ⟨G, rfl, hG, hr⟩ := hv (by omega)
      obtain ⟨G', rfl, hG', hr'⟩ := hu (by omega)
      obtain ⟨x, hx1, hx2⟩ := hr k hlt
      obtain ⟨y, hy1, hy2⟩ := hr' k hlt
      have hlk := hlen k hlt
      have h3 : ∀ m : After w, Calls Try.prog 54 #[x, y] m.now fun e w' => e = .returned (.bool true) ∧ Below m.now.heap.size m.now w' := fun m => eqIntS_in x y _ m.now (by omega) (hx2.below m.ok) (hy2.below m.ok)
      obtain ⟨ax, cx, rfl⟩ := hx2.shape
      obtain ⟨ay, cy, rfl⟩ := hy2.shape
      have h1 : ∀ m : After w, m.now.cell? ⟨G, k, none⟩ = some (.slice ax (rows.getD k []).length cx) := fun m => (m.ok.cell (p := ⟨G, k, none⟩) hG).trans hx1
      have h2 : ∀ m : After w, m.now.cell? ⟨G', k, none⟩ = some (.slice ay (rows.getD k []).length cy) := fun m => (m.ok.cell (p := ⟨G', k, none⟩) hG').trans hy1
      have hki : (k : Int) < (n : Int) := by omega
      generalize (rows.getD k []).length = l at *
      clear hr hr' hx1 hx2 hy1 hy2 hlen hv hu
      go_wp2
      refine wp_region_below w (by kernel_rfl) (by kernel_rfl) hB ?_
      repeat (go_big_quiet_step ((go_at_call 54; with_reducible exact after_of (h3 _))))
      refine wpQuiet_nil ?_
      rintro _ ⟨nq, rfl⟩
      clear h1 h2 h3
      go_wp2
      go_roundw
      case rel => exact ⟨k + 1, by omega, by go_num, nq.ok⟩
      case measure => simp [intOf]; omega
    · obtain rfl : k = n := by omega
      clear hv hu hlen
      go_wp2
      go_ret
      exact ⟨rfl, hB⟩

set_option maxRecDepth 100000 in
set_option maxHeartbeats 1000000 in
theorem sameRows_in (v u : Value) (rows : List (List Int)) (w : World) (hn : rows.length ≤ 1000000) (hlen : ∀ j, j < rows.length → (rows.getD j []).length ≤ 1000000) (hv : RowsI w v rows) (hu : RowsI w u rows) :
    Calls Try.prog 45 #[v, u] w fun e w' => e = .returned (.bool true) ∧ Below w.heap.size w w' := by
  obtain ⟨a, c, rfl, hv⟩ := hv
  obtain ⟨a', c', rfl, hu⟩ := hu
  obtain ⟨n, hn'⟩ : ∃ n, rows.length = n := ⟨_, rfl⟩
  rw [hn'] at hn hlen hv hu ⊢
  clear hn'
  go_enter Try.func45, Try.ntmps45
  go_wp2
  go_loopw [5] (fun i wr => ∃ k : Nat, k ≤ n ∧ i = .int .i64 k ∧ Below w.heap.size w wr) (fun i _ => n - (intOf i).toNat)
  case atStart => exact ⟨0, Nat.zero_le _, rfl, Below.refl _ _⟩
  case round =>
    obtain ⟨k, hk, rfl, hB⟩ := hrel
    by_cases hlt : k < n
    · obtain ⟨G, rfl, hG, hr⟩ := hv (by omega)
      obtain ⟨G', rfl, hG', hr'⟩ := hu (by omega)
      obtain ⟨x, hx1, hx2⟩ := hr k hlt
      obtain ⟨y, hy1, hy2⟩ := hr' k hlt
      have hlk := hlen k hlt
      have h3 : ∀ m : After w, Calls Try.prog 44 #[x, y] m.now fun e w' => e = .returned (.bool true) ∧ Below m.now.heap.size m.now w' := fun m => sameInts_in x y _ m.now (by omega) (hx2.below m.ok) (hy2.below m.ok)
      obtain ⟨ax, cx, rfl⟩ := hx2.shape
      obtain ⟨ay, cy, rfl⟩ := hy2.shape
      have h1 : ∀ m : After w, m.now.cell? ⟨G, k, none⟩ = some (.slice ax (rows.getD k []).length cx) := fun m => (m.ok.cell (p := ⟨G, k, none⟩) hG).trans hx1
      have h2 : ∀ m : After w, m.now.cell? ⟨G', k, none⟩ = some (.slice ay (rows.getD k []).length cy) := fun m => (m.ok.cell (p := ⟨G', k, none⟩) hG').trans hy1
      have hki : (k : Int) < (n : Int) := by omega
      generalize (rows.getD k []).length = l at *
      clear hr hr' hx1 hx2 hy1 hy2 hlen hv hu
      go_wp2
      refine wp_region_below w (by kernel_rfl) (by kernel_rfl) hB ?_
      repeat (go_big_quiet_step ((go_at_call 44; with_reducible exact after_of (h3 _))))
      refine wpQuiet_nil ?_
      rintro _ ⟨nq, rfl⟩
      clear h1 h2 h3
      go_wp2
      go_roundw
      case rel => exact ⟨k + 1, by omega, by go_num, nq.ok⟩
      case measure => simp [intOf]; omega
    · obtain rfl : k = n := by omega
      clear hv hu hlen
      go_wp2
      go_ret
      exact ⟨rfl, hB⟩

def accN (L : Nat → Nat) : Nat → Nat
  | 0 => 0
  | k + 1 => accN L k + L k
theorem accN_le {L : Nat → Nat} {n c : Nat} (h : ∀ j, j < n → L j ≤ c) : ∀ k, k ≤ n → accN L k ≤ k * c
  | 0, _ => by simp [accN]
  | k + 1, hk => by
    have h1 := accN_le h k (by omega)
    have h2 := h k (by omega)
    rw [Nat.succ_mul]; show accN L k + L k ≤ _; omega

set_option maxHeartbeats 1000000 in
theorem markSS_in {W : World} {base lim n : Nat} {v : Value} {L : Nat → Nat} {F : Nat → Nat → Int} (h : OwnG W base lim v n L F) (hL : ∀ j, j < n → L j ≤ 100) (hn : n ≤ 100) (m : Nat) (hm : m ≤ 1000) :
    Calls Try.prog 57 #[v, .int .i64 m] W fun e w' => e = .returned (.int .i64 ((m + accN L n : Nat) : Int)) ∧ OwnG w' base lim v n L (fun j i => ((m + accN L j + i : Nat) : Int)) ∧ Between base lim W w' := by
  rcases h with ⟨rfl, a, c, rfl⟩ | ⟨G, cap, b, cb, rfl, hg⟩
  · go_enter Try.func57, Try.ntmps57
    go_wp2
    refine wp_loop_rounds 1 ?_
    rw [rounds_succ]
    go_wp2
    go_ret
    exact ⟨rfl, .inl ⟨rfl, _, _, rfl⟩, Between.refl _ _ _⟩
  · have hacc := accN_le hL
    have hstep : ∀ k, accN L (k + 1) = accN L k + L k := fun k => rfl
    go_enter Try.func57, Try.ntmps57
    go_wp2
    go_loopw [1, 5] (fun q i wr => ∃ k : Nat, k ≤ n ∧ i = .int .i64 k ∧ q = .int .i64 ((m + accN L k : Nat) : Int) ∧ Grid wr base lim G n b cb L (fun j i => if j < k then ((m + accN L j + i : Nat) : Int) else F j i) ∧ Between base lim W wr) (fun _ i _ => n - (intOf i).toNat)
    case atStart => exact ⟨0, Nat.zero_le _, rfl, rfl, by simpa using hg, Between.refl _ _ _⟩
    case round =>
      clear hg
      obtain ⟨k, hk, rfl, rfl, hgr, hbt⟩ := hrel
      by_cases hlt : k < n
      · have hat := hgr.at_ k hlt
        have hrow := hgr.row k hlt
        have hLk := hL k hlt
        have hak := hacc k hk
        have hM := mark_in (b k) (cb k) (List.replicate (L k) 0) (L k) _ wr (by simp; omega) (by simp) hrow (m + accN L k) (by omega)
        simp only [List.length_replicate] at hM
        have hrb := hgr.rb k hlt
        have hki : (k : Int) < (n : Int) := by omega
        have hsk := hide (hstep k)
        have hGs := hgr.gb
        clear hacc hstep hL hrow
        obtain ⟨A, hA⟩ : ∃ A, m + accN L k = A := ⟨_, rfl⟩
        rw [hA] at hM ⊢
        go_wp2_with (go_at_call 56; (with_reducible refine hM.mono ?_); clear hM; rintro e w2 ⟨rfl, hr2, hg2⟩)
        go_roundw
        case rel =>
          refine ⟨k + 1, by omega, by go_num, by rw [hsk.out, ← Nat.add_assoc, hA, Int.natCast_add], ?_, hbt.grown hg2 (fun j e => by cases e; omega)⟩
          refine hgr.set hlt hg2 (hr2.congr fun i hi => ?_) (fun j hj => ?_)
          · rw [if_pos hi, if_pos (by omega), hA]
          · funext i
            by_cases e : j < k
            · rw [if_pos e, if_pos (by omega)]
            · rw [if_neg e, if_neg (by omega)]
        case measure => simp [intOf]; omega
      · obtain rfl : k = n := by omega
        clear hacc hstep hL
        go_wp2
        go_ret
        refine ⟨rfl, .inr ⟨G, cap, b, cb, rfl, ⟨hgr.gb, hgr.at_, hgr.rb, fun j hj => (hgr.row j hj).congr fun i _ => by rw [if_pos hj], hgr.ne⟩⟩, hbt⟩

set_option maxHeartbeats 1000000 in
theorem heldSS_in {W : World} {base lim n : Nat} {v : Value} {L : Nat → Nat} (m : Nat) (h : OwnG W base lim v n L (fun j i => ((m + accN L j + i : Nat) : Int))) (hL : ∀ j, j < n → L j ≤ 100) (hn : n ≤ 100) (hm : m ≤ 1000) :
    Calls Try.prog 59 #[v, .int .i64 m] W fun e w' => e = .returned (.int .i64 ((m + accN L n : Nat) : Int)) ∧ W = w' := by
  rcases h with ⟨rfl, a, c, rfl⟩ | ⟨G, cap, b, cb, rfl, hg⟩
  · go_enter Try.func59, Try.ntmps59
    go_wp2
    refine wp_loop_rounds 1 ?_
    rw [rounds_succ]
    go_wp2
    go_ret
    exact ⟨rfl, rfl⟩
  · have hacc := accN_le hL
    have hstep : ∀ k, accN L (k + 1) = accN L k + L k := fun k => rfl
    go_enter Try.func59, Try.ntmps59
    go_wp2
    go_loop [1, 5] (fun q i => ∃ k : Nat, k ≤ n ∧ i = .int .i64 k ∧ q = .int .i64 ((m + accN L k : Nat) : Int)) (fun _ i => n - (intOf i).toNat)
    case atStart => exact ⟨0, Nat.zero_le _, rfl, rfl⟩
    case round =>
      obtain ⟨k, hk, rfl, rfl⟩ := hrel
      by_cases hlt : k < n
      · have hat := hg.at_ k hlt
        have hrow := hg.row k hlt
        have hLk := hL k hlt
        have hak := hacc k hk
        have hM := held_in (b k) (cb k) (L k) W (by omega) (m + accN L k) (by omega) (fun i hi => hrow.cell hi)
        have hki : (k : Int) < (n : Int) := by omega
        have hsk := hide (hstep k)
        clear hacc hstep hL hrow hg
        obtain ⟨A, hA⟩ : ∃ A, m + accN L k = A := ⟨_, rfl⟩
        rw [hA] at hM ⊢
        have hneg : ¬ ((A + L k : Nat) : Int) < 0 := by omega
        go_wp2_with (go_at_call 58; (with_reducible refine hM.mono ?_); clear hM; rintro e w2 ⟨rfl, rfl⟩)
        go_round
        case rel => exact ⟨k + 1, by omega, by go_num, by rw [hsk.out, ← Nat.add_assoc, hA, Int.natCast_add]⟩
        case measure => simp [intOf]; omega
      · obtain rfl : k = n := by omega
        clear hacc hstep hL hg
        go_wp2
        go_ret
        exact ⟨rfl, rfl⟩

/-- The model's rows: they read as rows, and lie below a mark. -/
def RowsB (W : World) (lim : Nat) (v : Value) (rows : List (List Int)) : Prop :=
  ∃ W0 : World, W0.heap.size = lim ∧ RowsI W0 v rows ∧ lim ≤ W.heap.size ∧ ∀ k, k < lim → W.heap[k]? = W0.heap[k]?
theorem RowsB.of {W : World} {v : Value} {rows : List (List Int)} (h : RowsI W v rows) : RowsB W W.heap.size v rows := ⟨W, rfl, h, Nat.le_refl _, fun _ _ => rfl⟩
theorem RowsB.more {W W' : World} {lim : Nat} {v : Value} {rows : List (List Int)} (h : RowsB W lim v rows) (hs : W.heap.size ≤ W'.heap.size) (hb : ∀ k, k < lim → W'.heap[k]? = W.heap[k]?) : RowsB W' lim v rows := by
  obtain ⟨W0, h1, h2, h3, h4⟩ := h
  exact ⟨W0, h1, h2, by omega, fun k hk => (hb k hk).trans (h4 k hk)⟩
theorem RowsB.below {W W' : World} {lim : Nat} {v : Value} {rows : List (List Int)} (h : RowsB W lim v rows) (hb : Below W.heap.size W W') : RowsB W' lim v rows := by
  have h3 : lim ≤ W.heap.size := by obtain ⟨_, _, _, h3, _⟩ := h; exact h3
  exact h.more hb.size fun k hk => hb.block k (by omega)
theorem RowsB.grown {W W' : World} {lim : Nat} {v : Value} {rows : List (List Int)} {row : Option Nat} (h : RowsB W lim v rows) (hg : W.grownBy W' row) (hr : ∀ k, row = some k → lim ≤ k) : RowsB W' lim v rows := by
  have h3 : lim ≤ W.heap.size := by obtain ⟨_, _, _, h3, _⟩ := h; exact h3
  exact h.more hg.size fun k hk => hg.block k (by omega) (fun e => by have := hr k e.symm; omega)
theorem RowsB.between {W W' : World} {lim base lim' : Nat} {v : Value} {rows : List (List Int)} (h : RowsB W lim v rows) (hg : Between base lim' W W') (hl : lim ≤ base) : RowsB W' lim v rows := by
  have h3 : lim ≤ W.heap.size := by obtain ⟨_, _, _, h3, _⟩ := h; exact h3
  exact h.more hg.size fun k hk => hg.block k (by omega) (.inl (by omega))
theorem ints_same {W W' : World} {v : Value} {xs : List Int} (h : Ints W v xs) (hs : W.heap.size ≤ W'.heap.size) (hb : ∀ k, k < W.heap.size → W'.heap[k]? = W.heap[k]?) : Ints W' v xs := by
  rcases h with h | ⟨g, cap, rfl, hg, hc⟩
  · exact .inl h
  · exact .inr ⟨g, cap, rfl, by omega, fun i hi => (show W'.cell? ⟨g, i, none⟩ = W.cell? ⟨g, i, none⟩ from World.cell?_of_block (w := W) (hb g hg)).trans (hc i hi)⟩
theorem RowsB.rowsI {W : World} {lim : Nat} {v : Value} {rows : List (List Int)} (h : RowsB W lim v rows) : RowsI W v rows := by
  obtain ⟨W0, h1, ⟨a, c, rfl, h2⟩, h3, h4⟩ := h
  refine ⟨a, c, rfl, fun h0 => ?_⟩
  obtain ⟨G, rfl, hG, hr⟩ := h2 h0
  refine ⟨G, rfl, by omega, fun j hj => ?_⟩
  obtain ⟨u, h5, h6⟩ := hr j hj
  exact ⟨u, (show W.cell? ⟨G, j, none⟩ = W0.cell? ⟨G, j, none⟩ from World.cell?_of_block (w := W0) (h4 G (by omega))).trans h5, ints_same h6 (by omega) (fun k hk => h4 k (by omega))⟩
theorem OwnG.grown {W W' : World} {base lim n : Nat} {v : Value} {L : Nat → Nat} {F : Nat → Nat → Int} {row : Option Nat} (h : OwnG W base lim v n L F) (hg : W.grownBy W' row) (hr : ∀ k, row = some k → k < base ∨ lim ≤ k) : OwnG W' base lim v n L F := by
  rcases h with h | ⟨G, cap, b, cb, rfl, h⟩
  · exact .inl h
  · refine .inr ⟨G, cap, b, cb, rfl, ⟨⟨h.gb.1, h.gb.2.1, Nat.lt_of_lt_of_le h.gb.2.2 hg.size⟩, fun j hj => ?_, h.rb, fun j hj => ?_, h.ne⟩⟩
    · exact (show W'.cell? ⟨G, j, none⟩ = W.cell? ⟨G, j, none⟩ from World.cell?_of_block (w := W) (hg.block G h.gb.2.2 (fun e => by have := hr G e.symm; have := h.gb; omega))).trans (h.at_ j hj)
    · exact (h.row j hj).of_block (hg.block _ (h.row j hj).lt (fun e => by have := hr _ e.symm; have := h.rb j hj; omega))
theorem rowsV_row {xs : List Int} {j : Nat} (hj : j < (rowsV xs).length) : 0 < ((rowsV xs).getD j []).length ∧ ((rowsV xs).getD j []).length ≤ 12 := by
  cases hside : sideB xs with
  | false => rw [rowsV_no hside] at hj; simp at hj
  | true =>
    have hlen := sideB_len hside
    rw [rowsV_yes hside] at hj ⊢
    simp only [List.length_map, List.length_range] at hj
    rw [List.getD, List.getElem?_map, List.getElem?_range hj]
    show 0 < (stL (natL xs) j (xs.length - j)).length ∧ (stL (natL xs) j (xs.length - j)).length ≤ 12
    rw [stL_len]
    omega
end Go.Proofs.Ytimnhedjapakhaa
