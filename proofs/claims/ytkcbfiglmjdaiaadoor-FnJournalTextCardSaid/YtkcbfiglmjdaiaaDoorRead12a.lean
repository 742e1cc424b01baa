/-
  The program's readLine walked.
-/
import Derived.Test.YtkcbfiglmjdaiaaDoorRead12
import Derived.WideLaws
import Derived.Lib.SlicesS
import Derived.WalkKit
import Derived.BigCall
namespace Go.Proofs.YtkcbfiglmjdaiaaDoor
open Go.RowKit

theorem own_fromD {w : World} {base base' n : Nat} {e : TypeId} {v : Value} {xs : List Value} (h : w.ownsRow base e 1 v n xs) (hb : base' ≤ base) : w.ownsRow base' e 1 v n xs := by
  obtain ⟨h1, h2⟩ := h
  refine ⟨h1, ?_⟩
  rcases h2 with h2 | ⟨g, cap, cur, rfl, h3, h4⟩
  · exact .inl h2
  · exact .inr ⟨g, cap, cur, rfl, Nat.le_trans hb h3, h4⟩
theorem cutL_len (l : List Nat) : (cutT 32 l).length ≤ l.length + 1 := by
  have h : ∀ (r line : List Nat), (cutL 32 line r).length ≤ r.length + 1 := fun r => by
    induction r with
    | nil => intro line; simp [cutL]
    | cons c r ih =>
      intro line
      by_cases e : c = 32
      · subst e; rw [cutL_hit]; have := ih []; simp; omega
      · rw [cutL_other e]; have := ih (line ++ [c]); simp; omega
  exact h l []
/-- What Atoi and Itoa say of a word. -/
def Said (p : List Nat) (n : Int) (ev : Value) : Prop :=
  (ev = .nilIface ∧ 0 ≤ n ∧ n ≤ 999999999 ∧ digT p = some n.toNat ∧ decF 20 n.toNat = p) ∨ (ev = .nilIface ∧ 0 ≤ n ∧ n ≤ 999999999 ∧ digT p = none ∧ ¬ str (decF 20 n.toNat) = str p) ∨
  (ev = .nilIface ∧ digT p = none ∧ (n < 0 ∨ 999999999 < n)) ∨ (digT p = none ∧ ∃ t B, ev = .iface t (.pointer (some ⟨B, 0, none⟩)))
theorem said_of {p : List Nat} (hp : ∀ x ∈ p, x < 256) {n : Int} {ev : Value} (h : (ev = .nilIface ∧ Lib.atoiAll (str p).data.toList = .ok n) ∨ (digT p = none ∧ ∃ t B, ev = .iface t (.pointer (some ⟨B, 0, none⟩)))) : Said p n ev := by
  rcases h with ⟨rfl, h⟩ | h
  · cases hd : digT p with
    | some m =>
      rw [str_data, atoi_dig hp hd] at h
      injection h with h
      subst h
      obtain ⟨h1, h2⟩ := dig_is hd
      exact .inl ⟨rfl, by omega, by omega, hd ▸ rfl, h2⟩
    | none =>
      by_cases hr : n < 0 ∨ 999999999 < n
      · exact .inr (.inr (.inl ⟨rfl, hd, hr⟩))
      · refine .inr (.inl ⟨rfl, by omega, by omega, hd, fun e => ?_⟩)
        obtain ⟨u, rfl⟩ : ∃ u : Nat, n = u := ⟨n.toNat, by omega⟩
        have h1 := itoa_not hp hd u (by omega)
        rw [itoa_dec u (by omega)] at h1
        have h2 := congrArg (fun b : ByteArray => b.data.toList) e
        exact h1 h2
  · exact .inr (.inr (.inr h))
/-- What readLine answers: the first word and the numbers, or nothing. -/
def rlV (l : List Nat) : List Nat × List Int := match numsL (cutT 32 l).tail with
  | none => ([], [])
  | some ns => ((cutT 32 l).getD 0 [], ns)
theorem numsL_cons (p : List Nat) (r : List (List Nat)) : numsL (p :: r) = match digT p with | none => none | some n => (numsL r).map ((n : Int) :: ·) := by
  rw [numsL]
  cases digT p with
  | none => rfl
  | some n => cases numsL r <;> rfl

set_option maxRecDepth 100000 in
set_option maxHeartbeats 2000000 in
theorem readLine_in (l : List Nat) (hl : ∀ x ∈ l, x < 256) (hn : l.length ≤ 1100000) (w : World) (hE : Env w) : Calls Tryd.prog 37 #[.string (str l)] w fun e w' =>
    ∃ v, e = .returned (.tuple #[.string (str (rlV l).1), v]) ∧ w'.ownsRow w.heap.size 3 1 v (rlV l).2.length ((rlV l).2.map (Value.int .i64)) ∧ Below w.heap.size w w' := by
  have hS := hide (spaces_in l hl (by omega) w hE)
  have hpos := cutL_pos 32 l []
  have hlen : (cutT 32 l).length ≤ l.length + 1 := cutL_len l
  have hmem : ∀ i, (∀ c ∈ (cutT 32 l).getD i [], c < 256) ∧ ((cutT 32 l).getD i []).length ≤ 2000000 := fun i => by
    by_cases hi : i < (cutT 32 l).length
    · have := cutL_mem 32 l [] ((cutT 32 l).getD i []) (word_mem _ i hi)
      exact ⟨fun c hc => hl c ((this.1 c hc).resolve_left (by simp)), Nat.le_trans this.2 (by simp; omega)⟩
    · rw [List.getD, List.getElem?_eq_none (by omega)]; simp
  have hrl : rlV l = match numsL (cutT 32 l).tail with | none => ([], []) | some ns => ((cutT 32 l).getD 0 [], ns) := rfl
  generalize rlV l = res at *
  change 0 < (cutT 32 l).length at hpos
  obtain ⟨ws, hws⟩ : ∃ ws, cutT 32 l = ws := ⟨_, rfl⟩
  rw [hws] at hS hpos hlen hmem hrl
  obtain ⟨n, hwn⟩ : ∃ n, ws.length = n := ⟨_, rfl⟩
  have hS := hS.out
  rw [hwn] at hS hpos hlen
  generalize str l = S at *
  clear hws hl
  have hf0 : numsL ws.tail = none → res = ([], []) := fun e => by rw [hrl, e]
  have hf1 : ∀ ns, numsL ws.tail = some ns → res = (ws.getD 0 [], ns) := fun ns e => by rw [hrl, e]
  replace hf0 := hide hf0
  replace hf1 := hide hf1
  have hst : Hid (numsL ws.tail = (numsL (ws.drop 1)).map ([] ++ ·)) := hide (by rw [List.drop_one]; cases numsL ws.tail <;> rfl)
  clear hrl
  by_cases h1 : n = 1
  · subst h1
    go_enter Tryd.func37, Tryd.ntmps37
    go_wp2_with (go_at_call 46; refine hS.mono ?_; clear hS; rintro e w1 ⟨rfl, hc, hB1⟩)
    have hc0 := hc 0 (by omega)
    obtain ⟨P0, hP0⟩ : ∃ P0, str (ws.getD 0 []) = P0 := ⟨_, rfl⟩
    rw [hP0] at hc0
    clear hc
    go_loopw [5, 15] (fun o a wr => o = .slice none 0 0 ∧ a = .int .i64 0 ∧ wr = w1) (fun _ _ _ => 0)
    case atStart => exact ⟨rfl, rfl, rfl⟩
    case round =>
      obtain ⟨rfl, rfl, rfl⟩ := hrel
      go_wp2
      have hr := hf1.out [] (by rw [hst.out, List.drop_eq_nil_of_le (by omega)]; rfl)
      go_ret2
      rw [hr, hP0]
      exact ⟨_, rfl, World.ownsRow_nil _ _ _ _, hB1⟩
  have hn1 : (1 : Int) ≤ (n : Int) := by omega
  have hn2 : ¬ n = 1 := h1
  go_enter Tryd.func37, Tryd.ntmps37
  go_wp2_with (go_at_call 46; refine hS.mono ?_; clear hS; rintro e w1 ⟨rfl, hc, hB1⟩)
  have hsz0 : w.heap.size < w1.heap.size := World.block_lt_of_cell? _ _ (hc 0 (by omega))
  have hcW : ∀ W, Below w1.heap.size w1 W → ∀ i, i < n → W.cell? ⟨w.heap.size, i, none⟩ = some (.string (str (ws.getD i []))) := fun W hW i hi => (hW.cell (p := ⟨w.heap.size, i, none⟩) hsz0).trans (hc i hi)
  have hE1 := hE.below hB1
  replace hcW := hide hcW
  clear hc
  go_loopw [5, 15] (fun o a wr => ∃ (i : Nat) (xs : List Int), i < n ∧ xs.length = i ∧ a = .int .i64 i ∧ wr.ownsRow w1.heap.size 3 1 o xs.length (xs.map (Value.int .i64)) ∧ Hid (numsL ws.tail = (numsL (ws.drop (i + 1))).map (xs ++ ·)) ∧ Below w1.heap.size w1 wr) (fun _ a _ => n - (intOf a).toNat)
  case atStart => exact ⟨0, [], by omega, rfl, rfl, World.ownsRow_nil _ _ _ _, hst, Below.refl _ _⟩
  case round =>
    clear hst
    obtain ⟨i, xs, hi, hxi, rfl, hown, hst, hB⟩ := hrel
    have hEr := hE1.below hB
    by_cases hlt : i + 1 < n
    · have hcell := hcW.out _ hB (i + 1) hlt
      have hcell' : wr.cell? ⟨w.heap.size, 1 + i, none⟩ = some (.string (str (ws.getD (i + 1) []))) := by rw [Nat.add_comm 1 i]; exact hcell
      obtain ⟨hp, hpl⟩ := hmem (i + 1)
      have hdr : ws.drop (i + 1) = ws.getD (i + 1) [] :: ws.drop (i + 2) := by
        rw [List.drop_eq_getElem_cons (by omega), List.getD, List.getElem?_eq_getElem (by omega)]; rfl
      have hst' := hst.out
      rw [hdr, numsL_cons] at hst'
      obtain ⟨p, hpe⟩ : ∃ p, ws.getD (i + 1) [] = p := ⟨_, rfl⟩
      rw [hpe] at hcell hcell' hp hpl hst'
      have hAt := fun V hV => atoi_in p hp hpl V hV
      have hSaid := fun n ev h => said_of (n := n) (ev := ev) hp h
      obtain ⟨T, hT⟩ : ∃ T, str p = T := ⟨_, rfl⟩
      have hlti : (i : Int) < (n : Int) - 1 := by omega
      have hlti2 : (i : Int) < ((n - 1 : Nat) : Int) := by omega
      clear hdr hst hpe
      rw [hT] at hcell hcell' hAt hSaid
      go_wp2_with (go_at_call 47; refine (hAt _ hEr).mono ?_; clear hAt)
      rintro e w2 ⟨⟨m, ev, rfl, hcase⟩, hB2⟩
      have hE2 := hEr.below hB2
      have hB12 : Below w1.heap.size w1 w2 := hB.trans (hB2.mono hB.size)
      have hbad : ∀ W, Below w2.heap.size w2 W → digT p = none → ∃ v, (Ending.returned (.tuple #[.string ⟨#[]⟩, .slice none 0 0])) = .returned (.tuple #[.string (str res.1), v]) ∧ W.ownsRow w.heap.size 3 1 v res.2.length (res.2.map (Value.int .i64)) ∧ Below w.heap.size w W := fun W hW hd => by
        have hr := hf0.out (by rw [hst', hd]; rfl)
        rw [hr]
        exact ⟨_, rfl, World.ownsRow_nil _ _ _ _, hB1.trans ((hB12.trans (hW.mono hB12.size)).mono hB1.size)⟩
      rcases hSaid _ _ hcase with ⟨rfl, m0, m1, hd, hdec⟩ | ⟨rfl, m0, m1, hd, hne⟩ | ⟨rfl, hd, hm⟩ | ⟨hd, t, B, rfl⟩
      · have hIt := fun V hV => itoaAll_in m m0 m1 V hV
        rw [hdec, hT] at hIt
        have hWi := fun V => within_t m 999999999 V m0 m1
        have hown2 := own_more hown (hB2)
        have hnx := hide (show numsL ws.tail = (numsL (ws.drop (i + 1 + 1))).map ((xs ++ [m]) ++ ·) by
          rw [hst', hd]
          simp only
          have e : ((m.toNat : Nat) : Int) = m := by omega
          rw [e]
          cases numsL (ws.drop (i + 2)) <;> simp)
        clear hbad hcase hSaid hst'
        go_wp2_with (first
          | (go_at_call 25; refine (hWi _).mono ?_; clear hWi; rintro e w3 ⟨rfl, rfl⟩)
          | (go_at_call 28; refine (hIt _ hE2).mono ?_; clear hIt; rintro e w4 ⟨rfl, hB4⟩; have hown4 := own_more hown2 hB4; have hs4 := hB4.size; have hs12 := hB12.size)
          | (at_builtin; refine append_one rfl _ _ rfl w1.heap.size _ _ _ rfl hown4 rfl (by omega) (by omega) ?_; intro v' w5 hown5 hgr))
        have hB5 : Below w1.heap.size w1 w5 := ((hB12.trans (hB4.mono hB12.size)).alloc (by omega) _).grown hgr (by rw [World.size_alloc]; omega) (fun q hq => (hown4.lt q hq).1)
        go_roundw
        case rel => exact ⟨i + 1, xs ++ [m], hlt, by simp [hxi], by go_num, by simpa using hown5, hnx, hB5⟩
        case measure => simp [intOf]; omega
      · have hIt := fun V hV => itoaAll_in m m0 m1 V hV
        obtain ⟨D, hD⟩ : ∃ D, str (decF 20 m.toNat) = D := ⟨_, rfl⟩
        rw [hD] at hIt hne
        rw [hT] at hne
        have hne2 := (Lib.bytes_beq_false_iff D T).2 hne
        have hWi := fun V => within_t m 999999999 V m0 m1
        clear hcase hSaid
        go_wp2_with (first
          | (go_at_call 25; refine (hWi _).mono ?_; clear hWi; rintro e w3 ⟨rfl, rfl⟩)
          | (go_at_call 28; refine (hIt _ hE2).mono ?_; clear hIt; rintro e w4 ⟨rfl, hB4⟩))
        go_ret2
        exact hbad _ hB4 hd
      · have hWi := fun V => within_f m 999999999 V hm
        clear hcase hSaid
        go_wp2_with (go_at_call 25; refine (hWi _).mono ?_; clear hWi; rintro e w3 ⟨rfl, rfl⟩)
        go_ret2
        exact hbad _ (Below.refl _ _) hd
      · clear hcase hSaid
        go_wp2
        go_ret2
        exact hbad _ (Below.refl _ _) hd
    · obtain rfl : i = n - 1 := by omega
      have hc0 := hcW.out _ hB 0 (by omega)
      have hst' := hst.out
      rw [List.drop_eq_nil_of_le (by omega)] at hst'
      have hr := hide (hf1.out xs (by rw [hst']; simp [numsL]))
      obtain ⟨P0, hP0⟩ : ∃ P0, str (ws.getD 0 []) = P0 := ⟨_, rfl⟩
      rw [hP0] at hc0
      have hlti : ¬ (((n - 1 : Nat) : Int)) < (n : Int) - 1 := by omega
      have hown' := own_fromD hown (Nat.le_of_lt hsz0)
      have hB' := hB1.trans (hB.mono hB1.size)
      clear hst hst'
      go_wp2
      go_ret2
      rw [hr.out, hP0]
      exact ⟨_, rfl, hown', hB'⟩
end Go.Proofs.YtkcbfiglmjdaiaaDoor
