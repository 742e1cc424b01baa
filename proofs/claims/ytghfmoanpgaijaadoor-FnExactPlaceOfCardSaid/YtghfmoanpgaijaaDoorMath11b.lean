/-
  Plain mathematics of ways, for the program: heights along a text, the ways that are left from each height, the places from the end. Nothing of the program.
-/
import Derived.Test.YtghfmoanpgaijaaDoorMathZ
namespace Go.Proofs.YtghfmoanpgaijaaDoor
open Go.RowKit

/-- In how many ways one comes down to the beginning from height h in t steps. -/
def endE : Nat → Nat → Nat
  | 0, h => if h = 0 then 1 else 0
  | t + 1, h => (if 0 < h then endE t (h - 1) else 0) + endE t (h + 1)
theorem endE_high : ∀ (t h : Nat), t < h → endE t h = 0
  | 0, h, hh => if_neg (by omega)
  | t + 1, h, hh => by
    show (if 0 < h then endE t (h - 1) else 0) + endE t (h + 1) = 0
    rw [if_pos (by omega), endE_high t (h - 1) (by omega), endE_high t (h + 1) (by omega)]
theorem endE_le : ∀ (t h : Nat), endE t h ≤ 2 ^ t
  | 0, h => by unfold endE; split <;> decide
  | t + 1, h => by
    show (if 0 < h then endE t (h - 1) else 0) + endE t (h + 1) ≤ _
    have h1 := endE_le t (h - 1)
    have h2 := endE_le t (h + 1)
    rw [Nat.pow_succ]
    split <;> omega
theorem endE_len : ∀ (f u d : Nat), u + d = f → u ≤ d → endE f (d - u) = (wl u d).length
  | 0, u, d, hf, hd => by
    obtain rfl : u = 0 := by omega
    obtain rfl : d = 0 := by omega
    rfl
  | f + 1, u, d, hf, hd => by
    rw [wl_step u d (by omega), List.length_append]
    show (if 0 < d - u then endE f (d - u - 1) else 0) + endE f (d - u + 1) = _
    have e1 : (if 0 < d - u then endE f (d - u - 1) else 0) = (if u < d then (wl u (d - 1)).map (41 :: ·) else []).length := by
      by_cases e : u < d
      · rw [if_pos (by omega), if_pos e, List.length_map, ← endE_len f u (d - 1) (by omega) (by omega), show d - 1 - u = d - u - 1 by omega]
      · rw [if_neg (by omega), if_neg e]; rfl
    have e2 : endE f (d - u + 1) = (if 0 < u then (wl (u - 1) d).map (40 :: ·) else []).length := by
      by_cases e : 0 < u
      · rw [if_pos e, List.length_map, ← endE_len f (u - 1) d (by omega) (by omega), show d - (u - 1) = d - u + 1 by omega]
      · rw [if_neg e, endE_high f (d - u + 1) (by omega)]; rfl
    omega
theorem endE_way {u d : Nat} (hd : d ≤ 7) (hu : u ≤ d) : endE (u + d) (d - u) = wayT d u := by rw [endE_len _ u d rfl hu, wl_len hd hu]

/-- Opening and closing brackets of a text. -/
def opens : List Nat → Nat
  | [] => 0
  | c :: r => if c = 40 then opens r + 1 else opens r
def closes : List Nat → Nat
  | [] => 0
  | c :: r => if c = 40 then closes r else closes r + 1
theorem opens_up (r : List Nat) : opens (40 :: r) = opens r + 1 := rfl
theorem closes_up (r : List Nat) : closes (40 :: r) = closes r := rfl
theorem opens_down (r : List Nat) : opens (41 :: r) = opens r := rfl
theorem closes_down (r : List Nat) : closes (41 :: r) = closes r + 1 := rfl
theorem okW_count : ∀ (r : List Nat) (h : Nat), okW h r = true → closes r = opens r + h ∧ opens r + closes r = r.length
  | [], h, hk => by
    rw [okW_nil] at hk
    have := beq_iff_eq.1 hk
    subst this
    exact ⟨rfl, rfl⟩
  | c :: r, h, hk => by
    rcases okW_cases hk with ⟨rfl, h1⟩ | ⟨rfl, m, rfl, h1⟩
    · have := okW_count r _ h1
      rw [opens_up, closes_up, List.length_cons]; omega
    · have := okW_count r _ h1
      rw [opens_down, closes_down, List.length_cons]; omega
/-- From any place on a way stays above. -/
theorem okW_drop : ∀ (l : List Nat) (h k : Nat), okW h l = true → ∃ m, okW m (l.drop k) = true
  | l, h, 0, hk => ⟨h, hk⟩
  | [], h, k + 1, hk => ⟨h, hk⟩
  | c :: r, h, k + 1, hk => by
    rw [List.drop_succ_cons]
    rcases okW_cases hk with ⟨rfl, h1⟩ | ⟨rfl, m, rfl, h1⟩
    · exact okW_drop r _ k h1
    · exact okW_drop r _ k h1
/-- The place from the end on: what a closing bracket adds. -/
def plE (r : List Nat) : Nat := plW (opens r) (closes r) r
theorem plE_up (r : List Nat) : plE (40 :: r) = plE r := by
  show plW (opens (40 :: r) - 1) (closes (40 :: r)) r = _
  rw [opens_up, closes_up, Nat.add_sub_cancel]; rfl
theorem plE_down {r : List Nat} {h : Nat} (hk : okW h r = true) (hl : closes r + 1 ≤ 7) : plE (41 :: r) = endE r.length (h + 2) + plE r := by
  show (if 0 < opens (41 :: r) then wayT (closes (41 :: r)) (opens (41 :: r) - 1) else 0) + plW (opens (41 :: r)) (closes (41 :: r) - 1) r = _
  rw [opens_down, closes_down, Nat.add_sub_cancel]
  have hc := okW_count r h hk
  congr 1
  by_cases e : 0 < opens r
  · rw [if_pos e, ← endE_way hl (by omega)]
    rw [show opens r - 1 + (closes r + 1) = r.length by omega, show closes r + 1 - (opens r - 1) = h + 2 by omega]
  · rw [if_neg e, endE_high _ _ (by omega)]
theorem plE_whole {l : List Nat} (hk : okW 0 l = true) : plE l = plW (l.length / 2) (l.length / 2) l := by
  have hc := okW_count l 0 hk
  unfold plE
  rw [show opens l = l.length / 2 by omega, show closes l = l.length / 2 by omega]

theorem closes_drop : ∀ (l : List Nat) (k : Nat), closes (l.drop k) ≤ closes l
  | l, 0 => Nat.le_refl _
  | [], k + 1 => Nat.le_refl _
  | c :: r, k + 1 => by
    rw [List.drop_succ_cons]
    refine Nat.le_trans (closes_drop r k) ?_
    show closes r ≤ if c = 40 then closes r else closes r + 1
    split <;> omega
theorem plE_small {r : List Nat} {h : Nat} (hk : okW h r = true) (hl : closes r ≤ 7) : plE r ≤ 4000000000000000 := by
  have hc := okW_count r h hk
  have h1 := plW_le (u := opens r) (d := closes r) hk hc.1 (by omega) hl
  have h2 := (way_one (closes r) (opens r) (by omega) (by omega)).2.2.1
  unfold plE
  omega
/-- What is behind one byte more. -/
theorem okW_back {l : List Nat} {k m : Nat} (hk : okW m (l.drop k) = true) (h : k < l.length) (hcl : closes l ≤ 7) :
    (l.getD k 0 = 40 ∧ okW (m + 1) (l.drop (k + 1)) = true ∧ plE (l.drop k) = plE (l.drop (k + 1))) ∨
    (l.getD k 0 = 41 ∧ ∃ j, m = j + 1 ∧ okW j (l.drop (k + 1)) = true ∧ plE (l.drop k) = endE (l.length - (k + 1)) (j + 2) + plE (l.drop (k + 1))) := by
  have hcd := closes_drop l k
  have hd : l.drop k = l.getD k 0 :: l.drop (k + 1) := by rw [List.drop_eq_getElem_cons h, List.getD, List.getElem?_eq_getElem h, Option.getD_some]
  rw [hd] at hk hcd
  rcases okW_cases hk with ⟨e, h1⟩ | ⟨e, j, hm, h1⟩
  · exact .inl ⟨e, h1, by rw [hd, e, plE_up]⟩
  · refine .inr ⟨e, j, hm, h1, ?_⟩
    rw [e, closes_down] at hcd
    rw [hd, e, plE_down h1 (by omega), List.length_drop]
theorem okW_same {r : List Nat} {a b : Nat} (h1 : okW a r = true) (h2 : okW b r = true) : a = b := by
  have := okW_count r a h1
  have := okW_count r b h2
  omega

/-- How high a text is behind k of its bytes. -/
def hgt (l : List Nat) (k : Nat) : Int := (l.take k).foldl (fun a c => if c = 40 then a + 1 else a - 1) 0
theorem hgt_zero (l : List Nat) : hgt l 0 = 0 := by unfold hgt; rw [List.take_zero]; rfl
theorem hgt_succ (l : List Nat) (k : Nat) (h : k < l.length) : hgt l (k + 1) = if l.getD k 0 = 40 then hgt l k + 1 else hgt l k - 1 := by
  unfold hgt
  rw [List.take_add_one, List.foldl_append, List.getElem?_eq_getElem h, List.getD, List.getElem?_eq_getElem h]
  rfl
theorem hgt_abs (l : List Nat) : ∀ k, k ≤ l.length → -(k : Int) ≤ hgt l k ∧ hgt l k ≤ k
  | 0, _ => by rw [hgt_zero]; exact ⟨by omega, by omega⟩
  | k + 1, h => by
    have := hgt_abs l k (by omega)
    rw [hgt_succ l k (by omega)]
    split <;> omega
theorem drop_one (l : List Nat) (k : Nat) (h : k < l.length) : l.drop k = l.getD k 0 :: l.drop (k + 1) := by
  rw [List.drop_eq_getElem_cons h, List.getD, List.getElem?_eq_getElem h, Option.getD_some]
/-- Of brackets alone: what is known of the rest. -/
theorem okW_next {l : List Nat} (hb : ∀ x ∈ l, x = 40 ∨ x = 41) {k : Nat} (h : k < l.length) (h0 : 0 ≤ hgt l k) (hk : okW (hgt l k).toNat (l.drop k) = okW 0 l) :
    (hgt l (k + 1) < 0 → okW 0 l = false) ∧ (0 ≤ hgt l (k + 1) → okW (hgt l (k + 1)).toNat (l.drop (k + 1)) = okW 0 l) := by
  rw [drop_one l k h] at hk
  have hc : l.getD k 0 = 40 ∨ l.getD k 0 = 41 := hb _ (by rw [List.getD, List.getElem?_eq_getElem h]; exact List.getElem_mem h)
  rw [hgt_succ l k h]
  rcases hc with e | e
  · rw [e] at hk ⊢
    rw [if_pos rfl]
    rw [okW_up] at hk
    refine ⟨fun h => by omega, fun _ => ?_⟩
    rw [show (hgt l k + 1).toNat = (hgt l k).toNat + 1 by omega]
    exact hk
  · rw [e] at hk ⊢
    rw [if_neg (by omega)]
    by_cases e0 : hgt l k = 0
    · rw [e0] at hk ⊢
      refine ⟨fun _ => by rw [← hk]; exact okW_low _, fun h => by omega⟩
    · obtain ⟨m, hm⟩ : ∃ m : Nat, hgt l k = (m : Int) + 1 := ⟨(hgt l k - 1).toNat, by omega⟩
      rw [hm, show ((m : Int) + 1).toNat = m + 1 by omega, okW_down] at hk
      rw [hm]
      refine ⟨fun h => by omega, fun _ => ?_⟩
      rw [show ((m : Int) + 1 - 1).toNat = m by omega]
      exact hk
theorem okW_last {l : List Nat} (h0 : 0 ≤ hgt l l.length) (hk : okW (hgt l l.length).toNat (l.drop l.length) = okW 0 l) : okW 0 l = decide (hgt l l.length = 0) := by
  rw [List.drop_eq_nil_of_le (Nat.le_refl _), okW_nil] at hk
  rw [← hk]
  by_cases e : hgt l l.length = 0
  · rw [e]; rfl
  · rw [decide_eq_false e]
    simp; omega
/-- A text of other bytes is no way. -/
theorem okW_bytes : ∀ (l : List Nat) (h : Nat), okW h l = true → ∀ x ∈ l, x = 40 ∨ x = 41
  | [], _, _ => fun x hx => by simp at hx
  | c :: r, h, hk => fun x hx => by
    rcases okW_cases hk with ⟨rfl, h1⟩ | ⟨rfl, m, _, h1⟩
    · rcases List.mem_cons.1 hx with rfl | hx
      · exact .inl rfl
      · exact okW_bytes r _ h1 x hx
    · rcases List.mem_cons.1 hx with rfl | hx
      · exact .inr rfl
      · exact okW_bytes r _ h1 x hx

/-- The first way back, by heights: the first place behind which the height is 0. -/
theorem back_at : ∀ (r : List Nat) (m k : Nat) (l : List Nat), okW (m + 1) r = true → l.drop k = r → hgt l k = (m : Int) + 1 → k + r.length = l.length →
    ∃ p, k ≤ p ∧ p < l.length ∧ hgt l (p + 1) = 0 ∧ (∀ q, k ≤ q → q < p → hgt l (q + 1) ≠ 0) ∧ (backW m r).1 = (l.drop k).take (p - k) ∧ (backW m r).2 = l.drop (p + 1)
  | [], m, k, l, hk, _, _, _ => by rw [okW_nil] at hk; simp at hk
  | c :: r, m, k, l, hk, hd, hh, hn => by
    rw [List.length_cons] at hn
    have hkl : k < l.length := by omega
    have hd1 := drop_one l k hkl
    rw [hd] at hd1
    have hc := (List.cons.inj hd1).1
    have hr := (List.cons.inj hd1).2
    have hs := hgt_succ l k hkl
    rw [← hc] at hs
    have step : ∀ m', okW (m' + 1) r = true → hgt l (k + 1) = (m' : Int) + 1 → (backW m (c :: r)).1 = c :: (backW m' r).1 → (backW m (c :: r)).2 = (backW m' r).2 →
        ∃ p, k ≤ p ∧ p < l.length ∧ hgt l (p + 1) = 0 ∧ (∀ q, k ≤ q → q < p → hgt l (q + 1) ≠ 0) ∧ (backW m (c :: r)).1 = (l.drop k).take (p - k) ∧ (backW m (c :: r)).2 = l.drop (p + 1) := fun m' h1 h2 h3 h4 => by
      obtain ⟨p, hp1, hp2, hp3, hp4, hp5, hp6⟩ := back_at r m' (k + 1) l h1 hr.symm h2 (by omega)
      refine ⟨p, by omega, hp2, hp3, fun q hq1 hq2 => ?_, ?_, by rw [h4, hp6]⟩
      · by_cases e : q = k
        · subst e; rw [h2]; omega
        · exact hp4 q (by omega) hq2
      · rw [h3, hp5, hd, ← hr, show p - k = (p - (k + 1)) + 1 by omega, List.take_succ_cons]
    rcases okW_cases hk with ⟨e, h1⟩ | ⟨e, m', hm, h1⟩
    · rw [e, if_pos rfl, hh] at hs
      exact step (m + 1) h1 (by rw [hs]; omega) (by rw [e]; rfl) (by rw [e]; rfl)
    · obtain rfl : m = m' := by omega
      rw [e, if_neg (by omega), hh] at hs
      cases m with
      | zero =>
        refine ⟨k, Nat.le_refl _, hkl, by rw [hs]; omega, fun q h1 h2 => by omega, ?_, ?_⟩
        · rw [e, Nat.sub_self, List.take_zero]; rfl
        · rw [e, ← hr]; rfl
      | succ m' => exact step m' h1 (by rw [hs]; omega) (by rw [e]; rfl) (by rw [e]; rfl)

/-- What the recursive iterator hands out. -/
def fromL (b : List Nat) (o c : Int) : List (List Nat) := if o < 0 ∨ c < o then [] else (wl o.toNat c.toNat).map (b ++ ·)
theorem fromL_bad {b : List Nat} {o c : Int} (h : o < 0 ∨ c < o) : fromL b o c = [] := if_pos h
theorem fromL_nil (b : List Nat) : fromL b 0 0 = [b] := by
  unfold fromL
  rw [if_neg (by omega)]
  show [b ++ []] = _
  rw [List.append_nil]
theorem fromL_step (b : List Nat) (o c : Nat) (h : o ≤ c) (hc : 0 < c) : fromL b o c = fromL (b ++ [40]) ((o : Int) - 1) c ++ fromL (b ++ [41]) o ((c : Int) - 1) := by
  unfold fromL
  rw [if_neg (by omega), show (o : Int).toNat = o by omega, show (c : Int).toNat = c by omega, wl_step o c (by omega), List.map_append]
  congr 1
  · by_cases e : 0 < o
    · rw [if_pos e, if_neg (by omega), List.map_map, show ((o : Int) - 1).toNat = o - 1 by omega]
      exact List.map_congr_left fun x _ => by show b ++ 40 :: x = b ++ [40] ++ x; rw [List.append_assoc]; rfl
    · rw [if_neg e, if_pos (by omega)]; rfl
  · by_cases e : o < c
    · rw [if_pos e, if_neg (by omega), List.map_map, show ((c : Int) - 1).toNat = c - 1 by omega]
      exact List.map_congr_left fun x _ => by show b ++ 41 :: x = b ++ [41] ++ x; rw [List.append_assoc]; rfl
    · rw [if_neg e, if_pos (by omega)]; rfl
theorem fromL_all (u : Nat) : fromL [] u u = wl u u := by
  unfold fromL
  rw [if_neg (by omega)]
  show (wl u u).map (fun x => [] ++ x) = _
  simp
end Go.Proofs.YtghfmoanpgaijaaDoor
