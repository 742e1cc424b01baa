/-
  Plain mathematics: texts of numbers against strconv's (Lib.decDigits, Lib.itoa, Lib.atoiAll); a text cut at spaces against strings.Split's pieces (Lib.splitB). Nothing of the program.
-/
import Derived.Test.YtkcbfiglmjdaiaaDoorMathZ
import Derived.Lib.AtoiAll
import Derived.Lib.AtoiAllCases
import Derived.Lib.ItoaNum
import Derived.Lib.ItoaMem
import Derived.Lib.SplitLaws
namespace Go.Proofs.YtkcbfiglmjdaiaaDoor

theorem dec_digits : ∀ (f u : Nat), u < 10 ^ (f + 1) → Lib.decDigits u = (decF f u).map UInt8.ofNat
  | 0, u, h => by
    rw [Lib.decDigits_one (by simpa using h)]
    have : u % 10 = u := Nat.mod_eq_of_lt (by simpa using h)
    simp [decF, this]
  | f + 1, u, h => by
    unfold decF
    by_cases h1 : u < 10
    · rw [if_pos h1, Lib.decDigits_one h1]; rfl
    · rw [if_neg h1, Lib.decDigits, dif_neg h1, dec_digits f (u / 10) (by rw [Nat.pow_succ] at h; omega)]
      simp
theorem itoa_dec (u : Nat) (h : u ≤ 999999999) : Lib.itoa (u : Int) = (decF 20 u).map UInt8.ofNat := by
  rw [Lib.itoa_nonneg]
  exact dec_digits 20 u (Nat.lt_of_le_of_lt h (by decide))
theorem dec_byte : ∀ (f u : Nat), ∀ x ∈ decF f u, 48 ≤ x ∧ x ≤ 57
  | 0, u, x, hx => by simp [decF] at hx; omega
  | f + 1, u, x, hx => by
    unfold decF at hx
    split at hx
    · simp at hx; omega
    · rcases List.mem_append.1 hx with hx | hx
      · exact dec_byte f _ x hx
      · simp at hx; omega
theorem digL_app : ∀ (xs : List Nat) (c n : Nat), digL (xs ++ [c]) n = (digL xs n).bind fun k => if 48 ≤ c ∧ c ≤ 57 then some (10 * k + (c - 48)) else none
  | [], c, n => by
    simp only [List.nil_append, digL, Option.bind_some]
  | x :: xs, c, n => by
    rw [List.cons_append, digL, digL]
    split
    · exact digL_app xs c _
    · rfl
theorem dec_dig : ∀ (f u : Nat), u < 10 ^ (f + 1) → digL (decF f u) 0 = some u
  | 0, u, h => by
    have : u % 10 = u := Nat.mod_eq_of_lt (by simpa using h)
    have h2 : u < 10 := by simpa using h
    simp only [decF, this, digL]
    rw [if_pos (by omega)]
    simp
  | f + 1, u, h => by
    unfold decF
    by_cases h1 : u < 10
    · rw [if_pos h1]
      simp only [digL]
      rw [if_pos (by omega)]
      simp
    · rw [if_neg h1, digL_app, dec_dig f (u / 10) (by rw [Nat.pow_succ] at h; omega), Option.bind_some, if_pos (by omega)]
      congr 1
      omega
theorem dec_len : ∀ (f u k : Nat), 1 ≤ k → u < 10 ^ k → 1 ≤ (decF f u).length ∧ (k ≤ f + 1 → (decF f u).length ≤ k)
  | 0, u, k, hk, h => by simp [decF]; omega
  | f + 1, u, k, hk, h => by
    unfold decF
    by_cases h1 : u < 10
    · rw [if_pos h1]; simp; omega
    · rw [if_neg h1]
      have hk2 : 2 ≤ k := by
        rcases Nat.lt_or_ge k 2 with h3 | h3
        · obtain rfl : k = 1 := by omega
          simp at h; omega
        · exact h3
      obtain ⟨j, rfl⟩ : ∃ j, k = j + 1 := ⟨k - 1, by omega⟩
      have := dec_len f (u / 10) j (by omega) (by rw [Nat.pow_succ] at h; omega)
      rw [List.length_append, List.length_singleton]
      exact ⟨by omega, fun h4 => by have := this.2 (by omega); omega⟩
theorem dec_head : ∀ (f u : Nat), 1 ≤ u → u < 10 ^ (f + 1) → (decF f u).getD 0 0 ≠ 48
  | 0, u, h1, h => by
    have : u % 10 = u := Nat.mod_eq_of_lt (by simpa using h)
    simp [decF, this]; omega
  | f + 1, u, h1, h => by
    unfold decF
    by_cases h2 : u < 10
    · rw [if_pos h2]; simp; omega
    · rw [if_neg h2]
      have h3 := dec_head f (u / 10) (by omega) (by rw [Nat.pow_succ] at h; omega)
      have h4 := (dec_len f (u / 10) (f + 1) (by omega) (by rw [Nat.pow_succ] at h; omega)).1
      rw [List.getD, List.getElem?_append_left (by omega)]
      exact h3
theorem dig_dec (m : Nat) (h : m ≤ 999999999) : digT (decF 20 m) = some m := by
  have h20 : m < 10 ^ 21 := Nat.lt_of_le_of_lt h (by decide)
  have hl := dec_len 20 m 9 (by omega) (by omega)
  have h3 : ¬ (1 < (decF 20 m).length ∧ (decF 20 m).getD 0 0 = 48) := fun ⟨h1, h2⟩ => by
    rcases Nat.eq_zero_or_pos m with e | e
    · subst e; simp [decF] at h1
    · exact dec_head 20 m e h20 h2
  unfold digT
  rw [if_pos (show _ ∧ _ ∧ _ from ⟨hl.1, hl.2 (by omega), h3⟩), dec_dig 20 m h20]
/-- Digits without a leading nought are the numeral of what they spell. -/
theorem dig_num : ∀ (n : Nat) (q : List Nat), q.length = n → q ≠ [] → q.getD 0 0 ≠ 48 → ∀ k, digL q 0 = some k → 1 ≤ k ∧ k < 10 ^ q.length ∧ ∀ f, q.length ≤ f + 1 → decF f k = q
  | 0, q, hn, hne, _, _, _ => absurd (List.length_eq_zero_iff.1 hn) hne
  | n + 1, q, hn, hne, h48, k, hk => by
    obtain ⟨r, c, rfl⟩ : ∃ r c, q = r ++ [c] := ⟨q.dropLast, q.getLast hne, (List.dropLast_concat_getLast hne).symm⟩
    rw [digL_app] at hk
    have hr : r.length = n := by simpa using hn
    cases hd : digL r 0 with
    | none => rw [hd] at hk; cases hk
    | some k' =>
      rw [hd, Option.bind_some] at hk
      split at hk
      · rename_i hc
        injection hk with hk
        subst hk
        by_cases h0 : r = []
        · subst h0
          simp only [digL] at hd
          injection hd with hd
          subst hd
          simp at h48
          refine ⟨by omega, by simp; omega, fun f _ => ?_⟩
          have hlt : 10 * 0 + (c - 48) < 10 := by omega
          cases f with
          | zero => simp [decF]; omega
          | succ f => unfold decF; rw [if_pos hlt]; simp; omega
        · have hrl : 0 < r.length := List.length_pos_iff.2 h0
          have h48' : r.getD 0 0 ≠ 48 := by
            rw [List.getD, List.getElem?_append_left hrl] at h48
            exact h48
          obtain ⟨h1, h2, h3⟩ := dig_num n r hr h0 h48' k' hd
          refine ⟨by omega, ?_, fun f hf => ?_⟩
          · rw [List.length_append, List.length_singleton, Nat.pow_succ]; omega
          · rw [List.length_append, List.length_singleton] at hf
            cases f with
            | zero => omega
            | succ f =>
              unfold decF
              rw [if_neg (by omega), show (10 * k' + (c - 48)) / 10 = k' by omega, show (10 * k' + (c - 48)) % 10 = c - 48 by omega, h3 f (by omega), show 48 + (c - 48) = c by omega]
      · cases hk
theorem dig_is {p : List Nat} {m : Nat} (h : digT p = some m) : m ≤ 999999999 ∧ decF 20 m = p := by
  unfold digT at h
  split at h
  · rename_i hc
    obtain ⟨h1, h2, h3⟩ := hc
    by_cases h48 : p.getD 0 0 = 48
    · have hl : p.length = 1 := by
        rcases Nat.lt_or_ge 1 p.length with h4 | h4
        · exact absurd ⟨h4, h48⟩ h3
        · omega
      match p, hl with
      | [c], _ =>
        simp at h48
        subst h48
        simp only [digL] at h
        injection h with h
        subst h
        exact ⟨by omega, rfl⟩
    · obtain ⟨h4, h5, h6⟩ := dig_num p.length p rfl (fun e => by rw [e] at h1; simp at h1) h48 m h
      have h7 : (10 : Nat) ^ p.length ≤ 10 ^ 9 := Nat.pow_le_pow_right (by omega) h2
      exact ⟨by omega, h6 20 (by omega)⟩
  · cases h
theorem digL_ge : ∀ (p : List Nat) (n m : Nat), digL p n = some m → n ≤ m
  | [], n, m, h => by simp only [digL] at h; injection h with h; omega
  | c :: r, n, m, h => by
    rw [digL] at h
    split at h
    · have := digL_ge r _ m h; omega
    · cases h
theorem parse_dig : ∀ (p : List Nat) (n m : Nat), (∀ x ∈ p, x < 256) → m ≤ 999999999 → digL p n = some m → Lib.parseUint10 n (p.map UInt8.ofNat) = .ok m
  | [], n, m, _, _, h => by simp only [digL] at h; injection h with h; subst h; rfl
  | c :: r, n, m, hb, hm, h => by
    rw [digL] at h
    split at h
    · rename_i hc
      have hge := digL_ge r _ m h
      have hcb : (UInt8.ofNat c).toNat = c := by simp; have := hb c (by simp); omega
      rw [List.map_cons, Lib.parseUint10, hcb, if_pos hc, if_neg (by omega), if_neg (by omega), show n * 10 + (c - 48) = 10 * n + (c - 48) by omega]
      exact parse_dig r _ m (fun x hx => hb x (by simp [hx])) hm h
    · cases h
theorem atoi_dig {p : List Nat} {m : Nat} (hb : ∀ x ∈ p, x < 256) (h : digT p = some m) : Lib.atoiAll (p.map UInt8.ofNat) = .ok (m : Int) := by
  obtain ⟨hm, hd⟩ := dig_is h
  have h2 := h
  unfold digT at h2
  split at h2
  · rename_i hc
    match p, hc with
    | c :: r, _ =>
      have hcd : 48 ≤ c ∧ c ≤ 57 := by
        rw [digL] at h2
        split at h2
        · assumption
        · cases h2
      have hcb : (UInt8.ofNat c).toNat = c := by simp; omega
      have hp := parse_dig (c :: r) 0 m hb hm h2
      rw [List.map_cons] at hp ⊢
      rw [Lib.atoiAll_plain _ _ (by omega) (by omega)]
      unfold Lib.parseMag
      rw [if_neg (by simp), hp]
      unfold Lib.signless
      simp
      omega
  · cases h2
/-- What is no numeral of one to nine digits is not written so, whatever number is read out of it. -/
theorem itoa_not {p : List Nat} (hb : ∀ x ∈ p, x < 256) (h : digT p = none) (n : Nat) (hn : n ≤ 999999999) : (Lib.itoa (n : Int)) ≠ p.map UInt8.ofNat := fun e => by
  rw [itoa_dec n hn] at e
  have h1 := str_inj (fun x hx => by have := dec_byte 20 n x hx; omega) hb e
  rw [← h1, dig_dec n hn] at h
  cases h
end Go.Proofs.YtkcbfiglmjdaiaaDoor
