/-
  Plain mathematics: a text's lines as strings.Lines hands them out, and the deeds of a journal read line by line. Nothing of the program.
-/
import Derived.Test.YtkcbfiglmjdaiaaDoorMathZ
namespace Go.Proofs.YtkcbfiglmjdaiaaDoor

/-- The lines, each with its newline; what is behind the last newline, if anything. The beginning of the first line is known. -/
def linL : List Nat → List Nat → List (List Nat)
  | line, [] => if line = [] then [] else [line]
  | line, c :: r => if c = 10 then (line ++ [10]) :: linL [] r else linL (line ++ [c]) r
/-- The deeds of lines, up to the first that is no line of a journal; and how many bytes they have. -/
def takeJ : List (List Nat) → List (Int × Int) × Nat
  | [] => ([], 0)
  | t :: r => if t.getLast? = some 10 then (match readD t.dropLast with
      | some a => (a :: (takeJ r).1, t.length + (takeJ r).2)
      | none => ([], 0)) else ([], 0)
theorem jr_lines : ∀ (s line : List Nat), (∀ c ∈ line, c ≠ 10) → jrL line s = takeJ (linL line s)
  | [], line, h => by
    rw [jrL, linL]
    by_cases e : line = []
    · rw [if_pos e]; rfl
    · rw [if_neg e, takeJ, if_neg]
      intro h2
      exact h 10 (List.mem_of_getLast? h2) rfl
  | c :: r, line, h => by
    rw [jrL, linL]
    by_cases e : c = 10
    · rw [if_pos e, if_pos e, takeJ, if_pos (by simp), List.dropLast_concat, ← jr_lines r [] (by simp)]
      cases readD line with
      | none => rfl
      | some a => simp
    · rw [if_neg e, if_neg e]
      exact jr_lines r _ (fun x hx => by
        rcases List.mem_append.1 hx with h2 | h2
        · exact h x h2
        · simp at h2; subst h2; exact e)
theorem lin_none : ∀ (s line : List Nat), (∀ c ∈ s, c ≠ 10) → linL line s = if line ++ s = [] then [] else [line ++ s]
  | [], line, _ => by rw [linL, List.append_nil]
  | c :: r, line, h => by
    rw [linL, if_neg (h c (by simp)), lin_none r _ (fun x hx => h x (by simp [hx])), List.append_assoc]
    rfl
theorem lin_hit : ∀ (s line : List Nat) (i : Nat), s[i]? = some 10 → (∀ k, k < i → s[k]? ≠ some 10) → linL line s = (line ++ s.take (i + 1)) :: linL [] (s.drop (i + 1))
  | [], line, i, h, _ => by simp at h
  | c :: r, line, 0, h, _ => by
    have hc : c = 10 := by simpa using h
    rw [linL, if_pos hc, hc]
    rfl
  | c :: r, line, i + 1, h, hk => by
    have hc : c ≠ 10 := fun e => hk 0 (by omega) (by simp [e])
    rw [linL, if_neg hc, lin_hit r (line ++ [c]) i (by simpa using h) (fun k hk2 => by simpa using hk (k + 1) (by omega)), List.append_assoc]
    rfl
theorem lin_len : ∀ (s line : List Nat), (linL line s).length ≤ s.length + 1
  | [], line => by rw [linL]; split <;> simp
  | c :: r, line => by
    rw [linL]
    split
    · have := lin_len r []; simp; omega
    · have := lin_len r (line ++ [c]); simp; omega
theorem lin_mem : ∀ (s line : List Nat), ∀ t ∈ linL line s, t ≠ [] ∧ (∀ c ∈ t, c ∈ line ∨ c ∈ s) ∧ t.length ≤ line.length + s.length
  | [], line, t, h => by
    rw [linL] at h
    split at h
    · cases h
    · obtain rfl : t = line := by simpa using h
      exact ⟨by assumption, fun c hc => .inl hc, by simp⟩
  | c :: r, line, t, h => by
    rw [linL] at h
    split at h
    · rename_i e
      rcases List.mem_cons.1 h with rfl | h
      · refine ⟨by simp, fun x hx => ?_, by simp⟩
        rcases List.mem_append.1 hx with h2 | h2
        · exact .inl h2
        · exact .inr (by simp at h2; simp [h2, e])
      · obtain ⟨h1, h2, h3⟩ := lin_mem r [] t h
        exact ⟨h1, fun x hx => .inr (List.mem_cons_of_mem _ ((h2 x hx).resolve_left (by simp))), by simp at h3 ⊢; omega⟩
    · obtain ⟨h1, h2, h3⟩ := lin_mem r (line ++ [c]) t h
      refine ⟨h1, fun x hx => ?_, by simp at h3 ⊢; omega⟩
      rcases h2 x hx with h4 | h4
      · rcases List.mem_append.1 h4 with h5 | h5
        · exact .inl h5
        · exact .inr (by simp at h5; simp [h5])
      · exact .inr (List.mem_cons_of_mem _ h4)
end Go.Proofs.YtkcbfiglmjdaiaaDoor
