/-
  A text cut at spaces: strings.Split's pieces (Lib.splitB) are those of cutT. Nothing of the program.
-/
import Derived.Test.YtkcbfiglmjdaiaaDoorMath12n
import Derived.Test.YtkcbfiglmjdaiaaDoorSpecZ
namespace Go.Proofs.YtkcbfiglmjdaiaaDoor

theorem index_cons32 (c : UInt8) (h : c ≠ 32) (s : List UInt8) : Lib.index (c :: s) [32] = if Lib.index s [32] == -1 then -1 else Lib.index s [32] + 1 := by
  rw [Lib.index, if_neg]
  simp [List.isPrefixOf]
  exact fun e => h e.symm
theorem splitK_cons (c : UInt8) (h : c ≠ 32) : ∀ (k : Nat) (s x : List UInt8) (t : List (List UInt8)), Lib.splitK [32] 0 k s = x :: t → Lib.splitK [32] 0 k (c :: s) = (c :: x) :: t
  | 0, s, x, t, e => by
    rw [Lib.splitK] at e ⊢
    injection e with e1 e2
    rw [e1, e2]
  | k + 1, s, x, t, e => by
    have hge := Lib.index_ge s [32]
    rw [Lib.splitK] at e ⊢
    rw [index_cons32 c h]
    by_cases h1 : Lib.index s [32] = -1
    · rw [h1] at e ⊢
      simp at e ⊢
      exact e
    · obtain ⟨i, hi⟩ : ∃ i : Nat, Lib.index s [32] = i := ⟨(Lib.index s [32]).toNat, by omega⟩
      have hb : ¬ ((i : Int) == -1) = true := by simp
      have hb2 : ¬ ((i : Int) + 1 == -1) = true := by simp; omega
      rw [hi, if_neg hb] at e
      rw [hi, if_neg hb, if_neg hb2]
      have e3 : ((i : Int) + 1).toNat = i + 1 := by omega
      have e4 : ((i : Int)).toNat = i := by omega
      rw [e4] at e
      rw [e3]
      simp only [List.length_singleton, Nat.add_zero, List.take_succ_cons, List.drop_succ_cons] at e ⊢
      injection e with e1 e2
      rw [e1, e2]
theorem cutL_front (sep : Nat) : ∀ (r line : List Nat), ∃ h t, cutL sep [] r = h :: t ∧ cutL sep line r = (line ++ h) :: t
  | [], line => ⟨[], [], rfl, by simp [cutL]⟩
  | c :: r, line => by
    by_cases e : c = sep
    · subst e
      exact ⟨[], cutL c [] r, cutL_hit c [] r, by rw [cutL_hit, List.append_nil]⟩
    · obtain ⟨h, t, h1, h2⟩ := cutL_front sep r [c]
      obtain ⟨h', t', h3, h4⟩ := cutL_front sep r (line ++ [c])
      rw [h1] at h3
      injection h3 with h5 h6
      subst h5 h6
      exact ⟨[c] ++ h, t, by rw [cutL_other e, List.nil_append]; exact h2, by rw [cutL_other e, h4, List.append_assoc]⟩
theorem split_cut : ∀ (l : List Nat), (∀ x ∈ l, x < 256) → Lib.splitK [32] 0 ((l.map UInt8.ofNat).count 32) (l.map UInt8.ofNat) = (cutT 32 l).map (·.map UInt8.ofNat)
  | [], _ => by simp [Lib.splitK, cutT, cutL]
  | c :: r, hb => by
    have ih := split_cut r (fun x hx => hb x (by simp [hx]))
    have hc := hb c (by simp)
    by_cases e : c = 32
    · subst e
      unfold cutT at ih ⊢
      rw [cutL_hit, List.map_cons, List.map_cons, show UInt8.ofNat 32 = 32 from rfl, List.count_cons_self, Lib.splitK, show Lib.index ((32 : UInt8) :: r.map UInt8.ofNat) [32] = 0 by rw [Lib.index]; simp [List.isPrefixOf]]
      simp
      exact ih
    · have hne : UInt8.ofNat c ≠ 32 := fun e2 => by
        have := congrArg UInt8.toNat e2
        simp at this
        omega
      obtain ⟨h, t, h1, h2⟩ := cutL_front 32 r [c]
      unfold cutT at ih ⊢
      rw [h1, List.map_cons] at ih
      rw [cutL_other e, List.nil_append, h2, List.map_cons, List.count_cons_of_ne hne, List.map_cons, splitK_cons _ hne _ _ _ _ ih]
      rfl
theorem str_data (l : List Nat) : (str l).data.toList = l.map UInt8.ofNat := rfl
theorem data_str {b : ByteArray} {l : List Nat} (h : b.data.toList = l.map UInt8.ofNat) : b = str l := by
  unfold str
  rw [← h]
theorem data_all : ∀ (A : List ByteArray) (L : List (List Nat)), A.map (·.data.toList) = L.map (·.map UInt8.ofNat) → A = L.map str
  | [], [], _ => rfl
  | [], _ :: _, h => by simp at h
  | _ :: _, [], h => by simp at h
  | x :: A, y :: L, h => by
    rw [List.map_cons, List.map_cons] at h
    injection h with h1 h2
    rw [List.map_cons, data_str h1, data_all A L h2]
/-- The pieces of strings.Split at one space. -/
theorem splitB_cut (l : List Nat) (hb : ∀ x ∈ l, x < 256) : Lib.splitB ⟨#[32]⟩ 0 (Lib.countB (str l) ⟨#[32]⟩) (str l) = (cutT 32 l).map str := by
  have h := Lib.splitB_data ⟨#[32]⟩ 0 (Lib.countB (str l) ⟨#[32]⟩) (str l)
  have hk : Lib.countB (str l) ⟨#[32]⟩ = (l.map UInt8.ofNat).count 32 := Lib.count_one 32 (l.map UInt8.ofNat)
  rw [show (⟨#[32]⟩ : ByteArray).data.toList = [32] from rfl, str_data, hk, split_cut l hb] at h
  rw [hk]
  exact data_all _ _ h
end Go.Proofs.YtkcbfiglmjdaiaaDoor
