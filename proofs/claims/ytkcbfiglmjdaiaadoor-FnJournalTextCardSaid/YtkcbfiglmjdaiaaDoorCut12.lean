/-
  strings.CutSuffix of a newline, strings.IndexByte of a newline.
-/
import Derived.Test.YtkcbfiglmjdaiaaDoorLines12
import Derived.Test.YtkcbfiglmjdaiaaDoorBaseZ
import Derived.Test.YtkcbfiglmjdaiaaDoorLay12j
import Derived.Lib.SlicesS
import Derived.Lib.IndexLaws
namespace Go.Proofs.YtkcbfiglmjdaiaaDoor
open Go.RowKit

theorem last_cases (t : List Nat) : t = [] ∨ ∃ q c, t = q ++ [c] := by
  rcases List.eq_nil_or_concat t with h | ⟨q, c, h⟩
  · exact .inl h
  · exact .inr ⟨q, c, by simpa using h⟩
theorem has_no (t : List Nat) (ht : t = []) (w : World) : Calls Tryd.prog 45 #[.string (str t), .string ⟨#[10]⟩] w fun e w' => e = .returned (.bool false) ∧ w = w' := by
  subst ht
  have hz : (str []).size = 0 := by kernel_rfl
  generalize str [] = S at *
  go_enter Tryd.func45, Tryd.ntmps45
  go_wp2
  go_ret
  exact ⟨rfl, rfl⟩
theorem has_last (q : List Nat) (c : Nat) (hc : c < 256) (hq : q.length ≤ 2000000) (w : World) : Calls Tryd.prog 45 #[.string (str (q ++ [c])), .string ⟨#[10]⟩] w fun e w' => e = .returned (.bool (decide (c = 10))) ∧ w = w' := by
  have hz : (str (q ++ [c])).size = q.length + 1 := by rw [str_size]; simp
  have hcut : (str (q ++ [c])).extract q.length (q.length + 1) = str [c] := by
    rw [str_cut, List.drop_left' rfl, show q.length + 1 - q.length = 1 by omega]; rfl
  have hcmp : ((str [c]).toList == ([10] : List UInt8)) = decide (c = 10) := by
    rw [Bool.eq_iff_iff, beq_iff_eq, decide_eq_true_eq, str_toList]
    constructor
    · intro e
      have := str_inj (a := [c]) (b := [10]) (by simpa using hc) (by simp) e
      simpa using this
    · rintro rfl; rfl
  generalize q.length = n at *
  generalize str (q ++ [c]) = S at *
  generalize str [c] = X at *
  generalize decide (c = 10) = b at *
  have h1 : (1 : Int) ≤ (n : Int) + 1 := by omega
  have hw : wrap64 (n : Int) = n := IntWalk.wrap64_in (n : Int) (by omega)
  go_enter Tryd.func45, Tryd.ntmps45
  go_wp2
  go_ret
  exact ⟨rfl, rfl⟩
/-- The line without its newline, and whether there was one. -/
def cutN (t : List Nat) : List Nat × Bool := if t.getLast? = some 10 then (t.dropLast, true) else (t, false)
theorem cutLite_in (t : List Nat) (ht : ∀ x ∈ t, x < 256) (htn : t.length ≤ 2000000) (w : World) : Calls Tryd.prog 36 #[.string (str t), .string ⟨#[10]⟩] w fun e w' => e = .returned (.tuple #[.string (str (cutN t).1), .bool (cutN t).2]) ∧ w = w' := by
  rcases last_cases t with e | ⟨q, c, e⟩
  · have hH := fun V => has_no t e V
    have hn : cutN t = (t, false) := by subst e; rfl
    rw [hn]
    generalize str t = S at *
    clear ht hn e
    go_enter Tryd.func36, Tryd.ntmps36
    go_wp2_with (go_at_call 45; refine (hH _).mono ?_; clear hH; rintro e w' ⟨rfl, rfl⟩)
    go_ret2
    exact ⟨rfl, rfl⟩
  · subst e
    have hc : c < 256 := ht c (by simp)
    have hqn : q.length ≤ 2000000 := by rw [List.length_append] at htn; omega
    have hH := fun V => has_last q c hc hqn V
    have hz : (str (q ++ [c])).size = q.length + 1 := by rw [str_size]; simp
    by_cases h10 : c = 10
    · have hn : cutN (q ++ [c]) = (q, true) := by unfold cutN; rw [if_pos (by simp [h10]), List.dropLast_concat]
      have hcut : (str (q ++ [c])).extract 0 q.length = str q := by rw [str_cut]; simp
      rw [decide_eq_true h10] at hH
      rw [hn]
      obtain ⟨n, hq⟩ : ∃ n, q.length = n := ⟨_, rfl⟩
      rw [hq] at hz hcut
      obtain ⟨X, hX⟩ : ∃ X, str q = X := ⟨_, rfl⟩
      obtain ⟨S, hS⟩ : ∃ S, str (q ++ [c]) = S := ⟨_, rfl⟩
      rw [hS] at hH hz hcut ⊢
      simp only
      rw [hX] at hcut ⊢
      have hw : wrap64 (n : Int) = n := IntWalk.wrap64_in (n : Int) (by omega)
      clear hn hS hX hq h10 hc ht
      go_enter Tryd.func36, Tryd.ntmps36
      go_wp2_with (go_at_call 45; refine (hH _).mono ?_; clear hH; rintro e w' ⟨rfl, rfl⟩)
      go_ret2
      exact ⟨rfl, rfl⟩
    · have hn : cutN (q ++ [c]) = (q ++ [c], false) := by unfold cutN; rw [if_neg (by simpa using h10)]
      rw [decide_eq_false h10] at hH
      rw [hn]
      generalize str (q ++ [c]) = S at *
      clear hn h10 hc ht hz
      go_enter Tryd.func36, Tryd.ntmps36
      go_wp2_with (go_at_call 45; refine (hH _).mono ?_; clear hH; rintro e w' ⟨rfl, rfl⟩)
      go_ret2
      exact ⟨rfl, rfl⟩
theorem cutSuffix_in (t : List Nat) (ht : ∀ x ∈ t, x < 256) (htn : t.length ≤ 2000000) (w : World) : Calls Tryd.prog 20 #[.string (str t), .string ⟨#[10]⟩] w fun e w' => e = .returned (.tuple #[.string (str (cutN t).1), .bool (cutN t).2]) ∧ w = w' := by
  have hL := fun V => cutLite_in t ht htn V
  generalize str t = S at *
  generalize str (cutN t).1 = X at *
  generalize (cutN t).2 = b at *
  clear ht
  go_enter Tryd.func20, Tryd.ntmps20
  go_wp2_with (go_at_call 36; refine (hL _).mono ?_; clear hL; rintro e w' ⟨rfl, rfl⟩)
  go_ret2
  exact ⟨rfl, rfl⟩
/-- Where the first newline is: there is none, or it is at i. -/
theorem newline_in (s : List Nat) (hs : ∀ x ∈ s, x < 256) (w : World) : Calls Tryd.prog 35 #[.string (str s), .int .u8 10] w fun e w' => ((e = .returned (.int .i64 (-1)) ∧ ∀ c ∈ s, c ≠ 10) ∨ ∃ i : Nat, e = .returned (.int .i64 i) ∧ s[i]? = some 10 ∧ ∀ k, k < i → s[k]? ≠ some 10) ∧ w = w' := by
  refine (Any.strings_IndexByte { Tryd.indexByteA with } (str s) 10 w).mono ?_
  rintro e w' ⟨rfl, rfl⟩
  refine ⟨?_, rfl⟩
  have hat : ∀ k : Nat, ((str s).data.toList)[k]? = some (10 : UInt8) ↔ s[k]? = some 10 := fun k => by
    rw [show (str s).data.toList = s.map UInt8.ofNat from rfl, List.getElem?_map]
    cases h : s[k]? with
    | none => simp
    | some c =>
      have hc := hs c (List.mem_of_getElem? h)
      simp only [Option.map_some, Option.some.injEq]
      constructor
      · intro e
        have := congrArg UInt8.toNat e
        simp at this
        omega
      · rintro rfl; rfl
  have hge := Lib.indexByte_ge (str s).data.toList 10
  show (Ending.returned (.int .i64 (Lib.indexByte (str s).data.toList 10)) = _ ∧ _) ∨ ∃ i : Nat, Ending.returned (.int .i64 (Lib.indexByte (str s).data.toList 10)) = _ ∧ _
  by_cases h : Lib.indexByte (str s).data.toList 10 = -1
  · refine .inl ⟨by rw [h], fun c hc e => ?_⟩
    obtain ⟨k, hk⟩ := List.mem_iff_getElem?.1 hc
    exact Lib.indexByte_none h k ((hat k).2 (by rw [hk, e]))
  · obtain ⟨i, hi⟩ : ∃ i : Nat, Lib.indexByte (str s).data.toList 10 = i := ⟨(Lib.indexByte (str s).data.toList 10).toNat, by omega⟩
    obtain ⟨h1, h2⟩ := Lib.indexByte_some hi
    exact .inr ⟨i, by rw [hi], (hat i).1 h1, fun k hk e => h2 k hk ((hat k).2 e)⟩
end Go.Proofs.YtkcbfiglmjdaiaaDoor
