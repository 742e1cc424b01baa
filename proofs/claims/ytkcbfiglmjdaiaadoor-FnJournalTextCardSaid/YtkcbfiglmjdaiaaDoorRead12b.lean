/-
  The program's ReadDeed at every text.
-/
import Derived.Test.YtkcbfiglmjdaiaaDoorRead12a
namespace Go.Proofs.YtkcbfiglmjdaiaaDoor
open Go.RowKit

def wL (i : Nat) : List Nat := match i with
  | 0 => [102, 108, 105, 112]
  | 1 => [112, 117, 116]
  | 2 => [117, 110, 100, 101, 114]
  | 3 => [116, 117, 114, 110]
  | 4 => [114, 111, 117, 110, 100]
  | 5 => [98, 97, 99, 107]
  | _ => []
def ixL (p : List Nat) : Int := if p = wL 0 then 0 else if p = wL 1 then 1 else if p = wL 2 then 2 else if p = wL 3 then 3 else if p = wL 4 then 4 else if p = wL 5 then 5 else -1
theorem wL_byte : ((List.range 6).all fun i => (wL i).all fun c => decide (c < 256)) = true := by decide
theorem ixL_at : ((List.range 6).all fun i => decide (ixL (wL i) = i)) = true := by decide
theorem words_str : ∀ i, i < 6 → wordsA[i]? = some (.string (str (wL i)))
  | 0, _ => by kernel_rfl
  | 1, _ => by kernel_rfl
  | 2, _ => by kernel_rfl
  | 3, _ => by kernel_rfl
  | 4, _ => by kernel_rfl
  | 5, _ => by kernel_rfl
  | _ + 6, h => by omega

theorem index_in (p : List Nat) (hp : ∀ x ∈ p, x < 256) (g : Nat) (W : World) (hc : ∀ k v, wordsA[k]? = some v → W.cell? ⟨g, k, none⟩ = some v) :
    Calls Tryd.prog 38 #[.slice (some ⟨g, 0, none⟩) 6 6, .string (str p)] W fun e w' => e = .returned (.int .i64 (ixL p)) ∧ W = w' := by
  have hcw : ∀ i, i < 6 → W.cell? ⟨g, i, none⟩ = some (.string (str (wL i))) := fun i hi => hc i _ (words_str i hi)
  have hit : ∀ i, i < 6 → str p = str (wL i) → ixL p = i := fun i hi e => by
    have hb := List.all_eq_true.1 wL_byte i (List.mem_range.2 hi)
    have hx := List.all_eq_true.1 ixL_at i (List.mem_range.2 hi)
    have e2 : p = wL i := str_inj hp (fun x hx => by have := List.all_eq_true.1 hb x hx; simpa using this) (congrArg (fun b : ByteArray => b.data.toList) e)
    subst e2
    simpa using hx
  have miss : (∀ j, j < 6 → ¬ str p = str (wL j)) → ixL p = -1 := fun h => by
    have h' : ∀ j, j < 6 → ¬ p = wL j := fun j hj e => h j hj (by rw [e])
    unfold ixL
    rw [if_neg (h' 0 (by omega)), if_neg (h' 1 (by omega)), if_neg (h' 2 (by omega)), if_neg (h' 3 (by omega)), if_neg (h' 4 (by omega)), if_neg (h' 5 (by omega))]
  replace hcw := hide hcw
  replace hit := hide hit
  replace miss := hide miss
  obtain ⟨X, hX⟩ : ∃ X, str p = X := ⟨_, rfl⟩
  rw [hX] at hit miss ⊢
  obtain ⟨R, hR⟩ : ∃ R, ixL p = R := ⟨_, rfl⟩
  rw [hR] at hit miss ⊢
  clear hc hX hR hp
  go_enter Tryd.func38, Tryd.ntmps38
  go_wp2
  go_loopw [8] (fun a wr => ∃ i : Nat, i ≤ 6 ∧ a = .int .i64 i ∧ wr = W ∧ Hid (∀ j, j < i → ¬ X = str (wL j))) (fun a _ => 6 - (intOf a).toNat)
  case atStart => exact ⟨0, by omega, rfl, rfl, hide fun j hj => absurd hj (Nat.not_lt_zero j)⟩
  case round =>
    obtain ⟨i, hi, rfl, rfl, hno⟩ := hrel
    by_cases hlt : i < 6
    · have hlti : (i : Int) < 6 := by omega
      have hcell := hcw.out i hlt
      obtain ⟨Y, hY⟩ : ∃ Y, str (wL i) = Y := ⟨_, rfl⟩
      rw [hY] at hcell
      by_cases e : X = Y
      · have hr := hit.out i hlt (e.trans hY.symm)
        subst e
        subst hr
        go_wp2
        go_ret
        exact ⟨rfl, rfl⟩
      · have hne := (Lib.bytes_beq_false_iff X Y).2 e
        have hno' := hide (show ∀ j, j < i + 1 → ¬ X = str (wL j) from fun j hj => by
          rcases Nat.lt_or_ge j i with h | h
          · exact hno.out j h
          · obtain rfl : j = i := by omega
            rw [hY]; exact e)
        clear hno
        go_wp2
        go_roundw
        case rel => exact ⟨i + 1, by omega, by go_num, trivial, hno'⟩
        case measure => simp [intOf]; omega
    · obtain rfl : i = 6 := by omega
      have hr := miss.out hno.out
      subst hr
      go_wp2
      go_ret
      exact ⟨rfl, rfl⟩
/-- What ReadDeed finds of a text: the kind by the word, the number behind it. -/
def okR (i : Nat) : Bool :=
  let a := nthD i
  let r := rlV (deedT a.1 a.2)
  decide (ixL r.1 = a.1 ∧ r.2.headD 0 = a.2)
set_option maxRecDepth 100000 in
theorem okR_all : ((List.range 114).all okR) = true := by decide +kernel
theorem okR_of {l : List Nat} {a : Int × Int} (h : readD l = some a) : ixL (rlV l).1 = a.1 ∧ (rlV l).2.headD 0 = a.2 := by
  obtain ⟨h1, h2⟩ := readD_text h
  subst h2
  obtain ⟨i, hi, he⟩ := isD_nth (deedT_is h1)
  have h3 := List.all_eq_true.1 okR_all i (List.mem_range.2 hi)
  unfold okR at h3
  rw [he] at h3
  simpa using h3
theorem rdv_none {l : List Nat} (h : ixL (rlV l).1 < 0) : rdV l = ((0, 0), false) := by
  unfold rdV
  cases hr : readD l with
  | none => rfl
  | some a =>
    have := (okR_of hr).1
    obtain ⟨h3, h4⟩ := readD_text hr
    rw [← h4] at h3
    have h5 := deedT_is h3
    unfold isD at h5
    omega
theorem rdv_other {l : List Nat} (h : ¬ deedT (ixL (rlV l).1) ((rlV l).2.headD 0) = l) : rdV l = ((0, 0), false) := by
  unfold rdV
  cases hr : readD l with
  | none => rfl
  | some a =>
    obtain ⟨h1, h2⟩ := okR_of hr
    rw [h1, h2] at h
    exact absurd (readD_text hr).2 h
theorem rdv_this {l : List Nat} (h0 : 0 ≤ ixL (rlV l).1) (h : deedT (ixL (rlV l).1) ((rlV l).2.headD 0) = l) : rdV l = ((ixL (rlV l).1, (rlV l).2.headD 0), true) := by
  unfold rdV
  have hne : l ≠ [] := fun e => by
    subst e
    revert h0
    decide
  have h2 := read_of_text (k := ixL (rlV l).1) (n := (rlV l).2.headD 0) (by rw [h]; exact hne)
  rw [h] at h2
  rw [h2]
theorem numsL_le : ∀ (ps : List (List Nat)) (ns : List Int), numsL ps = some ns → ∀ x ∈ ns, 0 ≤ x ∧ x ≤ 999999999
  | [], ns, h, x, hx => by
    rw [numsL] at h
    injection h with h
    subst h
    cases hx
  | p :: r, ns, h, x, hx => by
    rw [numsL_cons] at h
    cases hd : digT p with
    | none => rw [hd] at h; cases h
    | some m =>
      rw [hd] at h
      simp only at h
      cases hr : numsL r with
      | none => rw [hr] at h; cases h
      | some ms =>
        rw [hr] at h
        injection h with h
        subst h
        rcases List.mem_cons.1 hx with rfl | hx
        · have := (dig_is hd).1; omega
        · exact numsL_le r ms hr x hx
theorem rl_le (l : List Nat) : ∀ x ∈ (rlV l).2, 0 ≤ x ∧ x ≤ 999999999 := by
  unfold rlV
  cases h : numsL (cutT 32 l).tail with
  | none => intro x hx; cases hx
  | some ns => exact numsL_le _ ns h
theorem rl_byte (l : List Nat) (hl : ∀ x ∈ l, x < 256) : ∀ x ∈ (rlV l).1, x < 256 := by
  unfold rlV
  cases h : numsL (cutT 32 l).tail with
  | none => intro x hx; cases hx
  | some ns =>
    intro x hx
    have := cutL_mem 32 l [] ((cutT 32 l).getD 0 []) (word_mem _ 0 (cutL_pos 32 l []))
    exact hl x ((this.1 x hx).resolve_left (by simp))
theorem ixL_le (p : List Nat) : -1 ≤ ixL p ∧ ixL p ≤ 5 := by
  unfold ixL
  repeat' split
  all_goals omega
end Go.Proofs.YtkcbfiglmjdaiaaDoor
