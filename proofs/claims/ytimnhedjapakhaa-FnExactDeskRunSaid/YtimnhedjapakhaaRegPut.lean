/-
  Drawn regions whose operations' values are put into their slots by number: no activation is written out. Nothing of the program.
-/
import Derived.Test.YtimnhedjapakhaaBaseZ
namespace Go.Proofs.Ytimnhedjapakhaa
open Go Go.RowKit

/-- An activation with the operations' values in their slots. -/
def putsOf : List (Option Tmp × Nat) → Act → (Nat → Value) → Act
  | [], a, _ => a
  | (d, i) :: r, a, s => putsOf r (a.put d (s i)) s
def okPuts : List (Option Tmp × Nat) → Bool
  | [] => true
  | (d, i) :: r => r.all (fun p => p.2 != i && (d.isNone || p.1 != d)) && okPuts r
/-- The slots of the first m operations. -/
def dstsOf (ops : Array Oper) (m : Nat) : List (Option Tmp × Nat) := (List.range m).map fun i => (ops[i]?.bind fun o => o.dst, i)
theorem put_put (a : Act) (d : Option Tmp) (u v : Value) : (a.put d u).put d v = a.put d v := by
  cases d with
  | none => rfl
  | some d => simp [Act.put, Array.setIfInBounds_setIfInBounds]
theorem puts_comm (s : Nat → Value) (d : Option Tmp) (v : Value) : ∀ (L : List (Option Tmp × Nat)) (a : Act), (∀ p ∈ L, ∀ x, d = some x → p.1 ≠ some x) → putsOf L (a.put d v) s = (putsOf L a s).put d v
  | [], _, _ => rfl
  | (e, i) :: r, a, h => by
    simp only [putsOf]
    rw [Act.put_comm a v (s i) (fun x hx => h (e, i) (List.mem_cons_self ..) x hx)]
    exact puts_comm s d v r _ (fun p hp => h p (List.mem_cons_of_mem _ hp))
theorem puts_other {s s' : Nat → Value} : ∀ (L : List (Option Tmp × Nat)) (a : Act), (∀ p ∈ L, s p.2 = s' p.2) → putsOf L a s = putsOf L a s'
  | [], _, _ => rfl
  | (e, i) :: r, a, h => by
    simp only [putsOf]
    rw [h (e, i) (List.mem_cons_self ..)]
    exact puts_other r _ (fun p hp => h p (List.mem_cons_of_mem _ hp))
theorem puts_put (s : Nat → Value) (d : Option Tmp) (i : Nat) (v : Value) : ∀ (L : List (Option Tmp × Nat)) (a : Act), okPuts L = true → (d, i) ∈ L → (putsOf L a s).put d v = putsOf L a (fun j => if j = i then v else s j)
  | [], _, _, h => by cases h
  | (e, j) :: r, a, hok, h => by
    simp only [okPuts, Bool.and_eq_true, List.all_eq_true, bne_iff_ne, Bool.or_eq_true] at hok
    simp only [putsOf]
    rcases List.mem_cons.1 h with h | h
    · injection h with h1 h2
      subst h1
      subst h2
      rw [if_pos rfl, ← puts_comm s d v r _ (fun p hp x hx he => by
        rcases (hok.1 p hp).2 with h3 | h3
        · rw [hx] at h3; cases h3
        · exact h3 (by rw [he, hx])), put_put]
      exact puts_other r _ (fun p hp => by rw [if_neg (hok.1 p hp).1])
    · have h3 := hok.1 _ h
      rw [if_neg (fun e => h3.1 e.symm)]
      exact puts_put s d i v r _ hok.2 h
theorem put_self (a : Act) (d : Option Tmp) : ∃ v, a.put d v = a := by
  cases d with
  | none => exact ⟨undef, rfl⟩
  | some d =>
    by_cases h : d < a.tmps.size
    · refine ⟨a.tmps[d], ?_⟩
      have hx : a.tmps.setIfInBounds d a.tmps[d] = a.tmps := by
        unfold Array.setIfInBounds
        rw [dif_pos h]
        simp
      show ({ a with tmps := a.tmps.setIfInBounds d a.tmps[d] } : Act) = a
      rw [hx]
    · refine ⟨undef, ?_⟩
      have hx : a.tmps.setIfInBounds d undef = a.tmps := by
        unfold Array.setIfInBounds
        rw [dif_neg h]
      show ({ a with tmps := a.tmps.setIfInBounds d undef } : Act) = a
      rw [hx]
theorem puts_self (a : Act) : ∀ (L : List (Option Tmp × Nat)), okPuts L = true → ∃ s, a = putsOf L a s
  | [], _ => ⟨fun _ => undef, rfl⟩
  | (d, i) :: r, hok => by
    simp only [okPuts, Bool.and_eq_true, List.all_eq_true, bne_iff_ne, Bool.or_eq_true] at hok
    obtain ⟨s, hs⟩ := puts_self a r hok.2
    obtain ⟨v, hv⟩ := put_self a d
    refine ⟨fun j => if j = i then v else s j, ?_⟩
    have h1 : putsOf r a (fun j => if j = i then v else s j) = putsOf r a s := puts_other r a (fun p hp => if_neg (hok.1 p hp).1)
    show a = putsOf r (a.put d (if i = i then v else s i)) _
    rw [if_pos rfl, hv, h1]
    exact hs

/-- A region that draws its order, of which all that lay before stands until the last operations, whatever is known of each operation's value. -/
theorem wpIn_region_put {F : Fence} {n : Nat} {P : Program} {id : Nat} {ops : Array Oper} {Q : Exit → Act → World → Prop} {a : Act} {W : World} (m : Nat) (L : List (Option Tmp × Nat)) (hm : P.follows .mixedOrders = true) (hb : backB ops = true) (ht : tailB ops m = true) (hsz : m < ops.size)
    (hL : dstsOf ops m = L) (hok : okPuts L = true) (Φ : Nat → Value → World → Prop) (hmono : ∀ k v V V', Φ k v V → Below V.heap.size V V' → Φ k v V')
    (hstep : ∀ i o s V, i < m → ops[i]? = some o → Below W.heap.size W V → (∀ k, depB ops i k = true → Φ k (s k) V) → ∀ Q' : Exit → Act → World → Prop,
      (∀ v V', Below V.heap.size V V' → Φ i v V' → Q' .normal ((putsOf L a s).put o.dst v) V') → wpListIn F n P ops Q' [o] (putsOf L a s) V)
    (htail : ∀ s V, Below W.heap.size W V → (∀ k, k < m → Φ k (s k) V) → wpListIn F n P ops Q (ops.toList.drop m) (putsOf L a s) V) : (Code.region id ops true).wpIn F n P Q a W := by
  refine wpIn_region_tail m hm hb ht hsz (putsOf L a) (fun V => Below W.heap.size W V) (fun V V' => Below V.heap.size V V') Φ (puts_self a L hok) ?_ (Below.refl _ _).drew (fun k v V V' h hg => hmono k v V V' h hg) ?_ htail
  · intro i o s v hi ho
    refine puts_put s o.dst i v L a hok ?_
    rw [← hL]
    unfold dstsOf
    refine List.mem_map.2 ⟨i, List.mem_range.2 hi, ?_⟩
    rw [ho]
    rfl
  · rintro i o s V him ho hV hd Q' hQ'
    exact hstep i o s V him ho hV hd Q' (fun v V' h2 h3 => hQ' v V' (hV.trans (h2.mono hV.size)) h2 h3)
end Go.Proofs.Ytimnhedjapakhaa
