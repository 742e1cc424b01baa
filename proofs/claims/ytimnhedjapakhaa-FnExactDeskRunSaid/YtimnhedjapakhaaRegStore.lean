/-
  As wpIn_region_two, where what is known behind the change may speak of the values themselves: a region in which a variable is made and stored, and a part of the call's answer may be taken out behind the store. Nothing of the program.
-/
import Derived.Test.YtimnhedjapakhaaBaseZ
namespace Go.Proofs.Ytimnhedjapakhaa
open Go

theorem wpIn_region_store {F : Fence} {n : Nat} {P : Program} {id : Nat} {ops : Array Oper} {Q : Exit → Act → World → Prop} {a : Act} {w : World} (p m : Nat) (hm : P.follows .mixedOrders = true) (hb : backB ops = true) (ht : tailB ops m = true) (hpm : p < m) (hsz : m < ops.size)
    (fr : (Nat → Value) → Act) (C : Bool → World → Prop) (G : World → World → Prop) (Φ : Bool → Nat → Value → World → Prop)
    (h0 : ∃ s, a = fr s) (hput : ∀ i o s v, i < m → ops[i]? = some o → (fr s).put o.dst v = fr (fun j => if j = i then v else s j))
    (hC : C false w.drew) (hG : ∀ c k v W W', Φ c k v W → G W W' → Φ c k v W')
    (hstep : ∀ c i o s W, i < m → i ≠ p → (c = true → needs ops p ops.size i = false) → ops[i]? = some o → C c W → (∀ k, depB ops i k = true → Φ c k (s k) W) → ∀ Q' : Exit → Act → World → Prop,
      (∀ v W', C c W' → G W W' → Φ c i v W' → Q' .normal ((fr s).put o.dst v) W') → wpListIn F n P ops Q' [o] (fr s) W)
    (hmid : ∀ o s W, ops[p]? = some o → C false W → (∀ k, depB ops p k = true → Φ false k (s k) W) → ∀ Q' : Exit → Act → World → Prop,
      (∀ v W', C true W' → (∀ k, k ≠ p → Φ false k (s k) W → Φ true k (s k) W') → Φ true p v W' → Q' .normal ((fr s).put o.dst v) W') → wpListIn F n P ops Q' [o] (fr s) W)
    (htail : ∀ s W, C true W → (∀ k, k < m → Φ true k (s k) W) → wpListIn F n P ops Q (ops.toList.drop m) (fr s) W) : (Code.region id ops true).wpIn F n P Q a w := by
  have hdrop : ∀ d (h : d < ops.size), ops.toList.drop d = ops[d] :: ops.toList.drop (d + 1) := fun d h => by
    rw [List.drop_eq_getElem_cons (by simpa using h)]; simp
  refine wpIn_region_any hm (wpAnyIn_inv2 hb (fun L b W => Shut ops L ∧ (((∀ j, m ≤ j → j < ops.size → L j = false) ∧ ∃ s, b = fr s ∧ C (L p) W ∧ ∀ k, L k = true → Φ (L p) k (s k) W) ∨
    (∃ d, m < d ∧ d ≤ ops.size ∧ (∀ j, j < ops.size → (L j = true ↔ j < d)) ∧ wpListIn F n P ops Q (ops.toList.drop d) b W))) ?_ ?_ _ _ _ _ (by simp) ?_ ?_)
  · rintro L b W i o ho hLi hde ⟨hS, (⟨hno, s, rfl, hCW, hΦ⟩ | ⟨d, hd1, hd2, hd3, hd4⟩)⟩ K hK
    · obtain ⟨hi, ho'⟩ := Array.getElem?_eq_some_iff.1 ho
      have hS' := shut_next ho hde hS
      by_cases him : i < m
      · by_cases hip : i = p
        · subst hip
          rw [hLi] at hCW hΦ
          have hL1 : (fun j => if j = i then true else L j) i = true := if_pos rfl
          have hst := hmid o s W ho hCW (fun k hk => hΦ k (dep_of ho hde hk)) (fun e b' W' => match e with | .normal => K b' W' | e => Q e b' W')
            (fun v W' h1 h2 h3 => hK _ _ ⟨hS', .inl ⟨fun j hj1 hj2 => (by dsimp only; rw [if_neg (by omega)]; exact hno j hj1 hj2), fun j => if j = i then v else s j, hput i o s v him ho, (by rw [hL1]; exact h1), fun k hk => (by
              rw [hL1]
              by_cases e : k = i
              · subst e; simpa using h3
              · simp only [if_neg e] at hk ⊢
                exact h2 k e (hΦ k hk))⟩⟩)
          unfold wpOpIn
          rw [ho]
          simp only [wpListIn] at hst
          exact hst
        · have hLp : (fun j => if j = i then true else L j) p = L p := if_neg (fun e => hip e.symm)
          have hst := hstep (L p) i o s W him hip (fun hc => (by
            cases hn : needs ops p ops.size i with
            | false => rfl
            | true => have := needs_of hS hc _ _ hn; rw [hLi] at this; cases this)) ho hCW (fun k hk => hΦ k (dep_of ho hde hk)) (fun e b' W' => match e with | .normal => K b' W' | e => Q e b' W')
            (fun v W' h1 h2 h3 => hK _ _ ⟨hS', .inl ⟨fun j hj1 hj2 => (by dsimp only; rw [if_neg (by omega)]; exact hno j hj1 hj2), fun j => if j = i then v else s j, hput i o s v him ho, (by rw [hLp]; exact h1), fun k hk => (by
              rw [hLp]
              by_cases e : k = i
              · subst e; simpa using h3
              · simp only [if_neg e] at hk ⊢
                exact hG _ k _ W W' (hΦ k hk) h2)⟩⟩)
          unfold wpOpIn
          rw [ho]
          simp only [wpListIn] at hst
          exact hst
      · have hall : ∀ k, k < i → L k = true := fun k hk => by
          have := tail_of ht hS' (by omega) hi (if_pos rfl) hk
          rwa [if_neg (by omega)] at this
        have him2 : i = m := by
          rcases Nat.lt_or_ge m i with h | h
          · have h1 := hall m h
            rw [hno m (Nat.le_refl _) hsz] at h1
            cases h1
          · omega
        subst him2
        have hLp := hall p hpm
        rw [hLp] at hCW hΦ
        have hl := htail s W hCW (fun k hk => hΦ k (hall k hk))
        rw [hdrop _ hi, ho'] at hl
        refine wpOp_of_list ho hl (fun b' W' h' => hK _ _ ⟨hS', .inr ⟨i + 1, by omega, by omega, fun j hj => ?_, h'⟩⟩)
        dsimp only
        by_cases e : j = i
        · rw [if_pos e]; exact ⟨fun _ => by omega, fun _ => rfl⟩
        · rw [if_neg e]
          refine ⟨fun h => ?_, fun h => hall j (by omega)⟩
          rcases Nat.lt_or_ge j i with h2 | h2
          · omega
          · rw [hno j h2 hj] at h; cases h
    · obtain ⟨hi, ho'⟩ := Array.getElem?_eq_some_iff.1 ho
      have hS' := shut_next ho hde hS
      have hid : d ≤ i := by
        rcases Nat.lt_or_ge i d with h | h
        · rw [(hd3 i hi).2 h] at hLi; cases hLi
        · exact h
      have hall : ∀ k, k < i → L k = true := fun k hk => by
        have := tail_of ht hS' (by omega) hi (if_pos rfl) hk
        rwa [if_neg (by omega)] at this
      have hid2 : i = d := by
        rcases Nat.lt_or_ge d i with h | h
        · have := (hd3 d (by omega)).1 (hall d h); omega
        · omega
      subst hid2
      rw [hdrop _ hi, ho'] at hd4
      refine wpOp_of_list ho hd4 (fun b' W' h' => hK _ _ ⟨hS', .inr ⟨i + 1, by omega, by omega, fun j hj => ?_, h'⟩⟩)
      dsimp only
      by_cases e : j = i
      · rw [if_pos e]; exact ⟨fun _ => by omega, fun _ => rfl⟩
      · rw [if_neg e]
        have := hd3 j hj
        exact ⟨fun h => by have := this.1 h; omega, fun h => this.2 (by omega)⟩
  · rintro L b W hL ⟨_, (⟨hno, _⟩ | ⟨d, hd1, hd2, hd3, hd4⟩)⟩
    · have := hno m (Nat.le_refl _) hsz
      rw [hL m hsz] at this; cases this
    · have hds : d = ops.size := by
        rcases Nat.lt_or_ge d ops.size with h | h
        · have := (hd3 d h).1 (hL d h); omega
        · omega
      subst hds
      rw [List.drop_of_length_le (by simp)] at hd4
      exact hd4
  · unfold unl
    simp
  · have hfn : (fun j => (Array.replicate ops.size false).getD j false) = fun _ => false := by
      funext j
      rw [Array.getD_eq_getD_getElem?]
      by_cases e : j < ops.size
      · rw [Array.getElem?_replicate, if_pos e]; rfl
      · rw [Array.getElem?_eq_none (by simp; omega)]; rfl
    rw [hfn]
    obtain ⟨s, hs⟩ := h0
    exact ⟨fun _ _ (h : false = true) => (by cases h), .inl ⟨fun _ _ _ => rfl, s, hs, hC, fun _ (h : false = true) => (by cases h)⟩⟩
end Go.Proofs.Ytimnhedjapakhaa
