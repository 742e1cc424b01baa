/-
  A region that draws its order and ends in one operation that waits for all others (a store of what was computed), inside a fence, a round of a loop over a function among them: one obligation an operation, whichever order is drawn. Nothing of the program.
-/
import Derived.Test.YtehmobcfbifocaaRegInv
namespace Go.Proofs.Ytehmobcfbifocaa
open Go

/-- Operation j waits for operation k. -/
def depB (ops : Array Oper) (j k : Nat) : Bool := ((ops[j]?).map fun o => o.after.any fun e => Region.binds .any e && e.on == k).getD false
def Shut (ops : Array Oper) (L : Nat → Bool) : Prop := ∀ j k, L j = true → depB ops j k = true → L k = true
/-- For which operations the operation m waits, from j on down. -/
def needs (ops : Array Oper) (m : Nat) : Nat → Nat → Bool
  | 0, k => k == m
  | d + 1, k => needs ops m d k || (needs ops m d (m - d) && depB ops (m - d) k)
theorem needs_of {ops : Array Oper} {m : Nat} {L : Nat → Bool} (hS : Shut ops L) (hm : L m = true) : ∀ d k, needs ops m d k = true → L k = true
  | 0, k, h => by
    have : k = m := by simpa [needs] using h
    rw [this]; exact hm
  | d + 1, k, h => by
    simp only [needs, Bool.or_eq_true, Bool.and_eq_true] at h
    rcases h with h | ⟨h1, h2⟩
    · exact needs_of hS hm d k h
    · exact hS _ _ (needs_of hS hm d _ h1) h2
theorem dep_of {ops : Array Oper} {i k : Nat} {o : Oper} {L : Nat → Bool} (ho : ops[i]? = some o) (hde : (o.after.all fun e => !Region.binds .any e || L e.on) = true) (h : depB ops i k = true) : L k = true := by
  unfold depB at h
  rw [ho] at h
  simp only [Option.map_some, Option.getD_some] at h
  rw [← Array.any_toList, List.any_eq_true] at h
  obtain ⟨e, he, hek⟩ := h
  rw [Array.mem_toList_iff] at he
  rw [Array.all_eq_true_iff_forall_mem] at hde
  have h1 := hde e he
  rw [Bool.and_eq_true] at hek
  rw [hek.1] at h1
  have h2 : e.on = k := by simpa using hek.2
  subst h2
  simpa using h1
theorem shut_next {ops : Array Oper} {i : Nat} {o : Oper} {L : Nat → Bool} (ho : ops[i]? = some o) (hde : (o.after.all fun e => !Region.binds .any e || L e.on) = true) (hS : Shut ops L) : Shut ops (fun j => if j = i then true else L j) := fun j k hj hd => by
  dsimp only at hj ⊢
  have h : L k = true := by
    by_cases e : j = i
    · subst e; exact dep_of ho hde hd
    · rw [if_neg e] at hj; exact hS j k hj hd
  by_cases e : k = i
  · rw [if_pos e]
  · rw [if_neg e]; exact h

/-- As 'wpAnyIn_inv', with the region's own exits. -/
theorem wpAnyIn_inv2 {F : Fence} {n : Nat} {P : Program} {ops : Array Oper} {Q : Exit → Act → World → Prop} (hb : backB ops = true) (Inv : (Nat → Bool) → Act → World → Prop)
    (hstep : ∀ L b W i o, ops[i]? = some o → L i = false → (o.after.all fun e => !Region.binds .any e || L e.on) = true → Inv L b W → ∀ K : Act → World → Prop, (∀ b' W', Inv (fun j => if j = i then true else L j) b' W' → K b' W') → wpOpIn F n P ops Q i K b W)
    (hend : ∀ L b W, (∀ i, i < ops.size → L i = true) → Inv L b W → Q .normal b W) :
    ∀ (fuel : Nat) (listed : Array Bool) (b : Act) (W : World), listed.size = ops.size → unl listed.toList ≤ fuel → Inv (fun j => listed.getD j false) b W → wpAnyIn F n P .any ops Q fuel listed b W
  | 0, listed, b, W, hs, hu, hI => by
    have hall : ∀ i, i < ops.size → listed.getD i false = true := fun i hi => by
      have := unl_none listed.toList (by omega) i (listed[i]'(by omega)) (by simp)
      rw [Array.getD_eq_getD_getElem?, Array.getElem?_eq_getElem (by omega)]
      exact this
    refine ⟨?_, hend _ b W hall hI⟩
    unfold Region.ready
    rw [List.filter_eq_nil_iff]
    intro i hi
    have h1 := hall i (List.mem_range.1 hi)
    have h2 : listed.getD i true = true := by
      rw [Array.getD_eq_getD_getElem?] at h1 ⊢
      rw [Array.getElem?_eq_getElem (by have := List.mem_range.1 hi; omega)] at h1 ⊢
      exact h1
    simp [h2]
  | fuel + 1, listed, b, W, hs, hu, hI => by
    refine ⟨fun hr => hend _ b W (all_done hs hb hr) hI, fun i hi => ?_⟩
    unfold Region.ready at hi
    rw [List.mem_filter] at hi
    obtain ⟨h1, h2⟩ := hi
    have hlt := List.mem_range.1 h1
    rw [Bool.and_eq_true] at h2
    obtain ⟨h2, h3⟩ := h2
    have hL : listed[i]? = some false := by
      rw [Array.getD_eq_getD_getElem?, Array.getElem?_eq_getElem (by omega)] at h2
      rw [Array.getElem?_eq_getElem (by omega)]
      simpa using h2
    rw [Array.getElem?_eq_getElem hlt] at h3
    simp only [Option.map_some, Option.getD_some] at h3
    refine hstep (fun j => listed.getD j false) b W i ops[i] (Array.getElem?_eq_getElem hlt) (by rw [Array.getD_eq_getD_getElem?, hL]; rfl) h3 hI _ (fun b' W' hI' => ?_)
    refine wpAnyIn_inv2 hb Inv hstep hend fuel _ b' W' (by simpa using hs) ?_ ?_
    · have := unl_set listed.toList i (by simpa using hL)
      simp only [Array.toList_setIfInBounds]
      omega
    · have : (fun j => if j = i then true else listed.getD j false) = fun j => (listed.setIfInBounds i true).getD j false := by
        funext j
        by_cases e : j = i
        · subst e; rw [if_pos rfl, Array.getD_eq_getD_getElem?, Array.getElem?_setIfInBounds_self_of_lt (by omega)]; rfl
        · rw [if_neg e, Array.getD_eq_getD_getElem?, Array.getD_eq_getD_getElem?, Array.getElem?_setIfInBounds_ne (fun h => e h.symm)]
      rw [← this]; exact hI'
theorem wpOp_of_list {F : Fence} {n : Nat} {P : Program} {ops : Array Oper} {Q : Exit → Act → World → Prop} {i : Nat} {o : Oper} {rest : List Oper} {b : Act} {W : World} (ho : ops[i]? = some o) (h : wpListIn F n P ops Q (o :: rest) b W) {K : Act → World → Prop} (hK : ∀ b' W', wpListIn F n P ops Q rest b' W' → K b' W') : wpOpIn F n P ops Q i K b W := by
  unfold wpOpIn
  rw [ho]
  simp only [wpListIn] at h ⊢
  split at h
  · rename_i hw
    rw [if_pos hw]
    exact Oper.wpIn_mono (fun a w h => hK a w h) h
  · rename_i hw
    rw [if_neg hw]
    exact ⟨h.1, hK _ _ h.2⟩

/-- From operation m on each waits for all before it. -/
def tailB (ops : Array Oper) (m : Nat) : Bool := (List.range ops.size).all fun j => decide (j < m) || (List.range j).all fun k => needs ops j ops.size k
theorem tail_of {ops : Array Oper} {m j k : Nat} {L : Nat → Bool} (ht : tailB ops m = true) (hS : Shut ops L) (hm : m ≤ j) (hj : j < ops.size) (hL : L j = true) (hk : k < j) : L k = true := by
  have h := List.all_eq_true.1 ht j (List.mem_range.2 hj)
  rw [Bool.or_eq_true] at h
  rcases h with h | h
  · simp at h; omega
  · exact needs_of hS hL _ _ (List.all_eq_true.1 h k (List.mem_range.2 hk))

theorem wpIn_region_tail {F : Fence} {n : Nat} {P : Program} {id : Nat} {ops : Array Oper} {Q : Exit → Act → World → Prop} {a : Act} {w : World} (m : Nat) (hm : P.follows .mixedOrders = true) (hb : backB ops = true) (ht : tailB ops m = true) (hsz : m < ops.size)
    (fr : (Nat → Value) → Act) (C : World → Prop) (G : World → World → Prop) (Φ : Nat → Value → World → Prop)
    (h0 : ∃ s, a = fr s) (hput : ∀ i o s v, i < m → ops[i]? = some o → (fr s).put o.dst v = fr (fun j => if j = i then v else s j))
    (hC : C w.drew) (hG : ∀ k v W W', Φ k v W → G W W' → Φ k v W')
    (hstep : ∀ i o s W, i < m → ops[i]? = some o → C W → (∀ k, depB ops i k = true → Φ k (s k) W) → ∀ Q' : Exit → Act → World → Prop,
      (∀ v W', C W' → G W W' → Φ i v W' → Q' .normal ((fr s).put o.dst v) W') → wpListIn F n P ops Q' [o] (fr s) W)
    (htail : ∀ s W, C W → (∀ k, k < m → Φ k (s k) W) → wpListIn F n P ops Q (ops.toList.drop m) (fr s) W) : (Code.region id ops true).wpIn F n P Q a w := by
  have hdrop : ∀ d (h : d < ops.size), ops.toList.drop d = ops[d] :: ops.toList.drop (d + 1) := fun d h => by
    rw [List.drop_eq_getElem_cons (by simpa using h)]; simp
  refine wpIn_region_any hm (wpAnyIn_inv2 hb (fun L b W => Shut ops L ∧ (((∀ j, m ≤ j → j < ops.size → L j = false) ∧ ∃ s, b = fr s ∧ C W ∧ ∀ k, L k = true → Φ k (s k) W) ∨
    (∃ d, m < d ∧ d ≤ ops.size ∧ (∀ j, j < ops.size → (L j = true ↔ j < d)) ∧ wpListIn F n P ops Q (ops.toList.drop d) b W))) ?_ ?_ _ _ _ _ (by simp) ?_ ?_)
  · rintro L b W i o ho hLi hde ⟨hS, (⟨hno, s, rfl, hCW, hΦ⟩ | ⟨d, hd1, hd2, hd3, hd4⟩)⟩ K hK
    · obtain ⟨hi, ho'⟩ := Array.getElem?_eq_some_iff.1 ho
      have hS' := shut_next ho hde hS
      by_cases him : i < m
      · have hst := hstep i o s W him ho hCW (fun k hk => hΦ k (dep_of ho hde hk)) (fun e b' W' => match e with | .normal => K b' W' | e => Q e b' W')
          (fun v W' h1 h2 h3 => hK _ _ ⟨hS', .inl ⟨fun j hj1 hj2 => (by dsimp only; rw [if_neg (by omega)]; exact hno j hj1 hj2), fun j => if j = i then v else s j, hput i o s v him ho, h1, fun k hk => (by
            by_cases e : k = i
            · subst e; simpa using h3
            · simp only [if_neg e] at hk ⊢
              exact hG k _ W W' (hΦ k hk) h2)⟩⟩)
        unfold wpOpIn
        rw [ho]
        simp only [wpListIn] at hst
        exact hst
      · have hall : ∀ k, k < i → L k = true := fun k hk => by
          have := tail_of ht hS' (by omega) hi (if_pos rfl) hk
          rwa [if_neg (by omega)] at this
        have him2 : i = m := by
          rcases Nat.lt_or_ge m i with h | h
          · have h1 := hall m h
            rw [hno m (Nat.le_refl _) hsz] at h1
            cases h1
          · omega
        subst him2
        have hl := htail s W hCW (fun k hk => hΦ k (hall k hk))
        rw [hdrop _ hi, ho'] at hl
        refine wpOp_of_list ho hl (fun b' W' h' => hK _ _ ⟨hS', .inr ⟨i + 1, by omega, by omega, fun j hj => ?_, h'⟩⟩)
        dsimp only
        by_cases e : j = i
        · rw [if_pos e]; exact ⟨fun _ => by omega, fun _ => rfl⟩
        · rw [if_neg e]
          refine ⟨fun h => ?_, fun h => hall j (by omega)⟩
          rcases Nat.lt_or_ge j i with h2 | h2
          · omega
          · rw [hno j h2 hj] at h; cases h
    · obtain ⟨hi, ho'⟩ := Array.getElem?_eq_some_iff.1 ho
      have hS' := shut_next ho hde hS
      have hid : d ≤ i := by
        rcases Nat.lt_or_ge i d with h | h
        · rw [(hd3 i hi).2 h] at hLi; cases hLi
        · exact h
      have hall : ∀ k, k < i → L k = true := fun k hk => by
        have := tail_of ht hS' (by omega) hi (if_pos rfl) hk
        rwa [if_neg (by omega)] at this
      have hid2 : i = d := by
        rcases Nat.lt_or_ge d i with h | h
        · have := (hd3 d (by omega)).1 (hall d h); omega
        · omega
      subst hid2
      rw [hdrop _ hi, ho'] at hd4
      refine wpOp_of_list ho hd4 (fun b' W' h' => hK _ _ ⟨hS', .inr ⟨i + 1, by omega, by omega, fun j hj => ?_, h'⟩⟩)
      dsimp only
      by_cases e : j = i
      · rw [if_pos e]; exact ⟨fun _ => by omega, fun _ => rfl⟩
      · rw [if_neg e]
        have := hd3 j hj
        exact ⟨fun h => by have := this.1 h; omega, fun h => this.2 (by omega)⟩
  · rintro L b W hL ⟨_, (⟨hno, _⟩ | ⟨d, hd1, hd2, hd3, hd4⟩)⟩
    · have := hno m (Nat.le_refl _) hsz
      rw [hL m hsz] at this; cases this
    · have hds : d = ops.size := by
        rcases Nat.lt_or_ge d ops.size with h | h
        · have := (hd3 d h).1 (hL d h); omega
        · omega
      subst hds
      rw [List.drop_of_length_le (by simp)] at hd4
      exact hd4
  · unfold unl
    simp
  · have hfn : (fun j => (Array.replicate ops.size false).getD j false) = fun _ => false := by
      funext j
      rw [Array.getD_eq_getD_getElem?]
      by_cases e : j < ops.size
      · rw [Array.getElem?_replicate, if_pos e]; rfl
      · rw [Array.getElem?_eq_none (by simp; omega)]; rfl
    rw [hfn]
    obtain ⟨s, hs⟩ := h0
    exact ⟨fun _ _ (h : false = true) => (by cases h), .inl ⟨fun _ _ _ => rfl, s, hs, hC, fun _ (h : false = true) => (by cases h)⟩⟩
end Go.Proofs.Ytehmobcfbifocaa
