/-
  A region that draws its order, inside a fence, a round of a loop over a function among them: an invariant over which operations have been carried out. It is kept by each operation that may come next, whichever that is. Nothing of the program.
-/
import Derived.OrdersIn
import Derived.TacticsIn
import Derived.Test.YtkcbfiglmjdaiaaDoorProg
import Derived.Test.YtkcbfiglmjdaiaaDoorMathZ
import Derived.OwnWalkIn
import Derived.Deep.RegionLaw
import Derived.RangeFuncBox
import Derived.Laws.DeepStrings4
import Derived.Laws.Cover1
import Derived.Maps.AppendAt
import Derived.WalkSpells
import Derived.RangeFuncNested
import Derived.RangeFuncBound
import Derived.RangeFuncCalls
import Derived.RangeFuncLeaves
import Derived.WalkKit
import Derived.BigRegion
import Derived.Shelf.Abstract
import Derived.Shelf.RegionOpen
import Derived.TacticsInMore
import Derived.LoopNIn
import Derived.LoopIn
import Derived.Deep.QuietTactic
import Derived.BigQuiet
import Derived.Below
import Derived.Laws.BytesString
import Derived.ControlIn
namespace Go.Proofs.YtkcbfiglmjdaiaaDoor
open Go

/-- How many have not been carried out. -/
def unl (l : List Bool) : Nat := l.count false
theorem unl_set : ∀ (l : List Bool) (i : Nat), l[i]? = some false → unl (l.set i true) + 1 = unl l
  | [], i, h => by simp at h
  | b :: l, 0, h => by
    simp at h; subst h
    simp [unl]
  | b :: l, i + 1, h => by
    have := unl_set l i (by simpa using h)
    unfold unl at *
    rw [List.set_cons_succ, List.count_cons, List.count_cons]
    omega
theorem unl_none : ∀ (l : List Bool), unl l = 0 → ∀ (i : Nat) (b : Bool), l[i]? = some b → b = true
  | [], _, i, b, h => by simp at h
  | c :: l, h0, 0, b, h => by
    simp at h; subst h
    unfold unl at h0
    rw [List.count_cons] at h0
    cases c with
    | true => rfl
    | false => simp at h0
  | c :: l, h0, i + 1, b, h => by
    refine unl_none l ?_ i b (by simpa using h)
    unfold unl at *
    rw [List.count_cons] at h0
    omega

/-- Each operation waits for earlier ones alone. -/
def backB (ops : Array Oper) : Bool := (List.range ops.size).all fun i => ((ops[i]?).map fun o => o.after.all fun e => !Region.binds .any e || decide (e.on < i)).getD true
theorem all_done {ops : Array Oper} {listed : Array Bool} (hs : listed.size = ops.size) (hb : backB ops = true) (h : Region.ready .any ops listed = []) : ∀ i, i < ops.size → listed.getD i false = true := by
  intro i
  induction i using Nat.strongRecOn with
  | _ i ih =>
    intro hi
    cases e : listed.getD i false with
    | true => rfl
    | false =>
      exfalso
      have h1 : i ∈ Region.ready .any ops listed := by
        unfold Region.ready
        rw [List.mem_filter]
        refine ⟨List.mem_range.2 hi, ?_⟩
        have h2 : listed.getD i true = false := by
          rw [Array.getD_eq_getD_getElem?] at e ⊢
          rw [Array.getElem?_eq_getElem (by omega)] at e ⊢
          exact e
        rw [h2, Array.getElem?_eq_getElem hi]
        simp only [Bool.not_false, Bool.true_and, Option.map_some, Option.getD_some]
        rw [Array.all_eq_true_iff_forall_mem]
        intro x hx
        have h3 := List.all_eq_true.1 hb i (List.mem_range.2 hi)
        rw [Array.getElem?_eq_getElem hi] at h3
        simp only [Option.map_some, Option.getD_some] at h3
        have h4 := (Array.all_eq_true_iff_forall_mem.1 h3) x hx
        cases e6 : Region.binds .any x with
        | false => rfl
        | true =>
          rw [e6] at h4
          have h5 : x.on < i := by simpa using h4
          rw [ih x.on h5 (by omega)]
          rfl
      rw [h] at h1
      cases h1

theorem wpAnyIn_inv {F : Fence} {n : Nat} {P : Program} {ops : Array Oper} {Q : Exit → Act → World → Prop} (hb : backB ops = true) (Inv : (Nat → Bool) → Act → World → Prop)
    (hstep : ∀ L b W i o, ops[i]? = some o → L i = false → (o.after.all fun e => !Region.binds .any e || L e.on) = true → Inv L b W → ∀ Q' : Exit → Act → World → Prop, (∀ b' W', Inv (fun j => if j = i then true else L j) b' W' → Q' .normal b' W') → wpListIn F n P ops Q' [o] b W)
    (hend : ∀ L b W, (∀ i, i < ops.size → L i = true) → Inv L b W → Q .normal b W) :
    ∀ (fuel : Nat) (listed : Array Bool) (b : Act) (W : World), listed.size = ops.size → unl listed.toList ≤ fuel → Inv (fun j => listed.getD j false) b W → wpAnyIn F n P .any ops Q fuel listed b W
  | 0, listed, b, W, hs, hu, hI => by
    have hall : ∀ i, i < ops.size → listed.getD i false = true := fun i hi => by
      have := unl_none listed.toList (by omega) i (listed[i]'(by omega)) (by simp)
      rw [Array.getD_eq_getD_getElem?, Array.getElem?_eq_getElem (by omega)]
      exact this
    refine ⟨?_, hend _ b W hall hI⟩
    unfold Region.ready
    rw [List.filter_eq_nil_iff]
    intro i hi
    have h1 := hall i (List.mem_range.1 hi)
    have h2 : listed.getD i true = true := by
      rw [Array.getD_eq_getD_getElem?] at h1 ⊢
      rw [Array.getElem?_eq_getElem (by have := List.mem_range.1 hi; omega)] at h1 ⊢
      exact h1
    simp [h2]
  | fuel + 1, listed, b, W, hs, hu, hI => by
    refine ⟨fun hr => hend _ b W (all_done hs hb hr) hI, fun i hi => ?_⟩
    unfold Region.ready at hi
    rw [List.mem_filter] at hi
    obtain ⟨h1, h2⟩ := hi
    have hlt := List.mem_range.1 h1
    rw [Bool.and_eq_true] at h2
    obtain ⟨h2, h3⟩ := h2
    have hL : listed[i]? = some false := by
      rw [Array.getD_eq_getD_getElem?, Array.getElem?_eq_getElem (by omega)] at h2
      rw [Array.getElem?_eq_getElem (by omega)]
      simpa using h2
    rw [Array.getElem?_eq_getElem hlt] at h3
    simp only [Option.map_some, Option.getD_some] at h3
    have hst := hstep (fun j => listed.getD j false) b W i ops[i] (Array.getElem?_eq_getElem hlt) (by rw [Array.getD_eq_getD_getElem?, hL]; rfl) h3 hI
      (fun e b' W' => match e with | .normal => wpAnyIn F n P .any ops Q fuel (listed.setIfInBounds i true) b' W' | e => Q e b' W')
      (fun b' W' hI' => by
        refine wpAnyIn_inv hb Inv hstep hend fuel _ b' W' (by simpa using hs) ?_ ?_
        · have := unl_set listed.toList i (by simpa using hL)
          simp only [Array.toList_setIfInBounds]
          omega
        · have : (fun j => if j = i then true else listed.getD j false) = fun j => (listed.setIfInBounds i true).getD j false := by
            funext j
            by_cases e : j = i
            · subst e; rw [if_pos rfl, Array.getD_eq_getD_getElem?, Array.getElem?_setIfInBounds_self_of_lt (by omega)]; rfl
            · rw [if_neg e, Array.getD_eq_getD_getElem?, Array.getD_eq_getD_getElem?, Array.getElem?_setIfInBounds_ne (fun h => e h.symm)]
          rw [← this]; exact hI')
    unfold wpOpIn
    rw [Array.getElem?_eq_getElem hlt]
    simp only [wpListIn] at hst
    exact hst

/-- THE LAW. -/
theorem wpIn_region_inv {F : Fence} {n : Nat} {P : Program} {id : Nat} {ops : Array Oper} {Q : Exit → Act → World → Prop} {a : Act} {w : World} (hm : P.follows .mixedOrders = true) (hb : backB ops = true) (Inv : (Nat → Bool) → Act → World → Prop)
    (h0 : Inv (fun _ => false) a w.drew)
    (hstep : ∀ L b W i o, ops[i]? = some o → L i = false → (o.after.all fun e => !Region.binds .any e || L e.on) = true → Inv L b W → ∀ Q' : Exit → Act → World → Prop, (∀ b' W', Inv (fun j => if j = i then true else L j) b' W' → Q' .normal b' W') → wpListIn F n P ops Q' [o] b W)
    (hend : ∀ L b W, (∀ i, i < ops.size → L i = true) → Inv L b W → Q .normal b W) : (Code.region id ops true).wpIn F n P Q a w := by
  refine wpIn_region_any hm (wpAnyIn_inv hb Inv hstep hend _ _ _ _ (by simp) ?_ ?_)
  · unfold unl
    simp
  · have : (fun j => (Array.replicate ops.size false).getD j false) = fun _ => false := by
      funext j
      rw [Array.getD_eq_getD_getElem?]
      by_cases e : j < ops.size
      · rw [Array.getElem?_replicate, if_pos e]; rfl
      · rw [Array.getElem?_eq_none (by simp; omega)]; rfl
    rw [this]; exact h0
end Go.Proofs.YtkcbfiglmjdaiaaDoor
/-
  A region that draws its order and ends in one operation that waits for all others (a store of what was computed), inside a fence, a round of a loop over a function among them: one obligation an operation, whichever order is drawn. Nothing of the program.
-/
namespace Go.Proofs.YtkcbfiglmjdaiaaDoor
open Go

/-- Operation j waits for operation k. -/
def depB (ops : Array Oper) (j k : Nat) : Bool := ((ops[j]?).map fun o => o.after.any fun e => Region.binds .any e && e.on == k).getD false
def Shut (ops : Array Oper) (L : Nat → Bool) : Prop := ∀ j k, L j = true → depB ops j k = true → L k = true
/-- For which operations the operation m waits, from j on down. -/
def needs (ops : Array Oper) (m : Nat) : Nat → Nat → Bool
  | 0, k => k == m
  | d + 1, k => needs ops m d k || (needs ops m d (m - d) && depB ops (m - d) k)
theorem needs_of {ops : Array Oper} {m : Nat} {L : Nat → Bool} (hS : Shut ops L) (hm : L m = true) : ∀ d k, needs ops m d k = true → L k = true
  | 0, k, h => by
    have : k = m := by simpa [needs] using h
    rw [this]; exact hm
  | d + 1, k, h => by
    simp only [needs, Bool.or_eq_true, Bool.and_eq_true] at h
    rcases h with h | ⟨h1, h2⟩
    · exact needs_of hS hm d k h
    · exact hS _ _ (needs_of hS hm d _ h1) h2
theorem dep_of {ops : Array Oper} {i k : Nat} {o : Oper} {L : Nat → Bool} (ho : ops[i]? = some o) (hde : (o.after.all fun e => !Region.binds .any e || L e.on) = true) (h : depB ops i k = true) : L k = true := by
  unfold depB at h
  rw [ho] at h
  simp only [Option.map_some, Option.getD_some] at h
  rw [← Array.any_toList, List.any_eq_true] at h
  obtain ⟨e, he, hek⟩ := h
  rw [Array.mem_toList_iff] at he
  rw [Array.all_eq_true_iff_forall_mem] at hde
  have h1 := hde e he
  rw [Bool.and_eq_true] at hek
  rw [hek.1] at h1
  have h2 : e.on = k := by simpa using hek.2
  subst h2
  simpa using h1
theorem shut_next {ops : Array Oper} {i : Nat} {o : Oper} {L : Nat → Bool} (ho : ops[i]? = some o) (hde : (o.after.all fun e => !Region.binds .any e || L e.on) = true) (hS : Shut ops L) : Shut ops (fun j => if j = i then true else L j) := fun j k hj hd => by
  dsimp only at hj ⊢
  have h : L k = true := by
    by_cases e : j = i
    · subst e; exact dep_of ho hde hd
    · rw [if_neg e] at hj; exact hS j k hj hd
  by_cases e : k = i
  · rw [if_pos e]
  · rw [if_neg e]; exact h

/-- As 'wpAnyIn_inv', with the region's own exits. -/
theorem wpAnyIn_inv2 {F : Fence} {n : Nat} {P : Program} {ops : Array Oper} {Q : Exit → Act → World → Prop} (hb : backB ops = true) (Inv : (Nat → Bool) → Act → World → Prop)
    (hstep : ∀ L b W i o, ops[i]? = some o → L i = false → (o.after.all fun e => !Region.binds .any e || L e.on) = true → Inv L b W → ∀ K : Act → World → Prop, (∀ b' W', Inv (fun j => if j = i then true else L j) b' W' → K b' W') → wpOpIn F n P ops Q i K b W)
    (hend : ∀ L b W, (∀ i, i < ops.size → L i = true) → Inv L b W → Q .normal b W) :
    ∀ (fuel : Nat) (listed : Array Bool) (b : Act) (W : World), listed.size = ops.size → unl listed.toList ≤ fuel → Inv (fun j => listed.getD j false) b W → wpAnyIn F n P .any ops Q fuel listed b W
  | 0, listed, b, W, hs, hu, hI => by
    have hall : ∀ i, i < ops.size → listed.getD i false = true := fun i hi => by
      have := unl_none listed.toList (by omega) i (listed[i]'(by omega)) (by simp)
      rw [Array.getD_eq_getD_getElem?, Array.getElem?_eq_getElem (by omega)]
      exact this
    refine ⟨?_, hend _ b W hall hI⟩
    unfold Region.ready
    rw [List.filter_eq_nil_iff]
    intro i hi
    have h1 := hall i (List.mem_range.1 hi)
    have h2 : listed.getD i true = true := by
      rw [Array.getD_eq_getD_getElem?] at h1 ⊢
      rw [Array.getElem?_eq_getElem (by have := List.mem_range.1 hi; omega)] at h1 ⊢
      exact h1
    simp [h2]
  | fuel + 1, listed, b, W, hs, hu, hI => by
    refine ⟨fun hr => hend _ b W (all_done hs hb hr) hI, fun i hi => ?_⟩
    unfold Region.ready at hi
    rw [List.mem_filter] at hi
    obtain ⟨h1, h2⟩ := hi
    have hlt := List.mem_range.1 h1
    rw [Bool.and_eq_true] at h2
    obtain ⟨h2, h3⟩ := h2
    have hL : listed[i]? = some false := by
      rw [Array.getD_eq_getD_getElem?, Array.getElem?_eq_getElem (by omega)] at h2
      rw [Array.getElem?_eq_getElem (by omega)]
      simpa using h2
    rw [Array.getElem?_eq_getElem hlt] at h3
    simp only [Option.map_some, Option.getD_some] at h3
    refine hstep (fun j => listed.getD j false) b W i ops[i] (Array.getElem?_eq_getElem hlt) (by rw [Array.getD_eq_getD_getElem?, hL]; rfl) h3 hI _ (fun b' W' hI' => ?_)
    refine wpAnyIn_inv2 hb Inv hstep hend fuel _ b' W' (by simpa using hs) ?_ ?_
    · have := unl_set listed.toList i (by simpa using hL)
      simp only [Array.toList_setIfInBounds]
      omega
    · have : (fun j => if j = i then true else listed.getD j false) = fun j => (listed.setIfInBounds i true).getD j false := by
        funext j
        by_cases e : j = i
        · subst e; rw [if_pos rfl, Array.getD_eq_getD_getElem?, Array.getElem?_setIfInBounds_self_of_lt (by omega)]; rfl
        · rw [if_neg e, Array.getD_eq_getD_getElem?, Array.getD_eq_getD_getElem?, Array.getElem?_setIfInBounds_ne (fun h => e h.symm)]
      rw [← this]; exact hI'
theorem wpOp_of_list {F : Fence} {n : Nat} {P : Program} {ops : Array Oper} {Q : Exit → Act → World → Prop} {i : Nat} {o : Oper} {rest : List Oper} {b : Act} {W : World} (ho : ops[i]? = some o) (h : wpListIn F n P ops Q (o :: rest) b W) {K : Act → World → Prop} (hK : ∀ b' W', wpListIn F n P ops Q rest b' W' → K b' W') : wpOpIn F n P ops Q i K b W := by
  unfold wpOpIn
  rw [ho]
  simp only [wpListIn] at h ⊢
  split at h
  · rename_i hw
    rw [if_pos hw]
    exact Oper.wpIn_mono (fun a w h => hK a w h) h
  · rename_i hw
    rw [if_neg hw]
    exact ⟨h.1, hK _ _ h.2⟩

/-- From operation m on each waits for all before it. -/
def tailB (ops : Array Oper) (m : Nat) : Bool := (List.range ops.size).all fun j => decide (j < m) || (List.range j).all fun k => needs ops j ops.size k
theorem tail_of {ops : Array Oper} {m j k : Nat} {L : Nat → Bool} (ht : tailB ops m = true) (hS : Shut ops L) (hm : m ≤ j) (hj : j < ops.size) (hL : L j = true) (hk : k < j) : L k = true := by
  have h := List.all_eq_true.1 ht j (List.mem_range.2 hj)
  rw [Bool.or_eq_true] at h
  rcases h with h | h
  · simp at h; omega
  · exact needs_of hS hL _ _ (List.all_eq_true.1 h k (List.mem_range.2 hk))

theorem wpIn_region_tail {F : Fence} {n : Nat} {P : Program} {id : Nat} {ops : Array Oper} {Q : Exit → Act → World → Prop} {a : Act} {w : World} (m : Nat) (hm : P.follows .mixedOrders = true) (hb : backB ops = true) (ht : tailB ops m = true) (hsz : m < ops.size)
    (fr : (Nat → Value) → Act) (C : World → Prop) (G : World → World → Prop) (Φ : Nat → Value → World → Prop)
    (h0 : ∃ s, a = fr s) (hput : ∀ i o s v, i < m → ops[i]? = some o → (fr s).put o.dst v = fr (fun j => if j = i then v else s j))
    (hC : C w.drew) (hG : ∀ k v W W', Φ k v W → G W W' → Φ k v W')
    (hstep : ∀ i o s W, i < m → ops[i]? = some o → C W → (∀ k, depB ops i k = true → Φ k (s k) W) → ∀ Q' : Exit → Act → World → Prop,
      (∀ v W', C W' → G W W' → Φ i v W' → Q' .normal ((fr s).put o.dst v) W') → wpListIn F n P ops Q' [o] (fr s) W)
    (htail : ∀ s W, C W → (∀ k, k < m → Φ k (s k) W) → wpListIn F n P ops Q (ops.toList.drop m) (fr s) W) : (Code.region id ops true).wpIn F n P Q a w := by
  have hdrop : ∀ d (h : d < ops.size), ops.toList.drop d = ops[d] :: ops.toList.drop (d + 1) := fun d h => by
    rw [List.drop_eq_getElem_cons (by simpa using h)]; simp
  refine wpIn_region_any hm (wpAnyIn_inv2 hb (fun L b W => Shut ops L ∧ (((∀ j, m ≤ j → j < ops.size → L j = false) ∧ ∃ s, b = fr s ∧ C W ∧ ∀ k, L k = true → Φ k (s k) W) ∨
    (∃ d, m < d ∧ d ≤ ops.size ∧ (∀ j, j < ops.size → (L j = true ↔ j < d)) ∧ wpListIn F n P ops Q (ops.toList.drop d) b W))) ?_ ?_ _ _ _ _ (by simp) ?_ ?_)
  · rintro L b W i o ho hLi hde ⟨hS, (⟨hno, s, rfl, hCW, hΦ⟩ | ⟨d, hd1, hd2, hd3, hd4⟩)⟩ K hK
    · obtain ⟨hi, ho'⟩ := Array.getElem?_eq_some_iff.1 ho
      have hS' := shut_next ho hde hS
      by_cases him : i < m
      · have hst := hstep i o s W him ho hCW (fun k hk => hΦ k (dep_of ho hde hk)) (fun e b' W' => match e with | .normal => K b' W' | e => Q e b' W')
          (fun v W' h1 h2 h3 => hK _ _ ⟨hS', .inl ⟨fun j hj1 hj2 => (by dsimp only; rw [if_neg (by omega)]; exact hno j hj1 hj2), fun j => if j = i then v else s j, hput i o s v him ho, h1, fun k hk => (by
            by_cases e : k = i
            · subst e; simpa using h3
            · simp only [if_neg e] at hk ⊢
              exact hG k _ W W' (hΦ k hk) h2)⟩⟩)
        unfold wpOpIn
        rw [ho]
        simp only [wpListIn] at hst
        exact hst
      · have hall : ∀ k, k < i → L k = true := fun k hk => by
          have := tail_of ht hS' (by omega) hi (if_pos rfl) hk
          rwa [if_neg (by omega)] at this
        have him2 : i = m := by
          rcases Nat.lt_or_ge m i with h | h
          · have h1 := hall m h
            rw [hno m (Nat.le_refl _) hsz] at h1
            cases h1
          · omega
        subst him2
        have hl := htail s W hCW (fun k hk => hΦ k (hall k hk))
        rw [hdrop _ hi, ho'] at hl
        refine wpOp_of_list ho hl (fun b' W' h' => hK _ _ ⟨hS', .inr ⟨i + 1, by omega, by omega, fun j hj => ?_, h'⟩⟩)
        dsimp only
        by_cases e : j = i
        · rw [if_pos e]; exact ⟨fun _ => by omega, fun _ => rfl⟩
        · rw [if_neg e]
          refine ⟨fun h => ?_, fun h => hall j (by omega)⟩
          rcases Nat.lt_or_ge j i with h2 | h2
          · omega
          · rw [hno j h2 hj] at h; cases h
    · obtain ⟨hi, ho'⟩ := Array.getElem?_eq_some_iff.1 ho
      have hS' := shut_next ho hde hS
      have hid : d ≤ i := by
        rcases Nat.lt_or_ge i d with h | h
        · rw [(hd3 i hi).2 h] at hLi; cases hLi
        · exact h
      have hall : ∀ k, k < i → L k = true := fun k hk => by
        have := tail_of ht hS' (by omega) hi (if_pos rfl) hk
        rwa [if_neg (by omega)] at this
      have hid2 : i = d := by
        rcases Nat.lt_or_ge d i with h | h
        · have := (hd3 d (by omega)).1 (hall d h); omega
        · omega
      subst hid2
      rw [hdrop _ hi, ho'] at hd4
      refine wpOp_of_list ho hd4 (fun b' W' h' => hK _ _ ⟨hS', .inr ⟨i + 1, by omega, by omega, fun j hj => ?_, h'⟩⟩)
      dsimp only
      by_cases e : j = i
      · rw [if_pos e]; exact ⟨fun _ => by omega, fun _ => rfl⟩
      · rw [if_neg e]
        have := hd3 j hj
        exact ⟨fun h => by have := this.1 h; omega, fun h => this.2 (by omega)⟩
  · rintro L b W hL ⟨_, (⟨hno, _⟩ | ⟨d, hd1, hd2, hd3, hd4⟩)⟩
    · have := hno m (Nat.le_refl _) hsz
      rw [hL m hsz] at this; cases this
    · have hds : d = ops.size := by
        rcases Nat.lt_or_ge d ops.size with h | h
        · have := (hd3 d h).1 (hL d h); omega
        · omega
      subst hds
      rw [List.drop_of_length_le (by simp)] at hd4
      exact hd4
  · unfold unl
    simp
  · have hfn : (fun j => (Array.replicate ops.size false).getD j false) = fun _ => false := by
      funext j
      rw [Array.getD_eq_getD_getElem?]
      by_cases e : j < ops.size
      · rw [Array.getElem?_replicate, if_pos e]; rfl
      · rw [Array.getElem?_eq_none (by simp; omega)]; rfl
    rw [hfn]
    obtain ⟨s, hs⟩ := h0
    exact ⟨fun _ _ (h : false = true) => (by cases h), .inl ⟨fun _ _ _ => rfl, s, hs, hC, fun _ (h : false = true) => (by cases h)⟩⟩
end Go.Proofs.YtkcbfiglmjdaiaaDoor
/-
  Small laws for this program's slices of integers: append of one number to a slice that the call itself made.
-/
namespace Go.Proofs.YtkcbfiglmjdaiaaDoor
open Go.RowKit

theorem Tryd.infoInt : (Tryd.prog.info? 3).map (fun i => (i.zero, i.size, i.bytes)) = some (some (.int .i64 0), 1, 8) := by kernel_rfl

/-- A slice that owns a row which is not empty: where it lies, and its cells. -/
theorem owns_open {w : World} {base n : Nat} {v : Value} {xs : List Value} (h : w.ownsRow base 3 1 v n xs) (hn : 0 < n) :
    ∃ g cap, v = .slice (some ⟨g, 0, none⟩) n cap ∧ base ≤ g ∧ g < w.heap.size ∧ n ≤ cap ∧ ∀ j u, xs[j]? = some u → w.cell? ⟨g, j, none⟩ = some u := by
  rcases h.2 with ⟨_, h0⟩ | ⟨g, cap, cur, rfl, hb, hgb, hc, _⟩
  · omega
  · refine ⟨g, cap, rfl, hb, (Array.getElem?_eq_some_iff.1 hgb).1, hc, fun j u hu => ?_⟩
    have := h.cells (g := g) rfl j u hu
    have hadd : (⟨g, 0, none⟩ : Addr).add j = ⟨g, j, none⟩ := by unfold Addr.add; split <;> simp_all
    rwa [hadd] at this

/-- What is owned from a later block on is owned from an earlier one on. -/
theorem owns_from {w : World} {b b' n : Nat} {e : TypeId} {v : Value} {xs : List Value} (h : w.ownsRow b e 1 v n xs) (hb : b' ≤ b) : w.ownsRow b' e 1 v n xs := by
  obtain ⟨h1, h2⟩ := h
  refine ⟨h1, ?_⟩
  rcases h2 with hn | ⟨g, cap, cur, rfl, hg, rest⟩
  · exact .inl hn
  · exact .inr ⟨g, cap, cur, rfl, by omega, rest⟩

/-- 'append(s, z)' of one number. -/
theorem append_one {ops : Array Oper} {rest : List Oper} {o : Oper} {a : Act} {Q : Exit → Act → World → Prop} {w : World} {z : Int} (hgd : o.guard = none) (s x : Operand)
    (ho : o.op = .call { callee := .builtin .append, args := #[s, x], argTypes := #[58, 58] })
    (base : Nat) (v : Value) (n : Nat) (xs : List Value) (hs : a.eval s = v) (hown : w.ownsRow base 3 1 v n xs) (hx : a.eval x = .slice (some ⟨w.heap.size, 0, none⟩) 1 1)
    (hn : n ≤ 1000000000) (hbase : base ≤ w.heap.size)
    (h : ∀ v' w', w'.ownsRow base 3 1 v' (n + 1) (xs ++ [.int .i64 z]) → (w.alloc (.cells #[.int .i64 z] 3)).grownBy w' v.ownBlock → wpList Tryd.prog ops Q rest (a.put o.dst v') w') :
    wpList Tryd.prog ops Q (o :: rest) a (w.alloc (.cells #[.int .i64 z] 3)) := by
  obtain ⟨i0, hi, hz0, hz1, hz2⟩ := info_parts Tryd.infoInt
  refine wpList_append_own _ hgd s x 58 ho base 3 i0 (.int .i64 0) 1 8 Tryd.underlying58 hi hz0 hz1 hz2 rfl (by decide) v n xs hs (hown.alloc _) ⟨w.heap.size, 0, none⟩ 1 1 [.int .i64 z] hx rfl ?_ ?_ ?_ ?_ ?_ ?_
  · intro j u hj
    match j, hj with
    | 0, hj => simp at hj; subst hj; simp [Addr.add]
  · intro u hu; simp at hu; subst hu; rfl
  · unfold maxLen; omega
  · omega
  · simp; omega
  · intro v' w' h1 h2 _; exact h v' w' h1 h2

/-- The same as one step of a region that draws its order. -/
theorem step_append_one {ops : Array Oper} {o : Oper} {a : Act} {K : Act → World → Prop} {Q : Exit → Act → World → Prop} {E : Prop} {w : World} {z : Int} (hgd : o.guard = none) (s x : Operand)
    (ho : o.op = .call { callee := .builtin .append, args := #[s, x], argTypes := #[58, 58] })
    (base : Nat) (v : Value) (n : Nat) (xs : List Value) (hs : a.eval s = v) (hown : w.ownsRow base 3 1 v n xs) (hx : a.eval x = .slice (some ⟨w.heap.size, 0, none⟩) 1 1)
    (hn : n ≤ 1000000000) (hbase : base ≤ w.heap.size)
    (h : ∀ v' w', w'.ownsRow base 3 1 v' (n + 1) (xs ++ [.int .i64 z]) → (w.alloc (.cells #[.int .i64 z] 3)).grownBy w' v.ownBlock → K (a.put o.dst v') w') :
    if Region.wanted o (yielded ops a.tmps) = true then Oper.wp Tryd.prog o a (w.alloc (.cells #[.int .i64 z] 3)) K Q else E := by
  obtain ⟨i0, hi, hz0, hz1, hz2⟩ := info_parts Tryd.infoInt
  rw [if_pos (by simp [Region.wanted, hgd])]
  refine wp_append_own _ s x 58 ho base 3 i0 (.int .i64 0) 1 8 Tryd.underlying58 hi hz0 hz1 hz2 rfl (by decide) v n xs hs (hown.alloc _) ⟨w.heap.size, 0, none⟩ 1 1 [.int .i64 z] hx rfl ?_ ?_ ?_ ?_ ?_ ?_
  · intro j u hj
    match j, hj with
    | 0, hj => simp at hj; subst hj; simp [Addr.add]
  · intro u hu; simp at hu; subst hu; rfl
  · unfold maxLen; omega
  · omega
  · simp; omega
  · intro v' w' h1 h2 _; exact h v' w' h1 h2
end Go.Proofs.YtkcbfiglmjdaiaaDoor
/-
  Regions that draw their order inside a fence, of which all that lay before stands until the last operations: each operation leaves a value that is known, a row of one's own, or a slice of one of these.
-/
namespace Go.Proofs.YtkcbfiglmjdaiaaDoor
open Go.RowKit

theorem boxed_below {W V : World} {B : Nat} {t : TypeId} {v : Value} (h : Boxed W B t v) (hV : Below W.heap.size W V) : Boxed V B t v := (hV.block _ h.lt).trans h
inductive Kd where
  | val (v : Value) | one (v : Value) | own (base n : Nat) (xs : List Value) | oneOwn (base n : Nat) (xs : List Value) | cells (n : Nat) (xs : List Value)
def Kd.holds (v : Value) (W : World) : Kd → Prop
  | .val u => v = u
  | .one u => ∃ q, v = .slice (some ⟨q, 0, none⟩) 1 1 ∧ q < W.heap.size ∧ W.cell? ⟨q, 0, none⟩ = some u
  | .own b n xs => W.ownsRow b 3 1 v n xs
  | .cells n xs => ∃ q, v = .slice (some ⟨q, 0, none⟩) n n ∧ q < W.heap.size ∧ ∀ j u, xs[j]? = some u → W.cell? ⟨q, j, none⟩ = some u
  | .oneOwn b n xs => ∃ q u, v = .slice (some ⟨q, 0, none⟩) 1 1 ∧ q < W.heap.size ∧ W.cell? ⟨q, 0, none⟩ = some u ∧ W.ownsRow b 3 1 u n xs
theorem owns_below {w w' : World} {base n : Nat} {e : TypeId} {v : Value} {xs : List Value} (h : w.ownsRow base e 1 v n xs) (hB : Below w.heap.size w w') : w'.ownsRow base e 1 v n xs :=
  h.kept (row := none) ⟨hB.os, hB.tape, hB.output, hB.size, fun k hk _ => hB.block k hk⟩ (by cases v.ownBlock <;> simp)
theorem Kd.mono {v : Value} {W W' : World} (k : Kd) (h : k.holds v W) (hb : Below W.heap.size W W') : k.holds v W' := by
  cases k with
  | val u => exact h
  | one u =>
    obtain ⟨q, h1, h2, h3⟩ := h
    exact ⟨q, h1, Nat.lt_of_lt_of_le h2 hb.size, (hb.cell (p := ⟨q, 0, none⟩) h2).trans h3⟩
  | own b n xs => exact owns_below h hb
  | cells n xs =>
    obtain ⟨q, h1, h2, h3⟩ := h
    exact ⟨q, h1, Nat.lt_of_lt_of_le h2 hb.size, fun j u hj => (hb.cell (p := ⟨q, j, none⟩) h2).trans (h3 j u hj)⟩
  | oneOwn b n xs =>
    obtain ⟨q, u, h1, h2, h3, h4⟩ := h
    exact ⟨q, u, h1, Nat.lt_of_lt_of_le h2 hb.size, (hb.cell (p := ⟨q, 0, none⟩) h2).trans h3, owns_below h4 hb⟩
def kdAt (ks : List Kd) (k : Nat) : Kd := (ks[k]?).getD (.val undef)
theorem wpIn_region_kinds {F : Fence} {n : Nat} {id : Nat} {ops : Array Oper} {Q : Exit → Act → World → Prop} {a : Act} {W : World} (m : Nat) (hm : Tryd.prog.follows .mixedOrders = true) (hb : backB ops = true) (ht : tailB ops m = true) (hsz : m < ops.size)
    (fr : (Nat → Value) → Act) (ks : List Kd)
    (h0 : ∃ s, a = fr s) (hput : ∀ i o s v, i < m → ops[i]? = some o → (fr s).put o.dst v = fr (fun j => if j = i then v else s j))
    (hstep : ∀ i o s V, i < m → ops[i]? = some o → Below W.heap.size W V → (∀ k, depB ops i k = true → (kdAt ks k).holds (s k) V) → ∀ Q' : Exit → Act → World → Prop,
      (∀ v V', Below V.heap.size V V' → (kdAt ks i).holds v V' → Q' .normal ((fr s).put o.dst v) V') → wpListIn F n Tryd.prog ops Q' [o] (fr s) V)
    (htail : ∀ s V, Below W.heap.size W V → (∀ k, k < m → (kdAt ks k).holds (s k) V) → wpListIn F n Tryd.prog ops Q (ops.toList.drop m) (fr s) V) : (Code.region id ops true).wpIn F n Tryd.prog Q a W := by
  refine wpIn_region_tail m hm hb ht hsz fr (fun V => Below W.heap.size W V) (fun V V' => Below V.heap.size V V') (fun k v V => (kdAt ks k).holds v V) h0 hput (Below.refl _ _).drew (fun k v V V' h hg => Kd.mono _ h hg) ?_ htail
  rintro i o s V him ho hV hd Q' hQ'
  exact hstep i o s V him ho hV hd Q' (fun v V' h2 h3 => hQ' v V' (hV.trans (h2.mono hV.size)) h2 h3)
end Go.Proofs.YtkcbfiglmjdaiaaDoor
/-
  Rows of strings of one's own: append of one string, reading them; strings in a walk.
-/
namespace Go.Proofs.YtkcbfiglmjdaiaaDoor
open Go Go.RowKit

theorem Tryd.infoStr : (Tryd.prog.info? 9).map (fun i => (i.zero, i.size, i.bytes)) = some (some (.string ⟨#[]⟩), 1, 16) := by kernel_rfl
theorem info_any {o : Option TypeInfo} {z : Value} {s b : Nat} (h : o.map (fun i => (i.zero, i.size, i.bytes)) = some (some z, s, b)) : ∃ i, o = some i ∧ i.zero = some z ∧ i.size = s ∧ i.bytes = b := by
  obtain ⟨i, hi, h2⟩ := Option.map_eq_some_iff.1 h
  injection h2 with h3 h4
  injection h4 with h5 h6
  exact ⟨i, hi, h3, h5, h6⟩
def txt (l : List Nat) : Value := .string (str l)

/-- 'append(s, z)' of one string, with where the new slice lies. -/
theorem append_text {ops : Array Oper} {rest : List Oper} {o : Oper} {a : Act} {Q : Exit → Act → World → Prop} {w : World} {z : ByteArray} (hgd : o.guard = none) (s x : Operand)
    (ho : o.op = .call { callee := .builtin .append, args := #[s, x], argTypes := #[62, 62] })
    (base : Nat) (v : Value) (n : Nat) (xs : List Value) (hs : a.eval s = v) (hown : w.ownsRow base 9 1 v n xs) (hx : a.eval x = .slice (some ⟨w.heap.size, 0, none⟩) 1 1)
    (hn : n ≤ 4000000) (hbase : base ≤ w.heap.size)
    (h : ∀ v' w', w'.ownsRow base 9 1 v' (n + 1) (xs ++ [.string z]) → (w.alloc (.cells #[.string z] 9)).grownBy w' v.ownBlock → (v'.ownBlock = v.ownBlock ∨ v'.ownBlock = some (w.heap.size + 1)) → wpList Tryd.prog ops Q rest (a.put o.dst v') w') :
    wpList Tryd.prog ops Q (o :: rest) a (w.alloc (.cells #[.string z] 9)) := by
  obtain ⟨i0, hi, hz0, hz1, hz2⟩ := info_any Tryd.infoStr
  refine wpList_plain hgd fun K hK => ?_
  obtain ⟨v', w', hr, h2, h3, _, h5⟩ := run_append_own_at (P := Tryd.prog) (w.alloc (.cells #[.string z] 9)) base 62 o.type 9 i0 (.string ⟨#[]⟩) 1 16 Tryd.underlying62 hi hz0 hz1 hz2 rfl (by decide) v n xs (hown.alloc _) ⟨w.heap.size, 0, none⟩ 1 1 [.string z] rfl (cell_one_new _ _ _) (fun u hu => by simp at hu; subst hu; rfl) (by unfold maxLen; omega) (by omega) (by simp; omega)
  unfold Oper.wp execOp
  simp only [ho, resolve, invoke, builtin, Sem.run_bind, Sem.run_pure, Result.andThen_ok, List.map_toArray, List.map_cons, List.map_nil, hs, hx, hr]
  exact hK _ _ (h v' w' h2 h3 (by rwa [World.size_alloc] at h5))

/-- What owns strings: where it lies, and its cells. -/
theorem texts_open {w : World} {base n : Nat} {v : Value} {xs : List Value} (h : w.ownsRow base 9 1 v n xs) (hn : 0 < n) :
    ∃ g cap, v = .slice (some ⟨g, 0, none⟩) n cap ∧ base ≤ g ∧ g < w.heap.size ∧ ∀ j u, xs[j]? = some u → w.cell? ⟨g, j, none⟩ = some u := by
  rcases h.2 with ⟨_, h0⟩ | ⟨g, cap, cur, rfl, hb, hgb, hc, _⟩
  · omega
  · refine ⟨g, cap, rfl, hb, (Array.getElem?_eq_some_iff.1 hgb).1, fun j u hu => ?_⟩
    have := h.cells (g := g) rfl j u hu
    have hadd : (⟨g, 0, none⟩ : Addr).add j = ⟨g, j, none⟩ := by unfold Addr.add; split <;> simp_all
    rwa [hadd] at this
/-- The texts that a slice reads as. -/
def Texts (w : World) (v : Value) (L : List (List Nat)) : Prop :=
  ∃ a cap, v = .slice a L.length cap ∧ (0 < L.length → ∃ g, a = some ⟨g, 0, none⟩ ∧ g < w.heap.size ∧ ∀ j l, L[j]? = some l → w.cell? ⟨g, j, none⟩ = some (txt l))
theorem Texts.of_owns {w : World} {base : Nat} {v : Value} {L : List (List Nat)} (h : w.ownsRow base 9 1 v L.length (L.map txt)) : Texts w v L := by
  by_cases h0 : 0 < L.length
  · obtain ⟨g, cap, rfl, _, hg, hc⟩ := texts_open h h0
    exact ⟨_, _, rfl, fun _ => ⟨g, rfl, hg, fun j l hj => hc j _ (by rw [List.getElem?_map, hj]; rfl)⟩⟩
  · rcases h.2 with ⟨rfl, _⟩ | ⟨g, cap, cur, rfl, _⟩
    · have : L.length = 0 := by omega
      exact ⟨_, 0, by rw [this], fun hh => absurd hh h0⟩
    · exact ⟨_, _, rfl, fun hh => absurd hh h0⟩
theorem Texts.below {w w' : World} {v : Value} {L : List (List Nat)} (h : Texts w v L) (hB : Below w.heap.size w w') : Texts w' v L := by
  obtain ⟨a, cap, rfl, hc⟩ := h
  refine ⟨a, cap, rfl, fun h0 => ?_⟩
  obtain ⟨g, rfl, hg, hcc⟩ := hc h0
  exact ⟨g, rfl, Nat.lt_of_lt_of_le hg hB.size, fun j l hj => (hB.cell (p := ⟨g, j, none⟩) hg).trans (hcc j l hj)⟩
end Go.Proofs.YtkcbfiglmjdaiaaDoor
/-
  Contracts of the small functions: l1In, within, cellAt, slices.Clone at []int.
-/
namespace Go.Proofs.YtkcbfiglmjdaiaaDoor
open Go.RowKit

theorem l1In_t (n lo hi : Int) (w : World) (h1 : lo ≤ n) (h2 : n ≤ hi) : Calls Tryd.prog 30 #[.int .i64 n, .int .i64 lo, .int .i64 hi] w fun e w' => e = .returned (.bool true) ∧ w = w' := by
  go_enter Tryd.func30, Tryd.ntmps30
  go_wp2
  go_ret
  exact ⟨rfl, rfl⟩
theorem l1In_f (n lo hi : Int) (w : World) (h : n < lo ∨ hi < n) : Calls Tryd.prog 30 #[.int .i64 n, .int .i64 lo, .int .i64 hi] w fun e w' => e = .returned (.bool false) ∧ w = w' := by
  by_cases h1 : lo ≤ n
  · have h2 : ¬ n ≤ hi := by omega
    clear h
    go_enter Tryd.func30, Tryd.ntmps30
    go_wp2
    go_ret
    exact ⟨rfl, rfl⟩
  · clear h
    go_enter Tryd.func30, Tryd.ntmps30
    go_wp2
    go_ret
    exact ⟨rfl, rfl⟩
theorem within_t (n hi : Int) (w : World) (h1 : 0 ≤ n) (h2 : n ≤ hi) : Calls Tryd.prog 25 #[.int .i64 n, .int .i64 hi] w fun e w' => e = .returned (.bool true) ∧ w = w' := by
  go_enter Tryd.func25, Tryd.ntmps25
  go_wp2
  go_ret
  exact ⟨rfl, rfl⟩
theorem within_f (n hi : Int) (w : World) (h : n < 0 ∨ hi < n) : Calls Tryd.prog 25 #[.int .i64 n, .int .i64 hi] w fun e w' => e = .returned (.bool false) ∧ w = w' := by
  by_cases h1 : 0 ≤ n
  · have h2 : ¬ n ≤ hi := by omega
    clear h
    go_enter Tryd.func25, Tryd.ntmps25
    go_wp2
    go_ret
    exact ⟨rfl, rfl⟩
  · clear h
    go_enter Tryd.func25, Tryd.ntmps25
    go_wp2
    go_ret
    exact ⟨rfl, rfl⟩

/-- cellAt: outside of the cells. -/
theorem cellAt_out (a : Option Addr) (n c : Nat) (p : Int) (w : World) (h : p < 0 ∨ n ≤ p) : Calls Tryd.prog 32 #[.slice a n c, .int .i64 p] w fun e w' => e = .returned (.int .i64 0) ∧ w = w' := by
  by_cases h1 : p < 0
  · clear h
    go_enter Tryd.func32, Tryd.ntmps32
    go_wp2
    go_ret
    exact ⟨rfl, rfl⟩
  · have h2 : (n : Int) ≤ p := by omega
    clear h
    go_enter Tryd.func32, Tryd.ntmps32
    go_wp2
    go_ret
    exact ⟨rfl, rfl⟩
theorem cellAt_in (g n c k : Nat) (z : Int) (w : World) (h : k < n) (hc : w.cell? ⟨g, k, none⟩ = some (.int .i64 z)) : Calls Tryd.prog 32 #[.slice (some ⟨g, 0, none⟩) n c, .int .i64 k] w fun e w' => e = .returned (.int .i64 z) ∧ w = w' := by
  have h2 : ¬ (n : Int) ≤ k := by omega
  go_enter Tryd.func32, Tryd.ntmps32
  go_wp2
  go_ret
  exact ⟨rfl, rfl⟩

/-- slices.Clone of a slice of ints that is not nil. -/
theorem clone_in (g n c : Nat) (xs : List Int) (w : World) (hx : xs.length = n) (hn : n ≤ 1000000000) (hc : ∀ k u, (xs.map (Value.int .i64))[k]? = some u → w.cell? ⟨g, k, none⟩ = some u) :
    Calls Tryd.prog 43 #[.slice (some ⟨g, 0, none⟩) n c] w fun e w' => ∃ v, e = .returned v ∧ w'.ownsRow w.heap.size 3 1 v n (xs.map (Value.int .i64)) ∧ Below w.heap.size w w' := by
  obtain ⟨i0, hi, hz0, hz1, hz2⟩ := info_parts Tryd.infoInt
  have hg : ∀ j u, (xs.map (Value.int .i64))[j]? = some u → (w.alloc (.cells #[] 3)).cell? ((⟨g, 0, none⟩ : Addr).add j) = some u := by
    intro j u hj
    have h1 := hc j u hj
    have hadd : (⟨g, 0, none⟩ : Addr).add j = ⟨g, j, none⟩ := by unfold Addr.add; split <;> simp_all
    rw [hadd, World.cell?_alloc_past _ _ _ (World.block_lt_of_cell? w _ h1)]; exact h1
  have hq := Lib.run_eql_slice_nil (P := Tryd.prog) w 58 3 (some ⟨g, 0, none⟩) n c 0 0 Tryd.underlying58
  go_enter Tryd.func43, Tryd.ntmps43
  go_wp2_with (at_builtin; (refine wpList_append_own _ rfl _ _ 58 rfl w.heap.size 3 i0 (.int .i64 0) 1 8 Tryd.underlying58 hi hz0 hz1 hz2 rfl (by decide) _ 0 [] rfl (World.ownsRow_made w #[] 0 (Nat.le_refl _) (by decide) rfl) ⟨g, 0, none⟩ n c (xs.map (Value.int .i64)) rfl (by simp [hx]) hg (by intro u hu; simp at hu; obtain ⟨z, _, rfl⟩ := hu; rfl) (by unfold maxLen; omega) (by omega) (by simp) ?_); intro v' w1 hown' hgrow _)
  simp only [Nat.zero_add, List.nil_append] at hown'
  go_wp2
  go_ret
  exact ⟨_, rfl, hown', ((Below.refl _ w).alloc (Nat.le_refl _) _).grown hgrow (by simp) (fun k hk => by cases hk; exact Nat.le_refl _)⟩
end Go.Proofs.YtkcbfiglmjdaiaaDoor
/-
  A law on ranging over a function whose iterator hands out memory of its own: between two rounds the iterator may write its own m blocks (those that it lays first), it tells what they hold when it hands out an element and when it is done, and it names the blocks that the round must keep. Nothing of this program is in it.
-/
namespace Go.Proofs.YtkcbfiglmjdaiaaDoor
open Go Go.RowKit

/-- J abides new blocks, and the turn of a block of the set. -/
def AbidesSet {β : Type} (T : Nat → Prop) (J : β → World → Prop) : Prop :=
  ∀ s A B (row : Option Nat), J s A → A.grownBy B row → (∀ r, row = some r → T r) → J s B

/-- The blocks of the set lie as they lay. -/
structure KeepsSet (T : Nat → Prop) (W W' : World) : Prop where
  size : W.heap.size ≤ W'.heap.size
  same : ∀ k, k < W.heap.size → T k → W'.heap[k]? = W.heap[k]?

theorem KeepsSet.refl (T : Nat → Prop) (W : World) : KeepsSet T W W := ⟨Nat.le_refl _, fun _ _ _ => rfl⟩
theorem KeepsSet.trans {T : Nat → Prop} {A B C : World} (h : KeepsSet T A B) (k : KeepsSet T B C) : KeepsSet T A C :=
  ⟨Nat.le_trans h.size k.size, fun i hi ht => (k.same i (Nat.lt_of_lt_of_le hi h.size) ht).trans (h.same i hi ht)⟩
theorem KeepsSet.of_grownBy {T : Nat → Prop} {W W' : World} {row : Option Nat} (hg : W.grownBy W' row) (hr : ∀ r, row = some r → ¬ T r) : KeepsSet T W W' :=
  ⟨hg.size, fun k hk ht => hg.block k hk (fun e => hr k e.symm ht)⟩
theorem KeepsSet.alloc (T : Nat → Prop) (W : World) (o : Obj) : KeepsSet T W (W.alloc o) := KeepsSet.of_grownBy (World.grownBy_alloc W o none) (fun _ h => by cases h)
theorem KeepsSet.setCell {T : Nat → Prop} (W : World) (b : Nat) (v : Value) (h : ¬ T b) : KeepsSet T W (W.setCell ⟨b, 0, none⟩ v) := KeepsSet.of_grownBy (grownBy_setCell' W b v) (fun _ e => by cases e; exact h)
theorem KeepsSet.drew (T : Nat → Prop) (W : World) : KeepsSet T W W.drew := ⟨Nat.le_refl _, fun _ _ _ => rfl⟩
theorem KeepsSet.mono {T T' : Nat → Prop} {W W' : World} (h : KeepsSet T W W') (ht : ∀ k, T' k → T k) : KeepsSet T' W W' := ⟨h.size, fun k hk hk' => h.same k hk (ht k hk')⟩
/-- What lies below B lies as it lay. -/
theorem KeepsSet.of_below {T : Nat → Prop} {B : Nat} {W W' : World} (h : Below B W W') (ht : ∀ k, T k → k < B) : KeepsSet T W W' := ⟨h.size, fun k _ hk => h.block k (ht k hk)⟩

/-- The contract of an iterator value. -/
def SeqMem {α : Type} (F : Fence) (n : Nat) (P : Program) (g : Nat) (lb : Array Value) (m : Nat) (encs : Nat → α → Array Value) (Hd : Nat → List α → α → World → Prop)
    (K : Nat → Nat → Prop) (S Sp : Nat → List α → World → Prop) (w : World) : Prop :=
  ∀ (l : Nat) (J Jx : List α → World → Prop) (W : World), Below w.heap.size w W →
    AbidesSet (fun r => W.heap.size ≤ r ∧ r < W.heap.size + m) J → AbidesSet (fun r => W.heap.size ≤ r ∧ r < W.heap.size + m) Jx →
    (∀ pre x W1, J pre W1 → Hd W.heap.size pre x W1 → YieldAt F (n - 1) P l (encs W.heap.size x) W1 fun e W' =>
      (e = .returned (.bool true) ∧ J (pre ++ [x]) W' ∧ KeepsSet (K W.heap.size) W1 W') ∨ (e = .returned (.bool false) ∧ Jx (pre ++ [x]) W' ∧ KeepsSet (K W.heap.size) W1 W')) →
    J [] W →
    CallsIn F n P g (#[.func (.yield l) #[] #[]] ++ lb) W fun e W' => (∃ v, e = .returned v) ∧ ((∃ xs, S W.heap.size xs W' ∧ J xs W') ∨ (∃ pre, Sp W.heap.size pre W' ∧ Jx pre W'))

theorem SeqMem.inRound {α : Type} {F : Fence} {n : Nat} {P : Program} {g : Nat} {lb : Array Value} {m : Nat} {encs : Nat → α → Array Value} {Hd : Nat → List α → α → World → Prop}
    {K : Nat → Nat → Prop} {S Sp : Nat → List α → World → Prop} {w : World} (l : Nat) (h : SeqMem F n P g lb m encs Hd K S Sp w) : SeqMem (F.inRound l) n P g lb m encs Hd K S Sp w := h

/-- How a round's body may be left. -/
def postMem {α : Type} (T : Nat → Prop) (I : List α → World → Prop) (Ix : Code → List α → World → Prop) (xs : List α) (W : World) : Exit → Act → World → Prop
  | .normal, _, W' => KeepsSet T W W' ∧ I xs W'
  | .ret, _, W' => KeepsSet T W W' ∧ Ix .ret xs W'
  | .exit id, _, W' => KeepsSet T W W' ∧ Ix (.exit id) xs W'
  | .goto t, _, W' => KeepsSet T W W' ∧ Ix (.goto t) xs W'
  | .panic _, _, _ => False
  | .outgrown, _, _ => False

variable {F : Fence} {n : Nat} {P : Program}

/-- THE LAW. -/
theorem wpIn_rangeFunc_mem {α : Type} {g : Operand} {ps : Array Tmp} {assign body : Code} {Q : Exit → Act → World → Prop} {a : Act} {w : World}
    (hro : F.round = none) (h1 : 1 ≤ n) {gf : Nat} {lb : Array Value} (hg : a.eval g = .func (.func gf) #[] lb) (hFg : F.fn gf) (eg : ∀ args w, (callFunc gf args).run P w = .ok (.enter gf args) w)
    {m : Nat} {encs : Nat → α → Array Value} {Hd : Nat → List α → α → World → Prop} {K : Nat → Nat → Prop} {S Sp : Nat → List α → World → Prop}
    (hseq : SeqMem F (n - 1) P gf lb m encs Hd K S Sp w) (hps : ∀ b x, (encs b x).size = ps.size)
    (hKn : ¬ K (w.heap.size + 2) (w.heap.size + 1))
    (hHd : ∀ pre x W o, Hd (w.heap.size + 2) pre x W → Hd (w.heap.size + 2) pre x (W.putObj (w.heap.size + 1) o))
    (hS : ∀ xs W o, S (w.heap.size + 2) xs W → S (w.heap.size + 2) xs (W.putObj (w.heap.size + 1) o))
    (hSp : ∀ xs W o, Sp (w.heap.size + 2) xs W → Sp (w.heap.size + 2) xs (W.putObj (w.heap.size + 1) o))
    (I : List α → World → Prop) (Ix : Code → List α → World → Prop)
    (hI : AbidesSet (fun r => w.heap.size ≤ r ∧ r < w.heap.size + 2 + m) I) (hIx : ∀ c, AbidesSet (fun r => w.heap.size ≤ r ∧ r < w.heap.size + 2 + m) (Ix c)) (h0 : I [] w) (a₁ : α → Act)
    (hassign : ∀ (l : Nat) (x : α) (W : World) (K : Act → World → Prop), K (a₁ x) W →
      assign.wpIn (F.inRound l) (n - 1 - 1) P (Exit.then K (fun _ _ _ => False)) { tmps := (ps.zip (encs (w.heap.size + 2) x)).foldl (fun t (p, v) => t.setIfInBounds p v) a.tmps, defers := [] } W)
    (hbody : ∀ (l : Nat) (pre : List α) (x : α) (W : World), w.heap.size + 1 < W.heap.size → I pre W → Hd (w.heap.size + 2) pre x W →
      body.wpIn (F.inRound l) (n - 1 - 1) P (postMem (fun k => k = w.heap.size ∨ k = w.heap.size + 1 ∨ K (w.heap.size + 2) k) I Ix (pre ++ [x]) W) (a₁ x) W)
    (hdone : ∀ (xs : List α) (W : World), S (w.heap.size + 2) xs W → I xs W → W.heap[w.heap.size]? = some (.deferred (some [])) → Q .normal { a with defers := { target := .collected w.heap.size, args := #[] } :: a.defers } W)
    (hstop : ∀ (c : Code) (pre : List α) (W : World), Sp (w.heap.size + 2) pre W → Ix c pre W → W.heap[w.heap.size]? = some (.deferred (some [])) → c.wpIn F n P Q { a with defers := { target := .collected w.heap.size, args := #[] } :: a.defers } W) :
    (Code.rangeFunc g ps assign body).wpIn F n P Q a w := by
  refine wpIn_rangeFunc ?_
  intro fn hfn
  rw [hro]
  obtain ⟨rec, hrec⟩ : ∃ rec : LoopState → Option Code → Loop, rec = fun st pe => { state := st, pending := pe, fn, tmps := a.tmps, params := ps, assign, body, defers := w.heap.size } := ⟨_, rfl⟩
  obtain ⟨W1, hW1⟩ : ∃ W1, (w.alloc (.deferred (some []))).alloc (.loop (rec .ready none)) = W1 := ⟨_, rfl⟩
  have hL1 : W1.heap[w.heap.size + 1]? = some (.loop (rec .ready none)) := by
    rw [← hW1]; have := World.alloc_heap_new (w.alloc (.deferred (some []))) (.loop (rec .ready none)); rwa [World.size_alloc] at this
  have hK1 : W1.heap[w.heap.size]? = some (.deferred (some [])) := by
    rw [← hW1]; exact (Below.heap_alloc _ _ _ (by simp)).trans (World.alloc_heap_new w _)
  have hI1 : I [] W1 := by
    rw [← hW1]
    exact hI _ _ _ _ (hI _ _ _ _ h0 (World.grownBy_alloc w _ none) (fun _ h => by cases h)) (World.grownBy_alloc _ _ none) (fun _ h => by cases h)
  have hb1 : Below w.heap.size w W1 := by
    rw [← hW1]; exact ((Below.refl _ w).alloc (Nat.le_refl _) _).alloc (by simp) _
  have hsz : W1.heap.size = w.heap.size + 2 := by rw [← hW1]; simp
  have putI : ∀ (J : List α → World → Prop) (s : List α) (W : World) (o : Obj), AbidesSet (fun r => w.heap.size ≤ r ∧ r < w.heap.size + 2 + m) J → J s W → J s (W.putObj (w.heap.size + 1) o) := fun J s W o hJ hs =>
    hJ _ _ _ (some (w.heap.size + 1)) hs (grownBy_putObj' W _ o) (fun r e => by cases e; omega)
  refine ⟨w.heap.size + 1, [{ target := .collected w.heap.size, args := #[] }], W1, { target := .fn (.func gf) lb, args := #[.func (.yield (w.heap.size + 1)) #[] #[]] }, W1, gf,
    #[.func (.yield (w.heap.size + 1)) #[] #[]] ++ lb, W1, ?_, ?_, ?_, ?_, fun _ => h1, ?_⟩
  · rw [← hW1, hrec]; exact run_enterLoop_outer _ _ _ _ _
  · simp only [resolve, hg]
    simp [go_sem]
  · intro f' hf'; simp [Target.leads] at hf'; subst hf'; exact hFg
  · simp [invoke, go_sem, eg]
  · have hkeep : ∀ {A B : World} {row : Option Nat} {k : Nat} {o : Obj}, A.grownBy B row → (∀ r, row = some r → W1.heap.size ≤ r ∧ r < W1.heap.size + m) → k < w.heap.size + 2 → A.heap[k]? = some o → B.heap[k]? = some o := fun hg hr hk ho =>
      (hg.block _ (Array.getElem?_eq_some_iff.1 ho).1 (fun e => by have := (hr _ e.symm).1; omega)).trans ho
    have hwide : ∀ {row : Option Nat}, (∀ r, row = some r → W1.heap.size ≤ r ∧ r < W1.heap.size + m) → (∀ r, row = some r → w.heap.size ≤ r ∧ r < w.heap.size + 2 + m) := fun hr r e => by have := hr r e; omega
    have H := hseq (w.heap.size + 1)
      (fun pre W => I pre W ∧ W.heap[w.heap.size + 1]? = some (.loop (rec .ready none)) ∧ W.heap[w.heap.size]? = some (.deferred (some [])))
      (fun pre W => ∃ c, Ix c pre W ∧ W.heap[w.heap.size + 1]? = some (.loop (rec .done (some c))) ∧ W.heap[w.heap.size]? = some (.deferred (some [])))
      W1 hb1
      (fun s A B row hs hg' hr => ⟨hI s A B row hs.1 hg' (hwide hr), hkeep hg' hr (by omega) hs.2.1, hkeep hg' hr (by omega) hs.2.2⟩)
      (fun s A B row hs hg' hr => by
        obtain ⟨c, hc, hl, hk⟩ := hs
        exact ⟨c, hIx c s A B row hc hg' (hwide hr), hkeep hg' hr (by omega) hl, hkeep hg' hr (by omega) hk⟩)
    rw [hsz] at H
    refine (H ?_ ⟨hI1, hL1, hK1⟩).mono ?_
    · -- one round
      rintro pre x W ⟨hi, hl, hk⟩ hhd
      have hlt : w.heap.size + 1 < W.heap.size := (Array.getElem?_eq_some_iff.1 hl).1
      have hy := run_yield (P := P) (args := encs (w.heap.size + 2) x) hl (by rw [hrec]; exact hps _ x)
      rw [hrec] at hy
      refine ⟨fn, _, assign, body, hy, roundIn_of_wpIn hfn (hassign _ x W _ ⟨_, run_beginRound hl (by rw [hrec]), ?_⟩)⟩
      have hl2 : (W.putObj (w.heap.size + 1) (.loop { rec .ready none with state := .busy })).heap[w.heap.size + 1]? = some (.loop { rec .ready none with state := .busy }) := World.putObj_heap_same hlt
      have hk2 : (W.putObj (w.heap.size + 1) (.loop { rec .ready none with state := .busy })).heap[w.heap.size]? = some (.deferred (some [])) := (World.putObj_heap_other (by omega)).trans hk
      have hput : ∀ (W : World) (o : Obj), KeepsSet (K (w.heap.size + 2)) W (W.putObj (w.heap.size + 1) o) := fun W o => KeepsSet.of_grownBy (grownBy_putObj' W _ o) (fun r e => by cases e; exact hKn)
      refine wpIn_mono (hbody _ pre x _ (by simpa using hlt) (putI I _ _ _ hI hi) (hHd _ _ _ _ hhd)) ?_
      have fin : ∀ (jump : Option Code) (W3 : World), KeepsSet (fun k => k = w.heap.size ∨ k = w.heap.size + 1 ∨ K (w.heap.size + 2) k) (W.putObj (w.heap.size + 1) (.loop { rec .ready none with state := .busy })) W3 →
          (Instr.endRound (w.heap.size + 1) jump).run P W3 = .ok (.bool jump.isNone) (W3.putObj (w.heap.size + 1) (.loop (rec (if jump.isNone then .ready else .done) jump))) ∧
          (W3.putObj (w.heap.size + 1) (.loop (rec (if jump.isNone then .ready else .done) jump))).heap[w.heap.size + 1]? = some (.loop (rec (if jump.isNone then .ready else .done) jump)) ∧
          (W3.putObj (w.heap.size + 1) (.loop (rec (if jump.isNone then .ready else .done) jump))).heap[w.heap.size]? = some (.deferred (some [])) ∧
          KeepsSet (K (w.heap.size + 2)) W (W3.putObj (w.heap.size + 1) (.loop (rec (if jump.isNone then .ready else .done) jump))) := fun jump W3 hk3 => by
        have hl3 := (hk3.same (w.heap.size + 1) (by simpa using hlt) (.inr (.inl rfl))).trans hl2
        have hk4 := (hk3.same w.heap.size (by simp; omega) (.inl rfl)).trans hk2
        have := run_endRound (P := P) jump hl3
        rw [hrec] at this ⊢
        exact ⟨this, World.putObj_heap_same (Array.getElem?_eq_some_iff.1 hl3).1, (World.putObj_heap_other (by omega)).trans hk4, (hput _ _).trans ((hk3.mono (fun k h => .inr (.inr h))).trans (hput _ _))⟩
      rintro e a3 W3 hp
      cases e with
      | normal =>
        obtain ⟨hk3, hi3⟩ := hp
        obtain ⟨hr, hl4, hk4, hkk⟩ := fin none W3 hk3
        exact ⟨_, _, hr, .inl ⟨rfl, ⟨putI I _ _ _ hI hi3, hl4, hk4⟩, hkk⟩⟩
      | ret =>
        obtain ⟨hk3, hi3⟩ := hp
        obtain ⟨hr, hl4, hk4, hkk⟩ := fin (some .ret) W3 hk3
        exact ⟨_, _, hr, .inr ⟨rfl, ⟨.ret, putI (Ix .ret) _ _ _ (hIx _) hi3, hl4, hk4⟩, hkk⟩⟩
      | exit id =>
        obtain ⟨hk3, hi3⟩ := hp
        obtain ⟨hr, hl4, hk4, hkk⟩ := fin (some (.exit id)) W3 hk3
        exact ⟨_, _, hr, .inr ⟨rfl, ⟨.exit id, putI (Ix (.exit id)) _ _ _ (hIx _) hi3, hl4, hk4⟩, hkk⟩⟩
      | goto t =>
        obtain ⟨hk3, hi3⟩ := hp
        obtain ⟨hr, hl4, hk4, hkk⟩ := fin (some (.goto t)) W3 hk3
        exact ⟨_, _, hr, .inr ⟨rfl, ⟨.goto t, putI (Ix (.goto t)) _ _ _ (hIx _) hi3, hl4, hk4⟩, hkk⟩⟩
      | panic ch => exact hp.elim
      | outgrown => exact hp.elim
    · -- behind the iterator
      rintro e W2 ⟨⟨v, rfl⟩, (⟨xs, hSx, hi, hl, hk⟩ | ⟨pre, hSx, c, hi, hl, hk⟩)⟩
      · exact ⟨none, _, by have := run_endLoop (P := P) hl (by rw [hrec]; simp); rw [hrec] at this; exact this, hdone xs _ (hS _ _ _ hSx) (putI I _ _ _ hI hi) ((World.putObj_heap_other (by omega)).trans hk)⟩
      · exact ⟨some c, _, by have := run_endLoop (P := P) hl (by rw [hrec]; simp); rw [hrec] at this; exact this, hstop c pre _ (hSp _ _ _ hSx) (putI (Ix c) _ _ _ (hIx c) hi) ((World.putObj_heap_other (by omega)).trans hk)⟩
end Go.Proofs.YtkcbfiglmjdaiaaDoor
/-
  A block of integer cells, known whole: 'RowAt w g N f': block g holds f 0 .. f (N-1). And the contract of addBefore.
-/
namespace Go.Proofs.YtkcbfiglmjdaiaaDoor
open Go.RowKit

def RowAt (w : World) (g N : Nat) (f : Nat → Int) : Prop :=
  ∃ cur : Array Value, w.heap[g]? = some (.cells cur 3 (0, 0)) ∧ N ≤ cur.size ∧ ∀ i, i < N → cur[i]? = some (.int .i64 (f i))

theorem RowAt.lt {w : World} {g N : Nat} {f : Nat → Int} (h : RowAt w g N f) : g < w.heap.size := by
  obtain ⟨cur, h1, _⟩ := h; exact (Array.getElem?_eq_some_iff.1 h1).1
theorem RowAt.cell {w : World} {g N : Nat} {f : Nat → Int} (h : RowAt w g N f) {i : Nat} (hi : i < N) : w.cell? ⟨g, i, none⟩ = some (.int .i64 (f i)) := by
  obtain ⟨cur, h1, h2, h3⟩ := h
  rw [cell_of_row w g i cur 3 (0, 0) h1]; exact h3 i hi
theorem RowAt.frozen {w : World} {g N : Nat} {f : Nat → Int} (h : RowAt w g N f) (i : Nat) : w.frozen? ⟨g, i, none⟩ = false := by
  obtain ⟨cur, h1, _⟩ := h
  simp [World.frozen?, h1]
theorem RowAt.congr {w : World} {g N : Nat} {f f' : Nat → Int} (h : RowAt w g N f) (he : ∀ i, i < N → f i = f' i) : RowAt w g N f' := by
  obtain ⟨cur, h1, h2, h3⟩ := h
  exact ⟨cur, h1, h2, fun i hi => by rw [← he i hi]; exact h3 i hi⟩
theorem RowAt.set {w : World} {g N : Nat} {f : Nat → Int} (h : RowAt w g N f) {p : Nat} (z : Int) : RowAt (w.setCell ⟨g, p, none⟩ (.int .i64 z)) g N (fun i => if i = p then z else f i) := by
  obtain ⟨cur, h1, h2, h3⟩ := h
  obtain ⟨hlt, hk⟩ := Array.getElem?_eq_some_iff.1 h1
  have h2' : ∀ i, i < N → i < cur.size := fun i hi => Nat.lt_of_lt_of_le hi h2
  refine ⟨cur.setIfInBounds p (.int .i64 z), ?_, by simpa using h2, fun i hi => ?_⟩
  · show (w.heap.modify g _)[g]? = _
    rw [Array.getElem?_eq_getElem (by rw [Array.size_modify]; exact hlt), Array.getElem_modify_self, hk]; rfl
  · rw [Array.getElem?_setIfInBounds]
    by_cases e : p = i
    · subst e; simp [h2' _ hi]
    · rw [if_neg e, h3 i hi]; simp only []; rw [if_neg (fun h : i = p => e h.symm)]
theorem RowAt.of_block {w w' : World} {g N : Nat} {f : Nat → Int} (h : RowAt w g N f) (hb : w'.heap[g]? = w.heap[g]?) : RowAt w' g N f := by
  obtain ⟨cur, h1, h2, h3⟩ := h
  exact ⟨cur, hb.trans h1, h2, h3⟩
theorem RowAt.kept {w w' : World} {g N : Nat} {f : Nat → Int} {row : Option Nat} (h : RowAt w g N f) (hg : w.grownBy w' row) (hr : some g ≠ row) : RowAt w' g N f := h.of_block (hg.block g h.lt hr)
theorem RowAt.of_owns {w : World} {base n : Nat} {v : Value} {xs : List Int} (h : w.ownsRow base 3 1 v n (xs.map (Value.int .i64))) (hn : 0 < n) :
    ∃ g cap, v = .slice (some ⟨g, 0, none⟩) n cap ∧ base ≤ g ∧ RowAt w g n (fun i => xs.getD i 0) := by
  have hl : xs.length = n := by have := h.1; simpa using this
  rcases h.2 with ⟨_, h0⟩ | ⟨g, cap, cur, rfl, hb, hgb, hc, _, hs, ht⟩
  · omega
  · refine ⟨g, cap, rfl, hb, cur, hgb, by omega, fun i hi => ?_⟩
    have h1 : (cur.toList.take (n * 1))[i]? = some (.int .i64 (xs.getD i 0)) := by
      rw [ht, List.getElem?_map, List.getElem?_eq_getElem (by omega)]; simp [List.getD, hl, hi]
    rw [List.getElem?_take, if_pos (by omega)] at h1
    rw [← Array.getElem?_toList]; exact h1
theorem grownBy_drew {w w' : World} {row : Option Nat} (h : w.grownBy w' row) : w.grownBy w'.drew row := ⟨h.os, h.tape, h.output, h.size, h.block⟩
theorem grownBy_set {w w' : World} {g : Nat} (h : w.grownBy w' (some g)) (p : Nat) (v : Value) : w.grownBy (w'.setCell ⟨g, p, none⟩ v) (some g) :=
  ⟨h.os, h.tape, h.output, by simp [World.setCell]; exact h.size, fun k hk hr => (Below.heap_setCell _ _ _ k (fun e => hr (by rw [e]))).trans (h.block k hk hr)⟩
theorem grownBy_refl (w : World) (row : Option Nat) : w.grownBy w row := ⟨rfl, rfl, rfl, Nat.le_refl _, fun _ _ _ => rfl⟩

set_option maxHeartbeats 400000 in
/-- addBefore: each cell but the first gets the one before it added. -/
theorem addBefore_in (g n N : Nat) (f : Nat → Int) (w : World) (hn : 1 ≤ n) (hnN : n ≤ N) (hN : N ≤ 1000000) (hf : ∀ i, -2305843009213693952 ≤ f i ∧ f i ≤ 2305843009213693952) (hr : RowAt w g N f) :
    Calls Tryd.prog 50 #[.slice (some ⟨g, 0, none⟩) n N] w fun e w' =>
      (∃ v, e = .returned v) ∧ RowAt w' g N (fun i => if 0 < i ∧ i < n then f i + f (i - 1) else f i) ∧ w.grownBy w' (some g) := by
  go_enter Tryd.func50, Tryd.ntmps50
  go_wp2
  go_loopw [2] (fun p wr => ∃ k : Nat, k < n ∧ p = .int .i64 k ∧ RowAt wr g N (fun i => if k < i ∧ i < n then f i + f (i - 1) else f i) ∧ w.grownBy wr (some g)) (fun p _ => (intOf p).toNat)
  case atStart => exact ⟨n - 1, by omega, by go_num, hr.congr (fun i _ => by rw [if_neg (by omega)]), grownBy_refl _ _⟩
  case round =>
    obtain ⟨k, hk, rfl, hrow, hg⟩ := hrel
    by_cases hk0 : k = 0
    · subst hk0
      go_wp2
      go_end0
      exact ⟨⟨_, rfl⟩, hrow, hg⟩
    · obtain ⟨j, rfl⟩ : ∃ j, k = j + 1 := ⟨k - 1, by omega⟩
      have hca := hrow.cell (i := j + 1) (by omega)
      have hcb := hrow.cell (i := j) (by omega)
      rw [if_neg (by omega)] at hca hcb
      have hfr := hrow.frozen (j + 1)
      have h1 := hf (j + 1)
      have h2 := hf j
      go_wp2
      have hw1 : IntKind.i64.wrap (j : Int) = j := IntWalk.i64_in _ (by omega)
      have hw2 : IntKind.i64.wrap (f (j + 1) + f j) = f (j + 1) + f j := IntWalk.i64_in _ (by omega)
      have hw3 : ((j : Int) + 1).toNat = j + 1 := by omega
      have hw4 : (j : Int) + 1 < n := by omega
      have hw5 : (0 : Int) ≤ (j : Int) + 1 := by omega
      have hw6 : j < n := by omega
      go_region
      all_goals
        go_wp2

        go_roundw
        case rel =>
          refine ⟨j, by omega, by go_num, (hrow.of_block (w' := wr.drew) rfl).set _ |>.congr (fun i hi => ?_), grownBy_set (grownBy_drew hg) _ _⟩
          by_cases e : i = j + 1
          · subst e; rw [if_pos rfl, if_pos (by omega)]; rfl
          · rw [if_neg e]
            by_cases e2 : j + 1 < i ∧ i < n
            · rw [if_pos e2, if_pos (by omega)]
            · rw [if_neg e2, if_neg (by omega)]
        case measure => simp [intOf]
end Go.Proofs.YtkcbfiglmjdaiaaDoor
/-
  The iterator rowsTo: it hands out the rows 0 .. last, one after the other, in one block of its own.
-/
namespace Go.Proofs.YtkcbfiglmjdaiaaDoor
open Go.RowKit Go.Shelf
attribute [local go_sem] Oper.semAt_some

/-- 'make([]int, n)' in a fenced walk: a block of n noughts, known whole. -/
theorem make_row {F : Fence} {n : Nat} (w : World) {ops : Array Oper} {rest : List Oper} {o : Oper} {a : Act} {Q : Exit → Act → World → Prop}
    (hg : o.guard = none) (l c : Operand) (hop : o.op = Op.makeSlice 58 l c) (L C : Int) (N : Nat) (hl : a.eval l = .int .i64 L) (hc : a.eval c = .int .i64 C) (hL : L = (N : Int)) (hC : C = (N : Int)) (hN : N ≤ 1000000)
    (hK : ∀ w', RowAt w' w.heap.size N (fun _ => 0) → w.grownBy w' none → wpListIn F n Tryd.prog ops Q rest (a.put o.dst (.slice (some ⟨w.heap.size, 0, none⟩) N N)) w') :
    wpListIn F n Tryd.prog ops Q (o :: rest) a w := by
  obtain ⟨i0, hi, hz0, hz1, hz2⟩ := info_parts Tryd.infoInt
  refine wpListIn_plain hg fun K hK' => ?_
  obtain ⟨w', hrun, r1, r2⟩ := run_make_full (P := Tryd.prog) w w.heap.size 58 3 i0 (.int .i64 0) 1 Tryd.underlying58 hi hz0 hz1 .i64 .i64 N (by rw [hz2]; omega) (by unfold maxLen; omega) (Nat.le_refl _)
  subst hL
  subst hC
  unfold Oper.wpIn
  refine ⟨?_, ?_⟩
  · simp [Oper.about, hop]
  · rw [Oper.semAt_plain F _ _ (by rw [hop]; intro c hc'; cases hc')]
    simp [execOp, hop, hl, hc, hrun, Result.andThen]
    refine hK' _ _ (hK w' ?_ r2)
    obtain ⟨hlen, hv⟩ := r1
    rcases hv with ⟨h, _⟩ | ⟨g, cap, cur, h, _, hgb, _, _, hs, ht⟩
    · cases h
    · cases h
      refine ⟨cur, hgb, by omega, fun i hi' => ?_⟩
      have h1 : cur.toList.take (N * 1) = cur.toList := List.take_of_length_le (by simp; omega)
      rw [h1] at ht
      rw [← Array.getElem?_toList, ht, Array.getElem?_toList]
      simp [madeCells, Value.cells, hi', Nat.mod_one]

/-- Adding to each cell of row j - 1 the one before it makes row j (row 0 stays). -/
theorem bin_turn (j i : Nat) : (if 0 < i ∧ i < j + 1 then (bin (j - 1) i : Int) + bin (j - 1) (i - 1) else bin (j - 1) i) = bin j i := by
  cases j with
  | zero => rw [if_neg (by omega)]
  | succ j =>
    rw [show j + 1 - 1 = j by omega]
    cases i with
    | zero => rw [if_neg (by omega), bin_zero, bin_zero]
    | succ i =>
      by_cases h : i + 1 < j + 1 + 1
      · rw [if_pos ⟨by omega, h⟩, bin_succ, show i + 1 - 1 = i by omega]; omega
      · rw [if_neg (by omega), bin_over j (i + 1) (by omega), bin_over (j + 1) (i + 1) (by omega)]

set_option maxRecDepth 100000 in
set_option maxHeartbeats 1000000 in
theorem rows_stops (n B L : Nat) (hL : L ≤ 60) (hn : 1 ≤ n) (w : World) (hB : B < w.heap.size) (hc : w.cell? ⟨B, 0, none⟩ = some (.int .i64 L)) :
    SeqMem Fence.wide n Tryd.prog 49 #[.pointer (some ⟨B, 0, none⟩)] 1 (fun n0 (j : Nat) => #[.slice (some ⟨n0, 0, none⟩) (j + 1) (L + 1)])
      (fun n0 pre j W => pre = List.range j ∧ j ≤ L ∧ RowAt W n0 (L + 1) (fun i => bin j i)) (fun n0 k => k = n0)
      (fun n0 xs W => xs = List.range (L + 1) ∧ RowAt W n0 (L + 1) (fun i => bin L i))
      (fun n0 pre W => ∃ j, j ≤ L ∧ pre = List.range (j + 1) ∧ RowAt W n0 (L + 1) (fun i => bin j i)) w := by
  intro l J Jx W hW hJ hJx hY h0
  have hc' := (hW.cell (p := ⟨B, 0, none⟩) hB).trans hc
  have hBW : B < W.heap.size := Nat.lt_of_lt_of_le hB hW.size
  refine callsIn_of_wp Tryd.func49 rfl trivial ?_ rfl
  simp only [Tryd.ntmps49, List.size_toArray, List.length_cons, List.length_nil, Nat.reduceAdd, Nat.reduceSub, Array.replicate_succ, Array.replicate_zero, List.push_toArray, List.append_toArray, List.nil_append, List.cons_append]
  gi_wp2_with (gi_at_make; go_loud (refine make_row W rfl _ _ rfl _ _ (L + 1) rfl rfl (by omega) (by omega) (by omega) ?_; intro w1 hrow hgrow; have hz := hrow.cell (i := 0) (by omega); have hzf := hrow.frozen 0; have hcb : w1.cell? ⟨B, 0, none⟩ = some (.int .i64 L) := hgrow.cell hc' (by simp); have hcc : (w1.setCell ⟨W.heap.size, 0, none⟩ (.int .i64 1)).cell? ⟨B, 0, none⟩ = some (.int .i64 L) := (World.cell?_setCell_other _ _ _ _ (by intro h; cases h; omega)).trans hcb))
  have hstart : RowAt (w1.setCell ⟨W.heap.size, 0, none⟩ (.int .i64 1)) W.heap.size (L + 1) (fun i => (bin (0 - 1) i : Int)) := (hrow.set (p := 0) 1).congr (fun i _ => by cases i <;> rfl)
  have hJ0 : J [] (w1.setCell ⟨W.heap.size, 0, none⟩ (.int .i64 1)) := hJ _ _ _ (some W.heap.size) (hJ _ _ _ none h0 hgrow (fun _ h => by cases h)) (grownBy_setCell' _ _ _) (fun r e => by cases e; omega)
  gi_loopw [12] (fun i wr => ∃ j : Nat, j ≤ L + 1 ∧ i = .int .i64 j ∧ J (List.range j) wr ∧ RowAt wr W.heap.size (L + 1) (fun i => (bin (j - 1) i : Int))) (fun i _ => L + 1 - (intOf i).toNat)
  case atStart => exact ⟨0, by omega, rfl, hJ0, hstart⟩
  case round =>
    obtain ⟨j, hj, rfl, hJs, hrw⟩ := hrel
    by_cases hlt : j < L + 1
    · have hA := addBefore_in W.heap.size (j + 1) (L + 1) (fun i => (bin (j - 1) i : Int)) wr (by omega) (by omega) (by omega) (fun i => by have := bin_small (j - 1) i (by omega); omega) hrw
      have hi1 : (j : Int) + 1 ≤ (L : Int) + 1 := by omega
      have hi2 : (0 : Int) ≤ (j : Int) + 1 := by omega
      have hi3 : ((j : Int) + 1).toNat = j + 1 := by omega
      gi_wp2_with (refine ⟨trivial, ?_⟩; gi_at_call 50; go_loud (refine (callsIn_wide.2 hA).mono ?_; clear hA; rintro e w2 ⟨⟨v, rfl⟩, hrow2, hg2⟩; have hrow3 := hrow2.congr (fun i _ => bin_turn j i); have hJ2 := hJ _ _ _ (some W.heap.size) hJs hg2 (fun r e => by cases e; omega); obtain ⟨fn, tmps, assign, body, hy, hR⟩ := hY _ j w2 hJ2 ⟨rfl, by omega, hrow3⟩; clear hY))
      refine hR.mono ?_
      rintro e W3 (⟨rfl, hJ3, hk3⟩ | ⟨rfl, hJx3, hk3⟩)
      · have hrow4 := hrow3.of_block (hk3.same _ hrow3.lt rfl)
        gi_wp2
        go_roundw
        case rel => exact ⟨j + 1, by omega, by go_num, by rw [List.range_succ]; exact hJ3, hrow4⟩
        case measure => simp [intOf]; omega
      · have hrow4 := hrow3.of_block (hk3.same _ hrow3.lt rfl)
        gi_wp2
        refine bodyPost_ret (results_none rfl _ _ _) rfl ?_
        exact ⟨⟨_, rfl⟩, .inr ⟨_, ⟨j, by omega, (List.range_succ).symm, hrow4⟩, hJx3⟩⟩
    · obtain rfl : j = L + 1 := by omega
      gi_wp2
      go_end0
      exact ⟨⟨_, rfl⟩, .inl ⟨_, ⟨rfl, hrw.congr (fun i _ => by rw [show L + 1 - 1 = L by omega])⟩, hJs⟩⟩
end Go.Proofs.YtkcbfiglmjdaiaaDoor
/-
  The program's RowOf and CellOf: for every argument what they hand back.
-/
namespace Go.Proofs.YtkcbfiglmjdaiaaDoor
open Go.RowKit Go.Shelf
attribute [local go_sem] Oper.semAt_some

theorem rowsTo_in (L : Int) (w : World) : Calls Tryd.prog 42 #[.int .i64 L] w fun e w' => e = .returned (.func (.func 49) #[] #[.pointer (some ⟨w.heap.size, 0, none⟩)]) ∧ w.alloc (.cells #[.int .i64 L] 3) = w' := by
  have hmf : ∀ (fn : Fn) (first cap : Array Value) (w : World), (Instr.makeFunc fn first cap).run Tryd.prog w = .ok (.func fn first cap) w := fun _ _ _ _ => rfl
  go_enter Tryd.func42, Tryd.ntmps42
  go_wp2
  go_ret
  exact ⟨rfl, rfl⟩

theorem implRow_out (row : Int) (h : row < 0 ∨ 60 < row) (w : World) : Calls Tryd.prog 33 #[.int .i64 row] w fun e w' => e = .returned (.slice none 0 0) ∧ w = w' := by
  go_enter Tryd.func33, Tryd.ntmps33
  go_wp2_with (go_at_call 25; refine (within_f _ _ _ (by omega)).mono ?_; rintro e w' ⟨rfl, rfl⟩)
  go_ret
  exact ⟨rfl, rfl⟩

/-- What the variable 'last' holds when k rows have come. -/
def lastV (g k N : Nat) : Value := if k = 0 then .slice none 0 0 else .slice (some ⟨g, 0, none⟩) k N

set_option maxRecDepth 100000 in
set_option maxHeartbeats 1000000 in
theorem implRow_in (r : Nat) (hr : r ≤ 60) (w : World) : Calls Tryd.prog 33 #[.int .i64 r] w fun e w' =>
    ∃ v, e = .returned v ∧ w'.ownsRow w.heap.size 3 1 v (r + 1) ((rowN r).map (Value.int .i64)) ∧ Below w.heap.size w w' := by
  refine (callsIn_wide (n := 9)).1 ?_
  refine callsIn_of_wp_marks Tryd.func33 rfl trivial ?_ rfl
  simp only [Tryd.ntmps33, List.size_toArray, List.length_cons, List.length_nil, Nat.reduceAdd, Nat.reduceSub, Array.replicate_succ, Array.replicate_zero, List.push_toArray, List.append_toArray, List.nil_append, List.cons_append]
  gi_wp2_with (first | (refine ⟨trivial, ?_⟩; gi_at_call 25; refine (callsIn_wide.2 (within_t _ _ _ (by omega) (by omega))).mono ?_; rintro e w' ⟨rfl, rfl⟩) | (refine ⟨trivial, ?_⟩; gi_at_call 42; refine (callsIn_wide.2 (rowsTo_in _ _)).mono ?_; rintro e w' ⟨rfl, rfl⟩))
  obtain ⟨W0, hW0⟩ : ∃ W0, ((w.alloc (Obj.cells #[Value.slice none 0 0] 58)).alloc (Obj.cells #[Value.int IntKind.i64 ↑r] 3)) = W0 := ⟨_, rfl⟩
  have hsz1 : W0.heap.size ≤ w.heap.size + 2 := by rw [← hW0]; simp
  have hsz2 : w.heap.size + 2 ≤ W0.heap.size := by rw [← hW0]; simp
  have hbox : Boxed W0 w.heap.size 58 (.slice none 0 0) := by rw [← hW0]; exact (Boxed.new w _ _).alloc _
  have hbx : Boxed W0 (w.heap.size + 1) 3 (.int .i64 r) := by rw [← hW0]; have := Boxed.new (w.alloc (Obj.cells #[Value.slice none 0 0] 58)) 3 (.int .i64 r); rwa [World.size_alloc] at this
  have hbel : Below w.heap.size w W0 := by rw [← hW0]; exact ((Below.refl _ w).alloc (Nat.le_refl _) _).alloc (by simp) _
  rw [hW0]
  clear hW0
  refine wpIn_rangeFunc_mem rfl (by omega) (gf := 49) (lb := #[.pointer (some ⟨w.heap.size + 1, 0, none⟩)]) rfl trivial (enters_of Tryd.func49 (by kernel_rfl) rfl)
    (rows_stops (9 - 1) (w.heap.size + 1) r hr (by omega) W0 (by omega) hbx.cell) (fun _ _ => rfl) (by omega)
    (fun pre x W o h => ⟨h.1, h.2.1, h.2.2.of_block (World.putObj_heap_other (by omega))⟩) (fun xs W o h => ⟨h.1, h.2.of_block (World.putObj_heap_other (by omega))⟩)
    (fun pre W o h => by obtain ⟨j, h1, h2, h3⟩ := h; exact ⟨j, h1, h2, h3.of_block (World.putObj_heap_other (by omega))⟩)
    (fun pre W => Boxed W w.heap.size 58 (lastV (W0.heap.size + 2) pre.length (r + 1)) ∧ Below w.heap.size w W) (fun _ _ _ => False)
    (fun s A B row hs hg hr => ⟨hs.1.kept hg (fun e => by have := hr _ e.symm; omega), hs.2.grown hg hs.2.size (fun k e => by have := hr _ e; omega)⟩)
    (fun _ _ _ _ _ hs _ _ => hs) ⟨hbox, hbel⟩
    (fun x => { tmps := #[.int .i64 r, undef, .slice none 0 0, .pointer (some ⟨w.heap.size, 0, none⟩), .slice (some ⟨W0.heap.size + 2, 0, none⟩) (x + 1) (r + 1), .int .i64 r, .bool true, .bool false, .int .i64 r, .func (.func 49) #[] #[.pointer (some ⟨w.heap.size + 1, 0, none⟩)], .slice (some ⟨W0.heap.size + 2, 0, none⟩) (x + 1) (r + 1), undef, undef, undef], defers := [] }) ?assign ?body ?done ?stop
  case assign =>
    intro l x W K hK
    gi_wp2
    exact hK
  case body =>
    rintro l pre x W hlt ⟨hb, hB⟩ ⟨hpre, hx, hrow⟩
    have hc := hb.cell
    have hf := hb.frozen
    gi_wp2
    refine ⟨KeepsSet.setCell _ _ _ (by omega), ?_, hB.setCell (p := ⟨w.heap.size, 0, none⟩) (Nat.le_refl _) _⟩
    have := hb.set (.slice (some ⟨W0.heap.size + 2, 0, none⟩) (x + 1) (r + 1))
    rw [show lastV (W0.heap.size + 2) (pre ++ [x]).length (r + 1) = .slice (some ⟨W0.heap.size + 2, 0, none⟩) (x + 1) (r + 1) by subst hpre; simp [lastV]]
    exact this
  case done =>
    rintro ys W ⟨rfl, hrow⟩ ⟨hb, hB⟩ hK
    rw [show lastV (W0.heap.size + 2) (List.range (r + 1)).length (r + 1) = .slice (some ⟨W0.heap.size + 2, 0, none⟩) (r + 1) (r + 1) by simp [lastV]] at hb
    have hc := hb.cell
    have hcl := clone_in (W0.heap.size + 2) (r + 1) (r + 1) (rowN r) W (rowN_len r) (by omega) (fun k u hu => by
      rw [List.getElem?_map, rowN, List.getElem?_map] at hu
      by_cases hk : k < r + 1
      · rw [List.getElem?_range hk] at hu
        simp only [Option.map_some, Option.some.injEq] at hu
        rw [← hu]; exact hrow.cell hk
      · rw [List.getElem?_eq_none (by simp; omega)] at hu; cases hu)
    gi_wp2_with (refine ⟨trivial, ?_⟩; gi_at_call 43; refine (callsIn_wide.2 hcl).mono ?_; clear hcl; rintro e W5 ⟨v, rfl, hown, hB5⟩)
    have hDW : W0.heap.size < W.heap.size := (Array.getElem?_eq_some_iff.1 hK).1
    have hK5 := (hB5.block _ hDW).trans hK
    refine ⟨by simp, .inl ⟨_, _, rfl, run_takeDeferred hK5, ?_⟩⟩
    refine ⟨_, results_tmp rfl _ _ _, v, rfl, owns_from (ownsRow_putObj hown _ hK5 rfl) hB.size, ?_⟩
    refine (hB.trans (hB5.mono hB.size)).grown (grownBy_putObj' W5 _ _) ?_ (fun k e => by cases e; omega)
    exact Nat.le_trans hB.size hB5.size
  case stop =>
    rintro c pre W _ h _
    exact h.elim
end Go.Proofs.YtkcbfiglmjdaiaaDoor
/-
  The program's CellOf: for every argument what it hands back.
-/
namespace Go.Proofs.YtkcbfiglmjdaiaaDoor
open Go.RowKit Go.Shelf
attribute [local go_sem] Oper.semAt_some

theorem cellAt_row (g j N p : Nat) (w : World) (hN : j + 1 ≤ N) (h : RowAt w g N (fun i => (bin j i : Int))) : Calls Tryd.prog 32 #[.slice (some ⟨g, 0, none⟩) (j + 1) N, .int .i64 p] w fun e w' => e = .returned (.int .i64 (bin j p)) ∧ w = w' := by
  by_cases hp : p < j + 1
  · exact cellAt_in g (j + 1) N p _ w hp (h.cell (by omega))
  · rw [bin_over j p (by omega)]; exact cellAt_out _ _ _ _ _ (.inr (by omega))

theorem implCell (row place : Int) (w : World) : Calls Tryd.prog 18 #[.int .i64 row, .int .i64 place] w fun e w' =>
    e = .returned (.int .i64 (cellV row place)) ∧ Below w.heap.size w w' := by
  by_cases h1 : row < 0 ∨ 60 < row
  · have hv := hide (cellV_bad (row := row) (place := place) (by omega))
    go_enter Tryd.func18, Tryd.ntmps18
    go_wp2_with (go_at_call 25; refine (within_f _ _ _ (by assumption)).mono ?_; rintro e w' ⟨rfl, rfl⟩)
    go_ret
    exact ⟨ret_int hv.out.symm, Below.refl _ _⟩
  · by_cases h2 : place < 0
    · have hv := hide (cellV_bad (row := row) (place := place) (by omega))
      have h1a : 0 ≤ row := by omega
      have h1b : row ≤ 60 := by omega
      clear h1
      go_enter Tryd.func18, Tryd.ntmps18
      go_wp2_with (go_at_call 25; refine (within_t _ _ _ (by assumption) (by assumption)).mono ?_; rintro e w' ⟨rfl, rfl⟩)
      go_ret
      exact ⟨ret_int hv.out.symm, Below.refl _ _⟩
    · obtain ⟨r, rfl⟩ : ∃ r : Nat, row = r := ⟨row.toNat, by omega⟩
      obtain ⟨k, rfl⟩ : ∃ k : Nat, place = k := ⟨place.toNat, by omega⟩
      have h6 : r ≤ 60 := by omega
      have hv := hide (cellV_nat (k := k) h6)
      have h1a : (0 : Int) ≤ r := by omega
      have h1b : (r : Int) ≤ 60 := by omega
      clear h1
      go_enter Tryd.func18, Tryd.ntmps18
      go_wp2_with (first | (go_at_call 25; refine (within_t _ _ _ (by assumption) (by assumption)).mono ?_; rintro e w' ⟨rfl, rfl⟩) | (go_at_call 33; refine (implRow_in _ (by assumption) _).mono ?_; rintro e w1 ⟨v, rfl, hown, hB⟩; obtain ⟨g, cap, rfl, hg1, hg2, hg3, hcells⟩ := owns_open hown (by omega); have hC : Calls Tryd.prog 32 #[.slice (some ⟨g, 0, none⟩) (r + 1) cap, .int .i64 k] w1 (fun e w' => e = .returned (.int .i64 (bin r k)) ∧ w1 = w') := (by by_cases hp : k < r + 1; exact cellAt_in g (r + 1) cap k _ w1 hp (hcells k _ (by rw [List.getElem?_map, rowN, List.getElem?_map, List.getElem?_range hp]; rfl)); rw [bin_over r k (by omega)]; exact cellAt_out _ _ _ _ _ (.inr (by omega))); clear hcells) | (go_at_call 32; refine hC.mono ?_; clear hC; rintro e w2 ⟨rfl, rfl⟩))
      go_ret
      exact ⟨ret_int hv.out.symm, hB⟩
end Go.Proofs.YtkcbfiglmjdaiaaDoor
/-
  The contract of the laws' own helper alive.
-/
namespace Go.Proofs.YtkcbfiglmjdaiaaDoor
open Go.RowKit

theorem alive_in (w : World) : Calls Tryd.prog 7 #[] w fun e w' => e = .returned (.bool true) ∧ Below w.heap.size w w' := by
  have h1 := hide (show cellV 4 2 = 6 by decide)
  have h2 := hide (show cellV (-1) 0 = -1 by decide)
  go_enter Tryd.func7, Tryd.ntmps7
  go_wp2_with (first | (go_at_call 18; (with_reducible refine (implCell 4 2 _).mono ?_); rw [h1.out]; rintro e w1 ⟨rfl, hB1⟩) | (go_at_call 18; (with_reducible refine (implCell (-1) 0 _).mono ?_); rw [h2.out]; rintro e w2 ⟨rfl, hB2⟩))
  go_ret
  exact ⟨rfl, hB1.trans (hB2.mono hB1.size)⟩
end Go.Proofs.YtkcbfiglmjdaiaaDoor
/-
  Contracts of the laws' own helpers: sameInts, eqIntS, markIntS, heldIntS.
-/
namespace Go.Proofs.YtkcbfiglmjdaiaaDoor
open Go.RowKit

/-- The slice value v reads as the numbers xs in the world w. -/
def Ints (w : World) (v : Value) (xs : List Int) : Prop :=
  (∃ a c, v = .slice a 0 c ∧ xs = []) ∨ ∃ g cap, v = .slice (some ⟨g, 0, none⟩) xs.length cap ∧ g < w.heap.size ∧ ∀ i, i < xs.length → w.cell? ⟨g, i, none⟩ = some (.int .i64 (xs.getD i 0))

theorem Ints.below {w w' : World} {v : Value} {xs : List Int} (h : Ints w v xs) (hb : Below w.heap.size w w') : Ints w' v xs := by
  rcases h with h | ⟨g, cap, rfl, hg, hc⟩
  · exact .inl h
  · exact .inr ⟨g, cap, rfl, Nat.lt_of_lt_of_le hg hb.size, fun i hi => (hb.cell (by exact hg)).trans (hc i hi)⟩
theorem Ints.of_owns {w : World} {base n : Nat} {v : Value} {xs : List Int} (h : w.ownsRow base 3 1 v n (xs.map (Value.int .i64))) : Ints w v xs := by
  have hl : xs.length = n := by have := h.1; simpa using this
  subst hl
  by_cases h0 : 0 < xs.length
  · obtain ⟨g, cap, rfl, _, h2, _, hc⟩ := owns_open h h0
    exact .inr ⟨g, cap, rfl, h2, fun i hi => hc i _ (by rw [List.getElem?_map, List.getElem?_eq_getElem hi]; simp [List.getD, hi])⟩
  · obtain rfl : xs = [] := List.length_eq_zero_iff.1 (by omega)
    rcases h.2 with ⟨rfl, _⟩ | ⟨g, cap, cur, rfl, _⟩
    · exact .inl ⟨_, _, rfl, rfl⟩
    · exact .inl ⟨_, _, rfl, rfl⟩

/-- A reading lives on where another block is written. -/
theorem Ints.grown {w w' : World} {v : Value} {xs : List Int} {g : Nat} (h : Ints w v xs) (hg : w.grownBy w' (some g)) (hne : v.ownBlock ≠ some g) : Ints w' v xs := by
  rcases h with h | ⟨b, cap, rfl, hb, hc⟩
  · exact .inl h
  · have hbg : some b ≠ some g := by simpa [Value.ownBlock] using hne
    exact .inr ⟨b, cap, rfl, Nat.lt_of_lt_of_le hb hg.size, fun i hi => hg.cell (hc i hi) (by exact hbg)⟩
end Go.Proofs.YtkcbfiglmjdaiaaDoor
/-
  A region that draws its order, whose own operations only read slots and whose callees hand back one value each and write nothing that lay before: one walk, in the order of the text. The class of worlds: those in which what lay in w lies as it lay. Nothing of the program.
-/
namespace Go.Proofs.YtkcbfiglmjdaiaaDoor
open Go Go.RowKit

/-- A world that has come of w with nothing of w written. -/
structure After (w : World) where
  now : World
  ok : Below w.heap.size w now
instance (w : World) : Nonempty (After w) := ⟨⟨w, Below.refl _ _⟩⟩

theorem wp_region_below {P : Program} {id : Nat} {Q : Exit → Act → World → Prop} {a : Act} {W : World} {l : List Oper} (w : World) (hm : P.follows .mixedOrders = true) (hB : Region.lexB .any l.toArray = true) (hW : Below w.heap.size w W)
    (h : wpQuiet P l.toArray (fun w' => ∃ n : After w, w' = n.now) (fun a' => ∀ w', (∃ n : After w, w' = n.now) → Q .normal a' w') l a) : (Code.region id l.toArray true).wp P Q a W :=
  wp_region_quiet (C := fun w' => ∃ n : After w, w' = n.now) hm hB ⟨⟨_, hW.drew⟩, rfl⟩ (by simpa using h)
theorem after_of {P : Program} {f : FuncId} {args : Array Value} {w : World} {n : After w} {v : Value}
    (h : Calls P f args n.now fun e w' => e = .returned v ∧ Below n.now.heap.size n.now w') : Calls P f args n.now fun e w'' => e = .returned v ∧ ∃ m : After w, w'' = m.now :=
  h.mono fun _ w' ⟨he, hb⟩ => ⟨he, ⟨w', n.ok.trans (hb.mono n.ok.size)⟩, rfl⟩
theorem after_of_same {P : Program} {f : FuncId} {args : Array Value} {w : World} {n : After w} {v : Value}
    (h : Calls P f args n.now fun e w' => e = .returned v ∧ n.now = w') : Calls P f args n.now fun e w'' => e = .returned v ∧ ∃ m : After w, w'' = m.now :=
  h.mono fun _ _ ⟨he, hb⟩ => ⟨he, n, hb.symm⟩
end Go.Proofs.YtkcbfiglmjdaiaaDoor
/-
  Contracts of the laws' own helpers over rows of strings: sameTexts, eqStringS, markText, markStringS, heldStringS.
-/
namespace Go.Proofs.YtkcbfiglmjdaiaaDoor
open Go Go.RowKit

/-- The digits of a number, with as many rounds as f. -/
def digF : Nat → Nat → List Nat
  | 0, _ => []
  | f + 1, k => if k = 0 then [] else digF f (k / 10) ++ [48 + k % 10]
theorem digF_zero (f : Nat) : digF f 0 = [] := by cases f <;> rfl
theorem digF_len : ∀ f k, (digF f k).length ≤ f
  | 0, _ => Nat.le_refl _
  | f + 1, k => by
    unfold digF
    split
    · exact Nat.zero_le _
    · have := digF_len f (k / 10); simp; omega
def markT (k : Nat) : ByteArray := str (109 :: digF 20 k)
theorem markT_size (k : Nat) : (markT k).size ≤ 21 := by unfold markT; rw [str_size]; have := digF_len 20 k; simp; omega

/-- A block of strings, known whole. -/
def TextAt (w : World) (g N : Nat) (f : Nat → ByteArray) : Prop :=
  ∃ cur : Array Value, w.heap[g]? = some (.cells cur 9 (0, 0)) ∧ N ≤ cur.size ∧ ∀ i, i < N → cur[i]? = some (.string (f i))
theorem TextAt.lt {w : World} {g N : Nat} {f : Nat → ByteArray} (h : TextAt w g N f) : g < w.heap.size := by
  obtain ⟨cur, h1, _⟩ := h; exact (Array.getElem?_eq_some_iff.1 h1).1
theorem TextAt.cell {w : World} {g N : Nat} {f : Nat → ByteArray} (h : TextAt w g N f) {i : Nat} (hi : i < N) : w.cell? ⟨g, i, none⟩ = some (.string (f i)) := by
  obtain ⟨cur, h1, h2, h3⟩ := h
  rw [cell_of_row w g i cur 9 (0, 0) h1]; exact h3 i hi
theorem TextAt.frozen {w : World} {g N : Nat} {f : Nat → ByteArray} (h : TextAt w g N f) (i : Nat) : w.frozen? ⟨g, i, none⟩ = false := by
  obtain ⟨cur, h1, _⟩ := h
  simp [World.frozen?, h1]
theorem TextAt.congr {w : World} {g N : Nat} {f f' : Nat → ByteArray} (h : TextAt w g N f) (he : ∀ i, i < N → f i = f' i) : TextAt w g N f' := by
  obtain ⟨cur, h1, h2, h3⟩ := h
  exact ⟨cur, h1, h2, fun i hi => by rw [← he i hi]; exact h3 i hi⟩
theorem TextAt.set {w : World} {g N : Nat} {f : Nat → ByteArray} (h : TextAt w g N f) {p : Nat} (z : ByteArray) : TextAt (w.setCell ⟨g, p, none⟩ (.string z)) g N (fun i => if i = p then z else f i) := by
  obtain ⟨cur, h1, h2, h3⟩ := h
  obtain ⟨hlt, hk⟩ := Array.getElem?_eq_some_iff.1 h1
  have h2' : ∀ i, i < N → i < cur.size := fun i hi => Nat.lt_of_lt_of_le hi h2
  refine ⟨cur.setIfInBounds p (.string z), ?_, by simpa using h2, fun i hi => ?_⟩
  · show (w.heap.modify g _)[g]? = _
    rw [Array.getElem?_eq_getElem (by rw [Array.size_modify]; exact hlt), Array.getElem_modify_self, hk]; rfl
  · rw [Array.getElem?_setIfInBounds]
    by_cases e : p = i
    · subst e; simp [h2' _ hi]
    · rw [if_neg e, h3 i hi]; simp only []; rw [if_neg (fun h : i = p => e h.symm)]
theorem TextAt.of_block {w w' : World} {g N : Nat} {f : Nat → ByteArray} (h : TextAt w g N f) (hb : w'.heap[g]? = w.heap[g]?) : TextAt w' g N f := by
  obtain ⟨cur, h1, h2, h3⟩ := h
  exact ⟨cur, hb.trans h1, h2, h3⟩
theorem TextAt.of_owns {w : World} {base : Nat} {v : Value} {L : List (List Nat)} (h : w.ownsRow base 9 1 v L.length (L.map txt)) (hn : 0 < L.length) :
    ∃ g cap, v = .slice (some ⟨g, 0, none⟩) L.length cap ∧ base ≤ g ∧ TextAt w g L.length (fun i => str (L.getD i [])) := by
  rcases h.2 with ⟨_, h0⟩ | ⟨g, cap, cur, rfl, hb, hgb, hc, _, hs, ht⟩
  · omega
  · refine ⟨g, cap, rfl, hb, cur, hgb, by omega, fun i hi => ?_⟩
    have h1 : (cur.toList.take (L.length * 1))[i]? = some (.string (str (L.getD i []))) := by
      rw [ht, List.getElem?_map, List.getElem?_eq_getElem hi]; simp [List.getD, txt, hi]
    rw [List.getElem?_take, if_pos (by omega)] at h1
    rw [← Array.getElem?_toList]; exact h1
theorem grownBy_more {w a b : World} {row : Option Nat} (h : w.grownBy a row) (hB : Below a.heap.size a b) : w.grownBy b row :=
  ⟨hB.os.trans h.os, hB.tape.trans h.tape, hB.output.trans h.output, Nat.le_trans h.size hB.size, fun k hk hr => (hB.block k (Nat.lt_of_lt_of_le hk h.size)).trans (h.block k hk hr)⟩
theorem Texts.grown {w w' : World} {v : Value} {L : List (List Nat)} {g : Nat} (h : Texts w v L) (hg : w.grownBy w' (some g)) (hne : v.ownBlock ≠ some g) : Texts w' v L := by
  obtain ⟨a, cap, rfl, hc⟩ := h
  refine ⟨a, cap, rfl, fun h0 => ?_⟩
  obtain ⟨b, rfl, hb, hcc⟩ := hc h0
  have hbg : some b ≠ some g := by simpa [Value.ownBlock] using hne
  exact ⟨b, rfl, Nat.lt_of_lt_of_le hb hg.size, fun j l hj => hg.cell (hcc j l hj) (by exact hbg)⟩

end Go.Proofs.YtkcbfiglmjdaiaaDoor
/-
  As wpIn_region_two, where what is known behind the change may speak of the values themselves: a region in which a variable is made and stored, and a part of the call's answer may be taken out behind the store. Nothing of the program.
-/
namespace Go.Proofs.YtkcbfiglmjdaiaaDoor
open Go

theorem wpIn_region_store {F : Fence} {n : Nat} {P : Program} {id : Nat} {ops : Array Oper} {Q : Exit → Act → World → Prop} {a : Act} {w : World} (p m : Nat) (hm : P.follows .mixedOrders = true) (hb : backB ops = true) (ht : tailB ops m = true) (hpm : p < m) (hsz : m < ops.size)
    (fr : (Nat → Value) → Act) (C : Bool → World → Prop) (G : World → World → Prop) (Φ : Bool → Nat → Value → World → Prop)
    (h0 : ∃ s, a = fr s) (hput : ∀ i o s v, i < m → ops[i]? = some o → (fr s).put o.dst v = fr (fun j => if j = i then v else s j))
    (hC : C false w.drew) (hG : ∀ c k v W W', Φ c k v W → G W W' → Φ c k v W')
    (hstep : ∀ c i o s W, i < m → i ≠ p → (c = true → needs ops p ops.size i = false) → ops[i]? = some o → C c W → (∀ k, depB ops i k = true → Φ c k (s k) W) → ∀ Q' : Exit → Act → World → Prop,
      (∀ v W', C c W' → G W W' → Φ c i v W' → Q' .normal ((fr s).put o.dst v) W') → wpListIn F n P ops Q' [o] (fr s) W)
    (hmid : ∀ o s W, ops[p]? = some o → C false W → (∀ k, depB ops p k = true → Φ false k (s k) W) → ∀ Q' : Exit → Act → World → Prop,
      (∀ v W', C true W' → (∀ k, k ≠ p → Φ false k (s k) W → Φ true k (s k) W') → Φ true p v W' → Q' .normal ((fr s).put o.dst v) W') → wpListIn F n P ops Q' [o] (fr s) W)
    (htail : ∀ s W, C true W → (∀ k, k < m → Φ true k (s k) W) → wpListIn F n P ops Q (ops.toList.drop m) (fr s) W) : (Code.region id ops true).wpIn F n P Q a w := by
  have hdrop : ∀ d (h : d < ops.size), ops.toList.drop d = ops[d] :: ops.toList.drop (d + 1) := fun d h => by
    rw [List.drop_eq_getElem_cons (by simpa using h)]; simp
  refine wpIn_region_any hm (wpAnyIn_inv2 hb (fun L b W => Shut ops L ∧ (((∀ j, m ≤ j → j < ops.size → L j = false) ∧ ∃ s, b = fr s ∧ C (L p) W ∧ ∀ k, L k = true → Φ (L p) k (s k) W) ∨
    (∃ d, m < d ∧ d ≤ ops.size ∧ (∀ j, j < ops.size → (L j = true ↔ j < d)) ∧ wpListIn F n P ops Q (ops.toList.drop d) b W))) ?_ ?_ _ _ _ _ (by simp) ?_ ?_)
  · rintro L b W i o ho hLi hde ⟨hS, (⟨hno, s, rfl, hCW, hΦ⟩ | ⟨d, hd1, hd2, hd3, hd4⟩)⟩ K hK
    · obtain ⟨hi, ho'⟩ := Array.getElem?_eq_some_iff.1 ho
      have hS' := shut_next ho hde hS
      by_cases him : i < m
      · by_cases hip : i = p
        · subst hip
          rw [hLi] at hCW hΦ
          have hL1 : (fun j => if j = i then true else L j) i = true := if_pos rfl
          have hst := hmid o s W ho hCW (fun k hk => hΦ k (dep_of ho hde hk)) (fun e b' W' => match e with | .normal => K b' W' | e => Q e b' W')
            (fun v W' h1 h2 h3 => hK _ _ ⟨hS', .inl ⟨fun j hj1 hj2 => (by dsimp only; rw [if_neg (by omega)]; exact hno j hj1 hj2), fun j => if j = i then v else s j, hput i o s v him ho, (by rw [hL1]; exact h1), fun k hk => (by
              rw [hL1]
              by_cases e : k = i
              · subst e; simpa using h3
              · simp only [if_neg e] at hk ⊢
                exact h2 k e (hΦ k hk))⟩⟩)
          unfold wpOpIn
          rw [ho]
          simp only [wpListIn] at hst
          exact hst
        · have hLp : (fun j => if j = i then true else L j) p = L p := if_neg (fun e => hip e.symm)
          have hst := hstep (L p) i o s W him hip (fun hc => (by
            cases hn : needs ops p ops.size i with
            | false => rfl
            | true => have := needs_of hS hc _ _ hn; rw [hLi] at this; cases this)) ho hCW (fun k hk => hΦ k (dep_of ho hde hk)) (fun e b' W' => match e with | .normal => K b' W' | e => Q e b' W')
            (fun v W' h1 h2 h3 => hK _ _ ⟨hS', .inl ⟨fun j hj1 hj2 => (by dsimp only; rw [if_neg (by omega)]; exact hno j hj1 hj2), fun j => if j = i then v else s j, hput i o s v him ho, (by rw [hLp]; exact h1), fun k hk => (by
              rw [hLp]
              by_cases e : k = i
              · subst e; simpa using h3
              · simp only [if_neg e] at hk ⊢
                exact hG _ k _ W W' (hΦ k hk) h2)⟩⟩)
          unfold wpOpIn
          rw [ho]
          simp only [wpListIn] at hst
          exact hst
      · have hall : ∀ k, k < i → L k = true := fun k hk => by
          have := tail_of ht hS' (by omega) hi (if_pos rfl) hk
          rwa [if_neg (by omega)] at this
        have him2 : i = m := by
          rcases Nat.lt_or_ge m i with h | h
          · have h1 := hall m h
            rw [hno m (Nat.le_refl _) hsz] at h1
            cases h1
          · omega
        subst him2
        have hLp := hall p hpm
        rw [hLp] at hCW hΦ
        have hl := htail s W hCW (fun k hk => hΦ k (hall k hk))
        rw [hdrop _ hi, ho'] at hl
        refine wpOp_of_list ho hl (fun b' W' h' => hK _ _ ⟨hS', .inr ⟨i + 1, by omega, by omega, fun j hj => ?_, h'⟩⟩)
        dsimp only
        by_cases e : j = i
        · rw [if_pos e]; exact ⟨fun _ => by omega, fun _ => rfl⟩
        · rw [if_neg e]
          refine ⟨fun h => ?_, fun h => hall j (by omega)⟩
          rcases Nat.lt_or_ge j i with h2 | h2
          · omega
          · rw [hno j h2 hj] at h; cases h
    · obtain ⟨hi, ho'⟩ := Array.getElem?_eq_some_iff.1 ho
      have hS' := shut_next ho hde hS
      have hid : d ≤ i := by
        rcases Nat.lt_or_ge i d with h | h
        · rw [(hd3 i hi).2 h] at hLi; cases hLi
        · exact h
      have hall : ∀ k, k < i → L k = true := fun k hk => by
        have := tail_of ht hS' (by omega) hi (if_pos rfl) hk
        rwa [if_neg (by omega)] at this
      have hid2 : i = d := by
        rcases Nat.lt_or_ge d i with h | h
        · have := (hd3 d (by omega)).1 (hall d h); omega
        · omega
      subst hid2
      rw [hdrop _ hi, ho'] at hd4
      refine wpOp_of_list ho hd4 (fun b' W' h' => hK _ _ ⟨hS', .inr ⟨i + 1, by omega, by omega, fun j hj => ?_, h'⟩⟩)
      dsimp only
      by_cases e : j = i
      · rw [if_pos e]; exact ⟨fun _ => by omega, fun _ => rfl⟩
      · rw [if_neg e]
        have := hd3 j hj
        exact ⟨fun h => by have := this.1 h; omega, fun h => this.2 (by omega)⟩
  · rintro L b W hL ⟨_, (⟨hno, _⟩ | ⟨d, hd1, hd2, hd3, hd4⟩)⟩
    · have := hno m (Nat.le_refl _) hsz
      rw [hL m hsz] at this; cases this
    · have hds : d = ops.size := by
        rcases Nat.lt_or_ge d ops.size with h | h
        · have := (hd3 d h).1 (hL d h); omega
        · omega
      subst hds
      rw [List.drop_of_length_le (by simp)] at hd4
      exact hd4
  · unfold unl
    simp
  · have hfn : (fun j => (Array.replicate ops.size false).getD j false) = fun _ => false := by
      funext j
      rw [Array.getD_eq_getD_getElem?]
      by_cases e : j < ops.size
      · rw [Array.getElem?_replicate, if_pos e]; rfl
      · rw [Array.getElem?_eq_none (by simp; omega)]; rfl
    rw [hfn]
    obtain ⟨s, hs⟩ := h0
    exact ⟨fun _ _ (h : false = true) => (by cases h), .inl ⟨fun _ _ _ => rfl, s, hs, hC, fun _ (h : false = true) => (by cases h)⟩⟩
end Go.Proofs.YtkcbfiglmjdaiaaDoor
/-
  Drawn regions whose operations' values are put into their slots by number: no activation is written out. Nothing of the program.
-/
namespace Go.Proofs.YtkcbfiglmjdaiaaDoor
open Go Go.RowKit

/-- An activation with the operations' values in their slots. -/
def putsOf : List (Option Tmp × Nat) → Act → (Nat → Value) → Act
  | [], a, _ => a
  | (d, i) :: r, a, s => putsOf r (a.put d (s i)) s
def okPuts : List (Option Tmp × Nat) → Bool
  | [] => true
  | (d, i) :: r => r.all (fun p => p.2 != i && (d.isNone || p.1 != d)) && okPuts r
/-- The slots of the first m operations. -/
def dstsOf (ops : Array Oper) (m : Nat) : List (Option Tmp × Nat) := (List.range m).map fun i => (ops[i]?.bind fun o => o.dst, i)
theorem put_put (a : Act) (d : Option Tmp) (u v : Value) : (a.put d u).put d v = a.put d v := by
  cases d with
  | none => rfl
  | some d => simp [Act.put, Array.setIfInBounds_setIfInBounds]
theorem puts_comm (s : Nat → Value) (d : Option Tmp) (v : Value) : ∀ (L : List (Option Tmp × Nat)) (a : Act), (∀ p ∈ L, ∀ x, d = some x → p.1 ≠ some x) → putsOf L (a.put d v) s = (putsOf L a s).put d v
  | [], _, _ => rfl
  | (e, i) :: r, a, h => by
    simp only [putsOf]
    rw [Act.put_comm a v (s i) (fun x hx => h (e, i) (List.mem_cons_self ..) x hx)]
    exact puts_comm s d v r _ (fun p hp => h p (List.mem_cons_of_mem _ hp))
theorem puts_other {s s' : Nat → Value} : ∀ (L : List (Option Tmp × Nat)) (a : Act), (∀ p ∈ L, s p.2 = s' p.2) → putsOf L a s = putsOf L a s'
  | [], _, _ => rfl
  | (e, i) :: r, a, h => by
    simp only [putsOf]
    rw [h (e, i) (List.mem_cons_self ..)]
    exact puts_other r _ (fun p hp => h p (List.mem_cons_of_mem _ hp))
theorem puts_put (s : Nat → Value) (d : Option Tmp) (i : Nat) (v : Value) : ∀ (L : List (Option Tmp × Nat)) (a : Act), okPuts L = true → (d, i) ∈ L → (putsOf L a s).put d v = putsOf L a (fun j => if j = i then v else s j)
  | [], _, _, h => by cases h
  | (e, j) :: r, a, hok, h => by
    simp only [okPuts, Bool.and_eq_true, List.all_eq_true, bne_iff_ne, Bool.or_eq_true] at hok
    simp only [putsOf]
    rcases List.mem_cons.1 h with h | h
    · injection h with h1 h2
      subst h1
      subst h2
      rw [if_pos rfl, ← puts_comm s d v r _ (fun p hp x hx he => by
        rcases (hok.1 p hp).2 with h3 | h3
        · rw [hx] at h3; cases h3
        · exact h3 (by rw [he, hx])), put_put]
      exact puts_other r _ (fun p hp => by rw [if_neg (hok.1 p hp).1])
    · have h3 := hok.1 _ h
      rw [if_neg (fun e => h3.1 e.symm)]
      exact puts_put s d i v r _ hok.2 h
theorem put_self (a : Act) (d : Option Tmp) : ∃ v, a.put d v = a := by
  cases d with
  | none => exact ⟨undef, rfl⟩
  | some d =>
    by_cases h : d < a.tmps.size
    · refine ⟨a.tmps[d], ?_⟩
      have hx : a.tmps.setIfInBounds d a.tmps[d] = a.tmps := by
        unfold Array.setIfInBounds
        rw [dif_pos h]
        simp
      show ({ a with tmps := a.tmps.setIfInBounds d a.tmps[d] } : Act) = a
      rw [hx]
    · refine ⟨undef, ?_⟩
      have hx : a.tmps.setIfInBounds d undef = a.tmps := by
        unfold Array.setIfInBounds
        rw [dif_neg h]
      show ({ a with tmps := a.tmps.setIfInBounds d undef } : Act) = a
      rw [hx]
theorem puts_self (a : Act) : ∀ (L : List (Option Tmp × Nat)), okPuts L = true → ∃ s, a = putsOf L a s
  | [], _ => ⟨fun _ => undef, rfl⟩
  | (d, i) :: r, hok => by
    simp only [okPuts, Bool.and_eq_true, List.all_eq_true, bne_iff_ne, Bool.or_eq_true] at hok
    obtain ⟨s, hs⟩ := puts_self a r hok.2
    obtain ⟨v, hv⟩ := put_self a d
    refine ⟨fun j => if j = i then v else s j, ?_⟩
    have h1 : putsOf r a (fun j => if j = i then v else s j) = putsOf r a s := puts_other r a (fun p hp => if_neg (hok.1 p hp).1)
    show a = putsOf r (a.put d (if i = i then v else s i)) _
    rw [if_pos rfl, hv, h1]
    exact hs

/-- A region that draws its order, of which all that lay before stands until the last operations, whatever is known of each operation's value. -/
theorem wpIn_region_put {F : Fence} {n : Nat} {P : Program} {id : Nat} {ops : Array Oper} {Q : Exit → Act → World → Prop} {a : Act} {W : World} (m : Nat) (L : List (Option Tmp × Nat)) (hm : P.follows .mixedOrders = true) (hb : backB ops = true) (ht : tailB ops m = true) (hsz : m < ops.size)
    (hL : dstsOf ops m = L) (hok : okPuts L = true) (Φ : Nat → Value → World → Prop) (hmono : ∀ k v V V', Φ k v V → Below V.heap.size V V' → Φ k v V')
    (hstep : ∀ i o s V, i < m → ops[i]? = some o → Below W.heap.size W V → (∀ k, depB ops i k = true → Φ k (s k) V) → ∀ Q' : Exit → Act → World → Prop,
      (∀ v V', Below V.heap.size V V' → Φ i v V' → Q' .normal ((putsOf L a s).put o.dst v) V') → wpListIn F n P ops Q' [o] (putsOf L a s) V)
    (htail : ∀ s V, Below W.heap.size W V → (∀ k, k < m → Φ k (s k) V) → wpListIn F n P ops Q (ops.toList.drop m) (putsOf L a s) V) : (Code.region id ops true).wpIn F n P Q a W := by
  refine wpIn_region_tail m hm hb ht hsz (putsOf L a) (fun V => Below W.heap.size W V) (fun V V' => Below V.heap.size V V') Φ (puts_self a L hok) ?_ (Below.refl _ _).drew (fun k v V V' h hg => hmono k v V V' h hg) ?_ htail
  · intro i o s v hi ho
    refine puts_put s o.dst i v L a hok ?_
    rw [← hL]
    unfold dstsOf
    refine List.mem_map.2 ⟨i, List.mem_range.2 hi, ?_⟩
    rw [ho]
    rfl
  · rintro i o s V him ho hV hd Q' hQ'
    exact hstep i o s V him ho hV hd Q' (fun v V' h2 h3 => hQ' v V' (hV.trans (h2.mono hV.size)) h2 h3)
end Go.Proofs.YtkcbfiglmjdaiaaDoor
/-
  The laws on drawn regions with a tail, where the class of worlds may speak of which operations have been carried out. Nothing of the program.
-/
namespace Go.Proofs.YtkcbfiglmjdaiaaDoor
open Go

theorem wpIn_region_tailL {F : Fence} {n : Nat} {P : Program} {id : Nat} {ops : Array Oper} {Q : Exit → Act → World → Prop} {a : Act} {w : World} (m : Nat) (hm : P.follows .mixedOrders = true) (hb : backB ops = true) (ht : tailB ops m = true) (hsz : m < ops.size)
    (fr : (Nat → Value) → Act) (C : (Nat → Bool) → World → Prop) (G : World → World → Prop) (Φ : Nat → Value → World → Prop)
    (h0 : ∃ s, a = fr s) (hput : ∀ i o s v, i < m → ops[i]? = some o → (fr s).put o.dst v = fr (fun j => if j = i then v else s j))
    (hC : C (fun _ => false) w.drew) (hG : ∀ k v W W', Φ k v W → G W W' → Φ k v W')
    (hstep : ∀ L i o s W, i < m → L i = false → ops[i]? = some o → C L W → (∀ k, depB ops i k = true → Φ k (s k) W) → ∀ Q' : Exit → Act → World → Prop,
      (∀ v W', C (fun j => if j = i then true else L j) W' → G W W' → Φ i v W' → Q' .normal ((fr s).put o.dst v) W') → wpListIn F n P ops Q' [o] (fr s) W)
    (htail : ∀ L s W, C L W → (∀ k, k < m → L k = true) → (∀ k, k < m → Φ k (s k) W) → wpListIn F n P ops Q (ops.toList.drop m) (fr s) W) : (Code.region id ops true).wpIn F n P Q a w := by
  have hdrop : ∀ d (h : d < ops.size), ops.toList.drop d = ops[d] :: ops.toList.drop (d + 1) := fun d h => by
    rw [List.drop_eq_getElem_cons (by simpa using h)]; simp
  refine wpIn_region_any hm (wpAnyIn_inv2 hb (fun L b W => Shut ops L ∧ (((∀ j, m ≤ j → j < ops.size → L j = false) ∧ ∃ s, b = fr s ∧ C L W ∧ ∀ k, L k = true → Φ k (s k) W) ∨
    (∃ d, m < d ∧ d ≤ ops.size ∧ (∀ j, j < ops.size → (L j = true ↔ j < d)) ∧ wpListIn F n P ops Q (ops.toList.drop d) b W))) ?_ ?_ _ _ _ _ (by simp) ?_ ?_)
  · rintro L b W i o ho hLi hde ⟨hS, (⟨hno, s, rfl, hCW, hΦ⟩ | ⟨d, hd1, hd2, hd3, hd4⟩)⟩ K hK
    · obtain ⟨hi, ho'⟩ := Array.getElem?_eq_some_iff.1 ho
      have hS' := shut_next ho hde hS
      by_cases him : i < m
      · have hst := hstep L i o s W him hLi ho hCW (fun k hk => hΦ k (dep_of ho hde hk)) (fun e b' W' => match e with | .normal => K b' W' | e => Q e b' W')
          (fun v W' h1 h2 h3 => hK _ _ ⟨hS', .inl ⟨fun j hj1 hj2 => (by dsimp only; rw [if_neg (by omega)]; exact hno j hj1 hj2), fun j => if j = i then v else s j, hput i o s v him ho, h1, fun k hk => (by
            by_cases e : k = i
            · subst e; simpa using h3
            · simp only [if_neg e] at hk ⊢
              exact hG k _ W W' (hΦ k hk) h2)⟩⟩)
        unfold wpOpIn
        rw [ho]
        simp only [wpListIn] at hst
        exact hst
      · have hall : ∀ k, k < i → L k = true := fun k hk => by
          have := tail_of ht hS' (by omega) hi (if_pos rfl) hk
          rwa [if_neg (by omega)] at this
        have him2 : i = m := by
          rcases Nat.lt_or_ge m i with h | h
          · have h1 := hall m h
            rw [hno m (Nat.le_refl _) hsz] at h1
            cases h1
          · omega
        subst him2
        have hl := htail L s W hCW (fun k hk => hall k hk) (fun k hk => hΦ k (hall k hk))
        rw [hdrop _ hi, ho'] at hl
        refine wpOp_of_list ho hl (fun b' W' h' => hK _ _ ⟨hS', .inr ⟨i + 1, by omega, by omega, fun j hj => ?_, h'⟩⟩)
        dsimp only
        by_cases e : j = i
        · rw [if_pos e]; exact ⟨fun _ => by omega, fun _ => rfl⟩
        · rw [if_neg e]
          refine ⟨fun h => ?_, fun h => hall j (by omega)⟩
          rcases Nat.lt_or_ge j i with h2 | h2
          · omega
          · rw [hno j h2 hj] at h; cases h
    · obtain ⟨hi, ho'⟩ := Array.getElem?_eq_some_iff.1 ho
      have hS' := shut_next ho hde hS
      have hid : d ≤ i := by
        rcases Nat.lt_or_ge i d with h | h
        · rw [(hd3 i hi).2 h] at hLi; cases hLi
        · exact h
      have hall : ∀ k, k < i → L k = true := fun k hk => by
        have := tail_of ht hS' (by omega) hi (if_pos rfl) hk
        rwa [if_neg (by omega)] at this
      have hid2 : i = d := by
        rcases Nat.lt_or_ge d i with h | h
        · have := (hd3 d (by omega)).1 (hall d h); omega
        · omega
      subst hid2
      rw [hdrop _ hi, ho'] at hd4
      refine wpOp_of_list ho hd4 (fun b' W' h' => hK _ _ ⟨hS', .inr ⟨i + 1, by omega, by omega, fun j hj => ?_, h'⟩⟩)
      dsimp only
      by_cases e : j = i
      · rw [if_pos e]; exact ⟨fun _ => by omega, fun _ => rfl⟩
      · rw [if_neg e]
        have := hd3 j hj
        exact ⟨fun h => by have := this.1 h; omega, fun h => this.2 (by omega)⟩
  · rintro L b W hL ⟨_, (⟨hno, _⟩ | ⟨d, hd1, hd2, hd3, hd4⟩)⟩
    · have := hno m (Nat.le_refl _) hsz
      rw [hL m hsz] at this; cases this
    · have hds : d = ops.size := by
        rcases Nat.lt_or_ge d ops.size with h | h
        · have := (hd3 d h).1 (hL d h); omega
        · omega
      subst hds
      rw [List.drop_of_length_le (by simp)] at hd4
      exact hd4
  · unfold unl
    simp
  · have hfn : (fun j => (Array.replicate ops.size false).getD j false) = fun _ => false := by
      funext j
      rw [Array.getD_eq_getD_getElem?]
      by_cases e : j < ops.size
      · rw [Array.getElem?_replicate, if_pos e]; rfl
      · rw [Array.getElem?_eq_none (by simp; omega)]; rfl
    rw [hfn]
    obtain ⟨s, hs⟩ := h0
    exact ⟨fun _ _ (h : false = true) => (by cases h), .inl ⟨fun _ _ _ => rfl, s, hs, hC, fun _ (h : false = true) => (by cases h)⟩⟩

theorem wpIn_region_storeL {F : Fence} {n : Nat} {P : Program} {id : Nat} {ops : Array Oper} {Q : Exit → Act → World → Prop} {a : Act} {w : World} (p m : Nat) (hm : P.follows .mixedOrders = true) (hb : backB ops = true) (ht : tailB ops m = true) (hpm : p < m) (hsz : m < ops.size)
    (fr : (Nat → Value) → Act) (C : (Nat → Bool) → World → Prop) (G : World → World → Prop) (Φ : Bool → Nat → Value → World → Prop)
    (h0 : ∃ s, a = fr s) (hput : ∀ i o s v, i < m → ops[i]? = some o → (fr s).put o.dst v = fr (fun j => if j = i then v else s j))
    (hC : C (fun _ => false) w.drew) (hG : ∀ c k v W W', Φ c k v W → G W W' → Φ c k v W')
    (hstep : ∀ L i o s W, i < m → i ≠ p → L i = false → (L p = true → needs ops p ops.size i = false) → ops[i]? = some o → C L W → (∀ k, depB ops i k = true → Φ (L p) k (s k) W) → ∀ Q' : Exit → Act → World → Prop,
      (∀ v W', C (fun j => if j = i then true else L j) W' → G W W' → Φ (L p) i v W' → Q' .normal ((fr s).put o.dst v) W') → wpListIn F n P ops Q' [o] (fr s) W)
    (hmid : ∀ L o s W, L p = false → ops[p]? = some o → C L W → (∀ k, depB ops p k = true → Φ false k (s k) W) → ∀ Q' : Exit → Act → World → Prop,
      (∀ v W', C (fun j => if j = p then true else L j) W' → (∀ k, k ≠ p → Φ false k (s k) W → Φ true k (s k) W') → Φ true p v W' → Q' .normal ((fr s).put o.dst v) W') → wpListIn F n P ops Q' [o] (fr s) W)
    (htail : ∀ L s W, C L W → (∀ k, k < m → L k = true) → (∀ k, k < m → Φ true k (s k) W) → wpListIn F n P ops Q (ops.toList.drop m) (fr s) W) : (Code.region id ops true).wpIn F n P Q a w := by
  have hdrop : ∀ d (h : d < ops.size), ops.toList.drop d = ops[d] :: ops.toList.drop (d + 1) := fun d h => by
    rw [List.drop_eq_getElem_cons (by simpa using h)]; simp
  refine wpIn_region_any hm (wpAnyIn_inv2 hb (fun L b W => Shut ops L ∧ (((∀ j, m ≤ j → j < ops.size → L j = false) ∧ ∃ s, b = fr s ∧ C L W ∧ ∀ k, L k = true → Φ (L p) k (s k) W) ∨
    (∃ d, m < d ∧ d ≤ ops.size ∧ (∀ j, j < ops.size → (L j = true ↔ j < d)) ∧ wpListIn F n P ops Q (ops.toList.drop d) b W))) ?_ ?_ _ _ _ _ (by simp) ?_ ?_)
  · rintro L b W i o ho hLi hde ⟨hS, (⟨hno, s, rfl, hCW, hΦ⟩ | ⟨d, hd1, hd2, hd3, hd4⟩)⟩ K hK
    · obtain ⟨hi, ho'⟩ := Array.getElem?_eq_some_iff.1 ho
      have hS' := shut_next ho hde hS
      by_cases him : i < m
      · by_cases hip : i = p
        · subst hip
          rw [hLi] at hΦ
          have hL1 : (fun j => if j = i then true else L j) i = true := if_pos rfl
          have hst := hmid L o s W hLi ho hCW (fun k hk => hΦ k (dep_of ho hde hk)) (fun e b' W' => match e with | .normal => K b' W' | e => Q e b' W')
            (fun v W' h1 h2 h3 => hK _ _ ⟨hS', .inl ⟨fun j hj1 hj2 => (by dsimp only; rw [if_neg (by omega)]; exact hno j hj1 hj2), fun j => if j = i then v else s j, hput i o s v him ho, h1, fun k hk => (by
              rw [hL1]
              by_cases e : k = i
              · subst e; simpa using h3
              · simp only [if_neg e] at hk ⊢
                exact h2 k e (hΦ k hk))⟩⟩)
          unfold wpOpIn
          rw [ho]
          simp only [wpListIn] at hst
          exact hst
        · have hLp : (fun j => if j = i then true else L j) p = L p := if_neg (fun e => hip e.symm)
          have hst := hstep L i o s W him hip hLi (fun hc => (by
            cases hn : needs ops p ops.size i with
            | false => rfl
            | true => have := needs_of hS hc _ _ hn; rw [hLi] at this; cases this)) ho hCW (fun k hk => hΦ k (dep_of ho hde hk)) (fun e b' W' => match e with | .normal => K b' W' | e => Q e b' W')
            (fun v W' h1 h2 h3 => hK _ _ ⟨hS', .inl ⟨fun j hj1 hj2 => (by dsimp only; rw [if_neg (by omega)]; exact hno j hj1 hj2), fun j => if j = i then v else s j, hput i o s v him ho, h1, fun k hk => (by
              rw [hLp]
              by_cases e : k = i
              · subst e; simpa using h3
              · simp only [if_neg e] at hk ⊢
                exact hG _ k _ W W' (hΦ k hk) h2)⟩⟩)
          unfold wpOpIn
          rw [ho]
          simp only [wpListIn] at hst
          exact hst
      · have hall : ∀ k, k < i → L k = true := fun k hk => by
          have := tail_of ht hS' (by omega) hi (if_pos rfl) hk
          rwa [if_neg (by omega)] at this
        have him2 : i = m := by
          rcases Nat.lt_or_ge m i with h | h
          · have h1 := hall m h
            rw [hno m (Nat.le_refl _) hsz] at h1
            cases h1
          · omega
        subst him2
        have hLp := hall p hpm
        rw [hLp] at hΦ
        have hl := htail L s W hCW (fun k hk => hall k hk) (fun k hk => hΦ k (hall k hk))
        rw [hdrop _ hi, ho'] at hl
        refine wpOp_of_list ho hl (fun b' W' h' => hK _ _ ⟨hS', .inr ⟨i + 1, by omega, by omega, fun j hj => ?_, h'⟩⟩)
        dsimp only
        by_cases e : j = i
        · rw [if_pos e]; exact ⟨fun _ => by omega, fun _ => rfl⟩
        · rw [if_neg e]
          refine ⟨fun h => ?_, fun h => hall j (by omega)⟩
          rcases Nat.lt_or_ge j i with h2 | h2
          · omega
          · rw [hno j h2 hj] at h; cases h
    · obtain ⟨hi, ho'⟩ := Array.getElem?_eq_some_iff.1 ho
      have hS' := shut_next ho hde hS
      have hid : d ≤ i := by
        rcases Nat.lt_or_ge i d with h | h
        · rw [(hd3 i hi).2 h] at hLi; cases hLi
        · exact h
      have hall : ∀ k, k < i → L k = true := fun k hk => by
        have := tail_of ht hS' (by omega) hi (if_pos rfl) hk
        rwa [if_neg (by omega)] at this
      have hid2 : i = d := by
        rcases Nat.lt_or_ge d i with h | h
        · have := (hd3 d (by omega)).1 (hall d h); omega
        · omega
      subst hid2
      rw [hdrop _ hi, ho'] at hd4
      refine wpOp_of_list ho hd4 (fun b' W' h' => hK _ _ ⟨hS', .inr ⟨i + 1, by omega, by omega, fun j hj => ?_, h'⟩⟩)
      dsimp only
      by_cases e : j = i
      · rw [if_pos e]; exact ⟨fun _ => by omega, fun _ => rfl⟩
      · rw [if_neg e]
        have := hd3 j hj
        exact ⟨fun h => by have := this.1 h; omega, fun h => this.2 (by omega)⟩
  · rintro L b W hL ⟨_, (⟨hno, _⟩ | ⟨d, hd1, hd2, hd3, hd4⟩)⟩
    · have := hno m (Nat.le_refl _) hsz
      rw [hL m hsz] at this; cases this
    · have hds : d = ops.size := by
        rcases Nat.lt_or_ge d ops.size with h | h
        · have := (hd3 d h).1 (hL d h); omega
        · omega
      subst hds
      rw [List.drop_of_length_le (by simp)] at hd4
      exact hd4
  · unfold unl
    simp
  · have hfn : (fun j => (Array.replicate ops.size false).getD j false) = fun _ => false := by
      funext j
      rw [Array.getD_eq_getD_getElem?]
      by_cases e : j < ops.size
      · rw [Array.getElem?_replicate, if_pos e]; rfl
      · rw [Array.getElem?_eq_none (by simp; omega)]; rfl
    rw [hfn]
    obtain ⟨s, hs⟩ := h0
    exact ⟨fun _ _ (h : false = true) => (by cases h), .inl ⟨fun _ _ _ => rfl, s, hs, hC, fun _ (h : false = true) => (by cases h)⟩⟩
end Go.Proofs.YtkcbfiglmjdaiaaDoor
/-
  A region that draws its order, by predicates: each operation leaves a value of which something holds that no later operation undoes, whichever comes first. One obligation an operation. Nothing of the program.
-/
namespace Go.Proofs.YtkcbfiglmjdaiaaDoor
open Go

/-- How many of the first n have been carried out. -/
def cnt (L : Nat → Bool) : Nat → Nat
  | 0 => 0
  | n + 1 => cnt L n + (if L n = true then 1 else 0)
theorem cnt_le (L : Nat → Bool) : ∀ n, cnt L n ≤ n
  | 0 => Nat.le_refl _
  | n + 1 => by
    have := cnt_le L n
    unfold cnt; split <;> omega
theorem cnt_none : ∀ n, cnt (fun _ => false) n = 0
  | 0 => rfl
  | n + 1 => by unfold cnt; rw [cnt_none n]; rfl
theorem cnt_same (L : Nat → Bool) (i : Nat) : ∀ n, n ≤ i → cnt (fun j => if j = i then true else L j) n = cnt L n
  | 0, _ => rfl
  | n + 1, h => by unfold cnt; rw [cnt_same L i n (by omega), if_neg (show ¬ n = i by omega)]
theorem cnt_next (L : Nat → Bool) (i : Nat) (h : L i = false) : ∀ n, i < n → cnt (fun j => if j = i then true else L j) n = cnt L n + 1
  | 0, hi => by omega
  | n + 1, hi => by
    unfold cnt
    by_cases e : i = n
    · subst e; rw [cnt_same L i i (Nat.le_refl _), if_pos rfl, h]; simp
    · rw [cnt_next L i h n (by omega), if_neg (fun h : n = i => e h.symm)]; omega

theorem wp_region_pred {P : Program} {id : Nat} {ops : Array Oper} {Q : Exit → Act → World → Prop} {a : Act} {w : World} (hm : P.follows .mixedOrders = true) (hb : backB ops = true)
    (fr : (Nat → Value) → Act) (C : Nat → World → Prop) (G : World → World → Prop) (Φ : Nat → Value → World → Prop)
    (h0 : ∃ s, a = fr s) (hput : ∀ i o s v, ops[i]? = some o → (fr s).put o.dst v = fr (fun j => if j = i then v else s j))
    (hC : C 0 w.drew) (hG : ∀ k v W W', Φ k v W → G W W' → Φ k v W')
    (hstep : ∀ i o s W c, c < ops.size → ops[i]? = some o → C c W → (∀ k, (o.after.any fun e => Region.binds .any e && e.on == k) = true → Φ k (s k) W) → ∀ Q' : Exit → Act → World → Prop,
      (∀ v W', C (c + 1) W' → G W W' → Φ i v W' → Q' .normal ((fr s).put o.dst v) W') → wpListIn Fence.wide 9 P ops Q' [o] (fr s) W)
    (hfin : ∀ s W, (∃ c, C c W) → (∀ k, k < ops.size → Φ k (s k) W) → Q .normal (fr s) W) : (Code.region id ops true).wp P Q a w := by
  refine (wpIn_wide (n := 9)).1 (wpIn_region_inv hm hb (fun L b W => ∃ s, b = fr s ∧ C (cnt L ops.size) W ∧ ∀ k, L k = true → Φ k (s k) W) ?_ ?_ ?_)
  · obtain ⟨s, hs⟩ := h0
    exact ⟨s, hs, by rw [cnt_none]; exact hC, fun k h => by cases h⟩
  · rintro L b W i o ho hLi hde ⟨s, rfl, hCW, hΦ⟩ Q' hQ'
    have hi : i < ops.size := (Array.getElem?_eq_some_iff.1 ho).1
    have hc : cnt L ops.size < ops.size := by
      have h1 := cnt_next L i hLi ops.size hi
      have h2 := cnt_le (fun j => if j = i then true else L j) ops.size
      omega
    refine hstep i o s W _ hc ho hCW (fun k hk => ?_) Q' (fun v W' h1 h2 h3 => ?_)
    · rw [← Array.any_toList, List.any_eq_true] at hk
      obtain ⟨e, he, hek⟩ := hk
      rw [Array.mem_toList_iff] at he
      rw [Array.all_eq_true_iff_forall_mem] at hde
      have h1 := hde e he
      rw [Bool.and_eq_true] at hek
      rw [hek.1] at h1
      have h2 : e.on = k := by simpa using hek.2
      subst h2
      exact hΦ _ (by simpa using h1)
    · refine hQ' _ _ ⟨fun j => if j = i then v else s j, hput i o s v ho, by rw [cnt_next L i hLi ops.size hi]; exact h1, fun k hk => ?_⟩
      by_cases e : k = i
      · subst e; simpa using h3
      · simp only [if_neg e] at hk ⊢
        exact hG k _ W W' (hΦ k hk) h2
  · rintro L b W hall ⟨s, rfl, hCW, hΦ⟩
    exact hfin s W ⟨_, hCW⟩ (fun k hk => hΦ k (hall k hk))
end Go.Proofs.YtkcbfiglmjdaiaaDoor
