/-
  A region that draws its order, inside a fence, a round of a loop over a function among them: an invariant over which operations have been carried out. It is kept by each operation that may come next, whichever that is. Nothing of the program.
-/
import Derived.OrdersIn
import Derived.TacticsIn
namespace Go.Proofs.Ytehmobcfbifocaa
open Go

/-- How many have not been carried out. -/
def unl (l : List Bool) : Nat := l.count false
theorem unl_set : ∀ (l : List Bool) (i : Nat), l[i]? = some false → unl (l.set i true) + 1 = unl l
  | [], i, h => by simp at h
  | b :: l, 0, h => by
    simp at h; subst h
    simp [unl]
  | b :: l, i + 1, h => by
    have := unl_set l i (by simpa using h)
    unfold unl at *
    rw [List.set_cons_succ, List.count_cons, List.count_cons]
    omega
theorem unl_none : ∀ (l : List Bool), unl l = 0 → ∀ (i : Nat) (b : Bool), l[i]? = some b → b = true
  | [], _, i, b, h => by simp at h
  | c :: l, h0, 0, b, h => by
    simp at h; subst h
    unfold unl at h0
    rw [List.count_cons] at h0
    cases c with
    | true => rfl
    | false => simp at h0
  | c :: l, h0, i + 1, b, h => by
    refine unl_none l ?_ i b (by simpa using h)
    unfold unl at *
    rw [List.count_cons] at h0
    omega

/-- Each operation waits for earlier ones alone. -/
def backB (ops : Array Oper) : Bool := (List.range ops.size).all fun i => ((ops[i]?).map fun o => o.after.all fun e => !Region.binds .any e || decide (e.on < i)).getD true
theorem all_done {ops : Array Oper} {listed : Array Bool} (hs : listed.size = ops.size) (hb : backB ops = true) (h : Region.ready .any ops listed = []) : ∀ i, i < ops.size → listed.getD i false = true := by
  intro i
  induction i using Nat.strongRecOn with
  | _ i ih =>
    intro hi
    cases e : listed.getD i false with
    | true => rfl
    | false =>
      exfalso
      have h1 : i ∈ Region.ready .any ops listed := by
        unfold Region.ready
        rw [List.mem_filter]
        refine ⟨List.mem_range.2 hi, ?_⟩
        have h2 : listed.getD i true = false := by
          rw [Array.getD_eq_getD_getElem?] at e ⊢
          rw [Array.getElem?_eq_getElem (by omega)] at e ⊢
          exact e
        rw [h2, Array.getElem?_eq_getElem hi]
        simp only [Bool.not_false, Bool.true_and, Option.map_some, Option.getD_some]
        rw [Array.all_eq_true_iff_forall_mem]
        intro x hx
        have h3 := List.all_eq_true.1 hb i (List.mem_range.2 hi)
        rw [Array.getElem?_eq_getElem hi] at h3
        simp only [Option.map_some, Option.getD_some] at h3
        have h4 := (Array.all_eq_true_iff_forall_mem.1 h3) x hx
        cases e6 : Region.binds .any x with
        | false => rfl
        | true =>
          rw [e6] at h4
          have h5 : x.on < i := by simpa using h4
          rw [ih x.on h5 (by omega)]
          rfl
      rw [h] at h1
      cases h1

theorem wpAnyIn_inv {F : Fence} {n : Nat} {P : Program} {ops : Array Oper} {Q : Exit → Act → World → Prop} (hb : backB ops = true) (Inv : (Nat → Bool) → Act → World → Prop)
    (hstep : ∀ L b W i o, ops[i]? = some o → L i = false → (o.after.all fun e => !Region.binds .any e || L e.on) = true → Inv L b W → ∀ Q' : Exit → Act → World → Prop, (∀ b' W', Inv (fun j => if j = i then true else L j) b' W' → Q' .normal b' W') → wpListIn F n P ops Q' [o] b W)
    (hend : ∀ L b W, (∀ i, i < ops.size → L i = true) → Inv L b W → Q .normal b W) :
    ∀ (fuel : Nat) (listed : Array Bool) (b : Act) (W : World), listed.size = ops.size → unl listed.toList ≤ fuel → Inv (fun j => listed.getD j false) b W → wpAnyIn F n P .any ops Q fuel listed b W
  | 0, listed, b, W, hs, hu, hI => by
    have hall : ∀ i, i < ops.size → listed.getD i false = true := fun i hi => by
      have := unl_none listed.toList (by omega) i (listed[i]'(by omega)) (by simp)
      rw [Array.getD_eq_getD_getElem?, Array.getElem?_eq_getElem (by omega)]
      exact this
    refine ⟨?_, hend _ b W hall hI⟩
    unfold Region.ready
    rw [List.filter_eq_nil_iff]
    intro i hi
    have h1 := hall i (List.mem_range.1 hi)
    have h2 : listed.getD i true = true := by
      rw [Array.getD_eq_getD_getElem?] at h1 ⊢
      rw [Array.getElem?_eq_getElem (by have := List.mem_range.1 hi; omega)] at h1 ⊢
      exact h1
    simp [h2]
  | fuel + 1, listed, b, W, hs, hu, hI => by
    refine ⟨fun hr => hend _ b W (all_done hs hb hr) hI, fun i hi => ?_⟩
    unfold Region.ready at hi
    rw [List.mem_filter] at hi
    obtain ⟨h1, h2⟩ := hi
    have hlt := List.mem_range.1 h1
    rw [Bool.and_eq_true] at h2
    obtain ⟨h2, h3⟩ := h2
    have hL : listed[i]? = some false := by
      rw [Array.getD_eq_getD_getElem?, Array.getElem?_eq_getElem (by omega)] at h2
      rw [Array.getElem?_eq_getElem (by omega)]
      simpa using h2
    rw [Array.getElem?_eq_getElem hlt] at h3
    simp only [Option.map_some, Option.getD_some] at h3
    have hst := hstep (fun j => listed.getD j false) b W i ops[i] (Array.getElem?_eq_getElem hlt) (by rw [Array.getD_eq_getD_getElem?, hL]; rfl) h3 hI
      (fun e b' W' => match e with | .normal => wpAnyIn F n P .any ops Q fuel (listed.setIfInBounds i true) b' W' | e => Q e b' W')
      (fun b' W' hI' => by
        refine wpAnyIn_inv hb Inv hstep hend fuel _ b' W' (by simpa using hs) ?_ ?_
        · have := unl_set listed.toList i (by simpa using hL)
          simp only [Array.toList_setIfInBounds]
          omega
        · have : (fun j => if j = i then true else listed.getD j false) = fun j => (listed.setIfInBounds i true).getD j false := by
            funext j
            by_cases e : j = i
            · subst e; rw [if_pos rfl, Array.getD_eq_getD_getElem?, Array.getElem?_setIfInBounds_self_of_lt (by omega)]; rfl
            · rw [if_neg e, Array.getD_eq_getD_getElem?, Array.getD_eq_getD_getElem?, Array.getElem?_setIfInBounds_ne (fun h => e h.symm)]
          rw [← this]; exact hI')
    unfold wpOpIn
    rw [Array.getElem?_eq_getElem hlt]
    simp only [wpListIn] at hst
    exact hst

/-- THE LAW. -/
theorem wpIn_region_inv {F : Fence} {n : Nat} {P : Program} {id : Nat} {ops : Array Oper} {Q : Exit → Act → World → Prop} {a : Act} {w : World} (hm : P.follows .mixedOrders = true) (hb : backB ops = true) (Inv : (Nat → Bool) → Act → World → Prop)
    (h0 : Inv (fun _ => false) a w.drew)
    (hstep : ∀ L b W i o, ops[i]? = some o → L i = false → (o.after.all fun e => !Region.binds .any e || L e.on) = true → Inv L b W → ∀ Q' : Exit → Act → World → Prop, (∀ b' W', Inv (fun j => if j = i then true else L j) b' W' → Q' .normal b' W') → wpListIn F n P ops Q' [o] b W)
    (hend : ∀ L b W, (∀ i, i < ops.size → L i = true) → Inv L b W → Q .normal b W) : (Code.region id ops true).wpIn F n P Q a w := by
  refine wpIn_region_any hm (wpAnyIn_inv hb Inv hstep hend _ _ _ _ (by simp) ?_ ?_)
  · unfold unl
    simp
  · have : (fun j => (Array.replicate ops.size false).getD j false) = fun _ => false := by
      funext j
      rw [Array.getD_eq_getD_getElem?]
      by_cases e : j < ops.size
      · rw [Array.getElem?_replicate, if_pos e]; rfl
      · rw [Array.getElem?_eq_none (by simp; omega)]; rfl
    rw [this]; exact h0
end Go.Proofs.Ytehmobcfbifocaa
