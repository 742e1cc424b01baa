/-
  A region that draws its order, walked by one goroutine while others move: an invariant over which operations have been carried out; an operation may take several steps (a call). Nothing of a program.
-/
import Derived.Test.YtehmobcfbifocaaRegInv
import Derived.Conc.CompanyDraw
namespace Go.Proofs.Ytehmobcfbifocaa
open Go Go.Conc

/-- An order that may come up. -/
inductive Lin (ops : Array Oper) : Array Bool → List Nat → Prop
  | nil {listed : Array Bool} : Region.ready .any ops listed = [] → Lin ops listed []
  | cons {listed : Array Bool} {i : Nat} {rest : List Nat} : i ∈ Region.ready .any ops listed → Lin ops (listed.setIfInBounds i true) rest → Lin ops listed (i :: rest)

theorem ready_nil {ops : Array Oper} {listed : Array Bool} (hs : listed.size = ops.size) (h : unl listed.toList = 0) : Region.ready .any ops listed = [] := by
  unfold Region.ready
  rw [List.filter_eq_nil_iff]
  intro i hi
  have hlt := List.mem_range.1 hi
  have h1 := unl_none listed.toList h i (listed[i]'(by omega)) (by simp)
  have h2 : listed.getD i true = true := by
    rw [Array.getD_eq_getD_getElem?, Array.getElem?_eq_getElem (by omega)]
    exact h1
  simp [h2]
theorem ready_un {ops : Array Oper} {listed : Array Bool} {i : Nat} (hs : listed.size = ops.size) (hi : i ∈ Region.ready .any ops listed) :
    i < ops.size ∧ listed[i]? = some false ∧ ∀ o, ops[i]? = some o → (o.after.all fun e => !Region.binds .any e || listed.getD e.on false) = true := by
  unfold Region.ready at hi
  rw [List.mem_filter] at hi
  obtain ⟨h1, h2⟩ := hi
  have hlt := List.mem_range.1 h1
  rw [Bool.and_eq_true] at h2
  obtain ⟨h2, h3⟩ := h2
  refine ⟨hlt, ?_, fun o ho => ?_⟩
  · rw [Array.getD_eq_getD_getElem?, Array.getElem?_eq_getElem (by omega)] at h2
    rw [Array.getElem?_eq_getElem (by omega)]
    simpa using h2
  · rw [ho] at h3
    simpa using h3

theorem lin_go {ops : Array Oper} : ∀ (fuel t : Nat) (listed : Array Bool) (acc : List Nat), listed.size = ops.size → unl listed.toList ≤ fuel →
    ∃ l, Region.linearise.go .any ops fuel t listed acc = acc.reverse ++ l ∧ Lin ops listed l ∧ l.length ≤ fuel := by
  intro fuel
  induction fuel with
  | zero => exact fun t listed acc hs hu => ⟨[], by simp [Region.linearise.go], .nil (ready_nil hs (by omega)), Nat.le_refl _⟩
  | succ fuel ih =>
    intro t listed acc hs hu
    have e : Region.linearise.go .any ops (fuel + 1) t listed acc = (match (Region.ready .any ops listed)[t % (Region.ready .any ops listed).length]? with
      | some i => Region.linearise.go .any ops fuel (t / (Region.ready .any ops listed).length) (listed.setIfInBounds i true) (i :: acc)
      | none => acc.reverse) := rfl
    rw [e]
    cases hi : (Region.ready .any ops listed)[t % (Region.ready .any ops listed).length]? with
    | none =>
      have hnil : Region.ready .any ops listed = [] := by
        cases hr : Region.ready .any ops listed with
        | nil => rfl
        | cons x xs =>
          rw [hr, List.getElem?_eq_none_iff] at hi
          have hlt : t % (x :: xs).length < (x :: xs).length := Nat.mod_lt _ (by simp)
          omega
      exact ⟨[], by simp, .nil hnil, Nat.zero_le _⟩
    | some i =>
      have hm := List.mem_of_getElem? hi
      obtain ⟨h1, h2, _⟩ := ready_un hs hm
      have hun := unl_set listed.toList i (by simpa using h2)
      obtain ⟨l, e1, e2, e3⟩ := ih (t / (Region.ready .any ops listed).length) (listed.setIfInBounds i true) (i :: acc) (by simpa using hs) (by
        simp only [Array.toList_setIfInBounds]
        omega)
      exact ⟨i :: l, by simp only [e1]; simp, .cons hm e2, by simpa using e3⟩

section
variable {P : Program} {main : Bool} {R : World → World → Prop} {D : World → World → Array Event → Prop} {Stop : Goroutine → World → Prop} {ops : Array Oper} {b : Frame} {k : List Item} {cs : List Frame} {s m : Nat}

theorem goes_lin (hb : backB ops = true) (Inv : (Nat → Bool) → Act → World → Prop)
    (hstep : ∀ L a w i o rest m', ops[i]? = some o → L i = false → (o.after.all fun e => !Region.binds .any e || L e.on) = true → Inv L a w →
      (∀ a' w', Inv (fun j => if j = i then true else L j) a' w' → Goes P main R D Stop m' (G (b.at a' (.inRegion ops rest :: k)) cs) w') → Goes P main R D Stop (m' + s) (G (b.at a (.inRegion ops (i :: rest) :: k)) cs) w)
    (hend : ∀ L a w, (∀ i, i < ops.size → L i = true) → Inv L a w → Goes P main R D Stop m (G (b.at a (.inRegion ops [] :: k)) cs) w) :
    ∀ (todo : List Nat) (listed : Array Bool) (a : Act) (w : World), listed.size = ops.size → Lin ops listed todo → Inv (fun j => listed.getD j false) a w →
      Goes P main R D Stop (m + s * todo.length) (G (b.at a (.inRegion ops todo :: k)) cs) w := by
  intro todo
  induction todo with
  | nil =>
    intro listed a w hs hl hI
    cases hl with
    | nil hr => exact hend _ a w (all_done hs hb hr) hI
  | cons i rest ih =>
    intro listed a w hs hl hI
    cases hl with
    | cons hm hl =>
      obtain ⟨h1, h2, h3⟩ := ready_un hs hm
      have e : m + s * (i :: rest).length = m + s * rest.length + s := by
        rw [List.length_cons, Nat.mul_succ]
        omega
      rw [e]
      refine hstep (fun j => listed.getD j false) a w i ops[i] rest _ (Array.getElem?_eq_getElem h1) (by simp only [Array.getD_eq_getD_getElem?, h2]; rfl) (h3 _ (Array.getElem?_eq_getElem h1)) hI fun a' w' hI' => ?_
      refine ih _ a' w' (by simpa using hs) hl ?_
      have : (fun j => if j = i then true else listed.getD j false) = fun j => (listed.setIfInBounds i true).getD j false := by
        funext j
        by_cases e : j = i
        · subst e
          rw [if_pos rfl, Array.getD_eq_getD_getElem?, Array.getElem?_setIfInBounds_self_of_lt (by omega)]
          rfl
        · rw [if_neg e, Array.getD_eq_getD_getElem?, Array.getD_eq_getD_getElem?, Array.getElem?_setIfInBounds_ne (fun h => e h.symm)]
      rw [← this]
      exact hI'

/-- A region that draws, from its beginning. -/
theorem goes_drawn (hm : P.follows .mixedOrders = true) (hD : ∀ w : World, D w { w with drawn := w.drawn + 1 } #[]) (hb : backB ops = true) (Inv : (Nat → Bool) → Act → World → Prop)
    (hstep : ∀ L a w i o rest m', ops[i]? = some o → L i = false → (o.after.all fun e => !Region.binds .any e || L e.on) = true → Inv L a w →
      (∀ a' w', Inv (fun j => if j = i then true else L j) a' w' → Goes P main R D Stop m' (G (b.at a' (.inRegion ops rest :: k)) cs) w') → Goes P main R D Stop (m' + s) (G (b.at a (.inRegion ops (i :: rest) :: k)) cs) w)
    (hend : ∀ L a w, (∀ i, i < ops.size → L i = true) → Inv L a w → Goes P main R D Stop m (G (b.at a (.inRegion ops [] :: k)) cs) w)
    {id : Nat} {a : Act} {w : World} (hI : ∀ w₁, R w w₁ → Inv (fun _ => false) a { w₁ with drawn := w₁.drawn + 1 }) :
    Goes P main R D Stop (m + s * ops.size + 1) (G (b.at a (.code (.region id ops true) :: k)) cs) w := by
  refine Goes.step rfl fun w₁ h₁ => ?_
  rw [stepG_region_draw]
  refine ⟨hD w₁, ?_⟩
  simp only [Region.schedule, hm, Bool.true_or, if_true]
  obtain ⟨l, e1, e2, e3⟩ := lin_go (ops := ops) ops.size (w₁.tape w₁.drawn (.order b.fn id)) (Array.replicate ops.size false) [] (by simp) (by
    unfold unl
    simp)
  have e : Region.linearise .any ops (w₁.tape w₁.drawn (.order b.fn id)) = l := by
    unfold Region.linearise
    rw [e1]
    rfl
  rw [e]
  refine Goes.mono (goes_lin hb Inv hstep hend l _ a _ (by simp) e2 ?_) (Nat.add_le_add_left (Nat.mul_le_mul_left s e3) m)
  have : (fun j => (Array.replicate ops.size false).getD j false) = fun _ => false := by
    funext j
    rw [Array.getD_eq_getD_getElem?]
    by_cases h : j < ops.size
    · simp [h]
    · simp [h]
  rw [this]
  exact hI w₁ h₁
end
end Go.Proofs.Ytehmobcfbifocaa
