/-
  A region that draws its order, walked in company; the last operation is told that none is left. Nothing of a program.
-/
import Derived.Test.YtehmobcfbifocaaGang9
namespace Go.Proofs.Ytehmobcfbifocaa
open Go Go.Conc

section
variable {P : Program} {main : Bool} {R : World → World → Prop} {D : World → World → Array Event → Prop} {Stop : Goroutine → World → Prop} {ops : Array Oper} {b : Frame} {k : List Item} {cs : List Frame} {s m : Nat}
theorem lin_all {listed : Array Bool} {rest : List Nat} (hs : listed.size = ops.size) (h : Lin ops listed rest) (hall : ∀ j, j < ops.size → listed.getD j false = true) : rest = [] := by
  cases h with
  | nil _ => rfl
  | cons hm _ =>
    rename_i i rest _
    obtain ⟨h1, h2, _⟩ := ready_un hs hm
    have := hall i h1
    rw [Array.getD_eq_getD_getElem?, h2] at this
    cases this
theorem goes_lin2 (hb : backB ops = true) (Inv : (Nat → Bool) → Act → World → Prop)
    (hstep : ∀ L a w i o rest m', ops[i]? = some o → L i = false → (o.after.all fun e => !Region.binds .any e || L e.on) = true → Inv L a w → ((∀ j, j < ops.size → j ≠ i → L j = true) → rest = []) →
      (∀ a' w', Inv (fun j => if j = i then true else L j) a' w' → Goes P main R D Stop m' (G (b.at a' (.inRegion ops rest :: k)) cs) w') → Goes P main R D Stop (m' + s) (G (b.at a (.inRegion ops (i :: rest) :: k)) cs) w)
    (hend : ∀ L a w, (∀ i, i < ops.size → L i = true) → Inv L a w → Goes P main R D Stop m (G (b.at a (.inRegion ops [] :: k)) cs) w) :
    ∀ (todo : List Nat) (listed : Array Bool) (a : Act) (w : World), listed.size = ops.size → Lin ops listed todo → Inv (fun j => listed.getD j false) a w →
      Goes P main R D Stop (m + s * todo.length) (G (b.at a (.inRegion ops todo :: k)) cs) w := by
  intro todo
  induction todo with
  | nil =>
    intro listed a w hs hl hI
    cases hl with
    | nil hr => exact hend _ a w (all_done hs hb hr) hI
  | cons i rest ih =>
    intro listed a w hs hl hI
    cases hl with
    | cons hm hl =>
      obtain ⟨h1, h2, h3⟩ := ready_un hs hm
      have e : m + s * (i :: rest).length = m + s * rest.length + s := by
        rw [List.length_cons, Nat.mul_succ]
        omega
      rw [e]
      have hset : (fun j => if j = i then true else listed.getD j false) = fun j => (listed.setIfInBounds i true).getD j false := by
        funext j
        by_cases e : j = i
        · subst e
          rw [if_pos rfl, Array.getD_eq_getD_getElem?, Array.getElem?_setIfInBounds_self_of_lt (by omega)]
          rfl
        · rw [if_neg e, Array.getD_eq_getD_getElem?, Array.getD_eq_getD_getElem?, Array.getElem?_setIfInBounds_ne (fun h => e h.symm)]
      refine hstep (fun j => listed.getD j false) a w i ops[i] rest _ (Array.getElem?_eq_getElem h1) (by simp only [Array.getD_eq_getD_getElem?, h2]; rfl) (h3 _ (Array.getElem?_eq_getElem h1)) hI (fun hall => lin_all (by simpa using hs) hl fun j hj => ?_) fun a' w' hI' => ?_
      · have := congrFun hset j
        rw [← this]
        by_cases e : j = i
        · rw [if_pos e]
        · rw [if_neg e]
          exact hall j hj e
      · refine ih _ a' w' (by simpa using hs) hl ?_
        rw [← hset]
        exact hI'
theorem goes_drawn2 (hm : P.follows .mixedOrders = true) (hD : ∀ w : World, D w { w with drawn := w.drawn + 1 } #[]) (hb : backB ops = true) (Inv : (Nat → Bool) → Act → World → Prop)
    (hstep : ∀ L a w i o rest m', ops[i]? = some o → L i = false → (o.after.all fun e => !Region.binds .any e || L e.on) = true → Inv L a w → ((∀ j, j < ops.size → j ≠ i → L j = true) → rest = []) →
      (∀ a' w', Inv (fun j => if j = i then true else L j) a' w' → Goes P main R D Stop m' (G (b.at a' (.inRegion ops rest :: k)) cs) w') → Goes P main R D Stop (m' + s) (G (b.at a (.inRegion ops (i :: rest) :: k)) cs) w)
    (hend : ∀ L a w, (∀ i, i < ops.size → L i = true) → Inv L a w → Goes P main R D Stop m (G (b.at a (.inRegion ops [] :: k)) cs) w)
    {id : Nat} {a : Act} {w : World} (hI : ∀ w₁, R w w₁ → Inv (fun _ => false) a { w₁ with drawn := w₁.drawn + 1 }) :
    Goes P main R D Stop (m + s * ops.size + 1) (G (b.at a (.code (.region id ops true) :: k)) cs) w := by
  refine Goes.step rfl fun w₁ h₁ => ?_
  rw [stepG_region_draw]
  refine ⟨hD w₁, ?_⟩
  simp only [Region.schedule, hm, Bool.true_or, if_true]
  obtain ⟨l, e1, e2, e3⟩ := lin_go (ops := ops) ops.size (w₁.tape w₁.drawn (.order b.fn id)) (Array.replicate ops.size false) [] (by simp) (by
    unfold unl
    simp)
  have e : Region.linearise .any ops (w₁.tape w₁.drawn (.order b.fn id)) = l := by
    unfold Region.linearise
    rw [e1]
    rfl
  rw [e]
  refine Goes.mono (goes_lin2 hb Inv hstep hend l _ a _ (by simp) e2 ?_) (Nat.add_le_add_left (Nat.mul_le_mul_left s e3) m)
  have : (fun j => (Array.replicate ops.size false).getD j false) = fun _ => false := by
    funext j
    rw [Array.getD_eq_getD_getElem?]
    by_cases h : j < ops.size
    · simp [h]
    · simp [h]
  rw [this]
  exact hI w₁ h₁
end
end Go.Proofs.Ytehmobcfbifocaa
