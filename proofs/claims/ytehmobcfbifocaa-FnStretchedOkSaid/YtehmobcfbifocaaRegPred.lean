/-
  A region that draws its order, by predicates: each operation leaves a value of which something holds that no later operation undoes, whichever comes first. One obligation an operation. Nothing of the program.
-/
import Derived.Test.YtehmobcfbifocaaRegInv
import Derived.ControlIn
namespace Go.Proofs.Ytehmobcfbifocaa
open Go

/-- How many of the first n have been carried out. -/
def cnt (L : Nat → Bool) : Nat → Nat
  | 0 => 0
  | n + 1 => cnt L n + (if L n = true then 1 else 0)
theorem cntL_le (L : Nat → Bool) : ∀ n, cnt L n ≤ n
  | 0 => Nat.le_refl _
  | n + 1 => by
    have := cntL_le L n
    unfold cnt; split <;> omega
theorem cnt_none : ∀ n, cnt (fun _ => false) n = 0
  | 0 => rfl
  | n + 1 => by unfold cnt; rw [cnt_none n]; rfl
theorem cnt_same (L : Nat → Bool) (i : Nat) : ∀ n, n ≤ i → cnt (fun j => if j = i then true else L j) n = cnt L n
  | 0, _ => rfl
  | n + 1, h => by unfold cnt; rw [cnt_same L i n (by omega), if_neg (show ¬ n = i by omega)]
theorem cnt_next (L : Nat → Bool) (i : Nat) (h : L i = false) : ∀ n, i < n → cnt (fun j => if j = i then true else L j) n = cnt L n + 1
  | 0, hi => by omega
  | n + 1, hi => by
    unfold cnt
    by_cases e : i = n
    · subst e; rw [cnt_same L i i (Nat.le_refl _), if_pos rfl, h]; simp
    · rw [cnt_next L i h n (by omega), if_neg (fun h : n = i => e h.symm)]; omega

theorem wp_region_pred {P : Program} {id : Nat} {ops : Array Oper} {Q : Exit → Act → World → Prop} {a : Act} {w : World} (hm : P.follows .mixedOrders = true) (hb : backB ops = true)
    (fr : (Nat → Value) → Act) (C : Nat → World → Prop) (G : World → World → Prop) (Φ : Nat → Value → World → Prop)
    (h0 : ∃ s, a = fr s) (hput : ∀ i o s v, ops[i]? = some o → (fr s).put o.dst v = fr (fun j => if j = i then v else s j))
    (hC : C 0 w.drew) (hG : ∀ k v W W', Φ k v W → G W W' → Φ k v W')
    (hstep : ∀ i o s W c, c < ops.size → ops[i]? = some o → C c W → (∀ k, (o.after.any fun e => Region.binds .any e && e.on == k) = true → Φ k (s k) W) → ∀ Q' : Exit → Act → World → Prop,
      (∀ v W', C (c + 1) W' → G W W' → Φ i v W' → Q' .normal ((fr s).put o.dst v) W') → wpListIn Fence.wide 9 P ops Q' [o] (fr s) W)
    (hfin : ∀ s W, (∃ c, C c W) → (∀ k, k < ops.size → Φ k (s k) W) → Q .normal (fr s) W) : (Code.region id ops true).wp P Q a w := by
  refine (wpIn_wide (n := 9)).1 (wpIn_region_inv hm hb (fun L b W => ∃ s, b = fr s ∧ C (cnt L ops.size) W ∧ ∀ k, L k = true → Φ k (s k) W) ?_ ?_ ?_)
  · obtain ⟨s, hs⟩ := h0
    exact ⟨s, hs, by rw [cnt_none]; exact hC, fun k h => by cases h⟩
  · rintro L b W i o ho hLi hde ⟨s, rfl, hCW, hΦ⟩ Q' hQ'
    have hi : i < ops.size := (Array.getElem?_eq_some_iff.1 ho).1
    have hc : cnt L ops.size < ops.size := by
      have h1 := cnt_next L i hLi ops.size hi
      have h2 := cntL_le (fun j => if j = i then true else L j) ops.size
      omega
    refine hstep i o s W _ hc ho hCW (fun k hk => ?_) Q' (fun v W' h1 h2 h3 => ?_)
    · rw [← Array.any_toList, List.any_eq_true] at hk
      obtain ⟨e, he, hek⟩ := hk
      rw [Array.mem_toList_iff] at he
      rw [Array.all_eq_true_iff_forall_mem] at hde
      have h1 := hde e he
      rw [Bool.and_eq_true] at hek
      rw [hek.1] at h1
      have h2 : e.on = k := by simpa using hek.2
      subst h2
      exact hΦ _ (by simpa using h1)
    · refine hQ' _ _ ⟨fun j => if j = i then v else s j, hput i o s v ho, by rw [cnt_next L i hLi ops.size hi]; exact h1, fun k hk => ?_⟩
      by_cases e : k = i
      · subst e; simpa using h3
      · simp only [if_neg e] at hk ⊢
        exact hG k _ W W' (hΦ k hk) h2
  · rintro L b W hall ⟨s, rfl, hCW, hΦ⟩
    exact hfin s W ⟨_, hCW⟩ (fun k hk => hΦ k (hall k hk))
end Go.Proofs.Ytehmobcfbifocaa
