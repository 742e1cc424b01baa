/-
  Regions that draw their order inside a fence, of which all that lay before stands until the last operations: each operation leaves a value that is known, a row of one's own, or a slice of one of these.
-/
import Derived.Test.YtghfmoanpgaijaaDoorRegTail
import Derived.Test.YtghfmoanpgaijaaDoorKit
import Derived.RangeFuncBox
namespace Go.Proofs.YtghfmoanpgaijaaDoor
open Go.RowKit

theorem boxed_below {W V : World} {B : Nat} {t : TypeId} {v : Value} (h : Boxed W B t v) (hV : Below W.heap.size W V) : Boxed V B t v := (hV.block _ h.lt).trans h
inductive Kd where
  | val (v : Value) | one (v : Value) | own (base n : Nat) (xs : List Value) | oneOwn (base n : Nat) (xs : List Value) | cells (n : Nat) (xs : List Value)
def Kd.holds (v : Value) (W : World) : Kd → Prop
  | .val u => v = u
  | .one u => ∃ q, v = .slice (some ⟨q, 0, none⟩) 1 1 ∧ q < W.heap.size ∧ W.cell? ⟨q, 0, none⟩ = some u
  | .own b n xs => W.ownsRow b 3 1 v n xs
  | .cells n xs => ∃ q, v = .slice (some ⟨q, 0, none⟩) n n ∧ q < W.heap.size ∧ ∀ j u, xs[j]? = some u → W.cell? ⟨q, j, none⟩ = some u
  | .oneOwn b n xs => ∃ q u, v = .slice (some ⟨q, 0, none⟩) 1 1 ∧ q < W.heap.size ∧ W.cell? ⟨q, 0, none⟩ = some u ∧ W.ownsRow b 3 1 u n xs
theorem owns_below {w w' : World} {base n : Nat} {e : TypeId} {v : Value} {xs : List Value} (h : w.ownsRow base e 1 v n xs) (hB : Below w.heap.size w w') : w'.ownsRow base e 1 v n xs :=
  h.kept (row := none) ⟨hB.os, hB.tape, hB.output, hB.size, fun k hk _ => hB.block k hk⟩ (by cases v.ownBlock <;> simp)
theorem Kd.mono {v : Value} {W W' : World} (k : Kd) (h : k.holds v W) (hb : Below W.heap.size W W') : k.holds v W' := by
  cases k with
  | val u => exact h
  | one u =>
    obtain ⟨q, h1, h2, h3⟩ := h
    exact ⟨q, h1, Nat.lt_of_lt_of_le h2 hb.size, (hb.cell (p := ⟨q, 0, none⟩) h2).trans h3⟩
  | own b n xs => exact owns_below h hb
  | cells n xs =>
    obtain ⟨q, h1, h2, h3⟩ := h
    exact ⟨q, h1, Nat.lt_of_lt_of_le h2 hb.size, fun j u hj => (hb.cell (p := ⟨q, j, none⟩) h2).trans (h3 j u hj)⟩
  | oneOwn b n xs =>
    obtain ⟨q, u, h1, h2, h3, h4⟩ := h
    exact ⟨q, u, h1, Nat.lt_of_lt_of_le h2 hb.size, (hb.cell (p := ⟨q, 0, none⟩) h2).trans h3, owns_below h4 hb⟩
def kdAt (ks : List Kd) (k : Nat) : Kd := (ks[k]?).getD (.val undef)
theorem wpIn_region_kinds {F : Fence} {n : Nat} {id : Nat} {ops : Array Oper} {Q : Exit → Act → World → Prop} {a : Act} {W : World} (m : Nat) (hm : Tryd.prog.follows .mixedOrders = true) (hb : backB ops = true) (ht : tailB ops m = true) (hsz : m < ops.size)
    (fr : (Nat → Value) → Act) (ks : List Kd)
    (h0 : ∃ s, a = fr s) (hput : ∀ i o s v, i < m → ops[i]? = some o → (fr s).put o.dst v = fr (fun j => if j = i then v else s j))
    (hstep : ∀ i o s V, i < m → ops[i]? = some o → Below W.heap.size W V → (∀ k, depB ops i k = true → (kdAt ks k).holds (s k) V) → ∀ Q' : Exit → Act → World → Prop,
      (∀ v V', Below V.heap.size V V' → (kdAt ks i).holds v V' → Q' .normal ((fr s).put o.dst v) V') → wpListIn F n Tryd.prog ops Q' [o] (fr s) V)
    (htail : ∀ s V, Below W.heap.size W V → (∀ k, k < m → (kdAt ks k).holds (s k) V) → wpListIn F n Tryd.prog ops Q (ops.toList.drop m) (fr s) V) : (Code.region id ops true).wpIn F n Tryd.prog Q a W := by
  refine wpIn_region_tail m hm hb ht hsz fr (fun V => Below W.heap.size W V) (fun V V' => Below V.heap.size V V') (fun k v V => (kdAt ks k).holds v V) h0 hput (Below.refl _ _).drew (fun k v V V' h hg => Kd.mono _ h hg) ?_ htail
  rintro i o s V him ho hV hd Q' hQ'
  exact hstep i o s V him ho hV hd Q' (fun v V' h2 h3 => hQ' v V' (hV.trans (h2.mono hV.size)) h2 h3)
end Go.Proofs.YtghfmoanpgaijaaDoor
