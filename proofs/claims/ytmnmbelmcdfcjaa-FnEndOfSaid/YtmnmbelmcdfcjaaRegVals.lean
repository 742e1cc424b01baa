/-
  Regions that draw their order, of which all that lay before stands: each operation leaves a value that is known, or a slice that reads as known numbers.
-/
import Derived.Test.YtmnmbelmcdfcjaaRegPred
import Derived.Test.YtmnmbelmcdfcjaaRows2
namespace Go.Proofs.Ytmnmbelmcdfcjaa
open Go.RowKit

inductive Kr where
  | val (v : Value) | ints (xs : List Int)
def Kr.holds (v : Value) (W : World) : Kr → Prop
  | .val u => v = u
  | .ints xs => Ints W v xs ∧ Lies v
theorem Kr.mono {v : Value} {W W' : World} (k : Kr) (h : k.holds v W) (hb : Below W.heap.size W W') : k.holds v W' := by
  cases k with
  | val u => exact h
  | ints xs => exact ⟨h.1.below hb, h.2⟩
def krAt (ks : List Kr) (k : Nat) : Kr := (ks[k]?).getD (.val undef)
theorem wp_region_vals {id : Nat} {ops : Array Oper} {Q : Exit → Act → World → Prop} {act : Act} {w : World} (w0 : World) (hm : Try.prog.follows .mixedOrders = true) (hb : backB ops = true) (hw : Below w0.heap.size w0 w)
    (fr : (Nat → Value) → Act) (ks : List Kr)
    (h0 : ∃ s, act = fr s) (hput : ∀ i o s v, ops[i]? = some o → (fr s).put o.dst v = fr (fun j => if j = i then v else s j))
    (hstep : ∀ i o s W, ops[i]? = some o → Below w0.heap.size w0 W → (∀ k, (o.after.any fun e => Region.binds .any e && e.on == k) = true → (krAt ks k).holds (s k) W) → ∀ Q' : Exit → Act → World → Prop,
      (∀ v W', Below w0.heap.size w0 W' → Below W.heap.size W W' → (krAt ks i).holds v W' → Q' .normal ((fr s).put o.dst v) W') → wpListIn Fence.wide 9 Try.prog ops Q' [o] (fr s) W)
    (hfin : ∀ s W, Below w0.heap.size w0 W → (∀ k, k < ops.size → (krAt ks k).holds (s k) W) → Q .normal (fr s) W) : (Code.region id ops true).wp Try.prog Q act w := by
  refine wp_region_pred hm hb fr (fun _ W => Below w0.heap.size w0 W) (fun W W' => Below W.heap.size W W') (fun k v W => (krAt ks k).holds v W) h0 hput hw.drew (fun k v W W' h hg => Kr.mono _ h hg) ?_ ?_
  · rintro i o s W c hc ho hW hd Q' hQ'
    exact hstep i o s W ho hW hd Q' (fun v W' h1 h2 h3 => hQ' v W' h1 h2 h3)
  · rintro s W ⟨c, hW⟩ hall
    exact hfin s W hW hall
end Go.Proofs.Ytmnmbelmcdfcjaa
