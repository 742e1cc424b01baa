/-
  Regions that draw their order and pick from a reader: the kinds of values that the operations leave, none of which a later one undoes.
-/
import Derived.Test.YtfhpmpladbelaaaRegPred
import Derived.Test.YtfhpmpladbelaaaDrawPrime
import Derived.Test.YtfhpmpladbelaaaOpen
namespace Go.Proofs.Ytfhpmpladbelaaa
open Go.RowKit

/-- What an operation leaves: the reader; a number; a number less than n; a row of n numbers; the place of a number; anything. -/
inductive Kd where
  | rd | fit | rng (n : Nat) | lit (n : Nat) | adr | any

def Kd.holds (R : Nat) (v : Value) (W : World) : Kd → Prop
  | .rd => v = .pointer (some ⟨R, 0, none⟩)
  | .fit => ∃ x : Int, Fits x ∧ v = .int .i64 x
  | .rng n => ∃ x : Nat, x < n ∧ v = .int .i64 x
  | .lit n => ∃ g, v = .slice (some ⟨g, 0, none⟩) n n ∧ g ≠ R ∧ g < W.heap.size ∧ ∀ i, i < n → ∃ x : Int, Fits x ∧ W.cell? ⟨g, i, none⟩ = some (.int .i64 x)
  | .adr => ∃ g i, v = .pointer (some ⟨g, i, none⟩) ∧ g ≠ R ∧ g < W.heap.size ∧ ∃ x : Int, Fits x ∧ W.cell? ⟨g, i, none⟩ = some (.int .i64 x)
  | .any => True
theorem grown_cell {W W' : World} {R g : Nat} (h : W.grownBy W' (some R)) (h1 : g < W.heap.size) (h2 : g ≠ R) (i : Nat) : W'.cell? ⟨g, i, none⟩ = W.cell? ⟨g, i, none⟩ := by
  unfold World.cell?
  rw [h.block g h1 (fun e => h2 (by injection e))]
theorem Kd.mono {R : Nat} {v : Value} {W W' : World} (k : Kd) (h : k.holds R v W) (hg : W.grownBy W' (some R)) : k.holds R v W' := by
  cases k with
  | rd => exact h
  | fit => exact h
  | rng n => exact h
  | lit n =>
    obtain ⟨g, h1, h2, h3, h4⟩ := h
    refine ⟨g, h1, h2, Nat.lt_of_lt_of_le h3 hg.size, fun i hi => ?_⟩
    obtain ⟨x, h5, h6⟩ := h4 i hi
    exact ⟨x, h5, (grown_cell hg h3 h2 i).trans h6⟩
  | adr =>
    obtain ⟨g, i, h1, h2, h3, x, h5, h6⟩ := h
    exact ⟨g, i, h1, h2, Nat.lt_of_lt_of_le h3 hg.size, x, h5, (grown_cell hg h3 h2 i).trans h6⟩
  | any => trivial

def kdAt (ks : List Kd) (k : Nat) : Kd := (ks[k]?).getD .any

/-- The law for a reader. -/
theorem wp_region_reader {id : Nat} {ops : Array Oper} {Q : Exit → Act → World → Prop} {act : Act} {w : World} (W0 : World) (R len cap p : Nat) (a : Option Addr) (hm : Try.prog.follows .mixedOrders = true) (hb : backB ops = true) (hsz : ops.size ≤ 1000) (hp : p ≤ 800000)
    (hR : Rd W0 R a len cap w p) (fr : (Nat → Value) → Act) (ks : List Kd)
    (h0 : ∃ s, act = fr s) (hput : ∀ i o s v, ops[i]? = some o → (fr s).put o.dst v = fr (fun j => if j = i then v else s j))
    (hstep : ∀ i o s W q, q ≤ 900000 → ops[i]? = some o → Rd W0 R a len cap W q → (∀ k, (o.after.any fun e => Region.binds .any e && e.on == k) = true → (kdAt ks k).holds R (s k) W) → ∀ Q' : Exit → Act → World → Prop,
      (∀ v W' q', q' ≤ q + 3 → Rd W0 R a len cap W' q' → W.grownBy W' (some R) → (kdAt ks i).holds R v W' → Q' .normal ((fr s).put o.dst v) W') → wpListIn Fence.wide 9 Try.prog ops Q' [o] (fr s) W)
    (hfin : ∀ s W q, q ≤ 900000 → Rd W0 R a len cap W q → (∀ k, k < ops.size → (kdAt ks k).holds R (s k) W) → Q .normal (fr s) W) : (Code.region id ops true).wp Try.prog Q act w := by
  refine wp_region_pred hm hb fr (fun c W => c ≤ ops.size ∧ ∃ q, q ≤ p + 3 * c ∧ Rd W0 R a len cap W q) (fun W W' => W.grownBy W' (some R)) (fun k v W => (kdAt ks k).holds R v W) h0 hput ⟨Nat.zero_le _, p, by omega, hR.drew⟩ (fun k v W W' h hg => Kd.mono _ h hg) ?_ ?_
  · rintro i o s W c hc ho ⟨_, q, hq, hRW⟩ hd Q' hQ'
    exact hstep i o s W q (by omega) ho hRW hd Q' (fun v W' q' hq' h1 h2 h3 => hQ' v W' ⟨by omega, q', by omega, h1⟩ h2 h3)
  · rintro s W ⟨c, hc, q, hq, hRW⟩ hall
    exact hfin s W q (by omega) hRW hall
end Go.Proofs.Ytfhpmpladbelaaa
