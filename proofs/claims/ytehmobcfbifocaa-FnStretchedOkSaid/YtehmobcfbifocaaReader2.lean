/-
  Regions that draw their order and pick from a reader, a second time: more kinds of values, longer moves of the reader, and what was there stays.
-/
import Derived.Test.YtehmobcfbifocaaRegPred
import Derived.Test.YtehmobcfbifocaaDrawZ
import Derived.Test.YtehmobcfbifocaaSels
import Derived.Test.YtehmobcfbifocaaSel2
namespace Go.Proofs.Ytehmobcfbifocaa
open Go.RowKit

/-- What an operation leaves: the reader; a number; a number less than n; two numbers; a row of n numbers; the place of a number; just this value; anything. -/
inductive Kn where
  | rd | fit | rng (n : Nat) | pair | lit (n : Nat) | adr | val (v : Value) | any

def Kn.holds (R : Nat) (v : Value) (W : World) : Kn → Prop
  | .rd => v = .pointer (some ⟨R, 0, none⟩)
  | .fit => ∃ x : Int, Fits x ∧ v = .int .i64 x
  | .rng n => ∃ x : Nat, x < n ∧ v = .int .i64 x
  | .pair => ∃ x y : Int, Fits x ∧ Fits y ∧ v = .tuple #[.int .i64 x, .int .i64 y]
  | .lit n => ∃ g, v = .slice (some ⟨g, 0, none⟩) n n ∧ g ≠ R ∧ g < W.heap.size ∧ ∀ i, i < n → ∃ x : Int, Fits x ∧ W.cell? ⟨g, i, none⟩ = some (.int .i64 x)
  | .adr => ∃ g i, v = .pointer (some ⟨g, i, none⟩) ∧ g ≠ R ∧ g < W.heap.size ∧ ∃ x : Int, Fits x ∧ W.cell? ⟨g, i, none⟩ = some (.int .i64 x)
  | .val u => v = u
  | .any => True
theorem grown_cell2 {W W' : World} {R g : Nat} (h : W.grownBy W' (some R)) (h1 : g < W.heap.size) (h2 : g ≠ R) (i : Nat) : W'.cell? ⟨g, i, none⟩ = W.cell? ⟨g, i, none⟩ := by
  unfold World.cell?
  rw [h.block g h1 (fun e => h2 (by injection e))]
theorem Kn.mono {R : Nat} {v : Value} {W W' : World} (k : Kn) (h : k.holds R v W) (hg : W.grownBy W' (some R)) : k.holds R v W' := by
  cases k with
  | rd => exact h
  | fit => exact h
  | rng n => exact h
  | pair => exact h
  | lit n =>
    obtain ⟨g, h1, h2, h3, h4⟩ := h
    refine ⟨g, h1, h2, Nat.lt_of_lt_of_le h3 hg.size, fun i hi => ?_⟩
    obtain ⟨x, h5, h6⟩ := h4 i hi
    exact ⟨x, h5, (grown_cell2 hg h3 h2 i).trans h6⟩
  | adr =>
    obtain ⟨g, i, h1, h2, h3, x, h5, h6⟩ := h
    exact ⟨g, i, h1, h2, Nat.lt_of_lt_of_le h3 hg.size, x, h5, (grown_cell2 hg h3 h2 i).trans h6⟩
  | val u => exact h
  | any => trivial

def knAt (ks : List Kn) (k : Nat) : Kn := (ks[k]?).getD .any

/-- The law for a reader that no operation moves on by more than K. -/
theorem wp_region_reader2 {id : Nat} {ops : Array Oper} {Q : Exit → Act → World → Prop} {act : Act} {w : World} (W0 : World) (R len cap p : Nat) (a : Option Addr) (K : Nat) (hK : K ≤ 200) (hm : Try.prog.follows .mixedOrders = true) (hb : backB ops = true) (hsz : ops.size ≤ 100)
    (hR : Rd W0 R a len cap w p) (fr : (Nat → Value) → Act) (ks : List Kn)
    (h0 : ∃ s, act = fr s) (hput : ∀ i o s v, ops[i]? = some o → (fr s).put o.dst v = fr (fun j => if j = i then v else s j))
    (hstep : ∀ i o s W q, q ≤ p + 20000 → ops[i]? = some o → Rd W0 R a len cap W q → (∀ k, (o.after.any fun e => Region.binds .any e && e.on == k) = true → (knAt ks k).holds R (s k) W) → ∀ Q' : Exit → Act → World → Prop,
      (∀ v W' q', q' ≤ q + K → Rd W0 R a len cap W' q' → W.grownBy W' (some R) → (knAt ks i).holds R v W' → Q' .normal ((fr s).put o.dst v) W') → wpListIn Fence.wide 9 Try.prog ops Q' [o] (fr s) W)
    (hfin : ∀ s W q, q ≤ p + K * ops.size → Rd W0 R a len cap W q → w.grownBy W (some R) → (∀ k, k < ops.size → (knAt ks k).holds R (s k) W) → Q .normal (fr s) W) : (Code.region id ops true).wp Try.prog Q act w := by
  refine wp_region_pred hm hb fr (fun c W => c ≤ ops.size ∧ w.grownBy W (some R) ∧ ∃ q, q ≤ p + K * c ∧ Rd W0 R a len cap W q) (fun W W' => W.grownBy W' (some R)) (fun k v W => (knAt ks k).holds R v W) h0 hput ⟨Nat.zero_le _, grownBy_drew (grownBy_refl _ _), p, by omega, hR.drew⟩ (fun k v W W' h hg => Kn.mono _ h hg) ?_ ?_
  · rintro i o s W c hc ho ⟨_, hgw, q, hq, hRW⟩ hd Q' hQ'
    have h1 : K * c ≤ 200 * 100 := Nat.mul_le_mul hK (by omega)
    exact hstep i o s W q (by omega) ho hRW hd Q' (fun v W' q' hq' h1 h2 h3 => hQ' v W' ⟨by omega, hgw.trans h2, q', by rw [Nat.mul_succ]; omega, h1⟩ h2 h3)
  · rintro s W ⟨c, hc, hgw, q, hq, hRW⟩ hall
    have : K * c ≤ K * ops.size := Nat.mul_le_mul_left K hc
    exact hfin s W q (by omega) hRW hgw hall
end Go.Proofs.Ytehmobcfbifocaa
