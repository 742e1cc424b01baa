/-
  The walk of the exact law on DeskOk.
-/
import Derived.Test.YtimnhedjapakhaaLawKit11
import Derived.Test.YtimnhedjapakhaaLawKit8
import Derived.Test.YtimnhedjapakhaaImpl12a
namespace Go.Proofs.Ytimnhedjapakhaa
open Go.RowKit
attribute [local go_sem] Oper.semAt_some

/-- A region that draws its order, of which all that lay before stands until the last operations, whatever is known of each operation's value. -/
theorem wpIn_region_phi {F : Fence} {n : Nat} {id : Nat} {ops : Array Oper} {Q : Exit → Act → World → Prop} {a : Act} {W : World} (m : Nat) (hm : Try.prog.follows .mixedOrders = true) (hb : backB ops = true) (ht : tailB ops m = true) (hsz : m < ops.size)
    (fr : (Nat → Value) → Act) (Φ : Nat → Value → World → Prop) (hmono : ∀ k v V V', Φ k v V → Below V.heap.size V V' → Φ k v V')
    (h0 : ∃ s, a = fr s) (hput : ∀ i o s v, i < m → ops[i]? = some o → (fr s).put o.dst v = fr (fun j => if j = i then v else s j))
    (hstep : ∀ i o s V, i < m → ops[i]? = some o → Below W.heap.size W V → (∀ k, depB ops i k = true → Φ k (s k) V) → ∀ Q' : Exit → Act → World → Prop,
      (∀ v V', Below V.heap.size V V' → Φ i v V' → Q' .normal ((fr s).put o.dst v) V') → wpListIn F n Try.prog ops Q' [o] (fr s) V)
    (htail : ∀ s V, Below W.heap.size W V → (∀ k, k < m → Φ k (s k) V) → wpListIn F n Try.prog ops Q (ops.toList.drop m) (fr s) V) : (Code.region id ops true).wpIn F n Try.prog Q a W := by
  refine wpIn_region_tail m hm hb ht hsz fr (fun V => Below W.heap.size W V) (fun V V' => Below V.heap.size V V') Φ h0 hput (Below.refl _ _).drew (fun k v V V' h hg => hmono k v V V' h hg) ?_ htail
  rintro i o s V him ho hV hd Q' hQ'
  exact hstep i o s V him ho hV hd Q' (fun v V' h2 h3 => hQ' v V' (hV.trans (h2.mono hV.size)) h2 h3)
theorem acc_each (L : Nat → Nat) : ∀ n j, j < n → L j ≤ accN L n
  | n + 1, j, h => by
    show L j ≤ accN L n + L n
    by_cases e : j = n
    · subst e; omega
    · have := acc_each L n j (by omega); omega
theorem desk_agg {W : World} {x p : Value} {d : Dk} {base : Nat} (hx : W.ownsRow base 3 1 x d.1.length (d.1.map (Value.int .i64))) (hp : OwnQ W base p d.2) : DeskI W (.agg #[x, p]) d := ⟨x, p, rfl, Ints.of_owns hx, hp.ownSS.past⟩

end Go.Proofs.Ytimnhedjapakhaa
