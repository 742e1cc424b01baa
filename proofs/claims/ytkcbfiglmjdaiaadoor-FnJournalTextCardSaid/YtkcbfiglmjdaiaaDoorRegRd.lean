/-
  Drawn regions in which a reader is moved on, with a tail; by slots.
-/
import Derived.Test.YtkcbfiglmjdaiaaDoorBaseZ
import Derived.Test.YtkcbfiglmjdaiaaDoorSpecZ
namespace Go.Proofs.YtkcbfiglmjdaiaaDoor
open Go Go.RowKit

theorem puts_of {ops : Array Oper} {m : Nat} {L : List (Option Tmp × Nat)} {a : Act} (hL : dstsOf ops m = L) (hok : okPuts L = true) (i : Nat) (o : Oper) (s : Nat → Value) (v : Value) (hi : i < m) (ho : ops[i]? = some o) : (putsOf L a s).put o.dst v = putsOf L a (fun j => if j = i then v else s j) := by
  refine puts_put s o.dst i v L a hok ?_
  rw [← hL]
  unfold dstsOf
  refine List.mem_map.2 ⟨i, List.mem_range.2 hi, ?_⟩
  rw [ho]
  rfl
/-- A region that draws its order and moves a reader on, by no more than K an operation. -/
theorem wpIn_region_rd {F : Fence} {n : Nat} {id : Nat} {ops : Array Oper} {Q : Exit → Act → World → Prop} {a : Act} {w : World} (W0 : World) (R len cap p : Nat) (ad : Option Addr) (K m : Nat) (L : List (Option Tmp × Nat)) (hK : K ≤ 200) (hm : Tryd.prog.follows .mixedOrders = true) (hb : backB ops = true) (ht : tailB ops m = true) (hsz : m < ops.size) (hsz2 : ops.size ≤ 100)
    (hL : dstsOf ops m = L) (hok : okPuts L = true) (hR : Rd W0 R ad len cap w p) (Φ : Nat → Value → World → Prop) (hΦ : ∀ k v V V', Φ k v V → V.grownBy V' (some R) → Φ k v V')
    (hstep : ∀ i o s V q, i < m → ops[i]? = some o → q ≤ p + 20000 → Rd W0 R ad len cap V q → w.grownBy V (some R) → (∀ k, depB ops i k = true → Φ k (s k) V) → ∀ Q' : Exit → Act → World → Prop,
      (∀ v V' q', q' ≤ q + K → Rd W0 R ad len cap V' q' → V.grownBy V' (some R) → Φ i v V' → Q' .normal ((putsOf L a s).put o.dst v) V') → wpListIn F n Tryd.prog ops Q' [o] (putsOf L a s) V)
    (htail : ∀ s V q, q ≤ p + K * ops.size → Rd W0 R ad len cap V q → w.grownBy V (some R) → (∀ k, k < m → Φ k (s k) V) → wpListIn F n Tryd.prog ops Q (ops.toList.drop m) (putsOf L a s) V) : (Code.region id ops true).wpIn F n Tryd.prog Q a w := by
  refine wpIn_region_tailL m hm hb ht hsz (putsOf L a) (fun Ls V => w.grownBy V (some R) ∧ ∃ q, q ≤ p + K * cnt Ls ops.size ∧ Rd W0 R ad len cap V q) (fun V V' => V.grownBy V' (some R)) Φ (puts_self a L hok) (puts_of hL hok) ⟨grownBy_drew (grownBy_refl _ _), p, by omega, hR.drew⟩ hΦ ?_ ?_
  · rintro Ls i o s V him hLi ho ⟨hg, q, hq, hRV⟩ hd Q' hQ'
    have hi : i < ops.size := by omega
    have h1 := cnt_le Ls ops.size
    have h2 : K * cnt Ls ops.size ≤ 200 * 100 := Nat.mul_le_mul hK (by omega)
    exact hstep i o s V q him ho (by omega) hRV hg hd Q' (fun v V' q' hq' h3 h4 h5 => hQ' v V' ⟨hg.trans h4, q', by rw [cnt_next Ls i hLi ops.size hi, Nat.mul_succ]; omega, h3⟩ h4 h5)
  · rintro Ls s V ⟨hg, q, hq, hRV⟩ _ hd
    have h1 := cnt_le Ls ops.size
    have h2 : K * cnt Ls ops.size ≤ K * ops.size := Nat.mul_le_mul_left K h1
    exact htail s V q (by omega) hRV hg hd
end Go.Proofs.YtkcbfiglmjdaiaaDoor
