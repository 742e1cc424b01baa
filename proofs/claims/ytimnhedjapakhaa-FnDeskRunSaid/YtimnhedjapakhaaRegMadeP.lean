/-
  The drawn region that makes a desk and stores it, by slots.
-/
import Derived.Test.YtimnhedjapakhaaRegMade
import Derived.Test.YtimnhedjapakhaaBaseZ
namespace Go.Proofs.Ytimnhedjapakhaa
open Go Go.RowKit

theorem wpIn_region_madeP {F : Fence} {n : Nat} {id : Nat} {ops : Array Oper} {Q : Exit → Act → World → Prop} {a : Act} {W : World} (c n1 n2 : Nat) (L : List (Option Tmp × Nat)) (Z : Value) (R : World → Value → Prop)
    (hm : Try.prog.follows .mixedOrders = true) (hb : backB ops = true) (ht : tailB ops (c + 6) = true) (hsz : c + 6 < ops.size)
    (hdep : (depB ops (c + 1) c && depB ops (c + 2) (c + 1) && depB ops (c + 3) (c + 1) && depB ops (c + 5) (c + 2) && depB ops (c + 5) (c + 4)) = true)
    (hnd : ((List.range (c + 5)).all fun i => (i == c + 3) || needs ops (c + 5) ops.size i) = true)
    (hL : dstsOf ops (c + 6) = L) (hok : okPuts L = true) (pre : Nat → Value → World → Prop) (hpre : ∀ k v V V', pre k v V → Below V.heap.size V V' → pre k v V')
    (hRb : ∀ V V' y, R V y → Below V.heap.size V V' → R V' y)
    (hRs : ∀ V b a1 c1 a2 c2, R V (.agg #[.slice a1 n1 c1, .slice a2 n2 c2]) → W.heap.size ≤ b → V.heap[b]? = some (.cells #[.slice none 0 0, .slice none 0 0] 26 (0, 0)) → R ((V.setCell ⟨b, 0, none⟩ (.slice a1 n1 c1)).setCell ⟨b, 1, none⟩ (.slice a2 n2 c2)) (.agg #[.slice a1 n1 c1, .slice a2 n2 c2]))
    (hstep : ∀ i o s V, i < c → ops[i]? = some o → Below W.heap.size W V → (∀ k, k < c → depB ops i k = true → pre k (s k) V) → ∀ Q' : Exit → Act → World → Prop,
      (∀ v V', Below V.heap.size V V' → pre i v V' → Q' .normal ((putsOf L a s).put o.dst v) V') → wpListIn F n Try.prog ops Q' [o] (putsOf L a s) V)
    (hcall : ∀ o s V, ops[c]? = some o → Below W.heap.size W V → (∀ k, k < c → depB ops c k = true → pre k (s k) V) → ∀ Q' : Exit → Act → World → Prop,
      (∀ a1 c1 a2 c2 V', Below V.heap.size V V' → R V' (.agg #[.slice a1 n1 c1, .slice a2 n2 c2]) → Q' .normal ((putsOf L a s).put o.dst (.tuple #[.agg #[.slice a1 n1 c1, .slice a2 n2 c2], Z])) V') → wpListIn F n Try.prog ops Q' [o] (putsOf L a s) V)
    (hmove : ∀ o s V y (Q' : Exit → Act → World → Prop), ops[c + 1]? = some o → s c = y → Q' .normal ((putsOf L a s).put o.dst y) V → wpListIn F n Try.prog ops Q' [o] (putsOf L a s) V)
    (hext0 : ∀ o s V x z (Q' : Exit → Act → World → Prop), ops[c + 2]? = some o → s (c + 1) = .tuple #[x, z] → Q' .normal ((putsOf L a s).put o.dst x) V → wpListIn F n Try.prog ops Q' [o] (putsOf L a s) V)
    (hext1 : ∀ o s V x z (Q' : Exit → Act → World → Prop), ops[c + 3]? = some o → s (c + 1) = .tuple #[x, z] → Q' .normal ((putsOf L a s).put o.dst z) V → wpListIn F n Try.prog ops Q' [o] (putsOf L a s) V)
    (halloc : ∀ o s V (Q' : Exit → Act → World → Prop), ops[c + 4]? = some o → Q' .normal ((putsOf L a s).put o.dst (.pointer (some ⟨V.heap.size, 0, none⟩))) (V.alloc (.cells #[.slice none 0 0, .slice none 0 0] 26)) → wpListIn F n Try.prog ops Q' [o] (putsOf L a s) V)
    (hstore : ∀ o s V b a1 c1 a2 c2 (Q' : Exit → Act → World → Prop), ops[c + 5]? = some o → s (c + 4) = .pointer (some ⟨b, 0, none⟩) → s (c + 2) = .agg #[.slice a1 n1 c1, .slice a2 n2 c2] → V.heap[b]? = some (.cells #[.slice none 0 0, .slice none 0 0] 26 (0, 0)) →
      Q' .normal ((putsOf L a s).put o.dst undef) ((V.setCell ⟨b, 0, none⟩ (.slice a1 n1 c1)).setCell ⟨b, 1, none⟩ (.slice a2 n2 c2)) → wpListIn F n Try.prog ops Q' [o] (putsOf L a s) V)
    (htail : ∀ s V b a1 c1 a2 c2, Below W.heap.size W V → s (c + 4) = .pointer (some ⟨b, 0, none⟩) → W.heap.size ≤ b → V.heap[b]? = some (.cells #[.slice a1 n1 c1, .slice a2 n2 c2] 26 (0, 0)) → R V (.agg #[.slice a1 n1 c1, .slice a2 n2 c2]) → s (c + 3) = Z → wpListIn F n Try.prog ops Q (ops.toList.drop (c + 6)) (putsOf L a s) V) : (Code.region id ops true).wpIn F n Try.prog Q a W := by
  refine wpIn_region_made c n1 n2 Z R hm hb ht hsz hdep hnd (putsOf L a) pre hpre hRb hRs (puts_self a L hok) ?_ hstep hcall hmove hext0 hext1 halloc hstore htail
  intro i o s v hi ho
  refine puts_put s o.dst i v L a hok ?_
  rw [← hL]
  unfold dstsOf
  refine List.mem_map.2 ⟨i, List.mem_range.2 hi, ?_⟩
  rw [ho]
  rfl
end Go.Proofs.Ytimnhedjapakhaa
