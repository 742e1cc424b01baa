/-
  Contracts of the draws: a reader's pick hands back a number within its bounds and writes its own block alone; l20Open; l20Row.
-/
import Derived.Test.YtlkcdcmmcjkedabRowAt
import Derived.Deep.QuietTactic
import Derived.BigQuiet
import Derived.Deep.RegionWith
namespace Go.Proofs.Ytlkcdcmmcjkedab
open Go.RowKit

/-- The bytes that came in: none, or a row of cells that lay when the law began. -/
def Bytes (W0 : World) (a : Option Addr) (len : Nat) : Prop :=
  len ≤ 2000 ∧ (0 < len → ∃ b off, a = some ⟨b, off, none⟩ ∧ b < W0.heap.size ∧ ∃ z : Nat → Int, (∀ i, 0 ≤ z i ∧ z i ≤ 255) ∧ ∀ i, i < len → W0.cell? ⟨b, off + i, none⟩ = some (.int .u8 (z i)))

theorem xor_i64 (a b : Nat) (ha : a < 4294967296) (hb : b < 4294967296) : bits .xor .i64 (a : Int) (b : Int) = ((a ^^^ b : Nat) : Int) := by
  have hx : a ^^^ b < 2 ^ 32 := Nat.xor_lt_two_pow (by omega) (by omega)
  have h1 : (BitVec.ofInt 64 (a : Int)).toNat = a := by
    rw [BitVec.ofInt_natCast, BitVec.toNat_ofNat]; exact Nat.mod_eq_of_lt (by omega)
  have h2 : (BitVec.ofInt 64 (b : Int)).toNat = b := by
    rw [BitVec.ofInt_natCast, BitVec.toNat_ofNat]; exact Nat.mod_eq_of_lt (by omega)
  show IntKind.i64.wrap ((BitVec.ofInt 64 (a : Int) ^^^ BitVec.ofInt 64 (b : Int)).toNat : Int) = _
  rw [BitVec.toNat_xor, h1, h2]
  exact IntWalk.i64_in _ (by omega)
theorem xor_nonneg (T : Int) (h0 : 0 ≤ T) (h1 : T ≤ 2000000000) : 0 ≤ bits .xor .i64 T (T / 64) := by
  obtain ⟨t, rfl⟩ : ∃ t : Nat, T = t := ⟨T.toNat, by omega⟩
  rw [show (t : Int) / 64 = ((t / 64 : Nat) : Int) by omega, xor_i64 _ _ (by omega) (by omega)]
  omega

/-- All blocks but R lie as they lay, and none is new. -/
def Only (R : Nat) (w w' : World) : Prop := ∀ k, k ≠ R → w'.heap[k]? = w.heap[k]?
theorem only_cells {W w' : World} {R : Nat} (h : Only R W w') : ∀ b o, b ≠ R → w'.cell? ⟨b, o, none⟩ = W.cell? ⟨b, o, none⟩ :=
  fun b _ hb => World.cell?_of_block (w := W) (h b hb)
theorem only_set (w : World) (R : Nat) (v : Value) : Only R w (w.setCell ⟨R, 1, none⟩ v) := fun k hk => Below.heap_setCell _ _ _ k hk

end Go.Proofs.Ytlkcdcmmcjkedab
