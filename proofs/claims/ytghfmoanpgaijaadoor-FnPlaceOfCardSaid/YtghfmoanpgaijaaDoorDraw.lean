/-
  Contracts of the draws: a reader's pick hands back a number within its bounds and writes its own block alone; l20Open; l20Row.
-/
import Derived.Test.YtghfmoanpgaijaaDoorRowAt
import Derived.Deep.QuietTactic
import Derived.BigQuiet
import Derived.Deep.RegionWith
namespace Go.Proofs.YtghfmoanpgaijaaDoor
open Go.RowKit

/-- The bytes that came in: none, or a row of cells that lay when the law began. -/
def Bytes (W0 : World) (a : Option Addr) (len : Nat) : Prop :=
  len ≤ 2000 ∧ (0 < len → ∃ b off, a = some ⟨b, off, none⟩ ∧ b < W0.heap.size ∧ ∃ z : Nat → Int, (∀ i, 0 ≤ z i ∧ z i ≤ 255) ∧ ∀ i, i < len → W0.cell? ⟨b, off + i, none⟩ = some (.int .u8 (z i)))

/-- The reader in block R: the bytes, and how many have been picked. -/
def Rd (W0 : World) (R : Nat) (a : Option Addr) (len cap : Nat) (w : World) (p : Nat) : Prop :=
  Below W0.heap.size W0 w ∧ W0.heap.size ≤ R ∧ w.heap[R]? = some (.cells #[.slice a len cap, .int .i64 p] 57 (0, 0))

theorem Rd.cell0 {W0 w : World} {R len cap p : Nat} {a : Option Addr} (h : Rd W0 R a len cap w p) : w.cell? ⟨R, 0, none⟩ = some (.slice a len cap) := by
  rw [cell_of_row w R 0 _ _ _ h.2.2]; rfl
theorem Rd.cell1 {W0 w : World} {R len cap p : Nat} {a : Option Addr} (h : Rd W0 R a len cap w p) : w.cell? ⟨R, 1, none⟩ = some (.int .i64 p) := by
  rw [cell_of_row w R 1 _ _ _ h.2.2]; rfl
theorem Rd.frozen {W0 w : World} {R len cap p : Nat} {a : Option Addr} (h : Rd W0 R a len cap w p) (i : Nat) : w.frozen? ⟨R, i, none⟩ = false := by
  simp [World.frozen?, h.2.2]
theorem Rd.set {W0 w : World} {R len cap p : Nat} {a : Option Addr} (h : Rd W0 R a len cap w p) (q : Nat) : Rd W0 R a len cap (w.setCell ⟨R, 1, none⟩ (.int .i64 q)) q := by
  obtain ⟨h1, h2, h3⟩ := h
  obtain ⟨hlt, hk⟩ := Array.getElem?_eq_some_iff.1 h3
  refine ⟨h1.setCell h2 _, h2, ?_⟩
  show (w.heap.modify R _)[R]? = _
  rw [Array.getElem?_eq_getElem (by rw [Array.size_modify]; exact hlt), Array.getElem_modify_self, hk]; rfl
theorem Rd.kept {W0 w w' : World} {R len cap p : Nat} {a : Option Addr} {row : Option Nat} (h : Rd W0 R a len cap w p) (hg : w.grownBy w' row) (hr : some R ≠ row) (hrow : ∀ k, row = some k → W0.heap.size ≤ k) : Rd W0 R a len cap w' p := by
  obtain ⟨h1, h2, h3⟩ := h
  exact ⟨h1.grown hg h1.size hrow, h2, (hg.block R (Array.getElem?_eq_some_iff.1 h3).1 hr).trans h3⟩

theorem xor_i64 (a b : Nat) (ha : a < 4294967296) (hb : b < 4294967296) : bits .xor .i64 (a : Int) (b : Int) = ((a ^^^ b : Nat) : Int) := by
  have hx : a ^^^ b < 2 ^ 32 := Nat.xor_lt_two_pow (by omega) (by omega)
  have h1 : (BitVec.ofInt 64 (a : Int)).toNat = a := by
    rw [BitVec.ofInt_natCast, BitVec.toNat_ofNat]; exact Nat.mod_eq_of_lt (by omega)
  have h2 : (BitVec.ofInt 64 (b : Int)).toNat = b := by
    rw [BitVec.ofInt_natCast, BitVec.toNat_ofNat]; exact Nat.mod_eq_of_lt (by omega)
  show IntKind.i64.wrap ((BitVec.ofInt 64 (a : Int) ^^^ BitVec.ofInt 64 (b : Int)).toNat : Int) = _
  rw [BitVec.toNat_xor, h1, h2]
  exact IntWalk.i64_in _ (by omega)
theorem xor_nonneg (T : Int) (h0 : 0 ≤ T) (h1 : T ≤ 2000000000) : 0 ≤ bits .xor .i64 T (T / 64) := by
  obtain ⟨t, rfl⟩ : ∃ t : Nat, T = t := ⟨T.toNat, by omega⟩
  rw [show (t : Int) / 64 = ((t / 64 : Nat) : Int) by omega, xor_i64 _ _ (by omega) (by omega)]
  omega

theorem Rd.alloc {W0 w : World} {R len cap p : Nat} {a : Option Addr} (h : Rd W0 R a len cap w p) (o : Obj) : Rd W0 R a len cap (w.alloc o) p := h.kept (World.grownBy_alloc w o none) (by simp) (fun _ h => by cases h)
theorem Rd.drew {W0 w : World} {R len cap p : Nat} {a : Option Addr} (h : Rd W0 R a len cap w p) : Rd W0 R a len cap w.drew p := ⟨⟨h.1.os, h.1.tape, h.1.output, h.1.size, h.1.block⟩, h.2.1, h.2.2⟩
theorem Rd.ne {W0 w : World} {R len cap p : Nat} {a : Option Addr} (h : Rd W0 R a len cap w p) : (w.heap.size = R) = False := by
  have := (Array.getElem?_eq_some_iff.1 h.2.2).1
  simp; omega
/-- All blocks but R lie as they lay, and none is new. -/
def Only (R : Nat) (w w' : World) : Prop := ∀ k, k ≠ R → w'.heap[k]? = w.heap[k]?
theorem only_cells {W w' : World} {R : Nat} (h : Only R W w') : ∀ b o, b ≠ R → w'.cell? ⟨b, o, none⟩ = W.cell? ⟨b, o, none⟩ :=
  fun b _ hb => World.cell?_of_block (w := W) (h b hb)
theorem only_set (w : World) (R : Nat) (v : Value) : Only R w (w.setCell ⟨R, 1, none⟩ v) := fun k hk => Below.heap_setCell _ _ _ k hk

/-- What pick leaves. -/
def Picked (W0 : World) (R : Nat) (a : Option Addr) (len cap p : Nat) (n : Int) (w : World) (e : Ending) (w' : World) : Prop :=
  ∃ x : Int, e = .returned (.int .i64 x) ∧ 0 ≤ x ∧ (n < 1 → x = 0) ∧ (1 ≤ n → x < n) ∧ Rd W0 R a len cap w' (p + 1) ∧ w.grownBy w' (some R) ∧ Only R w w'

set_option maxHeartbeats 400000 in
theorem pick_in (W0 : World) (R len cap p : Nat) (a : Option Addr) (n : Int) (w : World) (hb : Bytes W0 a len) (h : Rd W0 R a len cap w p) (hp : p ≤ 1000000) :
    Calls Tryd.prog 30 #[.pointer (some ⟨R, 0, none⟩), .int .i64 n] w (Picked W0 R a len cap p n w) := by
  have hc0 := h.cell0
  have hc1 := h.cell1
  have hf1 := h.frozen 1
  have hset := h.set (p + 1)
  have hd0 : (w.setCell ⟨R, 1, none⟩ (.int .i64 ((p : Int) + 1))).cell? ⟨R, 0, none⟩ = some (.slice a len cap) := hset.cell0
  have hd1 : (w.setCell ⟨R, 1, none⟩ (.int .i64 ((p : Int) + 1))).cell? ⟨R, 1, none⟩ = some (.int .i64 ((p : Int) + 1)) := hset.cell1
  have hgr : w.grownBy (w.setCell ⟨R, 1, none⟩ (.int .i64 ((p : Int) + 1))) (some R) := grownBy_set (grownBy_refl _ _) _ _
  by_cases hn1 : n < 1
  · go_enter Tryd.func30, Tryd.ntmps30
    go_wp2
    go_ret
    exact ⟨0, rfl, by omega, fun _ => rfl, fun h => by omega, hset, hgr, only_set _ _ _⟩
  · by_cases hl : len = 0
    · subst hl
      go_enter Tryd.func30, Tryd.ntmps30
      go_wp2
      go_ret
      exact ⟨0, rfl, by omega, fun _ => rfl, fun h => by omega, hset, hgr, only_set _ _ _⟩
    · obtain ⟨hlen, hbb⟩ := hb
      obtain ⟨b, off, rfl, hbW, z, hz, hcells⟩ := hbb (by omega)
      have hl1 : ((len : Int) == 0) = false := by simp; omega
      by_cases hpl : p < len
      · have hcp : (w.setCell ⟨R, 1, none⟩ (.int .i64 ((p : Int) + 1))).cell? ⟨b, off + p, none⟩ = some (.int .u8 (z p)) := (hset.1.cell (by exact hbW)).trans (hcells p hpl)
        have hzp := hz p
        generalize z p = zp at hcp hzp
        clear hcells hz hbb
        go_enter Tryd.func30, Tryd.ntmps30
        go_wp2
        go_ret
        exact ⟨zp % n, rfl, Int.emod_nonneg _ (by omega), fun h => by omega, fun _ => Int.emod_lt_of_pos _ (by omega), hset, hgr, only_set _ _ _⟩
      · obtain ⟨m1, hm1, hq1⟩ : ∃ m1 : Nat, m1 < len ∧ Int.tmod (p : Int) (len : Int) = (m1 : Int) := ⟨p % len, Nat.mod_lt _ (by omega), by rw [Int.tmod_eq_emod_of_nonneg (by omega)]; rfl⟩
        obtain ⟨m2, hm2, hq2⟩ : ∃ m2 : Nat, m2 < len ∧ Int.tmod ((p : Int) * 7 + 3) (len : Int) = (m2 : Int) := ⟨(p * 7 + 3) % len, Nat.mod_lt _ (by omega), by rw [Int.tmod_eq_emod_of_nonneg (by omega)]; rfl⟩
        obtain ⟨q, hq0, hqp, hq3⟩ : ∃ q : Int, 0 ≤ q ∧ q ≤ 1000000 ∧ Int.tdiv (p : Int) (len : Int) = q := ⟨_, Int.tdiv_nonneg (by omega) (by omega), by rw [Int.tdiv_eq_ediv_of_nonneg (by omega)]; have := Int.ediv_le_self (a := (p : Int)) (len : Int) (by omega); omega, rfl⟩
        have hcp1 : (w.setCell ⟨R, 1, none⟩ (.int .i64 ((p : Int) + 1))).cell? ⟨b, off + m1, none⟩ = some (.int .u8 (z m1)) := (hset.1.cell (by exact hbW)).trans (hcells m1 hm1)
        have hcp2 : (w.setCell ⟨R, 1, none⟩ (.int .i64 ((p : Int) + 1))).cell? ⟨b, off + m2, none⟩ = some (.int .u8 (z m2)) := (hset.1.cell (by exact hbW)).trans (hcells m2 hm2)
        have hz1 := hz m1
        have hz2 := hz m2
        generalize z m1 = z1 at hcp1 hz1
        generalize z m2 = z2 at hcp2 hz2
        clear hcells hz hbb
        have hw1 : IntKind.i64.wrap (z1 * 131) = z1 * 131 := IntWalk.i64_in _ (by omega)
        have hw2 : IntKind.i64.wrap (z2 * 1117) = z2 * 1117 := IntWalk.i64_in _ (by omega)
        have hw3 : IntKind.i64.wrap (z1 * 131 + z2 * 1117) = z1 * 131 + z2 * 1117 := IntWalk.i64_in _ (by omega)
        have hw4 : IntKind.i64.wrap ((p : Int) * 29) = (p : Int) * 29 := IntWalk.i64_in _ (by omega)
        have hw5 : IntKind.i64.wrap (z1 * 131 + z2 * 1117 + (p : Int) * 29) = z1 * 131 + z2 * 1117 + (p : Int) * 29 := IntWalk.i64_in _ (by omega)
        have hw6 : IntKind.i64.wrap (q * 53) = q * 53 := IntWalk.i64_in _ (by omega)
        have hw7 : IntKind.i64.wrap (z1 * 131 + z2 * 1117 + (p : Int) * 29 + q * 53) = z1 * 131 + z2 * 1117 + (p : Int) * 29 + q * 53 := IntWalk.i64_in _ (by omega)
        have hw8 : IntKind.i64.wrap ((p : Int) * 7) = (p : Int) * 7 := IntWalk.i64_in _ (by omega)
        have hw9 : IntKind.i64.wrap ((p : Int) * 7 + 3) = (p : Int) * 7 + 3 := IntWalk.i64_in _ (by omega)
        have hw10 : IntKind.i64.wrap (q : Int) = q := IntWalk.i64_in _ (by omega)
        have hw11 : IntKind.i64.wrap (m1 : Int) = m1 := IntWalk.i64_in _ (by omega)
        have hw12 : IntKind.i64.wrap (m2 : Int) = m2 := IntWalk.i64_in _ (by omega)
        go_enter Tryd.func30, Tryd.ntmps30
        go_wp2
        go_quiet (fail)
        clear hw1 hw2 hw3 hw4 hw5 hw6 hw7 hw8 hw9 hw10 hw11 hw12 hq1 hq2 hq3
        obtain ⟨T, hT, hT0, hT1⟩ : ∃ T : Int, z1 * 131 + z2 * 1117 + (p : Int) * 29 + q * 53 = T ∧ 0 ≤ T ∧ T ≤ 2000000000 := ⟨_, rfl, by omega, by omega⟩
        rw [hT]
        clear hT
        have hx := xor_nonneg T hT0 hT1
        generalize hX : bits .xor .i64 T (T / 64) = X at hx
        go_wp2
        go_ret
        have hD : w.grownBy ((w.setCell ⟨R, 1, none⟩ (.int .i64 ((p : Int) + 1))).drewN nq) (some R) := ⟨hgr.os, hgr.tape, hgr.output, hgr.size, hgr.block⟩
        have hS : Rd W0 R (some ⟨b, off, none⟩) len cap ((w.setCell ⟨R, 1, none⟩ (.int .i64 ((p : Int) + 1))).drewN nq) (p + 1) := ⟨⟨hset.1.os, hset.1.tape, hset.1.output, hset.1.size, hset.1.block⟩, hset.2.1, hset.2.2⟩
        exact ⟨X % n, rfl, Int.emod_nonneg _ (by omega), fun h => by omega, fun _ => Int.emod_lt_of_pos _ (by omega), hS, hD, only_set _ _ _⟩
end Go.Proofs.YtghfmoanpgaijaaDoor
