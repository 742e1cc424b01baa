/-
  The reader that is opened over the bytes that came in.
-/
import Derived.Test.YtghfmoanpgaijaaDoorFits
namespace Go.Proofs.YtghfmoanpgaijaaDoor
open Go.RowKit

/-- What is known of a slice of integers that came in. -/
def IsRow (k : IntKind) (w : World) (a : Option Addr) (len cap : Nat) (zs : List Int) : Prop :=
  (a = none ∧ len = 0 ∧ cap = 0 ∧ zs = []) ∨
  ∃ x, a = some x ∧ len ≤ cap ∧ cap ≤ maxLen ∧ zs.length = cap ∧ (∀ i, i < zs.length → w.cell? (x.add i) = some (.int k (zs.getD i 0))) ∧ ∀ n ∈ zs, (Lit.int k n).wf = true

theorem IsRow.bytes {w : World} {a : Option Addr} {len cap : Nat} {zs : List Int} (h : IsRow .u8 w a len cap zs) {n : Nat} (hn : n ≤ len) (h2 : n ≤ 2000) : Bytes w a n := by
  refine ⟨h2, fun hpos => ?_⟩
  rcases h with ⟨_, h0, _⟩ | ⟨⟨b, off, spot⟩, rfl, hl, hm, hz, hcell, hwf⟩
  · omega
  · have h0 := hcell 0 (by omega)
    have hs : spot = none := by simpa [Addr.add] using World.cell?_spot h0
    subst hs
    have hb : b < w.heap.size := by
      have := World.block_lt_of_cell? w _ h0
      simpa [Addr.add] using this
    refine ⟨b, off, rfl, hb, fun i => zs.getD i 0, fun i => ?_, fun i hi => ?_⟩
    · by_cases hi : i < zs.length
      · have := hwf (zs.getD i 0) (by rw [List.getD, List.getElem?_eq_getElem hi]; simp)
        simpa [Lit.wf, IntKind.min, IntKind.max, IntKind.signed, IntKind.bits] using this
      · simp [List.getD, hi]
    · have := hcell i (by omega)
      have hadd : (⟨b, off, none⟩ : Addr).add i = ⟨b, off + i, none⟩ := by unfold Addr.add; split <;> simp_all
      rwa [hadd] at this

/-- The reader that is opened. -/
def Opened (W0 : World) (a : Option Addr) (e : Ending) (w' : World) : Prop :=
  ∃ R len cap, e = .returned (.pointer (some ⟨R, 0, none⟩)) ∧ Bytes W0 a len ∧ Rd W0 R a len cap w' 0

theorem open_in (w : World) (a : Option Addr) (len cap : Nat) (zs : List Int) (h : IsRow .u8 w a len cap zs) : Calls Tryd.prog 26 #[.slice a len cap] w (Opened w a) := by
  have hRd : ∀ n c : Nat, Rd w w.heap.size a n c (w.alloc (.cells #[.slice a n c, .int .i64 0] 57)) 0 := fun n c => ⟨(Below.refl _ w).alloc (Nat.le_refl _) _, Nat.le_refl _, heap_alloc_new w _⟩
  have hcap : len ≤ cap := by rcases h with ⟨_, h0, h1, _⟩ | ⟨_, _, hl, _⟩ <;> omega
  by_cases hl : 2000 < len
  · have hb := h.bytes (n := 2000) (by omega) (Nat.le_refl _)
    have hcp : (2000 : Int) ≤ cap := by omega
    rcases h with ⟨_, h0, _⟩ | ⟨x, rfl, _⟩
    · omega
    · go_enter Tryd.func26, Tryd.ntmps26
      go_wp2
      go_ret
      exact ⟨_, _, _, rfl, hb, hRd _ _⟩
  · have hb := h.bytes (n := len) (Nat.le_refl _) (by omega)
    go_enter Tryd.func26, Tryd.ntmps26
    go_wp2
    go_ret
    exact ⟨_, _, _, rfl, hb, hRd _ _⟩
end Go.Proofs.YtghfmoanpgaijaaDoor
