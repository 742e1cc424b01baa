/-
  The draws of chapter 1: each hands back numbers, and nothing that was there is written.
-/
import Derived.Test.YtncaddoflbdlpaaDrawRow
namespace Go.Proofs.Ytncaddoflbdlpaa
open Go.RowKit

/-- What is known of a slice of integers that came in. -/
def IsRow (k : IntKind) (w : World) (a : Option Addr) (len cap : Nat) (zs : List Int) : Prop :=
  (a = none ∧ len = 0 ∧ cap = 0 ∧ zs = []) ∨
  ∃ x, a = some x ∧ len ≤ cap ∧ cap ≤ maxLen ∧ zs.length = cap ∧ (∀ i, i < zs.length → w.cell? (x.add i) = some (.int k (zs.getD i 0))) ∧ ∀ n ∈ zs, (Lit.int k n).wf = true

theorem IsRow.bytes {w : World} {a : Option Addr} {len cap : Nat} {zs : List Int} (h : IsRow .u8 w a len cap zs) {n : Nat} (hn : n ≤ len) (h2 : n ≤ 2000) : Bytes w a n := by
  refine ⟨h2, fun hpos => ?_⟩
  rcases h with ⟨_, h0, _⟩ | ⟨⟨b, off, spot⟩, rfl, hl, hm, hz, hcell, hwf⟩
  · omega
  · have h0 := hcell 0 (by omega)
    have hs : spot = none := by simpa [Addr.add] using World.cell?_spot h0
    subst hs
    have hb : b < w.heap.size := by
      have := World.block_lt_of_cell? w _ h0
      simpa [Addr.add] using this
    refine ⟨b, off, rfl, hb, fun i => zs.getD i 0, fun i => ?_, fun i hi => ?_⟩
    · by_cases hi : i < zs.length
      · have := hwf (zs.getD i 0) (by rw [List.getD, List.getElem?_eq_getElem hi]; simp)
        simpa [Lit.wf, IntKind.min, IntKind.max, IntKind.signed, IntKind.bits] using this
      · simp [List.getD, hi]
    · have := hcell i (by omega)
      have hadd : (⟨b, off, none⟩ : Addr).add i = ⟨b, off + i, none⟩ := by unfold Addr.add; split <;> simp_all
      rwa [hadd] at this

/-- The reader that is opened. -/
def Opened (W0 : World) (a : Option Addr) (e : Ending) (w' : World) : Prop :=
  ∃ R len cap, e = .returned (.pointer (some ⟨R, 0, none⟩)) ∧ Bytes W0 a len ∧ Rd W0 R a len cap w' 0

theorem open_in (w : World) (a : Option Addr) (len cap : Nat) (zs : List Int) (h : IsRow .u8 w a len cap zs) : Calls Try.prog 34 #[.slice a len cap] w (Opened w a) := by
  have hRd : ∀ n c : Nat, Rd w w.heap.size a n c (w.alloc (.cells #[.slice a n c, .int .i64 0] 50)) 0 := fun n c => ⟨(Below.refl _ w).alloc (Nat.le_refl _) _, Nat.le_refl _, heap_alloc_new w _⟩
  have hcap : len ≤ cap := by rcases h with ⟨_, h0, h1, _⟩ | ⟨_, _, hl, _⟩ <;> omega
  by_cases hl : 2000 < len
  · have hb := h.bytes (n := 2000) (by omega) (Nat.le_refl _)
    have hcp : (2000 : Int) ≤ cap := by omega
    rcases h with ⟨_, h0, _⟩ | ⟨x, rfl, _⟩
    · omega
    · go_enter Try.func34, Try.ntmps34
      go_wp2
      go_ret
      exact ⟨_, _, _, rfl, hb, hRd _ _⟩
  · have hb := h.bytes (n := len) (Nat.le_refl _) (by omega)
    go_enter Try.func34, Try.ntmps34
    go_wp2
    go_ret
    exact ⟨_, _, _, rfl, hb, hRd _ _⟩

theorem drawRow (w : World) (a : Option Addr) (len cap : Nat) (zs : List Int) (h : IsRow .u8 w a len cap zs) : Calls Try.prog 13 #[.slice a len cap] w fun e w' => Int1 e ∧ Below w.heap.size w w' := by
  go_enter Try.func13, Try.ntmps13
  go_wp2_with (first | (go_at_call 34; refine (open_in w a len cap zs h).mono ?_; rintro e w1 ⟨R, n, c, rfl, hb, hR⟩) | (go_at_call 33; refine (l20Row_in w R n c 0 a _ hb hR (by omega)).mono ?_; rintro e w2 ⟨⟨x, y, hx, hy, rfl⟩, hR2⟩))
  go_ret
  exact ⟨⟨_, hx, rfl⟩, hR2.1⟩
theorem drawCell (w : World) (a : Option Addr) (len cap : Nat) (zs : List Int) (h : IsRow .u8 w a len cap zs) : Calls Try.prog 18 #[.slice a len cap] w fun e w' => Int2 e ∧ Below w.heap.size w w' := by
  go_enter Try.func18, Try.ntmps18
  go_wp2_with (first | (go_at_call 34; refine (open_in w a len cap zs h).mono ?_; rintro e w1 ⟨R, n, c, rfl, hb, hR⟩) | (go_at_call 33; refine (l20Row_in w R n c 0 a _ hb hR (by omega)).mono ?_; rintro e w2 ⟨⟨x, y, hx, hy, rfl⟩, hR2⟩))
  go_ret2
  exact ⟨⟨_, _, hx, hy, rfl⟩, hR2.1⟩
theorem drawTurns (w : World) (a : Option Addr) (len cap : Nat) (zs : List Int) (h : IsRow .u8 w a len cap zs) : Calls Try.prog 27 #[.slice a len cap] w fun e w' => Int2 e ∧ Below w.heap.size w w' := by
  go_enter Try.func27, Try.ntmps27
  go_wp2_with (first | (go_at_call 34; refine (open_in w a len cap zs h).mono ?_; rintro e w1 ⟨R, n, c, rfl, hb, hR⟩) | (go_at_call 33; refine (l20Row_in w R n c 0 a _ hb hR (by omega)).mono ?_; rintro e w2 ⟨⟨x, y, hx, hy, rfl⟩, hR2⟩))
  go_ret2
  exact ⟨⟨_, _, hx, hy, rfl⟩, hR2.1⟩
theorem drawSlope (w : World) (a : Option Addr) (len cap : Nat) (zs : List Int) (h : IsRow .u8 w a len cap zs) : Calls Try.prog 21 #[.slice a len cap] w fun e w' => Int2 e ∧ Below w.heap.size w w' := by
  go_enter Try.func21, Try.ntmps21
  go_wp2_with (first | (go_at_call 34; refine (open_in w a len cap zs h).mono ?_; rintro e w1 ⟨R, n, c, rfl, hb, hR⟩) | (go_at_call 33; refine (l20Row_in w R n c 0 a _ hb hR (by omega)).mono ?_; rintro e w2 ⟨⟨x, y, hx, hy, rfl⟩, hR2⟩) | (go_at_call 40; refine (pick_in w R n c _ a _ _ hb hR2 (by omega)).mono ?_; rintro e w3 ⟨z, rfl, _, _, _, hR3, _⟩))
  go_ret2
  exact ⟨⟨_, _, wrap64_fits _, hy, rfl⟩, hR3.1⟩
set_option maxHeartbeats 400000 in
theorem drawHeaps (w : World) (a : Option Addr) (len cap : Nat) (zs : List Int) (h : IsRow .u8 w a len cap zs) : Calls Try.prog 24 #[.slice a len cap] w fun e w' => Int3 e ∧ Below w.heap.size w w' := by
  go_enter Try.func24, Try.ntmps24
  go_wp2_with (first | (go_at_call 34; refine (open_in w a len cap zs h).mono ?_; rintro e w1 ⟨R, n, c, rfl, hb, hR⟩) | (go_at_call 40; refine (pick_in w R n c _ a _ _ hb (by assumption) (by omega)).mono ?_; rintro e w3 ⟨z, rfl, hz0, _, hz1, hR3, _⟩; replace hz1 := hz1 (by omega)))
  go_ret3
  refine ⟨⟨_, _, _, ?_, ?_, ?_, rfl⟩, hR3.1⟩ <;> (unfold Fits; omega)
end Go.Proofs.Ytncaddoflbdlpaa
