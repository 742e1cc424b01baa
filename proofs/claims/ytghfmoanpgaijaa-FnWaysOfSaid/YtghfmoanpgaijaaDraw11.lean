/-
  The draws of chapter 11: numbers, and texts of at most forty bytes; nothing that was there is written.
-/
import Derived.Test.YtghfmoanpgaijaaStrKit
import Derived.Test.YtghfmoanpgaijaaFits
import Derived.Test.YtghfmoanpgaijaaOpen
import Derived.Test.YtghfmoanpgaijaaRegPred
import Derived.Laws.Strings3
import Derived.Deep.DeepCutAuto
namespace Go.Proofs.Ytghfmoanpgaijaa
open Go Go.RowKit

/-- A text that was drawn. -/
def Way (e : Ending) : Prop := ∃ l : List Nat, (∀ x ∈ l, x < 256) ∧ l.length ≤ 40 ∧ e = .returned (.string (str l))
theorem snoc_lt {l : List Nat} {c : Nat} (h : ∀ x ∈ l, x < 256) (hc : c < 256) : ∀ x ∈ l ++ [c], x < 256 := fun x hx => by
  rcases List.mem_append.1 hx with h1 | h1
  · exact h x h1
  · simp at h1; omega

/-- What an operation leaves. -/
inductive Ks where
  | rd | rng | lit | adr | txt (n : Nat) | val (v : Value)
def Ks.holds (R : Nat) (v : Value) (W : World) : Ks → Prop
  | .rd => v = .pointer (some ⟨R, 0, none⟩)
  | .rng => ∃ x : Nat, x < 4 ∧ v = .int .i64 x
  | .lit => ∃ g, v = .slice (some ⟨g, 0, none⟩) 4 4 ∧ g ≠ R ∧ g < W.heap.size ∧ ∀ i, i < 4 → ∃ l : List Nat, (∀ x ∈ l, x < 256) ∧ l.length ≤ 1 ∧ W.cell? ⟨g, i, none⟩ = some (.string (str l))
  | .adr => ∃ g i, v = .pointer (some ⟨g, i, none⟩) ∧ g ≠ R ∧ g < W.heap.size ∧ ∃ l : List Nat, (∀ x ∈ l, x < 256) ∧ l.length ≤ 1 ∧ W.cell? ⟨g, i, none⟩ = some (.string (str l))
  | .txt n => ∃ l : List Nat, (∀ x ∈ l, x < 256) ∧ l.length ≤ n ∧ v = .string (str l)
  | .val u => v = u
theorem grown_cell11 {W W' : World} {R g : Nat} (h : W.grownBy W' (some R)) (h1 : g < W.heap.size) (h2 : g ≠ R) (i : Nat) : W'.cell? ⟨g, i, none⟩ = W.cell? ⟨g, i, none⟩ := by
  unfold World.cell?
  rw [h.block g h1 (fun e => h2 (by injection e))]
theorem Ks.mono {R : Nat} {v : Value} {W W' : World} (k : Ks) (h : k.holds R v W) (hg : W.grownBy W' (some R)) : k.holds R v W' := by
  cases k with
  | rd => exact h
  | rng => exact h
  | txt n => exact h
  | val u => exact h
  | lit =>
    obtain ⟨g, h1, h2, h3, h4⟩ := h
    refine ⟨g, h1, h2, Nat.lt_of_lt_of_le h3 hg.size, fun i hi => ?_⟩
    obtain ⟨l, h5, h6, h7⟩ := h4 i hi
    exact ⟨l, h5, h6, (grown_cell11 hg h3 h2 i).trans h7⟩
  | adr =>
    obtain ⟨g, i, h1, h2, h3, l, h5, h6, h7⟩ := h
    exact ⟨g, i, h1, h2, Nat.lt_of_lt_of_le h3 hg.size, l, h5, h6, (grown_cell11 hg h3 h2 i).trans h7⟩
theorem four_cell (W : World) : ∀ i, i < 4 → ∃ l : List Nat, (∀ x ∈ l, x < 256) ∧ l.length ≤ 1 ∧ (W.alloc (.cells #[.string ⟨#[]⟩, .string ⟨#[40]⟩, .string ⟨#[41]⟩, .string ⟨#[120]⟩] 9)).cell? ⟨W.heap.size, i, none⟩ = some (.string (str l)) := fun i hi => by
  have hd := World.alloc_heap_new W (.cells #[.string ⟨#[]⟩, .string ⟨#[40]⟩, .string ⟨#[41]⟩, .string ⟨#[120]⟩] 9)
  generalize W.alloc (.cells #[.string ⟨#[]⟩, .string ⟨#[40]⟩, .string ⟨#[41]⟩, .string ⟨#[120]⟩] 9) = V at hd ⊢
  generalize W.heap.size = b at hd ⊢
  rcases (show i = 0 ∨ i = 1 ∨ i = 2 ∨ i = 3 by omega) with rfl | rfl | rfl | rfl
  · exact ⟨[], by simp, by simp, by simp only [World.cell?, hd]; rfl⟩
  · exact ⟨[40], by simp, by simp, by simp only [World.cell?, hd]; rfl⟩
  · exact ⟨[41], by simp, by simp, by simp only [World.cell?, hd]; rfl⟩
  · exact ⟨[120], by simp, by simp, by simp only [World.cell?, hd]; rfl⟩
def ksAt (ks : List Ks) (k : Nat) : Ks := (ks[k]?).getD (.txt 100)
/-- The law for a reader that no operation moves on by more than one. -/
theorem wp_region_reader11 {id : Nat} {ops : Array Oper} {Q : Exit → Act → World → Prop} {act : Act} {w : World} (W0 : World) (R len cap p : Nat) (a : Option Addr) (hm : Try.prog.follows .mixedOrders = true) (hb : backB ops = true) (hsz : ops.size ≤ 100)
    (hR : Rd W0 R a len cap w p) (fr : (Nat → Value) → Act) (ks : List Ks)
    (h0 : ∃ s, act = fr s) (hput : ∀ i o s v, ops[i]? = some o → (fr s).put o.dst v = fr (fun j => if j = i then v else s j))
    (hstep : ∀ i o s W q, q ≤ p + 100 → ops[i]? = some o → Rd W0 R a len cap W q → (∀ k, (o.after.any fun e => Region.binds .any e && e.on == k) = true → (ksAt ks k).holds R (s k) W) → ∀ Q' : Exit → Act → World → Prop,
      (∀ v W' q', q' ≤ q + 1 → Rd W0 R a len cap W' q' → W.grownBy W' (some R) → (ksAt ks i).holds R v W' → Q' .normal ((fr s).put o.dst v) W') → wpListIn Fence.wide 9 Try.prog ops Q' [o] (fr s) W)
    (hfin : ∀ s W q, Rd W0 R a len cap W q → (∀ k, k < ops.size → (ksAt ks k).holds R (s k) W) → Q .normal (fr s) W) : (Code.region id ops true).wp Try.prog Q act w := by
  refine wp_region_pred hm hb fr (fun c W => c ≤ ops.size ∧ ∃ q, q ≤ p + c ∧ Rd W0 R a len cap W q) (fun W W' => W.grownBy W' (some R)) (fun k v W => (ksAt ks k).holds R v W) h0 hput ⟨Nat.zero_le _, p, by omega, hR.drew⟩ (fun k v W W' h hg => Ks.mono _ h hg) ?_ ?_
  · rintro i o s W c hc ho ⟨_, q, hq, hRW⟩ hd Q' hQ'
    exact hstep i o s W q (by omega) ho hRW hd Q' (fun v W' q' hq' h1 h2 h3 => hQ' v W' ⟨by omega, q', by omega, h1⟩ h2 h3)
  · rintro s W ⟨c, hc, q, hq, hRW⟩ hall
    exact hfin s W q hRW hall

theorem drawWaysOf (w : World) (a : Option Addr) (len cap : Nat) (zs : List Int) (h : IsRow .u8 w a len cap zs) : Calls Try.prog 8 #[.slice a len cap] w fun e w' => Int1 e ∧ Below w.heap.size w w' := by
  go_enter Try.func8, Try.ntmps8
  go_wp2_with fail
  go_at_call 20
  refine (open_in w a len cap zs h).mono ?_
  rintro e w1 ⟨R, n, c, rfl, hb, hR⟩
  go_wp2_with fail
  go_at_call 21
  refine (pick_in w R n c _ a _ _ hb hR (by omega)).mono ?_
  rintro e w2 ⟨k, rfl, hk0, _, hk1, hR2, _⟩
  replace hk1 := hk1 (by omega)
  go_wp2
  go_ret
  exact ⟨⟨_, by first | exact wrap_fits _ | exact wrap64_fits _ | (unfold Fits; omega), rfl⟩, hR2.1⟩

theorem drawWaysTo (w : World) (a : Option Addr) (len cap : Nat) (zs : List Int) (h : IsRow .u8 w a len cap zs) : Calls Try.prog 12 #[.slice a len cap] w fun e w' => Int2 e ∧ Below w.heap.size w w' := by
  go_enter Try.func12, Try.ntmps12
  go_wp2_with fail
  go_at_call 20
  refine (open_in w a len cap zs h).mono ?_
  rintro e w1 ⟨R, n, c, rfl, hb, hR⟩
  go_wp2_with fail
  go_at_call 21
  refine (pick_in w R n c _ a _ _ hb hR (by omega)).mono ?_
  rintro e w2 ⟨x, rfl, hx0, _, hx1, hR2, _⟩
  replace hx1 := hx1 (by omega)
  go_wp2_with fail
  go_at_call 21
  refine (pick_in w R n c _ a _ _ hb hR2 (by omega)).mono ?_
  rintro e w3 ⟨y, rfl, hy0, _, hy1, hR3, _⟩
  replace hy1 := hy1 (by omega)
  go_wp2_with fail
  go_at_call 21
  refine (pick_in w R n c _ a _ _ hb hR3 (by omega)).mono ?_
  rintro e w4 ⟨z, rfl, hz0, _, hz1, hR4, _⟩
  replace hz1 := hz1 (by omega)
  go_wp2
  go_ret2
  exact ⟨⟨_, _, by unfold Fits; omega, by first | exact wrap_fits _ | exact wrap64_fits _ | (unfold Fits; omega), rfl⟩, hR4.1⟩
end Go.Proofs.Ytghfmoanpgaijaa
