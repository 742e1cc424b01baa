/-
  The model's l1Number: the digits of a number.
-/
import Derived.Test.YtkcbfiglmjdaiaaDoorBaseZ
import Derived.Test.YtkcbfiglmjdaiaaDoorMathZ
import Derived.Deep.QuietTactic
import Derived.BigQuiet
import Derived.Deep.RegionWith
import Derived.DeepKeys5
import Derived.Maps.Keyed
import Derived.Deep.DeepCutAuto
import Derived.Laws.AppendOwnNone
namespace Go.Proofs.YtkcbfiglmjdaiaaDoor
open Go.RowKit Go.Shelf
attribute [local go_sem] Oper.semAt_some

theorem decF_len : ∀ f n, (decF f n).length ≤ f + 1
  | 0, _ => by simp [decF]
  | f + 1, n => by
    unfold decF
    split
    · simp
    · have := decF_len f (n / 10); simp; omega
theorem decF_low (f n : Nat) (h : n < 10) : decF f n = [48 + n] := by
  cases f with
  | zero => unfold decF; rw [Nat.mod_eq_of_lt h]
  | succ f => unfold decF; rw [if_pos h]
/-- One byte made a text. -/
theorem byte_text (x : Nat) (w : World) (q : Nat) (hq : w.cell? ⟨q, 0, none⟩ = some (.int .u8 x)) : (convert 22 9 (.slice (some ⟨q, 0, none⟩) 1 1)).run Tryd.prog w = .ok (.string (str [x])) w := by
  rw [run_convert_bytes_string _ _ _ 5 _ _ _ Tryd.underlying22 Tryd.underlying5 Tryd.underlying9]
  rw [run_bytesToString _ ⟨q, 0, none⟩ 1 1 [(x : Int)] (run_loadCells_list _ ⟨q, 0, none⟩ [.int .u8 x] (fun j v hj => by
    match j, hj with
    | 0, hj =>
      simp at hj
      subst hj
      exact hq))]
  rfl

set_option maxRecDepth 100000 in
set_option maxHeartbeats 1000000 in
theorem specNumber : ∀ (f n : Nat), n < 10 ^ (f + 1) → n ≤ 1000000000000000000 → f ≤ 20 → ∀ w : World, Calls Tryd.prog 31 #[.int .i64 n] w fun e w' => e = .returned (.string (str (decF f n))) ∧ Below w.heap.size w w' := by
  intro f
  induction f with
  | zero =>
    intro n hn _ _ w
    have h10 : n < 10 := by simpa using hn
    have hni : (n : Int) < 10 := by omega
    have hc := fun w => byte_text (48 + n) (w.alloc (.cells #[.int .u8 (48 + n : Nat)] 5)) w.heap.size (Boxed.new w 5 _).cell
    rw [decF_low 0 n h10]
    obtain ⟨S, hS⟩ : ∃ S, str [48 + n] = S := ⟨_, rfl⟩
    rw [hS] at hc ⊢
    have hcast : ((48 + n : Nat) : Int) = 48 + (n : Int) := by omega
    simp only [hcast] at hc
    have hw1 : IntKind.i64.wrap (48 + (n : Int)) = 48 + (n : Int) := IntWalk.i64_in _ (by omega)
    have hw2 : IntKind.u8.wrap (48 + (n : Int)) = 48 + (n : Int) := IntWalk.u8_in _ (by omega)
    have hmx : ¬ (n : Int) < 0 := by omega
    clear hS hn h10 hcast
    go_enter Tryd.func31, Tryd.ntmps31
    go_wp2
    go_ret
    exact ⟨rfl, (Below.refl _ w).alloc (Nat.le_refl _) _⟩
  | succ f ih =>
    intro n hn hn18 hf w
    by_cases h10 : n < 10
    · have hb := ih n (by have : 10 ^ 1 ≤ 10 ^ (f + 1) := Nat.pow_le_pow_right (by omega) (by omega); omega) hn18 (by omega) w
      rw [decF_low _ n h10] at hb ⊢
      exact hb
    · have hni : ¬ (n : Int) < 10 := by omega
      have hqd : n / 10 < 10 ^ (f + 1) := by rw [Nat.div_lt_iff_lt_mul (by decide)]; rwa [Nat.pow_succ] at hn
      have hI := fun V => ih (n / 10) hqd (by omega) (by omega) V
      have hd : decF (f + 1) n = decF f (n / 10) ++ [48 + n % 10] := by conv => lhs; unfold decF; rw [if_neg h10]
      rw [hd]
      have hl := decF_len f (n / 10)
      have happ := str_app (decF f (n / 10)) [48 + n % 10]
      have hs1 := str_size (decF f (n / 10))
      have hs2 := str_size [48 + n % 10]
      have hq1 : Int.tmod (n : Int) 10 = ((n % 10 : Nat) : Int) := tmod_n n 10
      have hq2 : Int.tdiv (n : Int) 10 = ((n / 10 : Nat) : Int) := tdiv_n n 10
      have hr := Nat.mod_lt n (show 0 < 10 by decide)
      have hp := Nat.div_le_self n 10
      generalize n / 10 = p at *
      generalize n % 10 = r at *
      have hc := fun (W : World) (q : Nat) h => byte_text (48 + r) W q h
      obtain ⟨X, hX⟩ : ∃ X, str (decF f p) = X := ⟨_, rfl⟩
      obtain ⟨Y, hY⟩ : ∃ Y, str [48 + r] = Y := ⟨_, rfl⟩
      obtain ⟨Z, hZ⟩ : ∃ Z, str (decF f p ++ [48 + r]) = Z := ⟨_, rfl⟩
      rw [hX] at hI hs1 happ
      rw [hY] at hc hs2 happ
      rw [hZ] at happ ⊢
      have hXs : X.size ≤ 100 := by omega
      have hYs : Y.size ≤ 100 := by simp at hs2; omega
      have hw1 : IntKind.i64.wrap (r : Int) = r := IntWalk.i64_in _ (by omega)
      have hw2 : IntKind.i64.wrap (48 + (r : Int)) = 48 + (r : Int) := IntWalk.i64_in _ (by omega)
      have hw3 : IntKind.u8.wrap (48 + (r : Int)) = 48 + (r : Int) := IntWalk.u8_in _ (by omega)
      have hw4 : IntKind.i64.wrap (p : Int) = p := IntWalk.i64_in _ (by omega)
      have hcast : ((48 + r : Nat) : Int) = 48 + (r : Int) := by omega
      simp only [hcast] at hc
      clear ih hn hd hX hY hZ hs1 hs2 hqd hl hcast
      refine (callsIn_wide (n := 9)).1 ?_
      refine callsIn_of_wp Tryd.func31 rfl trivial ?_ rfl
      simp only [Tryd.ntmps31, List.size_toArray, List.length_cons, List.length_nil, Nat.reduceAdd, Nat.reduceSub, Array.replicate_succ, Array.replicate_zero, List.push_toArray, List.append_toArray, List.nil_append, List.cons_append]
      gi_wp2
      refine wpIn_region_kinds 9 (by kernel_rfl) (by kernel_rfl) (by kernel_rfl) (by decide)
        (fun s => { tmps := #[.int .i64 n, undef, .string ⟨#[]⟩, .int .i64 n, .bool false, undef, undef, undef, undef, undef, undef, s 0, s 1, s 2, s 3, s 4, s 5, s 6, s 7, s 8, undef], defers := [] })
        [.val (.int .i64 n), .val (.int .i64 p), .val (.string X), .val (.int .i64 n), .val (.int .i64 r), .val (.int .i64 (48 + (r : Int))), .val (.int .u8 (48 + (r : Int))), .one (.int .u8 (48 + (r : Int))), .val (.string Y)]
        ⟨fun _ => undef, rfl⟩ ?put ?step ?tail
      case put =>
        intro i o s v hi ho
        rcases (show i = 0 ∨ i = 1 ∨ i = 2 ∨ i = 3 ∨ i = 4 ∨ i = 5 ∨ i = 6 ∨ i = 7 ∨ i = 8 by omega) with rfl | rfl | rfl | rfl | rfl | rfl | rfl | rfl | rfl
        all_goals
          simp at ho
          subst ho
          simp [Act.put]
      case step =>
        rintro i o s V hi ho hV hd Q' hQ
        rcases (show i = 0 ∨ i = 1 ∨ i = 2 ∨ i = 3 ∨ i = 4 ∨ i = 5 ∨ i = 6 ∨ i = 7 ∨ i = 8 by omega) with rfl | rfl | rfl | rfl | rfl | rfl | rfl | rfl | rfl
        all_goals
          simp at ho
          subst ho
          simp [Act.put] at hQ
          have hQ' := hide hQ
          clear hQ
        case inl =>
          clear hd
          gi_wp2
          exact hQ'.out _ _ (Below.refl _ _) rfl
        case inr.inl =>
          have e1 : s 0 = .int .i64 n := hd 0 (by kernel_rfl)
          clear hd
          gi_wp2
          exact hQ'.out _ _ (Below.refl _ _) rfl
        case inr.inr.inl =>
          have e1 : s 1 = .int .i64 p := hd 1 (by kernel_rfl)
          clear hd
          gi_wp2_with (refine ⟨trivial, ?_⟩; gi_at_call 31; refine (callsIn_wide.2 (hI _)).mono ?_; rintro e w' ⟨rfl, hB'⟩)
          have hr' := hQ'.out
          rw [e1] at hr'
          exact hr' _ _ hB' rfl
        case inr.inr.inr.inl =>
          clear hd
          gi_wp2
          exact hQ'.out _ _ (Below.refl _ _) rfl
        case inr.inr.inr.inr.inl =>
          have e1 : s 3 = .int .i64 n := hd 3 (by kernel_rfl)
          clear hd
          gi_wp2
          exact hQ'.out _ _ (Below.refl _ _) rfl
        case inr.inr.inr.inr.inr.inl =>
          have e1 : s 4 = .int .i64 r := hd 4 (by kernel_rfl)
          clear hd
          gi_wp2
          exact hQ'.out _ _ (Below.refl _ _) rfl
        case inr.inr.inr.inr.inr.inr.inl =>
          have e1 : s 5 = .int .i64 (48 + (r : Int)) := hd 5 (by kernel_rfl)
          clear hd
          gi_wp2
          exact hQ'.out _ _ (Below.refl _ _) rfl
        case inr.inr.inr.inr.inr.inr.inr.inl =>
          have e1 : s 6 = .int .u8 (48 + (r : Int)) := hd 6 (by kernel_rfl)
          clear hd
          gi_wp2
          exact hQ'.out _ _ ((Below.refl _ V).alloc (Nat.le_refl _) _) ⟨V.heap.size, rfl, by simp, (Boxed.new V 5 _).cell⟩
        case inr.inr.inr.inr.inr.inr.inr.inr =>
          obtain ⟨q, e1, hq, hcq⟩ : ∃ q, s 7 = .slice (some ⟨q, 0, none⟩) 1 1 ∧ q < V.heap.size ∧ V.cell? ⟨q, 0, none⟩ = some (.int .u8 (48 + (r : Int))) := hd 7 (by kernel_rfl)
          have hcv := hc V q hcq
          clear hd hc
          gi_wp2
          exact hQ'.out _ _ (Below.refl _ _) rfl
      case tail =>
        rintro s V hV hd
        have e2 : s 2 = .string X := hd 2 (by omega)
        have e8 : s 8 = .string Y := hd 8 (by omega)
        clear hd
        simp only [List.drop_succ_cons, List.drop_zero]
        gi_wp2
        refine bodyPost_ret (results_tmp rfl _ _ _) rfl ⟨rfl, hV⟩
end Go.Proofs.YtkcbfiglmjdaiaaDoor
/-
  The model's l1Digits and l1Cut.
-/
namespace Go.Proofs.YtkcbfiglmjdaiaaDoor
open Go.RowKit

/-- The number of a text, -1 if it is none. -/
def digI (l : List Nat) : Int := match digT l with | some n => n | none => -1
theorem digL_cons (c : Nat) (r : List Nat) (n : Nat) : digL (c :: r) n = if 48 ≤ c ∧ c ≤ 57 then digL r (10 * n + (c - 48)) else none := rfl
theorem digI_short {l : List Nat} (h : l.length < 1 ∨ 9 < l.length) : digI l = -1 := by
  unfold digI digT
  rw [if_neg (by omega)]
theorem digI_lead {l : List Nat} (h : 1 < l.length) (h0 : l.getD 0 0 = 48) : digI l = -1 := by
  unfold digI digT
  rw [if_neg (by rintro ⟨_, _, h3⟩; exact h3 ⟨h, h0⟩)]
theorem digI_loop {l : List Nat} (h1 : 1 ≤ l.length) (h9 : l.length ≤ 9) (h0 : ¬ (1 < l.length ∧ l.getD 0 0 = 48)) : digI l = match digL l 0 with | some n => (n : Int) | none => -1 := by
  unfold digI digT
  rw [if_pos ⟨h1, h9, h0⟩]

end Go.Proofs.YtkcbfiglmjdaiaaDoor
/-
  The model's l1Cut: what stands between the bytes of a kind.
-/
namespace Go.Proofs.YtkcbfiglmjdaiaaDoor
open Go.RowKit

theorem take_next (l : List Nat) (f k : Nat) (hf : f ≤ k) (hk : k < l.length) : (l.drop f).take (k + 1 - f) = (l.drop f).take (k - f) ++ [l.getD k 0] := by
  rw [show k + 1 - f = k - f + 1 by omega, List.take_add_one, List.getElem?_drop, show f + (k - f) = k by omega, List.getD, List.getElem?_eq_getElem hk]
  rfl
theorem take_none (l : List Nat) (k : Nat) : (l.drop k).take (k - k) = [] := by rw [Nat.sub_self]; rfl
theorem cutL_hit (sep : Nat) (line r : List Nat) : cutL sep line (sep :: r) = line :: cutL sep [] r := by rw [cutL, if_pos rfl]
theorem cutL_other {sep c : Nat} (h : c ≠ sep) (line r : List Nat) : cutL sep line (c :: r) = cutL sep (line ++ [c]) r := by rw [cutL, if_neg h]

end Go.Proofs.YtkcbfiglmjdaiaaDoor
/-
  Contracts of the draws: a reader's pick hands back a number within its bounds and writes its own block alone; l20Open; l20Row.
-/
namespace Go.Proofs.YtkcbfiglmjdaiaaDoor
open Go.RowKit

/-- The bytes that came in: none, or a row of cells that lay when the law began. -/
def Bytes (W0 : World) (a : Option Addr) (len : Nat) : Prop :=
  len ≤ 2000 ∧ (0 < len → ∃ b off, a = some ⟨b, off, none⟩ ∧ b < W0.heap.size ∧ ∃ z : Nat → Int, (∀ i, 0 ≤ z i ∧ z i ≤ 255) ∧ ∀ i, i < len → W0.cell? ⟨b, off + i, none⟩ = some (.int .u8 (z i)))

/-- The reader in block R: the bytes, and how many have been picked. -/
def Rd (W0 : World) (R : Nat) (a : Option Addr) (len cap : Nat) (w : World) (p : Nat) : Prop :=
  Below W0.heap.size W0 w ∧ W0.heap.size ≤ R ∧ w.heap[R]? = some (.cells #[.slice a len cap, .int .i64 p] 56 (0, 0))

theorem Rd.cell0 {W0 w : World} {R len cap p : Nat} {a : Option Addr} (h : Rd W0 R a len cap w p) : w.cell? ⟨R, 0, none⟩ = some (.slice a len cap) := by
  rw [cell_of_row w R 0 _ _ _ h.2.2]; rfl
theorem Rd.cell1 {W0 w : World} {R len cap p : Nat} {a : Option Addr} (h : Rd W0 R a len cap w p) : w.cell? ⟨R, 1, none⟩ = some (.int .i64 p) := by
  rw [cell_of_row w R 1 _ _ _ h.2.2]; rfl
theorem Rd.frozen {W0 w : World} {R len cap p : Nat} {a : Option Addr} (h : Rd W0 R a len cap w p) (i : Nat) : w.frozen? ⟨R, i, none⟩ = false := by
  simp [World.frozen?, h.2.2]
theorem Rd.set {W0 w : World} {R len cap p : Nat} {a : Option Addr} (h : Rd W0 R a len cap w p) (q : Nat) : Rd W0 R a len cap (w.setCell ⟨R, 1, none⟩ (.int .i64 q)) q := by
  obtain ⟨h1, h2, h3⟩ := h
  obtain ⟨hlt, hk⟩ := Array.getElem?_eq_some_iff.1 h3
  refine ⟨h1.setCell h2 _, h2, ?_⟩
  show (w.heap.modify R _)[R]? = _
  rw [Array.getElem?_eq_getElem (by rw [Array.size_modify]; exact hlt), Array.getElem_modify_self, hk]; rfl
theorem Rd.kept {W0 w w' : World} {R len cap p : Nat} {a : Option Addr} {row : Option Nat} (h : Rd W0 R a len cap w p) (hg : w.grownBy w' row) (hr : some R ≠ row) (hrow : ∀ k, row = some k → W0.heap.size ≤ k) : Rd W0 R a len cap w' p := by
  obtain ⟨h1, h2, h3⟩ := h
  exact ⟨h1.grown hg h1.size hrow, h2, (hg.block R (Array.getElem?_eq_some_iff.1 h3).1 hr).trans h3⟩

theorem xor_i64 (a b : Nat) (ha : a < 4294967296) (hb : b < 4294967296) : bits .xor .i64 (a : Int) (b : Int) = ((a ^^^ b : Nat) : Int) := by
  have hx : a ^^^ b < 2 ^ 32 := Nat.xor_lt_two_pow (by omega) (by omega)
  have h1 : (BitVec.ofInt 64 (a : Int)).toNat = a := by
    rw [BitVec.ofInt_natCast, BitVec.toNat_ofNat]; exact Nat.mod_eq_of_lt (by omega)
  have h2 : (BitVec.ofInt 64 (b : Int)).toNat = b := by
    rw [BitVec.ofInt_natCast, BitVec.toNat_ofNat]; exact Nat.mod_eq_of_lt (by omega)
  show IntKind.i64.wrap ((BitVec.ofInt 64 (a : Int) ^^^ BitVec.ofInt 64 (b : Int)).toNat : Int) = _
  rw [BitVec.toNat_xor, h1, h2]
  exact IntWalk.i64_in _ (by omega)
theorem xor_nonneg (T : Int) (h0 : 0 ≤ T) (h1 : T ≤ 2000000000) : 0 ≤ bits .xor .i64 T (T / 64) := by
  obtain ⟨t, rfl⟩ : ∃ t : Nat, T = t := ⟨T.toNat, by omega⟩
  rw [show (t : Int) / 64 = ((t / 64 : Nat) : Int) by omega, xor_i64 _ _ (by omega) (by omega)]
  omega

theorem Rd.alloc {W0 w : World} {R len cap p : Nat} {a : Option Addr} (h : Rd W0 R a len cap w p) (o : Obj) : Rd W0 R a len cap (w.alloc o) p := h.kept (World.grownBy_alloc w o none) (by simp) (fun _ h => by cases h)
theorem Rd.drew {W0 w : World} {R len cap p : Nat} {a : Option Addr} (h : Rd W0 R a len cap w p) : Rd W0 R a len cap w.drew p := ⟨⟨h.1.os, h.1.tape, h.1.output, h.1.size, h.1.block⟩, h.2.1, h.2.2⟩
theorem Rd.ne {W0 w : World} {R len cap p : Nat} {a : Option Addr} (h : Rd W0 R a len cap w p) : (w.heap.size = R) = False := by
  have := (Array.getElem?_eq_some_iff.1 h.2.2).1
  simp; omega
/-- All blocks but R lie as they lay, and none is new. -/
def Only (R : Nat) (w w' : World) : Prop := ∀ k, k ≠ R → w'.heap[k]? = w.heap[k]?
theorem only_cells {W w' : World} {R : Nat} (h : Only R W w') : ∀ b o, b ≠ R → w'.cell? ⟨b, o, none⟩ = W.cell? ⟨b, o, none⟩ :=
  fun b _ hb => World.cell?_of_block (w := W) (h b hb)
theorem only_set (w : World) (R : Nat) (v : Value) : Only R w (w.setCell ⟨R, 1, none⟩ v) := fun k hk => Below.heap_setCell _ _ _ k hk

/-- What pick leaves. -/
def Picked (W0 : World) (R : Nat) (a : Option Addr) (len cap p : Nat) (n : Int) (w : World) (e : Ending) (w' : World) : Prop :=
  ∃ x : Int, e = .returned (.int .i64 x) ∧ 0 ≤ x ∧ (n < 1 → x = 0) ∧ (1 ≤ n → x < n) ∧ Rd W0 R a len cap w' (p + 1) ∧ w.grownBy w' (some R) ∧ Only R w w'

set_option maxHeartbeats 400000 in
theorem pick_in (W0 : World) (R len cap p : Nat) (a : Option Addr) (n : Int) (w : World) (hb : Bytes W0 a len) (h : Rd W0 R a len cap w p) (hp : p ≤ 1000000) :
    Calls Tryd.prog 24 #[.pointer (some ⟨R, 0, none⟩), .int .i64 n] w (Picked W0 R a len cap p n w) := by
  have hc0 := h.cell0
  have hc1 := h.cell1
  have hf1 := h.frozen 1
  have hset := h.set (p + 1)
  have hd0 : (w.setCell ⟨R, 1, none⟩ (.int .i64 ((p : Int) + 1))).cell? ⟨R, 0, none⟩ = some (.slice a len cap) := hset.cell0
  have hd1 : (w.setCell ⟨R, 1, none⟩ (.int .i64 ((p : Int) + 1))).cell? ⟨R, 1, none⟩ = some (.int .i64 ((p : Int) + 1)) := hset.cell1
  have hgr : w.grownBy (w.setCell ⟨R, 1, none⟩ (.int .i64 ((p : Int) + 1))) (some R) := grownBy_set (grownBy_refl _ _) _ _
  by_cases hn1 : n < 1
  · go_enter Tryd.func24, Tryd.ntmps24
    go_wp2
    go_ret
    exact ⟨0, rfl, by omega, fun _ => rfl, fun h => by omega, hset, hgr, only_set _ _ _⟩
  · by_cases hl : len = 0
    · subst hl
      go_enter Tryd.func24, Tryd.ntmps24
      go_wp2
      go_ret
      exact ⟨0, rfl, by omega, fun _ => rfl, fun h => by omega, hset, hgr, only_set _ _ _⟩
    · obtain ⟨hlen, hbb⟩ := hb
      obtain ⟨b, off, rfl, hbW, z, hz, hcells⟩ := hbb (by omega)
      have hl1 : ((len : Int) == 0) = false := by simp; omega
      by_cases hpl : p < len
      · have hcp : (w.setCell ⟨R, 1, none⟩ (.int .i64 ((p : Int) + 1))).cell? ⟨b, off + p, none⟩ = some (.int .u8 (z p)) := (hset.1.cell (by exact hbW)).trans (hcells p hpl)
        have hzp := hz p
        generalize z p = zp at hcp hzp
        clear hcells hz hbb
        go_enter Tryd.func24, Tryd.ntmps24
        go_wp2
        go_ret
        exact ⟨zp % n, rfl, Int.emod_nonneg _ (by omega), fun h => by omega, fun _ => Int.emod_lt_of_pos _ (by omega), hset, hgr, only_set _ _ _⟩
      · obtain ⟨m1, hm1, hq1⟩ : ∃ m1 : Nat, m1 < len ∧ Int.tmod (p : Int) (len : Int) = (m1 : Int) := ⟨p % len, Nat.mod_lt _ (by omega), by rw [Int.tmod_eq_emod_of_nonneg (by omega)]; rfl⟩
        obtain ⟨m2, hm2, hq2⟩ : ∃ m2 : Nat, m2 < len ∧ Int.tmod ((p : Int) * 7 + 3) (len : Int) = (m2 : Int) := ⟨(p * 7 + 3) % len, Nat.mod_lt _ (by omega), by rw [Int.tmod_eq_emod_of_nonneg (by omega)]; rfl⟩
        obtain ⟨q, hq0, hqp, hq3⟩ : ∃ q : Int, 0 ≤ q ∧ q ≤ 1000000 ∧ Int.tdiv (p : Int) (len : Int) = q := ⟨_, Int.tdiv_nonneg (by omega) (by omega), by rw [Int.tdiv_eq_ediv_of_nonneg (by omega)]; have := Int.ediv_le_self (a := (p : Int)) (len : Int) (by omega); omega, rfl⟩
        have hcp1 : (w.setCell ⟨R, 1, none⟩ (.int .i64 ((p : Int) + 1))).cell? ⟨b, off + m1, none⟩ = some (.int .u8 (z m1)) := (hset.1.cell (by exact hbW)).trans (hcells m1 hm1)
        have hcp2 : (w.setCell ⟨R, 1, none⟩ (.int .i64 ((p : Int) + 1))).cell? ⟨b, off + m2, none⟩ = some (.int .u8 (z m2)) := (hset.1.cell (by exact hbW)).trans (hcells m2 hm2)
        have hz1 := hz m1
        have hz2 := hz m2
        generalize z m1 = z1 at hcp1 hz1
        generalize z m2 = z2 at hcp2 hz2
        clear hcells hz hbb
        have hw1 : IntKind.i64.wrap (z1 * 131) = z1 * 131 := IntWalk.i64_in _ (by omega)
        have hw2 : IntKind.i64.wrap (z2 * 1117) = z2 * 1117 := IntWalk.i64_in _ (by omega)
        have hw3 : IntKind.i64.wrap (z1 * 131 + z2 * 1117) = z1 * 131 + z2 * 1117 := IntWalk.i64_in _ (by omega)
        have hw4 : IntKind.i64.wrap ((p : Int) * 29) = (p : Int) * 29 := IntWalk.i64_in _ (by omega)
        have hw5 : IntKind.i64.wrap (z1 * 131 + z2 * 1117 + (p : Int) * 29) = z1 * 131 + z2 * 1117 + (p : Int) * 29 := IntWalk.i64_in _ (by omega)
        have hw6 : IntKind.i64.wrap (q * 53) = q * 53 := IntWalk.i64_in _ (by omega)
        have hw7 : IntKind.i64.wrap (z1 * 131 + z2 * 1117 + (p : Int) * 29 + q * 53) = z1 * 131 + z2 * 1117 + (p : Int) * 29 + q * 53 := IntWalk.i64_in _ (by omega)
        have hw8 : IntKind.i64.wrap ((p : Int) * 7) = (p : Int) * 7 := IntWalk.i64_in _ (by omega)
        have hw9 : IntKind.i64.wrap ((p : Int) * 7 + 3) = (p : Int) * 7 + 3 := IntWalk.i64_in _ (by omega)
        have hw10 : IntKind.i64.wrap (q : Int) = q := IntWalk.i64_in _ (by omega)
        have hw11 : IntKind.i64.wrap (m1 : Int) = m1 := IntWalk.i64_in _ (by omega)
        have hw12 : IntKind.i64.wrap (m2 : Int) = m2 := IntWalk.i64_in _ (by omega)
        go_enter Tryd.func24, Tryd.ntmps24
        go_wp2
        go_quiet (fail)
        clear hw1 hw2 hw3 hw4 hw5 hw6 hw7 hw8 hw9 hw10 hw11 hw12 hq1 hq2 hq3
        obtain ⟨T, hT, hT0, hT1⟩ : ∃ T : Int, z1 * 131 + z2 * 1117 + (p : Int) * 29 + q * 53 = T ∧ 0 ≤ T ∧ T ≤ 2000000000 := ⟨_, rfl, by omega, by omega⟩
        rw [hT]
        clear hT
        have hx := xor_nonneg T hT0 hT1
        generalize hX : bits .xor .i64 T (T / 64) = X at hx
        go_wp2
        go_ret
        have hD : w.grownBy ((w.setCell ⟨R, 1, none⟩ (.int .i64 ((p : Int) + 1))).drewN nq) (some R) := ⟨hgr.os, hgr.tape, hgr.output, hgr.size, hgr.block⟩
        have hS : Rd W0 R (some ⟨b, off, none⟩) len cap ((w.setCell ⟨R, 1, none⟩ (.int .i64 ((p : Int) + 1))).drewN nq) (p + 1) := ⟨⟨hset.1.os, hset.1.tape, hset.1.output, hset.1.size, hset.1.block⟩, hset.2.1, hset.2.2⟩
        exact ⟨X % n, rfl, Int.emod_nonneg _ (by omega), fun h => by omega, fun _ => Int.emod_lt_of_pos _ (by omega), hS, hD, only_set _ _ _⟩
end Go.Proofs.YtkcbfiglmjdaiaaDoor
/-
  What the draws hand back: numbers that fit 64 bits.
-/
namespace Go.Proofs.YtkcbfiglmjdaiaaDoor
open Go.RowKit

/-- A number that fits 64 bits. -/
def Fits (x : Int) : Prop := -9223372036854775808 ≤ x ∧ x ≤ 9223372036854775807
theorem wrap_fits (n : Int) : Fits (IntKind.i64.wrap n) := by
  unfold Fits IntKind.wrap
  simp [IntKind.signed, IntKind.bits]
  split <;> omega
theorem wrap64_fits (n : Int) : Fits (wrap64 n) := by
  unfold Fits wrap64; omega
/-- It returns one, two, three numbers. -/
def Int1 (e : Ending) : Prop := ∃ x : Int, Fits x ∧ e = .returned (.int .i64 x)
def Int2 (e : Ending) : Prop := ∃ x y : Int, Fits x ∧ Fits y ∧ e = .returned (.tuple #[.int .i64 x, .int .i64 y])
def Int3 (e : Ending) : Prop := ∃ x y z : Int, Fits x ∧ Fits y ∧ Fits z ∧ e = .returned (.tuple #[.int .i64 x, .int .i64 y, .int .i64 z])

/-- The one of three numbers at a place. -/
def sel (i : Nat) (a b c : Int) : Int := if i = 0 then a else if i = 1 then b else c
theorem sel_at {i : Nat} (hi : i < 3) (a b c : Int) : (#[.int .i64 a, .int .i64 b, .int .i64 c] : Array Value)[i]? = some (.int .i64 (sel i a b c)) := by
  match i, hi with
  | 0, _ => rfl
  | 1, _ => rfl
  | 2, _ => rfl
theorem sel_cell {i : Nat} (hi : i < 3) (W : World) (a b c : Int) : (W.alloc (.cells #[.int .i64 a, .int .i64 b, .int .i64 c] 3)).cell? ⟨W.heap.size, i, none⟩ = some (.int .i64 (sel i a b c)) := by
  rw [World.cell?_alloc_at _ _ _ _ rfl]; exact sel_at hi a b c
end Go.Proofs.YtkcbfiglmjdaiaaDoor
/-
  Deeds compared; the model's DeedText.
-/
namespace Go.Proofs.YtkcbfiglmjdaiaaDoor
open Go.RowKit

/-- A deed. -/
def dV (k n : Int) : Value := .agg #[.int .i64 k, .int .i64 n]
theorem laidOut12 : laidOutB Tryd.prog = true := by kernel_rfl
theorem keyedDeed : Maps.Keyed Tryd.prog 36 := Maps.Keyed.of_law (deep_law_gate laidOut12 (of_decide_eq_true (by kernel_rfl)) (of_decide_eq_true (by kernel_rfl)) (by kernel_rfl) (by kernel_rfl))
theorem types_three : ∃ d, Tryd.prog.types.size + 1 = d + 3 := ⟨Tryd.prog.types.size - 2, by have : 3 ≤ Tryd.prog.types.size := of_decide_eq_true (by kernel_rfl); omega⟩
theorem key_deed (k n : Int) (hk : Fits k) (hn : Fits n) : ∃ l, keyOf Tryd.prog 36 (dV k n) = some l := by
  obtain ⟨d, hd⟩ := types_three
  have h1 : Tryd.prog.keyType 36 = true := by kernel_rfl
  have h0 : Tryd.prog.cellsOf 36 = 2 := by kernel_rfl
  have h3 : Tryd.prog.cellsOf 3 = 1 := by kernel_rfl
  have w0 : (Lit.int .i64 k).wf = true := WalkArith.wf_i64 hk
  have w1 : (Lit.int .i64 n).wf = true := WalkArith.wf_i64 hn
  refine Option.isSome_iff_exists.1 ?_
  unfold keyOf dV
  rw [Tryd.underlying36, hd]
  simp [h1, Value.formed, Tryd.underlying36, h0, Value.cells, Program.keyLits, h3, Tryd.underlying3, w0, w1]
theorem equal_deed {k n k' n' : Int} (hk : Fits k) (hn : Fits n) (hk' : Fits k') (hn' : Fits n') (w : World) :
    (Op.equalIn 10000 36 (.agg #[.int .i64 k, .int .i64 n]) (.agg #[.int .i64 k', .int .i64 n'])).run Tryd.prog w = .ok (decide (k = k' ∧ n = n')) w := by
  obtain ⟨l, hl⟩ := key_deed k n hk hn
  obtain ⟨m, hm⟩ := key_deed k' n' hk' hn'
  obtain ⟨r, h1, h2⟩ := run_equal_deep (P := Tryd.prog) w (m := Tryd.prog.types.size + 1) (of_decide_eq_true (by kernel_rfl)) (k := 36) (by kernel_rfl) (by kernel_rfl) hl hm
  have h3 : r = decide (k = k' ∧ n = n') := by
    rw [Bool.eq_iff_iff, h2, decide_eq_true_eq]
    constructor
    · intro e
      subst e
      have := keyedDeed.inj hl hm
      unfold dV at this
      simpa using this
    · rintro ⟨rfl, rfl⟩
      rw [hl] at hm
      injection hm
  rw [← h3]
  exact h1

theorem decF_small (n : Nat) (h : n < 100) : (decF 20 n).length ≤ 2 := by
  unfold decF
  split
  · simp
  · rw [decF_low _ _ (by omega)]; simp
set_option maxRecDepth 100000 in
set_option maxHeartbeats 2000000 in
theorem specDeedText (k n : Int) (hk : Fits k) (hn : Fits n) (w : World) : Calls Tryd.prog 17 #[dV k n] w fun e w' => e = .returned (.string (str (deedT k n))) ∧ Below w.heap.size w w' := by
  have hB0 : Below w.heap.size w (w.alloc (.cells #[.int .i64 k, .int .i64 n] 36)) := (Below.refl _ w).alloc (Nat.le_refl _) _
  have q2 := equal_deed hk hn (k' := 2) (n' := 0) (by constructor <;> omega) (by constructor <;> omega) (w.alloc (.cells #[.int .i64 k, .int .i64 n] 36))
  have q3 := equal_deed hk hn (k' := 3) (n' := 0) (by constructor <;> omega) (by constructor <;> omega) (w.alloc (.cells #[.int .i64 k, .int .i64 n] 36))
  have q4 := equal_deed hk hn (k' := 4) (n' := 0) (by constructor <;> omega) (by constructor <;> omega) (w.alloc (.cells #[.int .i64 k, .int .i64 n] 36))
  have q5 := equal_deed hk hn (k' := 5) (n' := 0) (by constructor <;> omega) (by constructor <;> omega) (w.alloc (.cells #[.int .i64 k, .int .i64 n] 36))
  unfold dV
  by_cases h0 : k = 0 ∧ 0 ≤ n ∧ n ≤ 99
  · obtain ⟨rfl, h1, h2⟩ := h0
    obtain ⟨m, rfl⟩ : ∃ m : Nat, n = m := ⟨n.toNat, by omega⟩
    have hN := fun V => specNumber 20 m (Nat.lt_of_lt_of_le (show m < 100 by omega) (by decide)) (by omega) (by omega) V
    have happ := str_app [102, 108, 105, 112, 32] (decF 20 m)
    have hsz := str_size (decF 20 m)
    have hsl := decF_small m (by omega)
    have hd : deedT 0 m = [102, 108, 105, 112, 32] ++ decF 20 m := by unfold deedT; rw [if_pos ⟨rfl, h1, h2⟩]; rfl
    rw [hd]
    obtain ⟨X, hX⟩ : ∃ X, str (decF 20 m) = X := ⟨_, rfl⟩
    obtain ⟨Z, hZ⟩ : ∃ Z, str ([102, 108, 105, 112, 32] ++ decF 20 m) = Z := ⟨_, rfl⟩
    rw [hX] at hN happ hsz
    rw [hZ] at happ ⊢
    have happ2 : (⟨#[102, 108, 105, 112, 32]⟩ : ByteArray) ++ X = Z := happ
    have hXs : X.size ≤ 100 := by omega
    clear q2 q3 q4 q5 hd hX hZ hsz hsl happ
    go_enter Tryd.func17, Tryd.ntmps17
    go_wp2_with (first
      | (go_at_call 30; refine (l1In_t _ _ _ _ (by omega) (by omega)).mono ?_; rintro e w' ⟨rfl, rfl⟩)
      | (go_at_call 31; refine (hN _).mono ?_; rintro e w3 ⟨rfl, hB3⟩))
    go_ret
    exact ⟨rfl, hB0.trans (hB3.mono hB0.size)⟩
  by_cases h1 : k = 1 ∧ 0 ≤ n ∧ n ≤ 9
  · obtain ⟨rfl, h1, h2⟩ := h1
    obtain ⟨m, rfl⟩ : ∃ m : Nat, n = m := ⟨n.toNat, by omega⟩
    have hN := fun V => specNumber 20 m (Nat.lt_of_lt_of_le (show m < 100 by omega) (by decide)) (by omega) (by omega) V
    have happ := str_app [112, 117, 116, 32] (decF 20 m)
    have hsz := str_size (decF 20 m)
    have hsl := decF_small m (by omega)
    have hd : deedT 1 m = [112, 117, 116, 32] ++ decF 20 m := by unfold deedT; rw [if_neg (by omega), if_pos ⟨rfl, h1, h2⟩]; rfl
    rw [hd]
    obtain ⟨X, hX⟩ : ∃ X, str (decF 20 m) = X := ⟨_, rfl⟩
    obtain ⟨Z, hZ⟩ : ∃ Z, str ([112, 117, 116, 32] ++ decF 20 m) = Z := ⟨_, rfl⟩
    rw [hX] at hN happ hsz
    rw [hZ] at happ ⊢
    have happ2 : (⟨#[112, 117, 116, 32]⟩ : ByteArray) ++ X = Z := happ
    have hXs : X.size ≤ 100 := by omega
    clear q2 q3 q4 q5 hd hX hZ hsz hsl happ
    go_enter Tryd.func17, Tryd.ntmps17
    go_wp2_with (first
      | (go_at_call 30; refine (l1In_t _ _ _ _ (by omega) (by omega)).mono ?_; rintro e w' ⟨rfl, rfl⟩)
      | (go_at_call 31; refine (hN _).mono ?_; rintro e w3 ⟨rfl, hB3⟩))
    go_ret
    exact ⟨rfl, hB0.trans (hB3.mono hB0.size)⟩
  by_cases h2 : k = 2 ∧ n = 0
  · obtain ⟨rfl, rfl⟩ := h2
    have hd : deedT 2 0 = [117, 110, 100, 101, 114] := rfl
    rw [hd]
    have e2 : decide ((2 : Int) = 2 ∧ (0 : Int) = 0) = true := by decide
    have e3 : decide ((2 : Int) = 3 ∧ (0 : Int) = 0) = false := by decide
    have e4 : decide ((2 : Int) = 4 ∧ (0 : Int) = 0) = false := by decide
    have e5 : decide ((2 : Int) = 5 ∧ (0 : Int) = 0) = false := by decide
    rw [e2] at q2
    rw [e3] at q3
    rw [e4] at q4
    rw [e5] at q5
    clear hd e2 e3 e4 e5
    go_enter Tryd.func17, Tryd.ntmps17
    go_wp2
    go_ret
    exact ⟨rfl, hB0⟩
  by_cases h3 : k = 3 ∧ n = 0
  · obtain ⟨rfl, rfl⟩ := h3
    have hd : deedT 3 0 = [116, 117, 114, 110] := rfl
    rw [hd]
    have e2 : decide ((3 : Int) = 2 ∧ (0 : Int) = 0) = false := by decide
    have e3 : decide ((3 : Int) = 3 ∧ (0 : Int) = 0) = true := by decide
    have e4 : decide ((3 : Int) = 4 ∧ (0 : Int) = 0) = false := by decide
    have e5 : decide ((3 : Int) = 5 ∧ (0 : Int) = 0) = false := by decide
    rw [e2] at q2
    rw [e3] at q3
    rw [e4] at q4
    rw [e5] at q5
    clear hd e2 e3 e4 e5
    go_enter Tryd.func17, Tryd.ntmps17
    go_wp2
    go_ret
    exact ⟨rfl, hB0⟩
  by_cases h4 : k = 4 ∧ n = 0
  · obtain ⟨rfl, rfl⟩ := h4
    have hd : deedT 4 0 = [114, 111, 117, 110, 100] := rfl
    rw [hd]
    have e2 : decide ((4 : Int) = 2 ∧ (0 : Int) = 0) = false := by decide
    have e3 : decide ((4 : Int) = 3 ∧ (0 : Int) = 0) = false := by decide
    have e4 : decide ((4 : Int) = 4 ∧ (0 : Int) = 0) = true := by decide
    have e5 : decide ((4 : Int) = 5 ∧ (0 : Int) = 0) = false := by decide
    rw [e2] at q2
    rw [e3] at q3
    rw [e4] at q4
    rw [e5] at q5
    clear hd e2 e3 e4 e5
    go_enter Tryd.func17, Tryd.ntmps17
    go_wp2
    go_ret
    exact ⟨rfl, hB0⟩
  by_cases h5 : k = 5 ∧ n = 0
  · obtain ⟨rfl, rfl⟩ := h5
    have hd : deedT 5 0 = [98, 97, 99, 107] := rfl
    rw [hd]
    have e2 : decide ((5 : Int) = 2 ∧ (0 : Int) = 0) = false := by decide
    have e3 : decide ((5 : Int) = 3 ∧ (0 : Int) = 0) = false := by decide
    have e4 : decide ((5 : Int) = 4 ∧ (0 : Int) = 0) = false := by decide
    have e5 : decide ((5 : Int) = 5 ∧ (0 : Int) = 0) = true := by decide
    rw [e2] at q2
    rw [e3] at q3
    rw [e4] at q4
    rw [e5] at q5
    clear hd e2 e3 e4 e5
    go_enter Tryd.func17, Tryd.ntmps17
    go_wp2
    go_ret
    exact ⟨rfl, hB0⟩
  have hd : deedT k n = [] := by
    unfold deedT
    rw [if_neg h0, if_neg h1, if_neg h2, if_neg h3, if_neg h4, if_neg h5]
  rw [hd]
  rw [decide_eq_false h2] at q2
  rw [decide_eq_false h3] at q3
  rw [decide_eq_false h4] at q4
  rw [decide_eq_false h5] at q5
  have g2 := hide h2
  have g3 := hide h3
  have g4 := hide h4
  have g5 := hide h5
  clear hd h2 h3 h4 h5
  by_cases k0 : k = 0
  · subst k0
    have hb : n < 0 ∨ 99 < n := by omega
    clear h0 h1
    go_enter Tryd.func17, Tryd.ntmps17
    go_wp2_with (go_at_call 30; refine (l1In_f _ _ _ _ (by assumption)).mono ?_; rintro e w' ⟨rfl, rfl⟩)
    go_ret
    exact ⟨rfl, hB0⟩
  · by_cases k1 : k = 1
    · subst k1
      have hb : n < 0 ∨ 9 < n := by omega
      clear h0 h1
      go_enter Tryd.func17, Tryd.ntmps17
      go_wp2_with (go_at_call 30; refine (l1In_f _ _ _ _ (by assumption)).mono ?_; rintro e w' ⟨rfl, rfl⟩)
      go_ret
      exact ⟨rfl, hB0⟩
    · have b0 : (k == 0) = false := by rw [beq_eq_false_iff_ne]; exact k0
      have b1 : (k == 1) = false := by rw [beq_eq_false_iff_ne]; exact k1
      clear h0 h1
      go_enter Tryd.func17, Tryd.ntmps17
      go_wp2
      all_goals try subst_vars
      all_goals first
        | exact absurd ⟨rfl, rfl⟩ g2.out
        | exact absurd ⟨rfl, rfl⟩ g3.out
        | exact absurd ⟨rfl, rfl⟩ g4.out
        | exact absurd ⟨rfl, rfl⟩ g5.out
        | (go_ret; exact ⟨rfl, hB0⟩)
end Go.Proofs.YtkcbfiglmjdaiaaDoor
/-
  The model's ReadDeed.
-/
namespace Go.Proofs.YtkcbfiglmjdaiaaDoor
open Go.RowKit Go.Shelf
attribute [local go_sem] Oper.semAt_some

/-- Deeds as cells. -/
def cellsD (L : List (Int × Int)) : List Value := L.flatMap fun a => [.int .i64 a.1, .int .i64 a.2]
theorem cellsD_len (L : List (Int × Int)) : (cellsD L).length = L.length * 2 := by
  induction L with
  | nil => rfl
  | cons a L ih => unfold cellsD at *; rw [List.flatMap_cons, List.length_append, ih]; simp; omega
theorem cellsD_cons (a : Int × Int) (L : List (Int × Int)) : cellsD (a :: L) = .int .i64 a.1 :: .int .i64 a.2 :: cellsD L := rfl
theorem cellsD_app (L M : List (Int × Int)) : cellsD (L ++ M) = cellsD L ++ cellsD M := by unfold cellsD; rw [List.flatMap_append]
theorem cellsD_at : ∀ (L : List (Int × Int)) (k : Nat), k < L.length → (cellsD L)[2 * k]? = some (.int .i64 (L.getD k (0, 0)).1) ∧ (cellsD L)[2 * k + 1]? = some (.int .i64 (L.getD k (0, 0)).2)
  | a :: L, 0, _ => ⟨rfl, rfl⟩
  | a :: L, k + 1, h => by
    have ih := cellsD_at L k (by simpa using h)
    rw [cellsD_cons, show 2 * (k + 1) = 2 * k + 1 + 1 by omega]
    exact ⟨ih.1, ih.2⟩
theorem cellsD_one (L : List (Int × Int)) : ∀ u ∈ cellsD L, u.oneCell' = true := by
  intro u hu
  unfold cellsD at hu
  obtain ⟨a, _, h⟩ := List.mem_flatMap.1 hu
  rcases List.mem_cons.1 h with rfl | h
  · rfl
  · rcases List.mem_cons.1 h with rfl | h
    · rfl
    · cases h
/-- Deeds of one's own that lie in a block: where, and their cells. -/
theorem deeds_open {w : World} {base n : Nat} {v : Value} {L : List (Int × Int)} (h : w.ownsRow base 36 2 v n (cellsD L)) (hn : 0 < n) (hL : L.length = n) :
    ∃ g cap, v = .slice (some ⟨g, 0, none⟩) n cap ∧ base ≤ g ∧ g < w.heap.size ∧ ∀ k, k < n → w.cell? ⟨g, 2 * k, none⟩ = some (.int .i64 (L.getD k (0, 0)).1) ∧ w.cell? ⟨g, 2 * k + 1, none⟩ = some (.int .i64 (L.getD k (0, 0)).2) := by
  rcases h.2 with ⟨_, h0⟩ | ⟨g, cap, cur, rfl, hb, hg, hc, _, hs, ht⟩
  · omega
  · refine ⟨g, cap, rfl, hb, (Array.getElem?_eq_some_iff.1 hg).1, fun k hk => ?_⟩
    have hat := cellsD_at L k (by omega)
    have hcell : ∀ j u, j < n * 2 → (cellsD L)[j]? = some u → w.cell? ⟨g, j, none⟩ = some u := fun j u hj hu => by
      rw [← ht, List.getElem?_take] at hu
      rw [if_pos hj] at hu
      simp [World.cell?, hg]
      rw [← Array.getElem?_toList]; exact hu
    exact ⟨hcell _ _ (by omega) hat.1, hcell _ _ (by omega) hat.2⟩
theorem Tryd.infoDeed : (Tryd.prog.info? 36).map (fun i => (i.zero, i.size, i.bytes)) = some (some (.agg #[.int .i64 0, .int .i64 0]), 2, 16) := by kernel_rfl

/-- What ReadDeed hands back. -/
def rdV (l : List Nat) : (Int × Int) × Bool := match readD l with | some a => (a, true) | none => ((0, 0), false)
theorem rd_some {l : List Nat} {a : Int × Int} (h : readD l = some a) : rdV l = (a, true) := by unfold rdV; rw [h]
theorem rd_none {l : List Nat} (h : readD l = none) : rdV l = ((0, 0), false) := by unfold rdV; rw [h]
theorem digL_small : ∀ (r : List Nat) (n m j : Nat), digL r n = some m → n < 10 ^ j → m < 10 ^ (j + r.length)
  | [], n, m, j, h, hn => by
    injection h with h
    subst h
    exact hn
  | c :: r, n, m, j, h, hn => by
    rw [digL_cons] at h
    split at h
    · have := digL_small r _ m (j + 1) h (by rw [Nat.pow_succ]; omega)
      rw [List.length_cons, show j + (r.length + 1) = j + 1 + r.length by omega]
      exact this
    · cases h
theorem digT_small {l : List Nat} {n : Nat} (h : digT l = some n) : n < 1000000000 := by
  unfold digT at h
  split at h
  · rename_i hl
    have := digL_small l 0 n 0 h (by decide)
    exact Nat.lt_of_lt_of_le this (Nat.le_trans (Nat.pow_le_pow_right (by omega) (show 0 + l.length ≤ 9 by omega)) (by decide))
  · cases h
theorem secI_fits (l : List Nat) : Fits (secI l) ∧ secI l ≤ 999999999 ∧ -1 ≤ secI l := by
  unfold secI
  split
  · rename_i n h
    have := digT_small h
    exact ⟨by constructor <;> omega, by omega, by omega⟩
  · exact ⟨by constructor <;> omega, by omega, by omega⟩
theorem fits_cand {l : List Nat} : ∀ a ∈ candD l, Fits a.1 ∧ Fits a.2 := by
  intro a ha
  unfold candD at ha
  rcases List.mem_append.1 ha with h | h
  · simp at h
    rcases h with rfl | rfl | rfl | rfl <;> exact ⟨by constructor <;> simp, by constructor <;> simp⟩
  · split at h
    · simp at h
      rcases h with rfl | rfl
      · exact ⟨by constructor <;> simp, (secI_fits l).1⟩
      · exact ⟨by constructor <;> simp, (secI_fits l).1⟩
    · cases h
theorem cand_len (l : List Nat) : (candD l).length ≤ 6 := by
  unfold candD
  split <;> simp
theorem word_mem (L : List (List Nat)) (k : Nat) (h : k < L.length) : L.getD k [] ∈ L := by
  rw [List.getD, List.getElem?_eq_getElem h]; exact List.getElem_mem h
theorem word_cells {w : World} {g : Nat} {L : List (List Nat)} (h : ∀ j u, (L.map txt)[j]? = some u → w.cell? ⟨g, j, none⟩ = some u) : ∀ j, j < L.length → w.cell? ⟨g, j, none⟩ = some (txt (L.getD j [])) := fun j hj => h j _ (by
  rw [List.getElem?_map, List.getElem?_eq_getElem hj, List.getD, List.getElem?_eq_getElem hj]; rfl)
theorem own_more {w w' : World} {base n size : Nat} {e : TypeId} {v : Value} {xs : List Value} (h : w.ownsRow base e size v n xs) (hB : Below w.heap.size w w') : w'.ownsRow base e size v n xs :=
  h.kept (row := none) ⟨hB.os, hB.tape, hB.output, hB.size, fun k hk _ => hB.block k hk⟩ (by cases v.ownBlock <;> simp)

theorem set_cells {W : World} {b : Nat} {cur : Array Value} {t : TypeId} (h : W.heap[b]? = some (.cells cur t (0, 0))) (p : Nat) (v : Value) : (W.setCell ⟨b, p, none⟩ v).heap[b]? = some (.cells (cur.setIfInBounds p v) t (0, 0)) := by
  obtain ⟨hlt, hk⟩ := Array.getElem?_eq_some_iff.1 h
  show (W.heap.modify b _)[b]? = _
  rw [Array.getElem?_eq_getElem (by rw [Array.size_modify]; exact hlt), Array.getElem_modify_self, hk]; rfl
theorem deed_set {W : World} {B : Nat} {x y : Value} (h : W.heap[B]? = some (.cells #[x, y] 36 (0, 0))) (k n : Int) :
    ((W.setCell ⟨B, 0, none⟩ (.int .i64 k)).setCell ⟨B, 1, none⟩ (.int .i64 n)).heap[B]? = some (.cells #[.int .i64 k, .int .i64 n] 36 (0, 0)) := set_cells (set_cells h 0 _) 1 _
theorem results_deed {fn : Func} {p u : Tmp} (h : fn.results = #[.cell p 36, .tmp u]) (tmps : Array Value) (w : World) (B : Nat) (k n : Int) (hp : tmps.getD p undef = .pointer (some ⟨B, 0, none⟩))
    (hb : w.heap[B]? = some (.cells #[.int .i64 k, .int .i64 n] 36 (0, 0))) : (results fn tmps).run Tryd.prog w = .ok (.tuple #[dV k n, tmps.getD u undef]) w := by
  have hl : (loadVar 36 ⟨B, 0, none⟩).run Tryd.prog w = .ok (dV k n) w := run_loadVar_row w B _ 36 #[.int .i64 k, .int .i64 n] (0, 0) _ hb Tryd.underlying36 rfl (by kernel_rfl)
  have hp' : tmps[p]?.getD undef = .pointer (some ⟨B, 0, none⟩) := by simpa using hp
  simp [results, h, hp', asAddr, hl, Result.andThen]
theorem cutL_mem (sep : Nat) : ∀ (r line : List Nat), ∀ x ∈ cutL sep line r, (∀ c ∈ x, c ∈ line ∨ c ∈ r) ∧ x.length ≤ line.length + r.length
  | [], line, x, hx => by
    have : x = line := by simpa [cutL] using hx
    subst this
    exact ⟨fun c hc => .inl hc, by simp⟩
  | c :: r, line, x, hx => by
    by_cases e : c = sep
    · subst e
      rw [cutL_hit] at hx
      rcases List.mem_cons.1 hx with rfl | hx
      · exact ⟨fun c hc => .inl hc, by omega⟩
      · obtain ⟨h1, h2⟩ := cutL_mem c r [] x hx
        exact ⟨fun y hy => .inr (List.mem_cons_of_mem _ ((h1 y hy).resolve_left (by simp))), by simp at h2 ⊢; omega⟩
    · rw [cutL_other e] at hx
      obtain ⟨h1, h2⟩ := cutL_mem sep r (line ++ [c]) x hx
      refine ⟨fun y hy => ?_, by simp at h2 ⊢; omega⟩
      rcases h1 y hy with h | h
      · rcases List.mem_append.1 h with h | h
        · exact .inl h
        · exact .inr (by simp at h; simp [h])
      · exact .inr (List.mem_cons_of_mem _ h)
theorem cutL_pos (sep : Nat) : ∀ (r line : List Nat), 0 < (cutL sep line r).length
  | [], line => by simp [cutL]
  | c :: r, line => by
    by_cases e : c = sep
    · subst e; rw [cutL_hit]; simp
    · rw [cutL_other e]; exact cutL_pos sep r _

end Go.Proofs.YtkcbfiglmjdaiaaDoor
/-
  The model's JournalText; deeds that lie in a slice.
-/
namespace Go.Proofs.YtkcbfiglmjdaiaaDoor
open Go.RowKit

/-- A slice of deeds, as it reads. -/
def DeedsI (W : World) (v : Value) (L : List (Int × Int)) : Prop :=
  ∃ a c, v = .slice a L.length c ∧ (0 < L.length → ∃ g o, a = some ⟨g, o, none⟩ ∧ g < W.heap.size ∧ ∀ k, k < L.length → W.cell? ⟨g, o + k * 2, none⟩ = some (.int .i64 (L.getD k (0, 0)).1) ∧ W.cell? ⟨g, o + k * 2 + 1, none⟩ = some (.int .i64 (L.getD k (0, 0)).2))
theorem DeedsI.below {W W' : World} {v : Value} {L : List (Int × Int)} (h : DeedsI W v L) (hB : Below W.heap.size W W') : DeedsI W' v L := by
  obtain ⟨a, c, rfl, h⟩ := h
  refine ⟨a, c, rfl, fun h0 => ?_⟩
  obtain ⟨g, o, rfl, hg, hc⟩ := h h0
  exact ⟨g, o, rfl, Nat.lt_of_lt_of_le hg hB.size, fun k hk => ⟨(hB.cell (p := ⟨g, o + k * 2, none⟩) hg).trans (hc k hk).1, (hB.cell (p := ⟨g, o + k * 2 + 1, none⟩) hg).trans (hc k hk).2⟩⟩
theorem DeedsI.of_owns {w : World} {base : Nat} {v : Value} {L : List (Int × Int)} (h : w.ownsRow base 36 2 v L.length (cellsD L)) : DeedsI w v L := by
  by_cases h0 : 0 < L.length
  · obtain ⟨g, c, rfl, _, hg, hc⟩ := deeds_open h h0 rfl
    refine ⟨_, _, rfl, fun _ => ⟨g, 0, rfl, hg, fun k hk => ?_⟩⟩
    have := hc k hk
    rw [Nat.mul_comm 2 k] at this
    rw [Nat.zero_add]; exact this
  · rcases h.2 with ⟨rfl, _⟩ | ⟨g, cap, cur, rfl, _⟩
    · have : L.length = 0 := by omega
      exact ⟨_, 0, by rw [this], fun hh => absurd hh h0⟩
    · exact ⟨_, _, rfl, fun hh => absurd hh h0⟩
theorem jtL_snoc (L : List (Int × Int)) (a : Int × Int) : jtL (L ++ [a]) = jtL L ++ (deedT a.1 a.2 ++ [10]) := by
  induction L with
  | nil => simp [jtL]
  | cons b L ih => rw [List.cons_append]; unfold jtL; rw [ih]; simp
theorem jtL_len (L : List (Int × Int)) : (jtL L).length ≤ L.length * 9 := by
  induction L with
  | nil => simp [jtL]
  | cons b L ih =>
    unfold jtL
    have := deed_len b.1 b.2
    simp
    omega
theorem jtL_byte (L : List (Int × Int)) : ∀ x ∈ jtL L, x < 256 := by
  induction L with
  | nil => simp [jtL]
  | cons b L ih =>
    intro x hx
    unfold jtL at hx
    rcases List.mem_append.1 hx with h | h
    · rcases List.mem_append.1 h with h | h
      · exact (deed_byte _ _ x h).1
      · simp at h; omega
    · exact ih x h
theorem take_deed {L : List (Int × Int)} {k : Nat} (h : k < L.length) : L.take (k + 1) = L.take k ++ [L.getD k (0, 0)] := by
  rw [List.take_add_one, List.getElem?_eq_getElem h, List.getD, List.getElem?_eq_getElem h]; rfl

set_option maxHeartbeats 1000000 in
theorem specJournal (v : Value) (L : List (Int × Int)) (w : World) (hv : DeedsI w v L) (hf : ∀ a ∈ L, Fits a.1 ∧ Fits a.2) (hn : L.length ≤ 2000000) : Calls Tryd.prog 6 #[v] w fun e w' => e = .returned (.string (str (jtT L))) ∧ Below w.heap.size w w' := by
  obtain ⟨a, c, rfl, hcell⟩ := hv
  obtain ⟨N, hN⟩ : ∃ N, L.length = N := ⟨_, rfl⟩
  rw [hN] at hcell hn ⊢
  have hB0 := Below.refl w.heap.size w
  go_enter Tryd.func6, Tryd.ntmps6
  go_wp2
  go_loopw [3, 4] (fun s p wr => ∃ k : Nat, k ≤ N ∧ p = .int .i64 k ∧ s = .string (str (jtL (L.take k))) ∧ Hid (∀ x ∈ L.take k, deedT x.1 x.2 ≠ []) ∧ Below w.heap.size w wr) (fun _ p _ => N - (intOf p).toNat)
  case atStart => exact ⟨0, by omega, rfl, rfl, hide (by simp), hB0⟩
  case round =>
    obtain ⟨k, hk, rfl, rfl, hne, hB⟩ := hrel
    by_cases hlt : k < N
    · obtain ⟨g, o, rfl, hg, hc⟩ := hcell (by omega)
      have hki : (k : Int) < (N : Int) := by omega
      obtain ⟨c1, c2⟩ := hc k hlt
      have hx : L.getD k (0, 0) ∈ L := by rw [List.getD, List.getElem?_eq_getElem (by omega)]; exact List.getElem_mem _
      have hfx := hf _ hx
      have htk := hide (take_deed (L := L) (k := k) (by omega))
      obtain ⟨x, hxx⟩ : ∃ x, L.getD k (0, 0) = x := ⟨_, rfl⟩
      rw [hxx] at c1 c2 hfx hx htk
      have c1' : ∀ W, Below w.heap.size w W → W.cell? ⟨g, o + k * 2, none⟩ = some (.int .i64 x.1) := fun W hW => (hW.cell (p := ⟨g, o + k * 2, none⟩) hg).trans c1
      have c2' : ∀ W, Below w.heap.size w W → W.cell? ⟨g, o + k * 2 + 1, none⟩ = some (.int .i64 x.2) := fun W hW => (hW.cell (p := ⟨g, o + k * 2 + 1, none⟩) hg).trans c2
      have d1 := c1' _ hB
      have d2 := c2' _ hB
      have hT := fun V => specDeedText x.1 x.2 hfx.1 hfx.2 V
      unfold dV at hT
      have hsn := jtL_snoc (L.take k) x
      rw [← htk.out] at hsn
      have hl1 := jtL_len (L.take k)
      rw [List.length_take] at hl1
      have hl2 := deed_len x.1 x.2
      have hs1 := str_size (jtL (L.take k))
      have hs2 := str_size (deedT x.1 x.2)
      have ha1 := str_app (jtL (L.take k)) (deedT x.1 x.2)
      have ha2 := str_app (jtL (L.take k) ++ deedT x.1 x.2) [10]
      rw [List.append_assoc, ← hsn] at ha2
      have hs3 := str_size (jtL (L.take k) ++ deedT x.1 x.2)
      rw [List.length_append] at hs3
      clear c1 c2 hcell hc hxx hB0
      by_cases he : deedT x.1 x.2 = []
      · have hE : (str (deedT x.1 x.2)).toList.isEmpty = true := by rw [he, str_toList]; rfl
        have hno : jtT L = [] := by
          unfold jtT
          rw [if_neg (fun h => h x hx he)]
        have hno' := hide hno
        generalize str (deedT x.1 x.2) = T at *
        clear he hno hsn ha1 ha2 hs3
        go_wp2_with (go_at_call 17; refine (hT _).mono ?_; clear hT; rintro e w3 ⟨rfl, hB3⟩)
        go_ret
        exact ⟨by rw [hno'.out]; rfl, hB.trans (hB3.mono hB.size)⟩
      · have hE : (str (deedT x.1 x.2)).toList.isEmpty = false := by
          rw [str_toList]
          cases hd : deedT x.1 x.2 with
          | nil => exact absurd hd he
          | cons c r => rfl
        have hne' := hide (show ∀ y ∈ L.take (k + 1), deedT y.1 y.2 ≠ [] from fun y hy => by
          rw [htk.out] at hy
          rcases List.mem_append.1 hy with h | h
          · exact hne.out y h
          · obtain rfl : y = x := by simpa using h
            exact he)
        obtain ⟨T, hTT⟩ : ∃ T, str (deedT x.1 x.2) = T := ⟨_, rfl⟩
        obtain ⟨A, hA⟩ : ∃ A, str (jtL (L.take k)) = A := ⟨_, rfl⟩
        obtain ⟨M, hM⟩ : ∃ M, str (jtL (L.take k) ++ deedT x.1 x.2) = M := ⟨_, rfl⟩
        obtain ⟨Z, hZ⟩ : ∃ Z, str (jtL (L.take (k + 1))) = Z := ⟨_, rfl⟩
        rw [hTT] at hT hE hs2 ha1
        rw [hA] at ha1 hs1 ⊢
        rw [hM] at ha1 ha2 hs3
        rw [hZ] at ha2
        have ha3 : M ++ (⟨#[10]⟩ : ByteArray) = Z := ha2
        have hZ' := hide hZ
        have hAs : A.size ≤ 20000000 := by omega
        have hTs : T.size ≤ 100 := by omega
        have hMs : M.size ≤ 20000000 := by omega
        clear he hsn ha2 hs1 hs2 hs3 hTT hA hM hZ hl1 hl2
        go_wp2_with (go_at_call 17; refine (hT _).mono ?_; go_loud (rintro e w3 ⟨rfl, hB3⟩; replace hB := hB.trans (hB3.mono hB.size); have d1 := c1' _ hB; have d2 := c2' _ hB))
        go_roundw
        case rel => exact ⟨k + 1, by omega, by go_num, by rw [hZ'.out], hne', hB⟩
        case measure => simp [intOf]; omega
    · obtain rfl : k = N := by omega
      have hki : ¬ ((k : Nat) : Int) < (k : Int) := by omega
      have hall : L.take k = L := List.take_of_length_le (by omega)
      have hv : jtT L = jtL L := by
        unfold jtT
        rw [if_pos (by have := hne.out; rwa [hall] at this)]
      rw [hall]
      have hv' := hide hv
      clear hcell hne hv hall
      go_wp2
      go_ret
      exact ⟨by rw [hv'.out]; rfl, hB⟩
end Go.Proofs.YtkcbfiglmjdaiaaDoor
/-
  A block of cells of any kinds, known in part: 'BlkAt w g t N V': block g has N cells of type t, and at the places that V names it holds what V says.
-/
namespace Go.Proofs.YtkcbfiglmjdaiaaDoor
open Go.RowKit

def BlkAt (w : World) (g : Nat) (t : TypeId) (N : Nat) (V : Nat → Option Value) : Prop :=
  ∃ cur : Array Value, w.heap[g]? = some (.cells cur t (0, 0)) ∧ cur.size = N ∧ ∀ i v, V i = some v → cur[i]? = some v
def updV (V : Nat → Option Value) (p : Nat) (v : Value) : Nat → Option Value := fun i => if i = p then some v else V i

theorem BlkAt.lt {w : World} {g N : Nat} {t : TypeId} {V : Nat → Option Value} (h : BlkAt w g t N V) : g < w.heap.size := by
  obtain ⟨cur, h1, _⟩ := h; exact (Array.getElem?_eq_some_iff.1 h1).1
theorem BlkAt.cell {w : World} {g N : Nat} {t : TypeId} {V : Nat → Option Value} (h : BlkAt w g t N V) {i : Nat} {v : Value} (hi : V i = some v) : w.cell? ⟨g, i, none⟩ = some v := by
  obtain ⟨cur, h1, _, h3⟩ := h
  rw [cell_of_row w g i cur t (0, 0) h1]; exact h3 i v hi
theorem BlkAt.frozen {w : World} {g N : Nat} {t : TypeId} {V : Nat → Option Value} (h : BlkAt w g t N V) (i : Nat) : w.frozen? ⟨g, i, none⟩ = false := by
  obtain ⟨cur, h1, _⟩ := h
  simp [World.frozen?, h1]
theorem BlkAt.weaken {w : World} {g N : Nat} {t : TypeId} {V V' : Nat → Option Value} (h : BlkAt w g t N V) (he : ∀ i v, V' i = some v → V i = some v) : BlkAt w g t N V' := by
  obtain ⟨cur, h1, h2, h3⟩ := h
  exact ⟨cur, h1, h2, fun i v hi => h3 i v (he i v hi)⟩
theorem BlkAt.of_block {w w' : World} {g N : Nat} {t : TypeId} {V : Nat → Option Value} (h : BlkAt w g t N V) (hb : w'.heap[g]? = w.heap[g]?) : BlkAt w' g t N V := by
  obtain ⟨cur, h1, h2⟩ := h
  exact ⟨cur, hb.trans h1, h2⟩
theorem BlkAt.kept {w w' : World} {g N : Nat} {t : TypeId} {V : Nat → Option Value} {row : Option Nat} (h : BlkAt w g t N V) (hg : w.grownBy w' row) (hr : some g ≠ row) : BlkAt w' g t N V := h.of_block (hg.block g h.lt hr)
theorem BlkAt.in_range {w : World} {g N : Nat} {t : TypeId} {V : Nat → Option Value} (h : BlkAt w g t N V) {i : Nat} {v : Value} (hi : V i = some v) : i < N := by
  obtain ⟨cur, _, h2, h3⟩ := h
  have := (Array.getElem?_eq_some_iff.1 (h3 i v hi)).1
  omega
theorem BlkAt.set {w : World} {g N : Nat} {t : TypeId} {V : Nat → Option Value} (h : BlkAt w g t N V) {p : Nat} (v : Value) (hp : p < N) : BlkAt (w.setCell ⟨g, p, none⟩ v) g t N (updV V p v) := by
  obtain ⟨cur, h1, h2, h3⟩ := h
  obtain ⟨hlt, hk⟩ := Array.getElem?_eq_some_iff.1 h1
  refine ⟨cur.setIfInBounds p v, ?_, by simpa using h2, fun i u hi => ?_⟩
  · show (w.heap.modify g _)[g]? = _
    rw [Array.getElem?_eq_getElem (by rw [Array.size_modify]; exact hlt), Array.getElem_modify_self, hk]; rfl
  · rw [Array.getElem?_setIfInBounds]
    unfold updV at hi
    by_cases e : i = p
    · subst e; rw [if_pos rfl] at hi; rw [if_pos rfl, if_pos (by omega)]; exact hi
    · rw [if_neg e] at hi; rw [if_neg (fun h => e h.symm)]; exact h3 i u hi
/-- A row of ints. -/
def intsV (N : Nat) (f : Nat → Int) : Nat → Option Value := fun i => if i < N then some (.int .i64 (f i)) else none
theorem intsV_at {N : Nat} {f : Nat → Int} {i : Nat} (h : i < N) : intsV N f i = some (.int .i64 (f i)) := if_pos h
theorem BlkAt.congr {w : World} {g N : Nat} {t : TypeId} {f f' : Nat → Int} (h : BlkAt w g t N (intsV N f)) (he : ∀ i, i < N → f i = f' i) : BlkAt w g t N (intsV N f') := by
  refine h.weaken (fun i v hi => ?_)
  unfold intsV at hi ⊢
  by_cases e : i < N
  · rw [if_pos e] at hi ⊢; rw [he i e]; exact hi
  · rw [if_neg e] at hi; cases hi
theorem BlkAt.setI {w : World} {g N : Nat} {t : TypeId} {f : Nat → Int} (h : BlkAt w g t N (intsV N f)) {p : Nat} (z : Int) (hp : p < N) : BlkAt (w.setCell ⟨g, p, none⟩ (.int .i64 z)) g t N (intsV N fun i => if i = p then z else f i) := by
  refine (h.set (.int .i64 z) hp).weaken (fun i v hi => ?_)
  unfold intsV at hi
  unfold updV intsV
  dsimp only at hi ⊢
  by_cases e : i = p
  · subst e; rw [if_pos hp, if_pos rfl] at hi; rw [if_pos rfl]; exact hi
  · by_cases e2 : i < N
    · rw [if_pos e2, if_neg e] at hi; rw [if_neg e, if_pos e2]; exact hi
    · rw [if_neg e2] at hi; cases hi
theorem BlkAt.row {w : World} {g N M : Nat} {V : Nat → Option Value} {f : Nat → Int} (h : BlkAt w g 3 N V) (hM : M ≤ N) (hv : ∀ i, i < M → V i = some (.int .i64 (f i))) : RowAt w g M f := by
  obtain ⟨cur, h1, h2, h3⟩ := h
  exact ⟨cur, h1, by omega, fun i hi => h3 i _ (hv i hi)⟩
theorem BlkAt.owns {w : World} {g N base : Nat} {V : Nat → Option Value} {xs : List Int} (h : BlkAt w g 3 N V) (hx : xs.length = N) (hv : ∀ i, i < N → V i = some (.int .i64 (xs.getD i 0))) (hb : base ≤ g) (hN : N ≤ 1000000000) :
    w.ownsRow base 3 1 (.slice (some ⟨g, 0, none⟩) N N) N (xs.map (Value.int .i64)) := by
  obtain ⟨cur, h1, h2, h3⟩ := h
  refine ⟨by simp [hx], .inr ⟨g, N, cur, rfl, hb, h1, Nat.le_refl _, by unfold maxLen; omega, by omega, ?_⟩⟩
  have ht : cur.toList.take (N * 1) = cur.toList := List.take_of_length_le (by simp; omega)
  rw [ht]
  apply List.ext_getElem?
  intro i
  by_cases hi : i < N
  · have h4 := h3 i _ (hv i hi)
    have h5 : xs[i]? = some (xs.getD i 0) := by rw [List.getD, List.getElem?_eq_getElem (by omega)]; rfl
    rw [Array.getElem?_toList, h4, List.getElem?_map, h5]; rfl
  · rw [List.getElem?_eq_none (by simp; omega), List.getElem?_eq_none (by simp; omega)]

/-- 'make([]int, n)': a block of n noughts. -/
theorem make_blk (w : World) {ops : Array Oper} {rest : List Oper} {o : Oper} {a : Act} {Q : Exit → Act → World → Prop}
    (hg : o.guard = none) (l c : Operand) (hop : o.op = Op.makeSlice 58 l c) (L C : Int) (N : Nat) (hl : a.eval l = .int .i64 L) (hc : a.eval c = .int .i64 C) (hL : L = (N : Int)) (hC : C = (N : Int)) (hN : N ≤ 10000000)
    (hK : ∀ w', BlkAt w' w.heap.size 3 N (intsV N fun _ => 0) → w.grownBy w' none → wpList Tryd.prog ops Q rest (a.put o.dst (.slice (some ⟨w.heap.size, 0, none⟩) N N)) w') :
    wpList Tryd.prog ops Q (o :: rest) a w := by
  obtain ⟨i0, hi, hz0, hz1, hz2⟩ := info_parts Tryd.infoInt
  refine wpList_plain hg fun K hK' => ?_
  obtain ⟨w', hrun, r1, r2⟩ := run_make_full (P := Tryd.prog) w w.heap.size 58 3 i0 (.int .i64 0) 1 Tryd.underlying58 hi hz0 hz1 .i64 .i64 N (by rw [hz2]; omega) (by unfold maxLen; omega) (Nat.le_refl _)
  subst hL
  subst hC
  unfold Oper.wp
  simp [execOp, hop, hl, hc, hrun, Result.andThen]
  refine hK' _ _ (hK w' ?_ r2)
  obtain ⟨hlen, hv⟩ := r1
  rcases hv with ⟨h, _⟩ | ⟨g, cap, cur, h, _, hgb, _, _, hs, ht⟩
  · cases h
  · cases h
    refine ⟨cur, hgb, by omega, fun i v hi' => ?_⟩
    have h1 : cur.toList.take (N * 1) = cur.toList := List.take_of_length_le (by simp; omega)
    unfold intsV at hi'
    split at hi'
    · rename_i hlt
      rw [h1] at ht
      rw [← Array.getElem?_toList, ht, Array.getElem?_toList]
      simpa [madeCells, Value.cells, hlt, Nat.mod_one] using hi'
    · cases hi'

set_option maxHeartbeats 400000 in
/-- addBefore over a block of ints: each cell but the first gets the one before it added. -/
theorem addBefore_blk (g n : Nat) (f : Nat → Int) (w : World) (hn : 1 ≤ n) (hN : n ≤ 1000000) (hf : ∀ i, -2305843009213693952 ≤ f i ∧ f i ≤ 2305843009213693952) (hr : BlkAt w g 3 n (intsV n f)) :
    Calls Tryd.prog 50 #[.slice (some ⟨g, 0, none⟩) n n] w fun e w' =>
      (∃ v, e = .returned v) ∧ BlkAt w' g 3 n (intsV n fun i => if 0 < i ∧ i < n then f i + f (i - 1) else f i) ∧ w.grownBy w' (some g) := by
  go_enter Tryd.func50, Tryd.ntmps50
  go_wp2
  go_loopw [2] (fun p wr => ∃ k : Nat, k < n ∧ p = .int .i64 k ∧ BlkAt wr g 3 n (intsV n fun i => if k < i ∧ i < n then f i + f (i - 1) else f i) ∧ w.grownBy wr (some g)) (fun p _ => (intOf p).toNat)
  case atStart =>
    exact ⟨n - 1, by omega, by go_num, hr.congr (fun i _ => by rw [if_neg (by omega)]), grownBy_refl _ _⟩
  case round =>
    obtain ⟨k, hk, rfl, hrow, hg⟩ := hrel
    by_cases hk0 : k = 0
    · subst hk0
      go_wp2
      go_end0
      exact ⟨⟨_, rfl⟩, hrow, hg⟩
    · obtain ⟨j, rfl⟩ : ∃ j, k = j + 1 := ⟨k - 1, by omega⟩
      have hca := hrow.cell (i := j + 1) (intsV_at (by omega))
      have hcb := hrow.cell (i := j) (intsV_at (by omega))
      rw [if_neg (by omega)] at hca hcb
      have hfr := hrow.frozen (j + 1)
      have h1 := hf (j + 1)
      have h2 := hf j
      go_wp2
      have hw1 : IntKind.i64.wrap (j : Int) = j := IntWalk.i64_in _ (by omega)
      have hw2 : IntKind.i64.wrap (f (j + 1) + f j) = f (j + 1) + f j := IntWalk.i64_in _ (by omega)
      have hw3 : ((j : Int) + 1).toNat = j + 1 := by omega
      have hw4 : (j : Int) + 1 < n := by omega
      have hw5 : (0 : Int) ≤ (j : Int) + 1 := by omega
      have hw6 : j < n := by omega
      go_region
      all_goals
        go_wp2
        go_roundw
        case rel =>
          refine ⟨j, by omega, by go_num, ((hrow.of_block (w' := wr.drew) rfl).setI _ (by omega)).congr (fun i hi => ?_), grownBy_set (grownBy_drew hg) _ _⟩
          by_cases e : i = j + 1
          · subst e; rw [if_pos rfl, if_pos (by omega)]; rfl
          · rw [if_neg e]
            by_cases e2 : j + 1 < i ∧ i < n
            · rw [if_pos e2, if_pos (by omega)]
            · rw [if_neg e2, if_neg (by omega)]
        case measure => simp [intOf]

end Go.Proofs.YtkcbfiglmjdaiaaDoor
/-
  The reader that is opened over the bytes that came in.
-/
namespace Go.Proofs.YtkcbfiglmjdaiaaDoor
open Go.RowKit

/-- What is known of a slice of integers that came in. -/
def IsRow (k : IntKind) (w : World) (a : Option Addr) (len cap : Nat) (zs : List Int) : Prop :=
  (a = none ∧ len = 0 ∧ cap = 0 ∧ zs = []) ∨
  ∃ x, a = some x ∧ len ≤ cap ∧ cap ≤ maxLen ∧ zs.length = cap ∧ (∀ i, i < zs.length → w.cell? (x.add i) = some (.int k (zs.getD i 0))) ∧ ∀ n ∈ zs, (Lit.int k n).wf = true

theorem IsRow.bytes {w : World} {a : Option Addr} {len cap : Nat} {zs : List Int} (h : IsRow .u8 w a len cap zs) {n : Nat} (hn : n ≤ len) (h2 : n ≤ 2000) : Bytes w a n := by
  refine ⟨h2, fun hpos => ?_⟩
  rcases h with ⟨_, h0, _⟩ | ⟨⟨b, off, spot⟩, rfl, hl, hm, hz, hcell, hwf⟩
  · omega
  · have h0 := hcell 0 (by omega)
    have hs : spot = none := by simpa [Addr.add] using World.cell?_spot h0
    subst hs
    have hb : b < w.heap.size := by
      have := World.block_lt_of_cell? w _ h0
      simpa [Addr.add] using this
    refine ⟨b, off, rfl, hb, fun i => zs.getD i 0, fun i => ?_, fun i hi => ?_⟩
    · by_cases hi : i < zs.length
      · have := hwf (zs.getD i 0) (by rw [List.getD, List.getElem?_eq_getElem hi]; simp)
        simpa [Lit.wf, IntKind.min, IntKind.max, IntKind.signed, IntKind.bits] using this
      · simp [List.getD, hi]
    · have := hcell i (by omega)
      have hadd : (⟨b, off, none⟩ : Addr).add i = ⟨b, off + i, none⟩ := by unfold Addr.add; split <;> simp_all
      rwa [hadd] at this

/-- The reader that is opened. -/
def Opened (W0 : World) (a : Option Addr) (e : Ending) (w' : World) : Prop :=
  ∃ R len cap, e = .returned (.pointer (some ⟨R, 0, none⟩)) ∧ Bytes W0 a len ∧ Rd W0 R a len cap w' 0

theorem open_in (w : World) (a : Option Addr) (len cap : Nat) (zs : List Int) (h : IsRow .u8 w a len cap zs) : Calls Tryd.prog 10 #[.slice a len cap] w (Opened w a) := by
  have hRd : ∀ n c : Nat, Rd w w.heap.size a n c (w.alloc (.cells #[.slice a n c, .int .i64 0] 56)) 0 := fun n c => ⟨(Below.refl _ w).alloc (Nat.le_refl _) _, Nat.le_refl _, heap_alloc_new w _⟩
  have hcap : len ≤ cap := by rcases h with ⟨_, h0, h1, _⟩ | ⟨_, _, hl, _⟩ <;> omega
  by_cases hl : 2000 < len
  · have hb := h.bytes (n := 2000) (by omega) (Nat.le_refl _)
    have hcp : (2000 : Int) ≤ cap := by omega
    rcases h with ⟨_, h0, _⟩ | ⟨x, rfl, _⟩
    · omega
    · go_enter Tryd.func10, Tryd.ntmps10
      go_wp2
      go_ret
      exact ⟨_, _, _, rfl, hb, hRd _ _⟩
  · have hb := h.bytes (n := len) (Nat.le_refl _) (by omega)
    go_enter Tryd.func10, Tryd.ntmps10
    go_wp2
    go_ret
    exact ⟨_, _, _, rfl, hb, hRd _ _⟩
end Go.Proofs.YtkcbfiglmjdaiaaDoor
/-
  More of the laws' own helpers: toIntS over an argument that came in; marking and holding over a result of one's own, whether it is empty or not.
-/
namespace Go.Proofs.YtkcbfiglmjdaiaaDoor
open Go.RowKit

/-- A slice of ints that came in, in the world in which the law began. -/
def ArgI (W0 : World) (v : Value) (xs : List Int) : Prop :=
  (∃ a c, v = .slice a 0 c ∧ xs = []) ∨ ∃ b off cap, v = .slice (some ⟨b, off, none⟩) xs.length cap ∧ b < W0.heap.size ∧ ∀ i, i < xs.length → W0.cell? ⟨b, off + i, none⟩ = some (.int .i64 (xs.getD i 0))
theorem IsRow.arg {w : World} {a : Option Addr} {len cap : Nat} {zs : List Int} (h : IsRow .i64 w a len cap zs) : ArgI w (.slice a len cap) (zs.take len) ∧ (zs.take len).length = len := by
  rcases h with ⟨rfl, rfl, rfl, rfl⟩ | ⟨⟨b, off, spot⟩, rfl, hl, hm, hz, hcell, hwf⟩
  · exact ⟨.inl ⟨_, _, rfl, rfl⟩, rfl⟩
  · have hlen : (zs.take len).length = len := by simp; omega
    refine ⟨?_, hlen⟩
    by_cases h0 : len = 0
    · subst h0; exact .inl ⟨_, _, rfl, by simp⟩
    · have h0 := hcell 0 (by omega)
      have hs : spot = none := by simpa [Addr.add] using World.cell?_spot h0
      subst hs
      have hb : b < w.heap.size := by
        have := World.block_lt_of_cell? w _ h0
        simpa [Addr.add] using this
      refine .inr ⟨b, off, cap, by rw [hlen], hb, fun i hi => ?_⟩
      have h1 := hcell i (by omega)
      have hadd : (⟨b, off, none⟩ : Addr).add i = ⟨b, off + i, none⟩ := by unfold Addr.add; split <;> simp_all
      rw [hadd] at h1
      rw [h1, List.getD, List.getD, List.getElem?_take, if_pos (by omega)]

/-- A slice of one's own with n numbers f, in a block between base and lim. -/
def OwnI (W : World) (base lim : Nat) (v : Value) (n : Nat) (f : Nat → Int) : Prop :=
  (n = 0 ∧ ∃ a c, v = .slice a 0 c) ∨ ∃ g cap, v = .slice (some ⟨g, 0, none⟩) n cap ∧ base ≤ g ∧ g < lim ∧ RowAt W g n f
theorem OwnI.of_owns {w w' : World} {v : Value} {xs : List Int} (h : w'.ownsRow w.heap.size 3 1 v xs.length (xs.map (Value.int .i64))) : OwnI w' w.heap.size w'.heap.size v xs.length (fun i => xs.getD i 0) := by
  by_cases h0 : 0 < xs.length
  · obtain ⟨g, cap, rfl, hb, hr⟩ := RowAt.of_owns h h0
    exact .inr ⟨g, cap, rfl, hb, hr.lt, hr⟩
  · refine .inl ⟨by omega, ?_⟩
    have e : xs.length = 0 := by omega
    rcases h.2 with ⟨rfl, _⟩ | ⟨g, cap, cur, rfl, _⟩
    · exact ⟨_, _, rfl⟩
    · rw [e]; exact ⟨_, _, rfl⟩
theorem OwnI.ints {W : World} {base lim : Nat} {v : Value} {xs : List Int} (h : OwnI W base lim v xs.length (fun i => xs.getD i 0)) : Ints W v xs := by
  rcases h with ⟨h0, a, c, rfl⟩ | ⟨g, cap, rfl, _, _, hr⟩
  · exact .inl ⟨_, _, rfl, List.length_eq_zero_iff.1 h0⟩
  · exact .inr ⟨g, cap, rfl, hr.lt, fun i hi => hr.cell hi⟩
theorem OwnI.grown {W W' : World} {base lim n : Nat} {v : Value} {f : Nat → Int} {row : Option Nat} (h : OwnI W base lim v n f) (hg : W.grownBy W' row) (hr : ∀ k, row = some k → k < base ∨ lim ≤ k) : OwnI W' base lim v n f := by
  rcases h with h | ⟨g, cap, rfl, h1, h2, h3⟩
  · exact .inl h
  · exact .inr ⟨g, cap, rfl, h1, h2, h3.kept hg (fun e => by have := hr g e.symm; omega)⟩
theorem OwnI.below {W W' : World} {base lim n : Nat} {v : Value} {f : Nat → Int} (h : OwnI W base lim v n f) (hb : Below W.heap.size W W') : OwnI W' base lim v n f := by
  rcases h with h | ⟨g, cap, rfl, h1, h2, h3⟩
  · exact .inl h
  · exact .inr ⟨g, cap, rfl, h1, h2, h3.of_block (hb.block g h3.lt)⟩
end Go.Proofs.YtkcbfiglmjdaiaaDoor
/-
  The model's DigitsOf, SumOfDigits, CarriesOf, UnderOk and CountUnder: for every argument what they hand back.
-/
namespace Go.Proofs.YtkcbfiglmjdaiaaDoor
open Go.RowKit

theorem tmod_nat' (n b : Nat) : Int.tmod (n : Int) (b : Int) = ((n % b : Nat) : Int) := by rw [Int.tmod_eq_emod_of_nonneg (by omega)]; rfl
theorem tdiv_nat' (n b : Nat) : Int.tdiv (n : Int) (b : Int) = ((n / b : Nat) : Int) := by rw [Int.tdiv_eq_ediv_of_nonneg (by omega)]; rfl

/-- l1In at any number. -/
theorem l1In_d (n lo hi : Int) (w : World) : Calls Tryd.prog 30 #[.int .i64 n, .int .i64 lo, .int .i64 hi] w fun e w' => e = .returned (.bool (decide (lo ≤ n ∧ n ≤ hi))) ∧ w = w' := by
  by_cases h : lo ≤ n ∧ n ≤ hi
  · rw [show decide (lo ≤ n ∧ n ≤ hi) = true by simpa using h]; exact l1In_t n lo hi w h.1 h.2
  · rw [show decide (lo ≤ n ∧ n ≤ hi) = false by simpa using h]; exact l1In_f n lo hi w (by omega)

end Go.Proofs.YtkcbfiglmjdaiaaDoor
/-
  The model's CountUnder, UnderOk, CarriesOf and DigitsOf: for every argument what they hand back.
-/
namespace Go.Proofs.YtkcbfiglmjdaiaaDoor
open Go.RowKit

end Go.Proofs.YtkcbfiglmjdaiaaDoor
/-
  The model's SideOk, UnderOf and LastOf: for every row what they hand back.
-/
namespace Go.Proofs.YtkcbfiglmjdaiaaDoor
open Go.RowKit

theorem ret_bool {a b : Bool} (h : a = b) : Ending.returned (.bool a) = .returned (.bool b) := by rw [h]
theorem Ints.shape {w : World} {v : Value} {xs : List Int} (h : Ints w v xs) : ∃ a c, v = .slice a xs.length c := by
  rcases h with ⟨a, c, rfl, rfl⟩ | ⟨g, cap, rfl, _⟩
  · exact ⟨_, _, rfl⟩
  · exact ⟨_, _, rfl⟩
theorem Ints.cells {w : World} {v : Value} {xs : List Int} (h : Ints w v xs) (h0 : 1 ≤ xs.length) : ∃ g cap, v = .slice (some ⟨g, 0, none⟩) xs.length cap ∧ g < w.heap.size ∧ ∀ i, i < xs.length → w.cell? ⟨g, i, none⟩ = some (.int .i64 (xs.getD i 0)) := by
  rcases h with ⟨a, c, rfl, rfl⟩ | ⟨g, cap, rfl, hg, hc⟩
  · simp at h0
  · exact ⟨g, cap, rfl, hg, hc⟩

end Go.Proofs.YtkcbfiglmjdaiaaDoor
/-
  The one of two numbers at a place; 'append(s, x...)' of a row of numbers. Nothing of the program but the type int.
-/
namespace Go.Proofs.YtkcbfiglmjdaiaaDoor
open Go.RowKit

def two (i : Nat) (a b : Int) : Int := if i = 0 then a else b
theorem two_at {i : Nat} (hi : i < 2) (a b : Int) : (#[.int .i64 a, .int .i64 b] : Array Value)[i]? = some (.int .i64 (two i a b)) := by
  match i, hi with
  | 0, _ => rfl
  | 1, _ => rfl
theorem two_cell {i : Nat} (hi : i < 2) (W : World) (a b : Int) : (W.alloc (.cells #[.int .i64 a, .int .i64 b] 3)).cell? ⟨W.heap.size, i, none⟩ = some (.int .i64 (two i a b)) := by
  rw [World.cell?_alloc_at _ _ _ _ rfl]; exact two_at hi a b
theorem two_fits {i : Nat} {a b : Int} (ha : Fits a) (hb : Fits b) : Fits (two i a b) := by
  unfold two; split
  · exact ha
  · exact hb

/-- 'append(s, x...)': m numbers that lie in block g from its first cell on. -/
theorem append_row {w : World} {ops : Array Oper} {rest : List Oper} {o : Oper} {a : Act} {Q : Exit → Act → World → Prop} (hgd : o.guard = none) (s x : Operand)
    (ho : o.op = .call { callee := .builtin .append, args := #[s, x], argTypes := #[58, 58] })
    (base : Nat) (v : Value) (n : Nat) (xs : List Value) (hs : a.eval s = v) (hown : w.ownsRow base 3 1 v n xs) (g m c : Nat) (zs : List Int) (hx : a.eval x = .slice (some ⟨g, 0, none⟩) m c) (hl : zs.length = m)
    (hz : ∀ i, i < m → w.cell? ⟨g, i, none⟩ = some (.int .i64 (zs.getD i 0))) (hn : n + m ≤ 1000000000) (hbase : base ≤ w.heap.size)
    (h : ∀ v' w', w'.ownsRow base 3 1 v' (n + m) (xs ++ zs.map (Value.int .i64)) → w.grownBy w' v.ownBlock → wpList Tryd.prog ops Q rest (a.put o.dst v') w') :
    wpList Tryd.prog ops Q (o :: rest) a w := by
  obtain ⟨i0, hi, hz0, hz1, hz2⟩ := info_parts Tryd.infoInt
  refine wpList_append_own _ hgd s x 58 ho base 3 i0 (.int .i64 0) 1 8 Tryd.underlying58 hi hz0 hz1 hz2 rfl (by decide) v n xs hs hown ⟨g, 0, none⟩ m c (zs.map (Value.int .i64)) hx (by simp [hl]) ?_ ?_ ?_ ?_ hbase ?_
  · intro j u hj
    rw [List.getElem?_map] at hj
    obtain ⟨z, hz3, rfl⟩ := Option.map_eq_some_iff.1 hj
    have hjl := (List.getElem?_eq_some_iff.1 hz3).1
    have h1 := hz j (by omega)
    have hadd : (⟨g, 0, none⟩ : Addr).add j = ⟨g, j, none⟩ := by unfold Addr.add; split <;> simp_all
    rw [hadd, h1, List.getD, hz3]; rfl
  · intro u hu
    obtain ⟨z, _, rfl⟩ := List.mem_map.1 hu
    rfl
  · unfold maxLen; omega
  · omega
  · intro v' w' h1 h2 _; exact h v' w' h1 h2
end Go.Proofs.YtkcbfiglmjdaiaaDoor
/-
  Rows of rows of numbers: 'append' of a whole row, of one row; what is kept. Nothing of the program but the types []int and [][]int.
-/
namespace Go.Proofs.YtkcbfiglmjdaiaaDoor
open Go.RowKit

/-- A slice that is nil, or lies somewhere. -/
def Lies (v : Value) : Prop := v = .slice none 0 0 ∨ ∃ p n c, v = .slice (some p) n c
theorem Lies.of_owns {w : World} {base n : Nat} {e : TypeId} {v : Value} {xs : List Value} (h : w.ownsRow base e 1 v n xs) : Lies v := by
  rcases h.2 with ⟨rfl, _⟩ | ⟨g, cap, cur, rfl, _⟩
  · exact .inl rfl
  · exact .inr ⟨_, _, _, rfl⟩
theorem own_form {w : World} {base n : Nat} {e : TypeId} {v : Value} {xs : List Value} (h : w.ownsRow base e 1 v n xs) : ∃ a c, v = .slice a n c := by
  rcases h.2 with ⟨rfl, rfl⟩ | ⟨g, cap, cur, rfl, _⟩
  · exact ⟨_, _, rfl⟩
  · exact ⟨_, _, rfl⟩
theorem own_below {w w' : World} {base n : Nat} {e : TypeId} {v : Value} {xs : List Value} (h : w.ownsRow base e 1 v n xs) (hB : Below w.heap.size w w') : w'.ownsRow base e 1 v n xs :=
  h.kept (row := none) ⟨hB.os, hB.tape, hB.output, hB.size, fun k hk _ => hB.block k hk⟩ (by cases v.ownBlock <;> simp)
/-- What owns numbers is apart from what owns rows. -/
theorem own_apart {w : World} {b b' n m : Nat} {v u : Value} {xs ys : List Value} (h : w.ownsRow b 3 1 v n xs) (k : w.ownsRow b' 58 1 u m ys) : v.ownBlock = none ∨ v.ownBlock ≠ u.ownBlock := by
  rcases h.2 with ⟨rfl, _⟩ | ⟨g, cap, cur, rfl, _, hg, _⟩
  · exact .inl rfl
  · refine .inr fun e => ?_
    rcases k.2 with ⟨rfl, _⟩ | ⟨g', cap', cur', rfl, _, hg', _⟩
    · simp [Value.ownBlock] at e
    · simp only [Value.ownBlock, Option.some.injEq] at e
      subst e
      rw [hg] at hg'
      injection hg' with hg'
      injection hg' with _ h2
      exact absurd h2 (by decide)

/-- 'append(s, x...)' of numbers that came in, or none. -/
theorem append_ints {w : World} {ops : Array Oper} {rest : List Oper} {o : Oper} {a : Act} {Q : Exit → Act → World → Prop} (hgd : o.guard = none) (s x : Operand)
    (ho : o.op = .call { callee := .builtin .append, args := #[s, x], argTypes := #[58, 58] })
    (base : Nat) (v : Value) (n : Nat) (xs : List Value) (hs : a.eval s = v) (hown : w.ownsRow base 3 1 v n xs) (u : Value) (zs : List Int) (hx : a.eval x = u) (hu : Ints w u zs) (hlies : Lies u)
    (hn : n + zs.length ≤ 1000000000) (hbase : base ≤ w.heap.size)
    (h : ∀ v' w', w'.ownsRow base 3 1 v' (n + zs.length) (xs ++ zs.map (Value.int .i64)) → w.grownBy w' v.ownBlock → wpList Tryd.prog ops Q rest (a.put o.dst v') w') :
    wpList Tryd.prog ops Q (o :: rest) a w := by
  obtain ⟨i0, hi, hz0, hz1, hz2⟩ := info_parts Tryd.infoInt
  have hempty : zs = [] → (∀ p c, u = .slice (some p) 0 c → wpList Tryd.prog ops Q (o :: rest) a w) := fun h0 p c hp => by
    subst h0
    refine wpList_append_own _ hgd s x 58 ho base 3 i0 (.int .i64 0) 1 8 Tryd.underlying58 hi hz0 hz1 hz2 rfl (by decide) v n xs hs hown p 0 c [] (hx.trans hp) rfl (fun j u hj => by simp at hj) (fun u hu => by simp at hu) ?_ ?_ hbase ?_
    · unfold maxLen; simp at hn; omega
    · simp at hn; omega
    · intro v' w' h1 h2 _; exact h v' w' (by simpa using h1) h2
  rcases hu with ⟨p, c, hp, h0⟩ | ⟨g, cap, hp, hg, hc⟩
  · rcases hlies with hl | ⟨p', n', c', hl⟩
    · subst h0
      refine wpList_append_own_none hgd s x 58 ho base 3 i0 1 Tryd.underlying58 hi v n xs hs hown (hx.trans hl) ?_
      exact h v w (by simpa using hown) (grownBy_refl _ _)
    · rw [hp] at hl
      injection hl with hl1 hl2 hl3
      exact hempty h0 p' c (by rw [hp, hl1])
  · exact append_row hgd s x ho base v n xs hs hown g zs.length cap zs (hx.trans hp) rfl hc hn hbase h

theorem Tryd.infoRow : (Tryd.prog.info? 58).map (fun i => (i.zero, i.size, i.bytes)) = some (some (.slice none 0 0), 1, 24) := by kernel_rfl
theorem info_rows {o : Option TypeInfo} {z : Value} {s b : Nat} (h : o.map (fun i => (i.zero, i.size, i.bytes)) = some (some z, s, b)) : ∃ i, o = some i ∧ i.zero = some z ∧ i.size = s ∧ i.bytes = b := by
  obtain ⟨i, hi, h2⟩ := Option.map_eq_some_iff.1 h
  injection h2 with h3 h4
  injection h4 with h5 h6
  exact ⟨i, hi, h3, h5, h6⟩
/-- Rows of one's own, in a row of one's own. -/
def OwnSS (w : World) (base : Nat) (v : Value) (rows : List (List Int)) : Prop :=
  ∃ us : List Value, us.length = rows.length ∧ w.ownsRow base 58 1 v us.length us ∧ ∀ j, j < rows.length → w.ownsRow base 3 1 (us.getD j undef) (rows.getD j []).length ((rows.getD j []).map (Value.int .i64))
theorem OwnSS.below {w w' : World} {base : Nat} {v : Value} {rows : List (List Int)} (h : OwnSS w base v rows) (hB : Below w.heap.size w w') : OwnSS w' base v rows := by
  obtain ⟨us, h1, h2, h3⟩ := h
  exact ⟨us, h1, own_below h2 hB, fun j hj => own_below (h3 j hj) hB⟩
theorem OwnSS.nil {w : World} {base : Nat} {v : Value} (h : w.ownsRow base 58 1 v 0 []) : OwnSS w base v [] := ⟨[], rfl, h, fun j hj => by simp at hj⟩
/-- Read: the row that lies at place j. -/
theorem OwnSS.read {w : World} {base : Nat} {v : Value} {rows : List (List Int)} (h : OwnSS w base v rows) (h0 : 0 < rows.length) : ∃ g cap, v = .slice (some ⟨g, 0, none⟩) rows.length cap ∧ g < w.heap.size ∧ ∀ j, j < rows.length → ∃ u, w.cell? ⟨g, j, none⟩ = some u ∧ Ints w u (rows.getD j []) ∧ Lies u := by
  obtain ⟨us, h1, h2, h3⟩ := h
  rcases h2.2 with ⟨_, hn⟩ | ⟨g, cap, cur, rfl, hb, hg, _⟩
  · omega
  · refine ⟨g, cap, by rw [h1], (Array.getElem?_eq_some_iff.1 hg).1, fun j hj => ⟨us.getD j undef, ?_, Ints.of_owns (h3 j hj), Lies.of_owns (h3 j hj)⟩⟩
    rw [h2.cellAt j (by omega), List.getD, List.getElem?_eq_getElem (by omega)]; rfl
end Go.Proofs.YtkcbfiglmjdaiaaDoor
/-
  The laws' helpers over rows of rows: what a slice of rows reads as; rows of one's own, each in a block of its own.
-/
namespace Go.Proofs.YtkcbfiglmjdaiaaDoor
open Go.RowKit

/-- A slice of rows, as it reads. -/
def RowsI (W : World) (v : Value) (rows : List (List Int)) : Prop :=
  ∃ a c, v = .slice a rows.length c ∧ (0 < rows.length → ∃ G, a = some ⟨G, 0, none⟩ ∧ G < W.heap.size ∧ ∀ j, j < rows.length → ∃ u, W.cell? ⟨G, j, none⟩ = some u ∧ Ints W u (rows.getD j []))
theorem RowsI.below {W W' : World} {v : Value} {rows : List (List Int)} (h : RowsI W v rows) (hb : Below W.heap.size W W') : RowsI W' v rows := by
  obtain ⟨a, c, rfl, h⟩ := h
  refine ⟨a, c, rfl, fun h0 => ?_⟩
  obtain ⟨G, rfl, hG, hr⟩ := h h0
  refine ⟨G, rfl, Nat.lt_of_lt_of_le hG hb.size, fun j hj => ?_⟩
  obtain ⟨u, h1, h2⟩ := hr j hj
  exact ⟨u, (hb.cell (p := ⟨G, j, none⟩) hG).trans h1, h2.below hb⟩
theorem OwnSS.rowsI {w : World} {base : Nat} {v : Value} {rows : List (List Int)} (h : OwnSS w base v rows) : RowsI w v rows := by
  by_cases h0 : 0 < rows.length
  · obtain ⟨g, cap, rfl, h1, h2⟩ := h.read h0
    refine ⟨_, _, rfl, fun _ => ⟨g, rfl, h1, fun j hj => ?_⟩⟩
    obtain ⟨u, h3, h4, _⟩ := h2 j hj
    exact ⟨u, h3, h4⟩
  · obtain ⟨us, h1, h2, _⟩ := h
    obtain ⟨a, c, rfl⟩ : ∃ a c, v = .slice a us.length c := by
      rcases h2.2 with ⟨rfl, hn⟩ | ⟨g, cap, cur, rfl, _⟩
      · exact ⟨_, _, by rw [hn]⟩
      · exact ⟨_, _, rfl⟩
    exact ⟨a, c, by rw [h1], fun h => absurd h h0⟩

/-- Rows of one's own, each in a block of its own: what a function that makes rows hands back. -/
def OwnRows (w : World) (base : Nat) (v : Value) (rows : List (List Int)) : Prop :=
  ∃ us : List Value, us.length = rows.length ∧ w.ownsRow base 58 1 v us.length us ∧ (∀ j, j < rows.length → w.ownsRow base 3 1 (us.getD j undef) (rows.getD j []).length ((rows.getD j []).map (Value.int .i64))) ∧
    ∀ i j, i < j → j < rows.length → (us.getD i undef).ownBlock ≠ (us.getD j undef).ownBlock
theorem OwnRows.ownSS {w : World} {base : Nat} {v : Value} {rows : List (List Int)} (h : OwnRows w base v rows) : OwnSS w base v rows := by
  obtain ⟨us, h1, h2, h3, _⟩ := h
  exact ⟨us, h1, h2, h3⟩

/-- Rows of one's own between two marks: the block of the slice, the rows' blocks, and what they hold. -/
structure Grid (W : World) (base lim G n : Nat) (b cb L : Nat → Nat) (F : Nat → Nat → Int) : Prop where
  gb : base ≤ G ∧ G < lim ∧ G < W.heap.size
  at_ : ∀ j, j < n → W.cell? ⟨G, j, none⟩ = some (.slice (some ⟨b j, 0, none⟩) (L j) (cb j))
  rb : ∀ j, j < n → base ≤ b j ∧ b j < lim ∧ b j ≠ G
  row : ∀ j, j < n → RowAt W (b j) (L j) (F j)
  ne : ∀ i j, i < j → j < n → b i ≠ b j
/-- What changes between two marks alone. -/
structure Between (base lim : Nat) (W W' : World) : Prop where
  os : W'.os = W.os
  tape : W'.tape = W.tape
  output : W'.output = W.output
  size : W.heap.size ≤ W'.heap.size
  block : ∀ k, k < W.heap.size → (k < base ∨ lim ≤ k) → W'.heap[k]? = W.heap[k]?
theorem Between.refl (base lim : Nat) (W : World) : Between base lim W W := ⟨rfl, rfl, rfl, Nat.le_refl _, fun _ _ _ => rfl⟩
theorem Between.grown {base lim : Nat} {W W' W2 : World} {row : Option Nat} (h : Between base lim W W') (hg : W'.grownBy W2 row) (hr : ∀ k, row = some k → base ≤ k ∧ k < lim) : Between base lim W W2 :=
  ⟨hg.os.trans h.os, hg.tape.trans h.tape, hg.output.trans h.output, Nat.le_trans h.size hg.size, fun k hk ho => (hg.block k (Nat.lt_of_lt_of_le hk h.size) (fun e => by have := hr k e.symm; omega)).trans (h.block k hk ho)⟩
theorem Between.below {base lim B : Nat} {W W' W0 : World} (h : Between base lim W W') (h0 : Below B W0 W) (hb : B ≤ base) (hs : B ≤ W.heap.size) : Below B W0 W' :=
  h0.trans ⟨h.os, h.tape, h.output, h.size, fun k hk => h.block k (Nat.lt_of_lt_of_le hk hs) (.inl (by omega))⟩
theorem OwnI.between {W W' : World} {base lim base' lim' n : Nat} {v : Value} {f : Nat → Int} (h : OwnI W base lim v n f) (hg : Between base' lim' W W') (hr : lim ≤ base' ∨ lim' ≤ base) : OwnI W' base lim v n f := by
  rcases h with h | ⟨g, cap, rfl, h1, h2, h3⟩
  · exact .inl h
  · exact .inr ⟨g, cap, rfl, h1, h2, h3.of_block (hg.block g h3.lt (by omega))⟩
theorem Grid.below {W W' : World} {base lim G n : Nat} {b cb L : Nat → Nat} {F : Nat → Nat → Int} (h : Grid W base lim G n b cb L F) (hb : Below W.heap.size W W') : Grid W' base lim G n b cb L F :=
  ⟨⟨h.gb.1, h.gb.2.1, Nat.lt_of_lt_of_le h.gb.2.2 hb.size⟩, fun j hj => (hb.cell (p := ⟨G, j, none⟩) h.gb.2.2).trans (h.at_ j hj), h.rb, fun j hj => (h.row j hj).of_block (hb.block _ (h.row j hj).lt), h.ne⟩
theorem Grid.between {W W' : World} {base lim base' lim' G n : Nat} {b cb L : Nat → Nat} {F : Nat → Nat → Int} (h : Grid W base lim G n b cb L F) (hg : Between base' lim' W W') (hr : lim ≤ base' ∨ lim' ≤ base) : Grid W' base lim G n b cb L F :=
  ⟨⟨h.gb.1, h.gb.2.1, Nat.lt_of_lt_of_le h.gb.2.2 hg.size⟩,
    fun j hj => (show W'.cell? ⟨G, j, none⟩ = W.cell? ⟨G, j, none⟩ from World.cell?_of_block (w := W) (hg.block G h.gb.2.2 (by have := h.gb; omega))).trans (h.at_ j hj), h.rb,
    fun j hj => (h.row j hj).of_block (hg.block _ (h.row j hj).lt (by have := h.rb j hj; omega)), h.ne⟩
theorem Grid.set {W W' : World} {base lim G n : Nat} {b cb L : Nat → Nat} {F F' : Nat → Nat → Int} (h : Grid W base lim G n b cb L F) {k : Nat} (hk : k < n) (hg : W.grownBy W' (some (b k))) (hr : RowAt W' (b k) (L k) (F' k)) (he : ∀ j, j ≠ k → F' j = F j) : Grid W' base lim G n b cb L F' := by
  refine ⟨⟨h.gb.1, h.gb.2.1, Nat.lt_of_lt_of_le h.gb.2.2 hg.size⟩, fun j hj => ?_, h.rb, fun j hj => ?_, h.ne⟩
  · exact (show W'.cell? ⟨G, j, none⟩ = W.cell? ⟨G, j, none⟩ from World.cell?_of_block (w := W) (hg.block G h.gb.2.2 (fun e => by have := (h.rb k hk).2.2; injection e with e; omega))).trans (h.at_ j hj)
  · by_cases e : j = k
    · subst e; exact hr
    · rw [he j e]
      refine (h.row j hj).of_block (hg.block _ (h.row j hj).lt (fun e2 => ?_))
      injection e2 with e2
      rcases Nat.lt_or_ge j k with h3 | h3
      · exact h.ne j k h3 hk e2
      · exact h.ne k j (by omega) hj e2.symm

/-- A slice of rows of one's own: none, or a grid. -/
def OwnG (W : World) (base lim : Nat) (v : Value) (n : Nat) (L : Nat → Nat) (F : Nat → Nat → Int) : Prop :=
  (n = 0 ∧ ∃ a c, v = .slice a 0 c) ∨ ∃ G cap b cb, v = .slice (some ⟨G, 0, none⟩) n cap ∧ Grid W base lim G n b cb L F
theorem OwnG.below {W W' : World} {base lim n : Nat} {v : Value} {L : Nat → Nat} {F : Nat → Nat → Int} (h : OwnG W base lim v n L F) (hb : Below W.heap.size W W') : OwnG W' base lim v n L F := by
  rcases h with h | ⟨G, cap, b, cb, rfl, h⟩
  · exact .inl h
  · exact .inr ⟨G, cap, b, cb, rfl, h.below hb⟩
theorem OwnG.between {W W' : World} {base lim base' lim' n : Nat} {v : Value} {L : Nat → Nat} {F : Nat → Nat → Int} (h : OwnG W base lim v n L F) (hg : Between base' lim' W W') (hr : lim ≤ base' ∨ lim' ≤ base) : OwnG W' base lim v n L F := by
  rcases h with h | ⟨G, cap, b, cb, rfl, h⟩
  · exact .inl h
  · exact .inr ⟨G, cap, b, cb, rfl, h.between hg hr⟩
theorem OwnG.of_rows {w w' : World} {v : Value} {rows : List (List Int)} (h : OwnRows w' w.heap.size v rows) (h1 : ∀ j, j < rows.length → 0 < (rows.getD j []).length) :
    OwnG w' w.heap.size w'.heap.size v rows.length (fun j => (rows.getD j []).length) (fun j i => (rows.getD j []).getD i 0) := by
  obtain ⟨us, hl, hv, hr, hne⟩ := h
  by_cases h0 : 0 < rows.length
  · right
    rcases hv.2 with ⟨_, hn⟩ | ⟨G, cap, cur, rfl, hb, hg, hrest⟩
    · omega
    · have hex : ∀ j, ∃ b cb, j < rows.length → us.getD j undef = .slice (some ⟨b, 0, none⟩) (rows.getD j []).length cb ∧ w.heap.size ≤ b ∧ RowAt w' b (rows.getD j []).length (fun i => (rows.getD j []).getD i 0) := fun j => by
        by_cases hj : j < rows.length
        · obtain ⟨b, cb, e1, e2, e3⟩ := RowAt.of_owns (hr j hj) (h1 j hj)
          exact ⟨b, cb, fun _ => ⟨e1, e2, e3⟩⟩
        · exact ⟨0, 0, fun h => absurd h hj⟩
      have hch : ∃ b cb : Nat → Nat, ∀ j, j < rows.length → us.getD j undef = .slice (some ⟨b j, 0, none⟩) (rows.getD j []).length (cb j) ∧ w.heap.size ≤ b j ∧ RowAt w' (b j) (rows.getD j []).length (fun i => (rows.getD j []).getD i 0) :=
        ⟨fun j => Classical.choose (hex j), fun j => Classical.choose (Classical.choose_spec (hex j)), fun j hj => Classical.choose_spec (Classical.choose_spec (hex j)) hj⟩
      obtain ⟨b, cb, hbc⟩ := hch
      have hGs : G < w'.heap.size := (Array.getElem?_eq_some_iff.1 hg).1
      refine ⟨G, cap, b, cb, by rw [hl], ⟨⟨hb, hGs, hGs⟩, fun j hj => ?_, fun j hj => ⟨(hbc j hj).2.1, (hbc j hj).2.2.lt, fun e => ?_⟩, fun j hj => (hbc j hj).2.2, fun i j hij hj e => ?_⟩⟩
      · rw [hv.cellAt j (by omega), ← (hbc j hj).1, List.getD, List.getElem?_eq_getElem (by omega)]; rfl
      · rcases own_apart (hr j hj) hv with h3 | h3
        · rw [(hbc j hj).1] at h3; simp [Value.ownBlock] at h3
        · rw [(hbc j hj).1] at h3; simp [Value.ownBlock, e] at h3
      · have h3 := hne i j hij hj
        rw [(hbc i (by omega)).1, (hbc j hj).1] at h3
        simp [Value.ownBlock, e] at h3
  · left
    refine ⟨by omega, ?_⟩
    rcases hv.2 with ⟨rfl, hn⟩ | ⟨g, cap, cur, rfl, _⟩
    · exact ⟨_, _, rfl⟩
    · exact ⟨_, _, by rw [show us.length = 0 by omega]⟩
theorem OwnG.rowsI {W : World} {base lim : Nat} {v : Value} {rows : List (List Int)} (h : OwnG W base lim v rows.length (fun j => (rows.getD j []).length) (fun j i => (rows.getD j []).getD i 0)) : RowsI W v rows := by
  rcases h with ⟨h0, a, c, rfl⟩ | ⟨G, cap, b, cb, rfl, h⟩
  · exact ⟨a, c, by rw [h0], fun h => by omega⟩
  · refine ⟨_, _, rfl, fun _ => ⟨G, rfl, h.gb.2.2, fun j hj => ⟨_, h.at_ j hj, ?_⟩⟩⟩
    exact .inr ⟨_, _, rfl, (h.row j hj).lt, fun i hi => (h.row j hj).cell hi⟩
end Go.Proofs.YtkcbfiglmjdaiaaDoor
