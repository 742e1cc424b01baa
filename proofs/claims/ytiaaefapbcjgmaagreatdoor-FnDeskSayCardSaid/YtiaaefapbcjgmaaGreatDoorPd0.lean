/-
 Parts of the proofs, laid together: BaseZ, MathZ, SpecZ.
-/
import Derived.WalkKit
import Derived.Laws.Concat
import Derived.Laws.Strings2
import Derived.OrdersIn
import Derived.TacticsIn
import Derived.Test.YtiaaefapbcjgmaaGreatDoorProg
import Derived.OwnWalkIn
import Derived.Deep.RegionLaw
import Derived.RangeFuncBox
import Derived.Laws.DeepStrings4
import Derived.Laws.Cover1
import Derived.Maps.AppendAt
import Derived.WalkSpells
import Derived.RangeFuncNested
import Derived.RangeFuncBound
import Derived.RangeFuncCalls
import Derived.RangeFuncLeaves
import Derived.BigRegion
import Derived.Shelf.Abstract
import Derived.Shelf.RegionOpen
import Derived.TacticsInMore
import Derived.LoopNIn
import Derived.LoopIn
import Derived.Deep.QuietTactic
import Derived.BigQuiet
import Derived.Below
import Derived.Laws.BytesString
import Derived.Deep.RegionWith
import Derived.DeepKeys5
import Derived.Maps.Keyed
import Derived.Deep.DeepCutAuto
import Derived.Laws.AppendOwnNone
namespace Go.Proofs.YtiaaefapbcjgmaaGreatDoor
open Go
theorem gE9 {α : Type _} {xs : Array α} {i : Nat} {a : α} : xs[i]? = some a ↔ ∃ h : i < xs.size, xs[i] = a := Array.getElem?_eq_some_iff
theorem cW9 {n : Nat} {P : Program} {f : FuncId} {args : Array Value} {w : World} {R : Ending → World → Prop} : CallsIn Fence.wide n P f args w R ↔ Calls P f args w R := callsIn_wide
theorem aN9 (w : World) (o : Obj) : (w.alloc o).heap[w.heap.size]? = some o := World.alloc_heap_new w o
theorem lL9 {a b c : Nat} (h : a < b) (k : b ≤ c) : a < c := Nat.lt_of_lt_of_le h k
theorem lT9 {a b c : Nat} (h : a ≤ b) (k : b ≤ c) : a ≤ c := Nat.le_trans h k
theorem eG9 {α : Type _} {l : List α} {i : Nat} (h : i < l.length) : l[i]? = some l[i] := List.getElem?_eq_getElem h
section
open Go.RowKit
theorem hide {p : Prop} (h : p) : Hid p := h
def bin : Nat → Nat → Nat
 | _, 0 => 1
 | 0, _ + 1 => 0
 | n + 1, k + 1 => bin n k + bin n (k + 1)
theorem bin_zero (n : Nat) : bin n 0 = 1 := by cases n <;> rfl
theorem bin_succ (n k : Nat) : bin (n + 1) (k + 1) = bin n k + bin n (k + 1) := rfl
theorem bin_over : ∀ (n k : Nat), n < k → bin n k = 0
 | 0, k + 1, _ => rfl
 | n + 1, k + 1, h => by rw [bin_succ, bin_over n k (by omega), bin_over n (k + 1) (by omega)]
theorem bin_self : ∀ n : Nat, bin n n = 1
 | 0 => rfl
 | n + 1 => by rw [bin_succ, bin_self n, bin_over n (n + 1) (by omega)]
theorem bin_le : ∀ (n k : Nat), bin n k ≤ 2 ^ n
 | n, 0 => by rw [bin_zero]; exact Nat.one_le_two_pow
 | 0, k + 1 => by simp [bin]
 | n + 1, k + 1 => by rw [bin_succ]; have h1 := bin_le n k; have h2 := bin_le n (k + 1); rw [Nat.pow_succ]; omega
theorem bin_small (n k : Nat) (h : n ≤ 61) : bin n k ≤ 2305843009213693952 :=
 lT9 (bin_le n k) (lT9 (Nat.pow_le_pow_right (by omega) h) (by decide))
def rowN (n : Nat) : List Int := (List.range (n + 1)).map fun k => (bin n k : Int)
def rowP (n k : Nat) : List Int := (List.range k).map fun i => (bin n i : Int)
def outSt : Nat → List Int
 | 0 => []
 | j + 1 => rowN j
theorem rowN_len (n : Nat) : (rowN n).length = n + 1 := by simp [rowN]
theorem outSt_len (j : Nat) : (outSt j).length = j := by cases j <;> simp [outSt, rowN]
theorem rowP_snoc (n k : Nat) : rowP n (k + 1) = rowP n k ++ [(bin n k : Int)] := by simp [rowP, List.range_succ]
theorem rowP_full (n : Nat) : rowP n (n + 1) = rowN n := rfl
theorem rowP_one (n : Nat) : rowP n 1 = [1] := by simp [rowP, bin_zero]
theorem rowP_last (n : Nat) : rowP n n ++ [1] = rowN n := by rw [← rowP_full, rowP_snoc, bin_self]; rfl
theorem outSt_get (j k : Nat) (h : k < j) : (outSt j)[k]? = some (bin (j - 1) k : Int) := by
 cases j with
 | zero => omega
 | succ j => simp only [outSt, rowN]; rw [List.getElem?_map, List.getElem?_range (by omega)]; rfl
theorem bin_sum (j k : Nat) (hk : 0 < k) (hj : k < j) : bin (j - 1) (k - 1) + bin (j - 1) k = bin j k := by
 cases j with
 | zero => omega
 | succ j => cases k with
   | zero => omega
   | succ k => rw [bin_succ]; rfl
theorem absorb : ∀ (n k : Nat), bin (n + 1) (k + 1) * (k + 1) = (n + 1) * bin n k
 | 0, 0 => rfl
 | 0, k + 1 => by rw [bin_over (0 + 1) (k + 1 + 1) (by omega), bin_over 0 (k + 1) (by omega)]; simp
 | m + 1, 0 => by
   have h := absorb m 0
   rw [bin_zero] at *
   rw [bin_succ, bin_zero]; omega
 | m + 1, j + 1 => by
   have h1 := absorb m (j + 1)
   have h2 := absorb m j
   rw [bin_succ (m + 1) (j + 1), Nat.add_mul, h1]
   have h3 : bin (m + 1) (j + 1) * (j + 1 + 1) = bin (m + 1) (j + 1) * (j + 1) + bin (m + 1) (j + 1) := by rw [Nat.mul_add, Nat.mul_one]
   rw [h3, h2]
   have h4 : (m + 1 + 1) * bin (m + 1) (j + 1) = (m + 1) * bin (m + 1) (j + 1) + bin (m + 1) (j + 1) := by rw [Nat.add_mul, Nat.one_mul]
   have h5 : (m + 1) * bin (m + 1) (j + 1) = (m + 1) * bin m j + (m + 1) * bin m (j + 1) := by rw [bin_succ m j, Nat.mul_add]
   omega
def psum (n : Nat) : Nat → Nat
 | 0 => 0
 | k + 1 => psum n k + bin n k
theorem psum_step (n : Nat) : ∀ k, psum (n + 1) (k + 1) = psum n (k + 1) + psum n k
 | 0 => by simp [psum, bin_zero]
 | k + 1 => by
   show psum (n + 1) (k + 1) + bin (n + 1) (k + 1) = psum n (k + 1) + bin n (k + 1) + (psum n k + bin n k)
   rw [psum_step n k, bin_succ]; omega
theorem psum_row : ∀ n, psum n (n + 1) = 2 ^ n
 | 0 => rfl
 | n + 1 => by
   rw [psum_step, show psum n (n + 1 + 1) = psum n (n + 1) + bin n (n + 1) from rfl, bin_over n (n + 1) (by omega), psum_row n, Nat.pow_succ]; omega
theorem psum_mono (n : Nat) : ∀ j k, j ≤ k → psum n j ≤ psum n k
 | j, 0, h => by obtain rfl : j = 0 := by omega
                 exact Nat.le_refl _
 | j, k + 1, h => by
   by_cases e : j = k + 1
   · rw [e]; exact Nat.le_refl _
   · exact lT9 (psum_mono n j k (by omega)) (Nat.le_add_right _ _)
end
section
def decF : Nat → Nat → List Nat
 | 0, n => [48 + n % 10]
 | f + 1, n => if n < 10 then [48 + n] else decF f (n / 10) ++ [48 + n % 10]
def digL : List Nat → Nat → Option Nat
 | [], n => some n
 | c :: r, n => if 48 ≤ c ∧ c ≤ 57 then digL r (10 * n + (c - 48)) else none
def digT (s : List Nat) : Option Nat := if 1 ≤ s.length ∧ s.length ≤ 9 ∧ ¬ (1 < s.length ∧ s.getD 0 0 = 48) then digL s 0 else none
def cutL (sep : Nat) : List Nat → List Nat → List (List Nat)
 | line, [] => [line]
 | line, c :: r => if c = sep then line :: cutL sep [] r else cutL sep (line ++ [c]) r
def cutT (sep : Nat) (s : List Nat) : List (List Nat) := cutL sep [] s
def deedT (k n : Int) : List Nat :=
 if k = 0 ∧ 0 ≤ n ∧ n ≤ 99 then [102, 108, 105, 112, 32] ++ decF 20 n.toNat
 else if k = 1 ∧ 0 ≤ n ∧ n ≤ 9 then [112, 117, 116, 32] ++ decF 20 n.toNat
 else if k = 2 ∧ n = 0 then [117, 110, 100, 101, 114]
 else if k = 3 ∧ n = 0 then [116, 117, 114, 110]
 else if k = 4 ∧ n = 0 then [114, 111, 117, 110, 100]
 else if k = 5 ∧ n = 0 then [98, 97, 99, 107]
 else []
def secI (s : List Nat) : Int := match digT ((cutT 32 s).getD 1 []) with | some n => n | none => -1
def candD (s : List Nat) : List (Int × Int) := [(2, 0), (3, 0), (4, 0), (5, 0)] ++ (if (cutT 32 s).length = 2 then [(0, secI s), (1, secI s)] else [])
def readD (s : List Nat) : Option (Int × Int) := (candD s).find? fun a => decide (s ≠ []) && decide (deedT a.1 a.2 = s)
theorem readD_text {s : List Nat} {a : Int × Int} (h : readD s = some a) : s ≠ [] ∧ deedT a.1 a.2 = s := by
 have := List.find?_some h
 simpa using this
def isD (k n : Int) : Prop := (k = 0 ∧ 0 ≤ n ∧ n ≤ 99) ∨ (k = 1 ∧ 0 ≤ n ∧ n ≤ 9) ∨ (n = 0 ∧ (k = 2 ∨ k = 3 ∨ k = 4 ∨ k = 5))
theorem deedT_is {k n : Int} (h : deedT k n ≠ []) : isD k n := by
 unfold deedT at h
 unfold isD
 split at h
 · exact .inl (by assumption)
 split at h
 · exact .inr (.inl (by assumption))
 split at h
 · exact .inr (.inr (by omega))
 split at h
 · exact .inr (.inr (by omega))
 split at h
 · exact .inr (.inr (by omega))
 split at h
 · exact .inr (.inr (by omega))
 · exact absurd rfl h
def nthD (i : Nat) : Int × Int := if i < 100 then (0, i) else if i < 110 then (1, ((i - 100 : Nat) : Int)) else (((i - 108 : Nat) : Int), 0)
theorem isD_nth {k n : Int} (h : isD k n) : ∃ i, i < 114 ∧ nthD i = (k, n) := by
 rcases h with ⟨rfl, h1, h2⟩ | ⟨rfl, h1, h2⟩ | ⟨rfl, rfl | rfl | rfl | rfl⟩
 · exact ⟨n.toNat, by omega, by unfold nthD; rw [if_pos (by omega)]; simp; omega⟩
 · exact ⟨100 + n.toNat, by omega, by unfold nthD; rw [if_neg (by omega), if_pos (by omega)]; simp; omega⟩
 · exact ⟨110, by omega, rfl⟩
 · exact ⟨111, by omega, rfl⟩
 · exact ⟨112, by omega, rfl⟩
 · exact ⟨113, by omega, rfl⟩
def okD (i : Nat) : Bool :=
 let a := nthD i
 let s := deedT a.1 a.2
 decide (s ≠ []) && s.all (fun c => decide (c < 256 ∧ c ≠ 10)) && decide (s.length ≤ 8) && decide (s.getLast? ≠ some 32) && decide (readD s = some a)
set_option maxRecDepth 100000 in
theorem okD_all : ((List.range 114).all okD) = true := by decide +kernel
theorem deed_ok {k n : Int} (h : isD k n) : deedT k n ≠ [] ∧ (∀ c ∈ deedT k n, c < 256 ∧ c ≠ 10) ∧ (deedT k n).length ≤ 8 ∧ (deedT k n).getLast? ≠ some 32 ∧ readD (deedT k n) = some (k, n) := by
 obtain ⟨i, hi, he⟩ := isD_nth h
 have h1 := List.all_eq_true.1 okD_all i (List.mem_range.2 hi)
 unfold okD at h1
 rw [he] at h1
 simp only [Bool.and_eq_true, decide_eq_true_eq, List.all_eq_true] at h1
 exact ⟨h1.1.1.1.1, h1.1.1.1.2, h1.1.1.2, h1.1.2, h1.2⟩
theorem read_of_text {k n : Int} (h : deedT k n ≠ []) : readD (deedT k n) = some (k, n) := (deed_ok (deedT_is h)).2.2.2.2
theorem deed_len (k n : Int) : (deedT k n).length ≤ 8 := by
 by_cases h : deedT k n = []
 · rw [h]; simp
 · exact (deed_ok (deedT_is h)).2.2.1
theorem deed_byte (k n : Int) : ∀ c ∈ deedT k n, c < 256 ∧ c ≠ 10 := by
 by_cases h : deedT k n = []
 · rw [h]; simp
 · exact (deed_ok (deedT_is h)).2.1
end
section
open Go.RowKit
def digs (b n : Nat) : List Nat := if _h : 2 ≤ b ∧ 0 < n then n % b :: digs b (n / b) else []
termination_by n
decreasing_by exact Nat.div_lt_self _h.2 _h.1
def pairs (b x y : Nat) : List (Nat × Nat) := if _h : 2 ≤ b ∧ 0 < x + y then (x % b, y % b) :: pairs b (x / b) (y / b) else []
termination_by x + y
decreasing_by
 rcases Nat.eq_zero_or_pos x with hx | hx
 · subst hx; have := Nat.div_lt_self (n := y) (k := b) (by omega) _h.1; simp; omega
 · have h1 := Nat.div_lt_self (n := x) (k := b) hx _h.1; have h2 := Nat.div_le_self y b; omega
theorem digs_zero (b : Nat) : digs b 0 = [] := by rw [digs, dif_neg (by omega)]
theorem digs_pos {b n : Nat} (hb : 2 ≤ b) (hn : 0 < n) : digs b n = n % b :: digs b (n / b) := by rw [digs, dif_pos ⟨hb, hn⟩]
theorem pairs_zero (b : Nat) : pairs b 0 0 = [] := by rw [pairs, dif_neg (by omega)]
theorem pairs_pos {b x y : Nat} (hb : 2 ≤ b) (hn : 0 < x + y) : pairs b x y = (x % b, y % b) :: pairs b (x / b) (y / b) := by rw [pairs, dif_pos ⟨hb, hn⟩]
def sumL : List Nat → Nat
 | [] => 0
 | x :: r => x + sumL r
def mulL : List Nat → Nat
 | [] => 1
 | x :: r => (x + 1) * mulL r
theorem mulL_app : ∀ (p q : List Nat), mulL (p ++ q) = mulL p * mulL q
 | [], q => by simp [mulL]
 | x :: p, q => by simp [mulL, mulL_app p q, Nat.mul_assoc]
theorem mulL_snoc (p : List Nat) (x : Nat) : mulL (p ++ [x]) = mulL p * (x + 1) := by rw [mulL_app]; simp [mulL]
theorem mulL_pos : ∀ p : List Nat, 1 ≤ mulL p
 | [] => Nat.le_refl _
 | x :: p => by have := mulL_pos p; simp only [mulL]; exact lT9 this (Nat.le_mul_of_pos_left _ (by omega))
theorem div_ind {b : Nat} (hb : 2 ≤ b) {p : Nat → Prop} (h0 : p 0) (h1 : ∀ n, 0 < n → p (n / b) → p n) (n : Nat) : p n := by
 induction n using Nat.strongRecOn with
 | ind n ih =>
   rcases Nat.eq_zero_or_pos n with h | h
   · subst h; exact h0
   · exact h1 n h (ih _ (Nat.div_lt_self h hb))
theorem div_ind2 {b : Nat} (hb : 2 ≤ b) {p : Nat → Nat → Prop} (h0 : p 0 0) (h1 : ∀ x y, 0 < x + y → p (x / b) (y / b) → p x y) (x y : Nat) : p x y := by
 obtain ⟨s, hs⟩ : ∃ s, s = x + y := ⟨_, rfl⟩
 induction s using Nat.strongRecOn generalizing x y with
 | ind s ih =>
   rcases Nat.eq_zero_or_pos (x + y) with h | h
   · obtain ⟨rfl, rfl⟩ : x = 0 ∧ y = 0 := by omega
     exact h0
   · refine h1 x y h (ih (x / b + y / b) ?_ _ _ rfl)
     have e1 := Nat.div_le_self x b
     have e2 := Nat.div_le_self y b
     rcases Nat.eq_zero_or_pos x with hx | hx
     · have := Nat.div_lt_self (n := y) (k := b) (by omega) hb; omega
     · have := Nat.div_lt_self (n := x) (k := b) hx hb; omega
theorem div_mod (b n : Nat) : b * (n / b) + n % b = n := Nat.div_add_mod n b
theorem two_mul_le {b q : Nat} (hb : 2 ≤ b) : 2 * q ≤ b * q := Nat.mul_le_mul_right q hb
theorem mul_le {b : Nat} (hb : 2 ≤ b) (n : Nat) : mulL (digs b n) ≤ n + 1 := by
 refine div_ind hb (p := fun n => mulL (digs b n) ≤ n + 1) (by rw [digs_zero]; exact Nat.le_refl _) (fun n hn ih => ?_) n
 rw [digs_pos hb hn]
 have h1 := div_mod b n
 have h2 : n % b + 1 ≤ b := Nat.mod_lt _ (by omega)
 have h3 := Nat.mul_le_mul_left (n % b + 1) ih
 have h4 := Nat.mul_le_mul_right (n / b) h2
 simp only [mulL]
 rw [Nat.mul_add, Nat.mul_one] at h3
 omega
theorem pairs_len {b : Nat} (hb : 2 ≤ b) (x y : Nat) : (pairs b x y).length ≤ x + y := by
 refine div_ind2 hb (p := fun x y => (pairs b x y).length ≤ x + y) (by rw [pairs_zero]; exact Nat.le_refl _) (fun x y hn ih => ?_) x y
 rw [pairs_pos hb hn]
 have e1 := Nat.div_le_self x b
 have e2 := Nat.div_le_self y b
 simp only [List.length_cons]
 rcases Nat.eq_zero_or_pos x with hx | hx
 · have := Nat.div_lt_self (n := y) (k := b) (by omega) hb; omega
 · have := Nat.div_lt_self (n := x) (k := b) hx hb; omega
def carL (b : Nat) : Nat → List (Nat × Nat) → Nat
 | _, [] => 0
 | c, p :: r => (p.1 + p.2 + c) / b + carL b ((p.1 + p.2 + c) / b) r
def goesOn (b : Nat) : Nat → List (Nat × Nat) → Nat
 | c, [] => c
 | c, p :: r => goesOn b ((p.1 + p.2 + c) / b) r
theorem goesOn_snoc (b : Nat) : ∀ (c : Nat) (p : List (Nat × Nat)) (x : Nat × Nat), goesOn b c (p ++ [x]) = (x.1 + x.2 + goesOn b c p) / b
 | c, [], x => rfl
 | c, y :: p, x => by simp only [List.cons_append, goesOn]; exact goesOn_snoc b _ p x
theorem carL_snoc (b : Nat) : ∀ (c : Nat) (p : List (Nat × Nat)) (x : Nat × Nat), carL b c (p ++ [x]) = carL b c p + (x.1 + x.2 + goesOn b c p) / b
 | c, [], x => by simp [carL, goesOn]
 | c, y :: p, x => by simp only [List.cons_append, carL, goesOn]; rw [carL_snoc b _ p x]; omega
theorem one_carry {b x y c : Nat} (hx : x < b) (hy : y < b) (hc : c ≤ 1) : (x + y + c) / b ≤ 1 := by
 have : (x + y + c) / b < 2 := Nat.div_lt_of_lt_mul (by omega)
 omega
theorem goesOn_le {b : Nat} : ∀ (c : Nat) (p : List (Nat × Nat)), c ≤ 1 → (∀ x ∈ p, x.1 < b ∧ x.2 < b) → goesOn b c p ≤ 1
 | c, [], hc, _ => hc
 | c, x :: p, hc, h => goesOn_le _ p (one_carry (h x (by simp)).1 (h x (by simp)).2 hc) (fun y hy => h y (by simp [hy]))
theorem carL_le {b : Nat} : ∀ (c : Nat) (p : List (Nat × Nat)), c ≤ 1 → (∀ x ∈ p, x.1 < b ∧ x.2 < b) → carL b c p ≤ p.length
 | c, [], _, _ => Nat.le_refl _
 | c, x :: p, hc, h => by
   have h1 := one_carry (h x (by simp)).1 (h x (by simp)).2 hc
   have h2 := carL_le _ p h1 (fun y hy => h y (by simp [hy]))
   simp only [carL, List.length_cons]; omega
theorem pairs_lt {b : Nat} (hb : 2 ≤ b) (x y : Nat) : ∀ p ∈ pairs b x y, p.1 < b ∧ p.2 < b := by
 refine div_ind2 hb (p := fun x y => ∀ p ∈ pairs b x y, p.1 < b ∧ p.2 < b) (by rw [pairs_zero]; simp) (fun x y hn ih => ?_) x y
 rw [pairs_pos hb hn]
 intro d hd
 rcases List.mem_cons.1 hd with rfl | h
 · exact ⟨Nat.mod_lt _ (by omega), Nat.mod_lt _ (by omega)⟩
 · exact ih d h
theorem place {b x y c : Nat} (hb : 2 ≤ b) : (x + y + c) % b = (x % b + y % b + c) % b ∧ (x + y + c) / b = x / b + y / b + (x % b + y % b + c) / b := by
 have hx := div_mod b x
 have hy := div_mod b y
 have he : x + y + c = (x % b + y % b + c) + b * (x / b + y / b) := by rw [Nat.mul_add]; omega
 constructor
 · rw [he, Nat.add_mul_mod_self_left]
 · rw [he, Nat.add_mul_div_left _ _ (by omega)]; omega
theorem carries {b : Nat} (hb : 2 ≤ b) (x y : Nat) : ∀ c, c ≤ 1 → (b - 1) * carL b c (pairs b x y) + sumL (digs b (x + y + c)) = sumL (digs b x) + sumL (digs b y) + c := by
 refine div_ind2 hb (p := fun x y => ∀ c, c ≤ 1 → (b - 1) * carL b c (pairs b x y) + sumL (digs b (x + y + c)) = sumL (digs b x) + sumL (digs b y) + c) ?_ (fun x y hn ih c hc => ?_) x y
 · intro c hc
   rw [pairs_zero, digs_zero]
   rcases Nat.eq_zero_or_pos c with h | h
   · subst h; rw [digs_zero]; rfl
   · obtain rfl : c = 1 := by omega
     rw [digs_pos hb (by omega), show (0 + 0 + 1) / b = 0 by exact Nat.div_eq_of_lt (by omega), digs_zero, show (0 + 0 + 1) % b = 1 by exact Nat.mod_eq_of_lt (by omega)]; rfl
 · rw [pairs_pos hb hn]
   have hsx : ∀ n, sumL (digs b n) = n % b + sumL (digs b (n / b)) := fun n => by
    rcases Nat.eq_zero_or_pos n with h | h
    · subst h; simp [digs_zero, sumL]
    · rw [digs_pos hb h]; rfl
   rw [hsx (x + y + c), hsx x, hsx y, (place (x := x) (y := y) (c := c) hb).1, (place (x := x) (y := y) (c := c) hb).2]
   simp only [carL]
   have hx := Nat.mod_lt x (show 0 < b by omega)
   have hy := Nat.mod_lt y (show 0 < b by omega)
   have h1 := one_carry hx hy hc
   have h2 := ih _ h1
   have h3 := div_mod b (x % b + y % b + c)
   generalize (x % b + y % b + c) / b = d at *
   generalize (x % b + y % b + c) % b = e at *
   rw [Nat.mul_add]
   rcases (show d = 0 ∨ d = 1 by omega) with rfl | rfl
   · omega
   · rw [Nat.mul_one] at *; omega
def und (b x y : Nat) : Bool := (pairs b x y).all fun p => decide (p.1 ≤ p.2)
theorem und_zero (b : Nat) : und b 0 0 = true := by unfold und; rw [pairs_zero]; rfl
theorem und_step {b : Nat} (hb : 2 ≤ b) (x y : Nat) : und b x y = (decide (x % b ≤ y % b) && und b (x / b) (y / b)) := by
 rcases Nat.eq_zero_or_pos (x + y) with h | h
 · obtain ⟨rfl, rfl⟩ : x = 0 ∧ y = 0 := by omega
   simp [und_zero]
 · unfold und; rw [pairs_pos hb h]; rfl
theorem und_none {b : Nat} (hb : 2 ≤ b) (y : Nat) : und b 0 y = true := by
 refine div_ind hb (p := fun y => und b 0 y = true) (und_zero b) (fun y hn ih => ?_) y
 rw [und_step hb, Nat.zero_div, ih]; simp
def val (p n : Nat) : Nat := if _h : (2 ≤ p ∧ 0 < n) ∧ n % p = 0 then val p (n / p) + 1 else 0
termination_by n
decreasing_by exact Nat.div_lt_self _h.1.2 _h.1.1
def strip (p n : Nat) : Nat := if _h : (2 ≤ p ∧ 0 < n) ∧ n % p = 0 then strip p (n / p) else n
termination_by n
decreasing_by exact Nat.div_lt_self _h.1.2 _h.1.1
def tup (p n : Nat) : Nat := if _h : 2 ≤ p ∧ 0 < n then n / p + tup p (n / p) else 0
termination_by n
decreasing_by exact Nat.div_lt_self _h.2 _h.1
theorem tup_zero (p : Nat) : tup p 0 = 0 := by rw [tup, dif_neg (by omega)]
theorem tup_pos {p n : Nat} (hp : 2 ≤ p) (hn : 0 < n) : tup p n = n / p + tup p (n / p) := by rw [tup, dif_pos ⟨hp, hn⟩]
theorem legendre {p : Nat} (hp : 2 ≤ p) (n : Nat) : (p - 1) * tup p n + sumL (digs p n) = n := by
 refine div_ind hp (p := fun n => (p - 1) * tup p n + sumL (digs p n) = n) (by rw [tup_zero, digs_zero]; rfl) (fun n hn ih => ?_) n
 rw [tup_pos hp hn, digs_pos hp hn]
 simp only [sumL]
 have h1 := div_mod p n
 obtain ⟨c, rfl⟩ : ∃ c, p = c + 1 := ⟨p - 1, by omega⟩
 rw [Nat.add_sub_cancel] at *
 rw [Nat.mul_add]
 rw [Nat.add_mul, Nat.one_mul] at h1
 omega
theorem tup_le {p : Nat} (hp : 2 ≤ p) (n : Nat) : tup p n ≤ n := by
 have h1 := legendre hp n
 have h2 := Nat.le_mul_of_pos_left (tup p n) (show 0 < p - 1 by omega)
 omega
def prm (p : Nat) : Prop := p = 2 ∨ p = 3 ∨ p = 5 ∨ p = 7 ∨ p = 11 ∨ p = 13
instance (p : Nat) : Decidable (prm p) := by unfold prm; infer_instance
theorem prm_two {p : Nat} (h : prm p) : 2 ≤ p ∧ p ≤ 13 := by unfold prm at h; omega
def sixth : List Nat := [2, 3, 5, 7, 11, 13]
theorem prm_in {p : Nat} (h : prm p) : p ∈ sixth := by unfold prm at h; unfold sixth; simp; omega
theorem zeros_all : sixth.all (fun p => (List.range p).all fun x => (List.range p).all fun y => !(x * y % p == 0) || (x == 0 || y == 0)) = true := by decide
theorem no_zeros {p : Nat} (h : prm p) (x : Nat) (hx : x < p) (y : Nat) (hy : y < p) (hz : x * y % p = 0) : x = 0 ∨ y = 0 := by
 have h1 := List.all_eq_true.1 (List.all_eq_true.1 (List.all_eq_true.1 zeros_all p (prm_in h)) x (List.mem_range.2 hx)) y (List.mem_range.2 hy)
 simpa [hz] using h1
theorem euclid {p : Nat} (h : prm p) (x y : Nat) (hxy : x * y % p = 0) : x % p = 0 ∨ y % p = 0 := by
 have hp := prm_two h
 refine no_zeros h _ (Nat.mod_lt _ (by omega)) _ (Nat.mod_lt _ (by omega)) ?_
 rw [← Nat.mul_mod]; exact hxy
theorem bin_half (n k : Nat) : bin (n + 1) (k + 1) ≤ 2 ^ n := by
 rw [bin_succ, ← psum_row n]
 by_cases h : k + 2 ≤ n + 1
 · have h1 := psum_mono n (k + 2) (n + 1) h
   simp only [psum] at h1 ⊢
   omega
 · by_cases e : k = n
   · subst e
     rw [bin_over k (k + 1) (by omega)]
     simp only [psum]; omega
   · rw [bin_over n k (by omega), bin_over n (k + 1) (by omega)]; omega
theorem bin_max {n : Nat} (k : Nat) (h : n ≤ 60) : bin n k ≤ 576460752303423488 := by
 match n, k, h with
 | n, 0, _ => rw [bin_zero]; omega
 | 0, k + 1, _ => rw [bin_over 0 (k + 1) (by omega)]; omega
 | n + 1, k + 1, h => exact lT9 (bin_half n k) (lT9 (Nat.pow_le_pow_right (by omega) (show n ≤ 59 by omega)) (by decide))
theorem bin_pos : ∀ (n k : Nat), k ≤ n → 0 < bin n k
 | n, 0, _ => by rw [bin_zero]; omega
 | 0, k + 1, h => by omega
 | n + 1, k + 1, h => by rw [bin_succ]; have := bin_pos n k (by omega); omega
theorem tup_carries {p : Nat} (hp : 2 ≤ p) (x y : Nat) : tup p (x + y) = tup p x + tup p y + carL p 0 (pairs p x y) := by
 have h1 := carries hp x y 0 (by omega)
 rw [Nat.add_zero, Nat.add_zero] at h1
 have h2 := legendre hp (x + y)
 have h3 := legendre hp x
 have h4 := legendre hp y
 refine Nat.eq_of_mul_eq_mul_left (show 0 < p - 1 by omega) ?_
 rw [Nat.mul_add, Nat.mul_add]
 omega
def cars (p n k : Nat) : Nat := carL p 0 (pairs p k (n - k))
theorem tup_cars {p : Nat} (hp : 2 ≤ p) {n k : Nat} (hk : k ≤ n) : tup p n = tup p k + tup p (n - k) + cars p n k := by
 have := tup_carries hp k (n - k)
 rw [show k + (n - k) = n by omega] at this
 exact this
theorem cars_lt {p : Nat} (hp : 2 ≤ p) {n k : Nat} (hk : k ≤ n) : cars p n k ≤ n := by
 have := tup_cars hp hk
 have := tup_le hp n
 omega
def mostU (p n : Nat) : Nat → Nat
 | 0 => 0
 | m + 1 => max (mostU p n m) (cars p n m)
def most (p n : Nat) : Nat := mostU p n (n + 1)
theorem row_prime_all : sixth.all (fun p => (List.range (p + 1)).all fun k => bin p k % p == (if k = 0 ∨ k = p then 1 else 0)) = true := by decide +kernel
theorem row_prime {p : Nat} (h : prm p) (k : Nat) : bin p k % p = if k = 0 ∨ k = p then 1 else 0 := by
 by_cases hk : k ≤ p
 · have h1 := List.all_eq_true.1 (List.all_eq_true.1 row_prime_all p (prm_in h)) k (List.mem_range.2 (by omega))
   simpa using h1
 · rw [bin_over p k (by omega), if_neg (by omega)]; exact Nat.zero_mod _
theorem bin_down {p : Nat} (h : prm p) : ∀ (m c : Nat), bin (m + p) c % p = (bin m c + if p ≤ c then bin m (c - p) else 0) % p
 | 0, c => by
   have hp := (prm_two h).1
   rw [Nat.zero_add, row_prime h c]
   by_cases h0 : c = 0
   · subst h0; rw [if_pos (.inl rfl), if_neg (by omega), bin_zero, Nat.mod_eq_of_lt (by omega)]
   · by_cases h1 : c = p
     · subst h1; rw [if_pos (.inr rfl), if_pos (Nat.le_refl _), Nat.sub_self, bin_zero, bin_over 0 c (by omega), Nat.mod_eq_of_lt (by omega)]
     · rw [if_neg (by omega), bin_over 0 c (by omega)]
       by_cases h2 : p ≤ c
       · rw [if_pos h2, bin_over 0 (c - p) (by omega)]; simp
       · rw [if_neg h2]; simp
 | m + 1, 0 => by
   have hp := (prm_two h).1
   rw [bin_zero, bin_zero, if_neg (by omega)]
 | m + 1, c + 1 => by
   have hp := (prm_two h).1
   rw [show m + 1 + p = (m + p) + 1 by omega, bin_succ, Nat.add_mod, bin_down h m c, bin_down h m (c + 1), ← Nat.add_mod, bin_succ m c]
   by_cases h1 : p ≤ c
   · rw [if_pos h1, if_pos (by omega), if_pos (by omega), show c + 1 - p = (c - p) + 1 by omega, bin_succ m (c - p)]
     congr 1 <;> omega
   · rw [if_neg h1]
     by_cases h2 : p = c + 1
     · rw [if_pos (by omega), if_pos (by omega), ← h2, Nat.sub_self, bin_zero, bin_zero]
       congr 1 <;> omega
     · rw [if_neg (by omega), if_neg (by omega)]
       congr 1 <;> omega
theorem lucas {p : Nat} (h : prm p) {a b : Nat} (ha : a < p) (hb : b < p) : ∀ (n k : Nat), bin (p * n + a) (p * k + b) % p = (bin n k * bin a b) % p
 | 0, k => by
   rw [Nat.mul_zero, Nat.zero_add]
   match k with
   | 0 => rw [Nat.mul_zero, Nat.zero_add, bin_zero, Nat.one_mul]
   | k + 1 => rw [bin_over a _ (by rw [Nat.mul_succ]; omega), bin_over 0 (k + 1) (by omega), Nat.zero_mul]
 | n + 1, k => by
   rw [Nat.mul_succ, Nat.add_right_comm, bin_down h]
   match k with
   | 0 =>
     rw [Nat.mul_zero, Nat.zero_add, if_neg (by omega), Nat.add_zero]
     have := lucas h ha hb n 0
     rw [Nat.mul_zero, Nat.zero_add] at this
     rw [this, bin_zero, bin_zero]
   | k + 1 =>
     rw [if_pos (by rw [Nat.mul_succ]; omega), show p * (k + 1) + b - p = p * k + b by rw [Nat.mul_succ]; omega, Nat.add_mod, lucas h ha hb n (k + 1), lucas h ha hb n k, ← Nat.add_mod, bin_succ]
     congr 1
     rw [Nat.add_mul]; omega
theorem lucas_div {p : Nat} (h : prm p) (n k : Nat) : bin n k % p = (bin (n / p) (k / p) * bin (n % p) (k % p)) % p := by
 have hp := (prm_two h).1
 have := lucas h (Nat.mod_lt n (show 0 < p by omega)) (Nat.mod_lt k (show 0 < p by omega)) (n / p) (k / p)
 rwa [div_mod, div_mod] at this
theorem small_all : sixth.all (fun p => (List.range p).all fun a => (List.range (a + 1)).all fun b => !(bin a b % p == 0)) = true := by decide +kernel
theorem small_not {p : Nat} (h : prm p) {a b : Nat} (ha : a < p) (hb : b ≤ a) : bin a b % p ≠ 0 := by
 have h1 := List.all_eq_true.1 (List.all_eq_true.1 (List.all_eq_true.1 small_all p (prm_in h)) a (List.mem_range.2 ha)) b (List.mem_range.2 (by omega))
 simpa using h1
theorem left_zero {p : Nat} (h : prm p) (n k : Nat) : bin n k % p = 0 ↔ und p k n = false := by
 have hp := (prm_two h).1
 refine div_ind2 hp (p := fun n k => bin n k % p = 0 ↔ und p k n = false) ?_ (fun n k _ ih => ?_) n k
 · rw [und_zero, bin_zero, Nat.mod_eq_of_lt (by omega)]; simp
 · rw [lucas_div h, und_step hp, Bool.and_eq_false_iff, decide_eq_false_iff_not, ← ih]
   have hm := Nat.mod_lt n (show 0 < p by omega)
   constructor
   · intro h0
     rcases euclid h _ _ h0 with h1 | h1
     · exact .inr h1
     · left
       intro hle
       exact small_not h hm hle h1
   · rintro (h1 | h1)
     · rw [bin_over (n % p) (k % p) (by omega), Nat.mul_zero, Nat.zero_mod]
     · rw [Nat.mul_mod, h1, Nat.zero_mul, Nat.zero_mod]
theorem bin_next (n k : Nat) : bin n (k + 1) * (k + 1) + bin n k * k = bin n k * n := by
 have h := absorb n k
 rw [bin_succ, Nat.add_mul, Nat.add_mul, Nat.one_mul, Nat.mul_add, Nat.mul_one, Nat.mul_comm n] at h
 omega
theorem bin_div (n k : Nat) : bin n k * (n - k) / (k + 1) = bin n (k + 1) := by
 have h := bin_next n k
 have h2 : bin n k * (n - k) = bin n (k + 1) * (k + 1) := by rw [Nat.mul_sub]; omega
 rw [h2, Nat.mul_div_cancel _ (by omega)]
def convU (x y : Nat → Nat) (t : Nat) : Nat → Nat
 | 0 => 0
 | m + 1 => convU x y t m + (if m ≤ t then x m * y (t - m) else 0)
def conv (x y : Nat → Nat) (t : Nat) : Nat := convU x y t (t + 1)
def sumF (f : Nat → Nat) : Nat → Nat
 | 0 => 0
 | m + 1 => sumF f m + f m
theorem sumF_first (f : Nat → Nat) : ∀ m, sumF f (m + 1) = f 0 + sumF (fun i => f (i + 1)) m
 | 0 => by simp [sumF]
 | m + 1 => by
   show sumF f (m + 1) + f (m + 1) = _
   rw [sumF_first f m]
   simp only [sumF]; omega
theorem sumF_congr {f g : Nat → Nat} : ∀ m, (∀ i, i < m → f i = g i) → sumF f m = sumF g m
 | 0, _ => rfl
 | m + 1, h => by simp only [sumF]; rw [sumF_congr m (fun i hi => h i (by omega)), h m (by omega)]
def prodL : List (Nat × Nat) → Nat
 | [] => 1
 | x :: l => bin x.1 x.2 * prodL l
theorem prodL_snoc : ∀ (p : List (Nat × Nat)) (x : Nat × Nat), prodL (p ++ [x]) = prodL p * bin x.1 x.2
 | [], x => by simp [prodL]
 | y :: p, x => by simp only [List.cons_append, prodL]; rw [prodL_snoc p x, Nat.mul_assoc]
theorem prodL_left {p : Nat} (h : prm p) (n k : Nat) : prodL (pairs p n k) % p = bin n k % p := by
 have hp := (prm_two h).1
 refine div_ind2 hp (p := fun n k => prodL (pairs p n k) % p = bin n k % p) ?_ (fun n k hnk ih => ?_) n k
 · rw [pairs_zero]; rfl
 · rw [pairs_pos hp hnk, lucas_div h]
   simp only [prodL]
   rw [Nat.mul_comm, Nat.mul_mod, ih, ← Nat.mul_mod]
theorem prodL_step {p : Nat} (pre : List (Nat × Nat)) (x : Nat × Nat) : prodL pre % p * (bin x.1 x.2 % p) % p = prodL (pre ++ [x]) % p := by
 rw [prodL_snoc, ← Nat.mul_mod]
def leftN (q n k : Nat) : Nat := bin n k % q
theorem leftN_lt {q : Nat} (hq : 2 ≤ q) (n k : Nat) : leftN q n k < q := Nat.mod_lt _ (by omega)
def st (f : Nat → Nat) : Nat → Nat → Nat
 | 0, k => f k
 | i + 1, k => (st f i k + st f i (k + 1)) % 2
theorem st_le {f : Nat → Nat} (hf : ∀ k, f k ≤ 1) : ∀ i k, st f i k ≤ 1
 | 0, k => hf k
 | i + 1, k => by simp only [st]; omega
theorem st_congr {f g : Nat → Nat} : ∀ (i k : Nat), (∀ j, k ≤ j → j ≤ k + i → f j = g j) → st f i k = st g i k
 | 0, k, h => h k (Nat.le_refl _) (Nat.le_refl _)
 | i + 1, k, h => by simp only [st]; rw [st_congr i k (fun j h1 h2 => h j h1 (by omega)), st_congr i (k + 1) (fun j h1 h2 => h j (by omega) (by omega))]
theorem st_left {f : Nat → Nat} (hf : ∀ k, f k ≤ 1) (i k : Nat) : (st f i (k + 1) + st f (i + 1) k) % 2 = st f i k := by
 have h1 := st_le hf i k
 have h2 := st_le hf i (k + 1)
 simp only [st]; omega
theorem st_next (f : Nat → Nat) : ∀ i k, st (st f 1) i k = st f (i + 1) k
 | 0, _ => rfl
 | i + 1, k => by
   show (st (st f 1) i k + st (st f 1) i (k + 1)) % 2 = (st f (i + 1) k + st f (i + 1) (k + 1)) % 2
   rw [st_next f i k, st_next f i (k + 1)]
def side (f : Nat → Nat) (n j : Nat) : Nat := st f j (n - 1 - j)
theorem side_le {f : Nat → Nat} (hf : ∀ k, f k ≤ 1) (n j : Nat) : side f n j ≤ 1 := st_le hf _ _
theorem st_side {f : Nat → Nat} (hf : ∀ k, f k ≤ 1) (n : Nat) : ∀ i k, i + k < n → st (side f n) i k = st f k (n - 1 - i - k)
 | 0, k, _ => by simp only [st, side]; rw [Nat.sub_zero]
 | i + 1, k, h => by
   show (st _ i k + st _ i (k + 1)) % 2 = _
   rw [st_side hf n i k (by omega), st_side hf n i (k + 1) (by omega), show n - 1 - i - k = n - 1 - (i + 1) - k + 1 by omega, show n - 1 - i - (k + 1) = n - 1 - (i + 1) - k by omega]
   exact st_left hf k (n - 1 - (i + 1) - k)
theorem side_two {f : Nat → Nat} (hf : ∀ k, f k ≤ 1) (n j : Nat) (h : j < n) : side (side f n) n j = st f (n - 1 - j) 0 := by
 show st (side f n) j (n - 1 - j) = _
 rw [st_side hf n j (n - 1 - j) (by omega), show n - 1 - j - (n - 1 - j) = 0 by omega]
theorem side_three {f : Nat → Nat} (hf : ∀ k, f k ≤ 1) (n j : Nat) (h : j < n) : side (side (side f n) n) n j = f j := by
 have h1 := side_two (side_le hf n) n j h
 rw [h1, st_side hf n (n - 1 - j) 0 (by omega), show n - 1 - (n - 1 - j) - 0 = j by omega]; rfl
theorem sumF_add (f g : Nat → Nat) : ∀ m, sumF (fun i => f i + g i) m = sumF f m + sumF g m
 | 0 => rfl
 | m + 1 => by simp only [sumF]; rw [sumF_add f g m]; omega
def tot (T : Nat → Nat → Nat) (n : Nat) : Nat := sumF (fun i => sumF (T i) (n - i)) n
theorem tot_congr {T S : Nat → Nat → Nat} (n : Nat) (h : ∀ i k, i + k < n → T i k = S i k) : tot T n = tot S n :=
 sumF_congr n fun i _ => sumF_congr (n - i) fun k _ => h i k (by omega)
theorem ones_next (f : Nat → Nat) (n : Nat) : tot (st f) (n + 1) = sumF f (n + 1) + tot (st (st f 1)) n := by
 unfold tot
 rw [sumF_first]
 show sumF f (n + 1) + _ = _
 congr 1
 refine sumF_congr n fun i _ => ?_
 rw [show n + 1 - (i + 1) = n - i by omega]
 exact sumF_congr _ fun k _ => (st_next f i k).symm
def bsum (f : Nat → Nat) (i k : Nat) : Nat := sumF (fun j => bin i j * f (k + j)) (i + 1)
theorem bsum_next (f : Nat → Nat) (i k : Nat) : bsum f (i + 1) k = bsum f i k + bsum f i (k + 1) := by
 unfold bsum
 have h1 : sumF (fun j => bin (i + 1) j * f (k + j)) (i + 1 + 1) = bin (i + 1) 0 * f (k + 0) + sumF (fun j => bin i j * f (k + 1 + j) + bin i (j + 1) * f (k + (j + 1))) (i + 1) := by
  rw [sumF_first]
  congr 1
  exact sumF_congr _ fun j _ => by rw [bin_succ, Nat.add_mul, show k + (j + 1) = k + 1 + j by omega]
 have h2 : sumF (fun j => bin i j * f (k + j)) (i + 1 + 1) = bin i 0 * f (k + 0) + sumF (fun j => bin i (j + 1) * f (k + (j + 1))) (i + 1) := sumF_first _ _
 have h3 : sumF (fun j => bin i j * f (k + j)) (i + 1 + 1) = sumF (fun j => bin i j * f (k + j)) (i + 1) := by
  show _ + bin i (i + 1) * f (k + (i + 1)) = _
  rw [bin_over i (i + 1) (by omega), Nat.zero_mul]; rfl
 rw [h1, sumF_add, bin_zero]
 rw [bin_zero] at h2
 omega
theorem st_bsum {f : Nat → Nat} (hf : ∀ k, f k ≤ 1) : ∀ i k, st f i k = bsum f i k % 2
 | 0, k => by
   have := hf k
   show f k = (0 + 1 * f (k + 0)) % 2
   rw [Nat.add_zero]; omega
 | i + 1, k => by rw [bsum_next, Nat.add_mod, ← st_bsum hf i k, ← st_bsum hf i (k + 1)]; rfl
theorem sumF_mod (f g : Nat → Nat) : ∀ m, sumF (fun j => f j % 2 * g j) m % 2 = sumF (fun j => f j * g j) m % 2
 | 0 => rfl
 | m + 1 => by
   have h := sumF_mod f g m
   have h2 : f m % 2 * g m % 2 = f m * g m % 2 := by rw [Nat.mod_mul_mod]
   simp only [sumF]; omega
theorem last_left {f : Nat → Nat} (hf : ∀ k, f k ≤ 1) (n : Nat) : st f n 0 = sumF (fun j => leftN 2 n j * f j) (n + 1) % 2 := by
 rw [st_bsum hf]
 unfold bsum leftN
 rw [sumF_mod]
 congr 1
 exact sumF_congr _ fun j _ => by rw [Nat.zero_add]
theorem prm_2 : prm 2 := by unfold prm; omega
theorem left_und (n k : Nat) : leftN 2 n k = if und 2 k n then 1 else 0 := by
 have h1 := left_zero prm_2 n k
 have h2 := leftN_lt (q := 2) (by omega) n k
 unfold leftN at *
 cases h : und 2 k n
 · rw [h1.2 h]; rfl
 · have : bin n k % 2 ≠ 0 := fun e => by rw [h1.1 e] at h; cases h
   simp; omega
def bitF (N k : Nat) : Nat := (N >>> k) % 2
theorem bitF_le (N k : Nat) : bitF N k ≤ 1 := by unfold bitF; omega
theorem bitF_test (N k : Nat) : bitF N k = (N.testBit k).toNat := by unfold bitF; rw [Nat.toNat_testBit, Nat.shiftRight_eq_div_pow]
def pop (N : Nat) : Nat → Nat
 | 0 => 0
 | k + 1 => pop N k + (N >>> k) % 2
theorem pop_sum (N : Nat) : ∀ k, sumF (bitF N) k = pop N k
 | 0 => rfl
 | k + 1 => by simp only [sumF, pop]; rw [pop_sum N k]; rfl
def downN (l N : Nat) : Nat := (N ^^^ (N >>> 1)) % 2 ^ l
def onesN : Nat → Nat → Nat
 | 0, _ => 0
 | l + 1, N => pop N (l + 1) + onesN l (downN l N)
theorem downN_bit (l N k : Nat) (h : k < l) : bitF (downN l N) k = st (bitF N) 1 k := by
 show _ = (bitF N k + bitF N (k + 1)) % 2
 unfold downN
 rw [bitF_test, bitF_test, bitF_test, Nat.testBit_mod_two_pow, Nat.testBit_xor, Nat.testBit_shiftRight, Nat.add_comm 1 k]
 simp only [h, decide_true, Bool.true_and]
 cases N.testBit k <;> cases N.testBit (k + 1) <;> rfl
theorem ones_bits : ∀ n N, tot (st (bitF N)) n = onesN n N
 | 0, _ => rfl
 | n + 1, N => by
   rw [ones_next, pop_sum]
   show pop N (n + 1) + _ = pop N (n + 1) + onesN n (downN n N)
   rw [← ones_bits n (downN n N)]
   congr 1
   exact tot_congr n fun i k h => st_congr i k fun j _ h2 => (downN_bit n N j (by omega)).symm
def numF (f : Nat → Nat) : Nat → Nat
 | 0 => 0
 | n + 1 => numF f n + f n * 2 ^ n
theorem numF_lt {f : Nat → Nat} (hf : ∀ k, f k ≤ 1) : ∀ n, numF f n < 2 ^ n
 | 0 => Nat.zero_lt_one
 | n + 1 => by
   have h1 := numF_lt hf n
   have h2 := Nat.mul_le_mul_right (2 ^ n) (hf n)
   simp only [numF]; rw [Nat.pow_succ]; omega
theorem numF_bit {f : Nat → Nat} (hf : ∀ k, f k ≤ 1) : ∀ n k, k < n → bitF (numF f n) k = f k
 | n + 1, k, h => by
   have h1 := numF_lt hf n
   have h2 := hf n
   show ((numF f n + f n * 2 ^ n) >>> k) % 2 = f k
   rw [Nat.shiftRight_eq_div_pow]
   by_cases e : k = n
   · subst e
     rw [Nat.add_mul_div_right _ _ (Nat.pow_pos (by omega)), Nat.div_eq_of_lt h1]; omega
   · have h3 := numF_bit hf n k (by omega)
     unfold bitF at h3
     rw [Nat.shiftRight_eq_div_pow] at h3
     have h4 : f n * 2 ^ n = 2 * (f n * 2 ^ (n - k - 1)) * 2 ^ k := by
      rw [Nat.mul_assoc, Nat.mul_assoc, ← Nat.pow_add, ← Nat.mul_assoc, Nat.mul_comm 2, Nat.mul_assoc, ← Nat.pow_succ']
      congr 2; omega
     rw [h4, Nat.add_mul_div_right _ _ (Nat.pow_pos (by omega)), Nat.add_mul_mod_self_left]; exact h3
theorem ones_num {f : Nat → Nat} (hf : ∀ k, f k ≤ 1) (n : Nat) : tot (st f) n = onesN n (numF f n) := by
 rw [← ones_bits]
 exact tot_congr n fun i k h => st_congr i k fun j _ h2 => (numF_bit hf n j (by omega)).symm
def allB (p : Nat → Bool) : Nat → Bool
 | 0 => true
 | n + 1 => p n && allB p n
theorem allB_of {p : Nat → Bool} : ∀ {n : Nat}, allB p n = true → ∀ k, k < n → p k = true
 | n + 1, h, k, hk => by
   simp only [allB, Bool.and_eq_true] at h
   by_cases e : k = n
   · subst e; exact h.1
   · exact allB_of h.2 k (by omega)
set_option maxRecDepth 100000 in
theorem few_all : allB (fun n => allB (fun N => Nat.ble (3 * onesN n N) (n * (n + 1) + 2)) (2 ^ n)) 13 = true := by decide +kernel
theorem few_ones {f : Nat → Nat} (hf : ∀ k, f k ≤ 1) {n : Nat} (h : n ≤ 12) : 3 * tot (st f) n ≤ n * (n + 1) + 2 := by
 rw [ones_num hf]
 exact Nat.le_of_ble_eq_true (allB_of (allB_of few_all n (by omega)) _ (numF_lt hf n))
def cellV (row place : Int) : Int := if row < 0 ∨ 60 < row ∨ place < 0 then -1 else (bin row.toNat place.toNat : Int)
theorem cellV_bad {row place : Int} (h : row < 0 ∨ 60 < row ∨ place < 0) : cellV row place = -1 := by unfold cellV; rw [if_pos h]
theorem cellV_nat {r k : Nat} (h : r ≤ 60) : cellV r k = bin r k := by unfold cellV; rw [if_neg (by omega)]; simp
theorem ret_int {k : IntKind} {a b : Int} (h : a = b) : Ending.returned (.int k a) = .returned (.int k b) := by rw [h]
theorem tmod_n (n b : Nat) : Int.tmod (n : Int) (b : Int) = ((n % b : Nat) : Int) := by rw [Int.tmod_eq_emod_of_nonneg (by omega)]; rfl
theorem tdiv_n (n b : Nat) : Int.tdiv (n : Int) (b : Int) = ((n / b : Nat) : Int) := by rw [Int.tdiv_eq_ediv_of_nonneg (by omega)]; rfl
def prmI (p : Int) : Bool := decide (p = 2 ∨ p = 3 ∨ p = 5 ∨ p = 7 ∨ p = 11 ∨ p = 13)
theorem prmI_nat (p : Nat) : prmI p = true ↔ prm p := by unfold prmI prm; simp; omega
theorem prmI_t {p : Int} (h : prmI p = true) : ∃ P : Nat, p = P ∧ prm P := by
 refine ⟨p.toNat, ?_, ?_⟩
 · unfold prmI at h; simp at h; omega
 · unfold prmI at h; unfold prm; simp at h; omega
def allV (n p : Int) : Int := if n < 0 ∨ 999999999 < n ∨ prmI p = false then -1 else (tup p.toNat n.toNat : Int)
def cellTV (row place p : Int) : Int := if row < 0 ∨ 499999999 < row ∨ place < 0 ∨ row < place ∨ prmI p = false then -1 else (cars p.toNat row.toNat place.toNat : Int)
theorem allV_bad {n p : Int} (h : n < 0 ∨ 999999999 < n ∨ prmI p = false) : allV n p = -1 := if_pos h
theorem cellTV_bad {row place p : Int} (h : row < 0 ∨ 499999999 < row ∨ place < 0 ∨ row < place ∨ prmI p = false) : cellTV row place p = -1 := if_pos h
theorem prmI_ok {p : Nat} (h : prm p) : prmI p = true := (prmI_nat p).2 h
theorem allV_nat {n p : Nat} (h2 : n ≤ 999999999) (h3 : prm p) : allV n p = tup p n := by
 unfold allV; rw [if_neg (by rw [prmI_ok h3]; simp; omega)]; simp
theorem cellTV_nat {n k p : Nat} (h2 : n ≤ 499999999) (hk : k ≤ n) (h3 : prm p) : cellTV n k p = cars p n k := by
 unfold cellTV; rw [if_neg (by rw [prmI_ok h3]; simp; omega)]; simp
def badL (row place p : Int) : Prop := row < 0 ∨ 999999999 < row ∨ place < 0 ∨ 999999999 < place ∨ prmI p = false
instance (row place p : Int) : Decidable (badL row place p) := by unfold badL; infer_instance
def leftV (row place p : Int) : Int := if badL row place p then -1 else ((bin row.toNat place.toNat % p.toNat : Nat) : Int)
theorem leftV_bad {row place p : Int} (h : badL row place p) : leftV row place p = -1 := if_pos h
theorem leftV_nat {n k p : Nat} (h1 : n ≤ 999999999) (h2 : k ≤ 999999999) (h3 : prm p) : leftV n k p = ((bin n k % p : Nat) : Int) := by
 unfold leftV; rw [if_neg (by unfold badL; rw [prmI_ok h3]; simp; omega)]; rfl
def natL (xs : List Int) (i : Nat) : Nat := (xs.getD i 0).toNat
theorem natL_over (xs : List Int) (i : Nat) (h : xs.length ≤ i) : natL xs i = 0 := by
 unfold natL; rw [List.getD, List.getElem?_eq_none h]; rfl
def sideB (xs : List Int) : Bool := decide (1 ≤ xs.length ∧ xs.length ≤ 12) && xs.all (fun x => decide (0 ≤ x ∧ x ≤ 1))
theorem sideB_len {xs : List Int} (h : sideB xs = true) : 1 ≤ xs.length ∧ xs.length ≤ 12 := by
 unfold sideB at h
 rw [Bool.and_eq_true] at h
 simpa using h.1
theorem sideB_at {xs : List Int} (h : sideB xs = true) {i : Nat} (hi : i < xs.length) : 0 ≤ xs.getD i 0 ∧ xs.getD i 0 ≤ 1 := by
 unfold sideB at h
 rw [Bool.and_eq_true, List.all_eq_true] at h
 have := h.2 (xs.getD i 0) (by rw [List.getD, eG9 hi]; simp)
 simpa using this
theorem sideB_of {xs : List Int} (h1 : 1 ≤ xs.length) (h2 : xs.length ≤ 12) (h : ∀ i, i < xs.length → 0 ≤ xs.getD i 0 ∧ xs.getD i 0 ≤ 1) : sideB xs = true := by
 unfold sideB
 rw [Bool.and_eq_true, List.all_eq_true]
 refine ⟨by simp; omega, fun x hx => ?_⟩
 obtain ⟨i, hi, rfl⟩ := List.mem_iff_getElem.1 hx
 have := h i hi
 rw [List.getD, eG9 hi] at this
 simpa using this
theorem sideB_short {xs : List Int} (h : xs.length < 1 ∨ 12 < xs.length) : sideB xs = false := by
 cases e : sideB xs with
 | false => rfl
 | true => have := sideB_len e; omega
theorem sideB_not {xs : List Int} {i : Nat} (hi : i < xs.length) (h : xs.getD i 0 < 0 ∨ 1 < xs.getD i 0) : sideB xs = false := by
 cases e : sideB xs with
 | false => rfl
 | true => have := sideB_at e hi; omega
theorem side_bit {xs : List Int} (h : sideB xs = true) (i : Nat) : natL xs i ≤ 1 := by
 by_cases hi : i < xs.length
 · have := sideB_at h hi; unfold natL; omega
 · rw [natL_over xs i (by omega)]; omega
theorem side_get {xs : List Int} (h : sideB xs = true) {i : Nat} (hi : i < xs.length) : xs.getD i 0 = (natL xs i : Int) := by
 have := sideB_at h hi; unfold natL; omega
def stL (f : Nat → Nat) (i n : Nat) : List Int := (List.range n).map fun k => (st f i k : Int)
theorem stL_len (f : Nat → Nat) (i n : Nat) : (stL f i n).length = n := by simp [stL]
theorem stL_getD (f : Nat → Nat) (i n k : Nat) (h : k < n) : (stL f i n).getD k 0 = (st f i k : Int) := by simp [stL, List.getD, h]
theorem stL_nat (f : Nat → Nat) (i n k : Nat) (h : k < n) : natL (stL f i n) k = st f i k := by unfold natL; rw [stL_getD f i n k h]; rfl
theorem stL_snoc (f : Nat → Nat) (i n : Nat) : stL f i (n + 1) = stL f i n ++ [(st f i n : Int)] := by simp [stL, List.range_succ]
theorem stL_zero {xs : List Int} (h : sideB xs = true) : stL (natL xs) 0 xs.length = xs := by
 apply List.ext_getElem?
 intro k
 by_cases hk : k < xs.length
 · have h1 := side_get h hk
   rw [List.getD, eG9 hk, Option.getD_some] at h1
   unfold stL
   rw [List.getElem?_map, List.getElem?_range hk, eG9 hk, h1]; rfl
 · rw [List.getElem?_eq_none (by rw [stL_len]; omega), List.getElem?_eq_none (by omega)]
theorem stL_side {f : Nat → Nat} (hf : ∀ k, f k ≤ 1) (i n : Nat) (h1 : 1 ≤ n) (h2 : n ≤ 12) : sideB (stL f i n) = true :=
 sideB_of (by rw [stL_len]; exact h1) (by rw [stL_len]; exact h2) (fun k hk => by
  rw [stL_len] at hk
  rw [stL_getD f i n k hk]
  have := st_le hf i k
  omega)
theorem stL_next (f : Nat → Nat) (i n : Nat) : stL (natL (stL f i (n + 1))) 1 n = stL f (i + 1) n := by
 unfold stL
 refine List.map_congr_left fun k hk => ?_
 have hk' := List.mem_range.1 hk
 have h1 := stL_nat f i (n + 1) k (by omega)
 have h2 := stL_nat f i (n + 1) (k + 1) (by omega)
 unfold stL at h1 h2
 simp only [st]
 rw [h1, h2]
def undrV (xs : List Int) : List Int := if sideB xs = true then stL (natL xs) 1 (xs.length - 1) else []
def rowsV (xs : List Int) : List (List Int) := if sideB xs = true then (List.range xs.length).map fun i => stL (natL xs) i (xs.length - i) else []
def onesV (xs : List Int) : Int := if sideB xs = true then (tot (st (natL xs)) xs.length : Int) else -1
def endV (xs : List Int) : Int := if sideB xs = true then (st (natL xs) (xs.length - 1) 0 : Int) else -1
def turnV (xs : List Int) : List Int := if sideB xs = true then (List.range xs.length).map fun j => (side (natL xs) xs.length j : Int) else []
theorem undrV_no {xs : List Int} (h : sideB xs = false) : undrV xs = [] := by unfold undrV; rw [h]; rfl
theorem rowsV_no {xs : List Int} (h : sideB xs = false) : rowsV xs = [] := by unfold rowsV; rw [h]; rfl
theorem onesV_no {xs : List Int} (h : sideB xs = false) : onesV xs = -1 := by unfold onesV; rw [h]; rfl
theorem endV_no {xs : List Int} (h : sideB xs = false) : endV xs = -1 := by unfold endV; rw [h]; rfl
theorem turnV_no {xs : List Int} (h : sideB xs = false) : turnV xs = [] := by unfold turnV; rw [h]; rfl
theorem undrV_yes {xs : List Int} (h : sideB xs = true) : undrV xs = stL (natL xs) 1 (xs.length - 1) := if_pos h
theorem rowsV_yes {xs : List Int} (h : sideB xs = true) : rowsV xs = (List.range xs.length).map fun i => stL (natL xs) i (xs.length - i) := if_pos h
theorem onesV_yes {xs : List Int} (h : sideB xs = true) : onesV xs = (tot (st (natL xs)) xs.length : Int) := if_pos h
theorem endV_yes {xs : List Int} (h : sideB xs = true) : endV xs = (st (natL xs) (xs.length - 1) 0 : Int) := if_pos h
theorem turnV_yes {xs : List Int} (h : sideB xs = true) : turnV xs = (List.range xs.length).map fun j => (side (natL xs) xs.length j : Int) := if_pos h
def totU (f : Nat → Nat) (n : Nat) : Nat → Nat
 | 0 => 0
 | i + 1 => totU f n i + sumF (st f i) (n - i)
theorem totU_all (f : Nat → Nat) (n : Nat) : totU f n n = tot (st f) n := by
 have h : ∀ m, totU f n m = sumF (fun i => sumF (st f i) (n - i)) m := fun m => by
  induction m with
  | zero => rfl
  | succ m ih => show totU f n m + _ = _ + _; rw [ih]
 exact h n
theorem sumF_bit {f : Nat → Nat} (hf : ∀ k, f k ≤ 1) : ∀ m, sumF f m ≤ m
 | 0 => Nat.le_refl _
 | m + 1 => by have := sumF_bit hf m; have := hf m; simp only [sumF]; omega
theorem totU_le {f : Nat → Nat} (hf : ∀ k, f k ≤ 1) {n : Nat} (hn : n ≤ 12) : ∀ i, i ≤ n → totU f n i ≤ i * 12
 | 0, _ => Nat.le_refl _
 | i + 1, h => by
   have h1 := totU_le hf hn i (by omega)
   have h2 := sumF_bit (st_le hf i) (n - i)
   show totU f n i + sumF (st f i) (n - i) ≤ _
   omega
def lastU (f : Nat → Nat) (m : Nat) : Nat → Nat
 | 0 => 0
 | k + 1 => lastU f m k + (if und 2 k m = true then f k else 0)
theorem lastU_all {f : Nat → Nat} (hf : ∀ k, f k ≤ 1) (m : Nat) : lastU f m (m + 1) % 2 = st f m 0 := by
 rw [last_left hf]
 congr 1
 have h : ∀ j, lastU f m j = sumF (fun j => leftN 2 m j * f j) j := fun j => by
  induction j with
  | zero => rfl
  | succ j ih =>
    show lastU f m j + _ = sumF _ j + leftN 2 m j * f j
    rw [ih, left_und]
    cases und 2 j m <;> simp
 exact h (m + 1)
theorem lastU_le {f : Nat → Nat} (hf : ∀ k, f k ≤ 1) (m : Nat) : ∀ k, lastU f m k ≤ k
 | 0 => Nat.le_refl _
 | k + 1 => by
   have h1 := lastU_le hf m k
   have h2 := hf k
   show lastU f m k + _ ≤ _
   split <;> omega
def ad (a b : Nat) : Nat := (a - b) + (b - a)
theorem ad_max (a b : Nat) : ad a b = max a b - min a b := by unfold ad; omega
def dF (f : Nat → Nat) : Nat → Nat := fun k => ad (f k) (f (k + 1))
def dR (f : Nat → Nat) : Nat → Nat → Nat
 | 0 => f
 | r + 1 => dF (dR f r)
def per (n : Nat) (f : Nat → Nat) : Prop := ∀ k, f (k + n) = f k
theorem per_dF {n : Nat} {f : Nat → Nat} (h : per n f) : per n (dF f) := fun k => by
 show ad (f (k + n)) (f (k + n + 1)) = ad (f k) (f (k + 1))
 rw [h k, show k + n + 1 = k + 1 + n by omega, h (k + 1)]
theorem per_dR {n : Nat} {f : Nat → Nat} (h : per n f) : ∀ r, per n (dR f r)
 | 0 => h
 | r + 1 => per_dF (per_dR h r)
theorem per_times {n : Nat} {f : Nat → Nat} (h : per n f) (k : Nat) : ∀ j, f (k + n * j) = f k
 | 0 => rfl
 | j + 1 => by rw [Nat.mul_succ, ← Nat.add_assoc, h, per_times h k j]
theorem per_mod {n : Nat} {f : Nat → Nat} (h : per n f) (k : Nat) : f (k % n) = f k := by
 have h1 := per_times h (k % n) (k / n)
 rw [Nat.mod_add_div] at h1
 exact h1.symm
theorem per_eq {n : Nat} {f g : Nat → Nat} (hn : 0 < n) (hf : per n f) (hg : per n g) (h : ∀ k, k < n → f k = g k) : f = g := by
 funext k
 rw [← per_mod hf k, ← per_mod hg k, h _ (Nat.mod_lt _ hn)]
theorem dF_le {f : Nat → Nat} {M : Nat} (h : ∀ k, f k ≤ M) (k : Nat) : dF f k ≤ M := by
 have h1 := h k
 have h2 := h (k + 1)
 show ad _ _ ≤ M
 unfold ad; omega
theorem dR_le {f : Nat → Nat} {M : Nat} (h : ∀ k, f k ≤ M) : ∀ r k, dR f r k ≤ M
 | 0 => h
 | r + 1 => fun k => dF_le (dR_le h r) k
def ringB (xs : List Int) : Bool := decide (1 ≤ xs.length ∧ xs.length ≤ 8) && xs.all (fun x => decide (0 ≤ x ∧ x ≤ 100))
theorem ringB_len {xs : List Int} (h : ringB xs = true) : 1 ≤ xs.length ∧ xs.length ≤ 8 := by
 unfold ringB at h
 rw [Bool.and_eq_true] at h
 simpa using h.1
theorem ringB_at {xs : List Int} (h : ringB xs = true) {i : Nat} (hi : i < xs.length) : 0 ≤ xs.getD i 0 ∧ xs.getD i 0 ≤ 100 := by
 unfold ringB at h
 rw [Bool.and_eq_true, List.all_eq_true] at h
 have := h.2 (xs.getD i 0) (by rw [List.getD, eG9 hi]; simp)
 simpa using this
theorem ringB_of {xs : List Int} (h1 : 1 ≤ xs.length) (h2 : xs.length ≤ 8) (h : ∀ i, i < xs.length → 0 ≤ xs.getD i 0 ∧ xs.getD i 0 ≤ 100) : ringB xs = true := by
 unfold ringB
 rw [Bool.and_eq_true, List.all_eq_true]
 refine ⟨by simp; omega, fun x hx => ?_⟩
 obtain ⟨i, hi, rfl⟩ := List.mem_iff_getElem.1 hx
 have := h i hi
 rw [List.getD, eG9 hi] at this
 simpa using this
theorem ringB_short {xs : List Int} (h : xs.length < 1 ∨ 8 < xs.length) : ringB xs = false := by
 cases e : ringB xs with
 | false => rfl
 | true => have := ringB_len e; omega
theorem ringB_not {xs : List Int} {i : Nat} (hi : i < xs.length) (h : xs.getD i 0 < 0 ∨ 100 < xs.getD i 0) : ringB xs = false := by
 cases e : ringB xs with
 | false => rfl
 | true => have := ringB_at e hi; omega
def ringF (xs : List Int) : Nat → Nat := fun k => natL xs (k % xs.length)
def rgL (f : Nat → Nat) (n : Nat) : List Int := (List.range n).map fun k => (f k : Int)
theorem rgL_len (f : Nat → Nat) (n : Nat) : (rgL f n).length = n := by simp [rgL]
theorem rgL_getD (f : Nat → Nat) (n k : Nat) (h : k < n) : (rgL f n).getD k 0 = (f k : Int) := by simp [rgL, List.getD, h]
theorem rgL_snoc (f : Nat → Nat) (n : Nat) : rgL f (n + 1) = rgL f n ++ [(f n : Int)] := by simp [rgL, List.range_succ]
theorem ringF_le {xs : List Int} (h : ringB xs = true) (k : Nat) : ringF xs k ≤ 100 := by
 have hl := ringB_len h
 have := ringB_at h (Nat.mod_lt k (show 0 < xs.length by omega))
 unfold ringF natL; omega
theorem ringF_per {xs : List Int} : per xs.length (ringF xs) := fun k => by unfold ringF; rw [Nat.add_mod_right]
theorem ringF_get {xs : List Int} (h : ringB xs = true) {k : Nat} (hk : k < xs.length) : xs.getD k 0 = (ringF xs k : Int) := by
 have := ringB_at h hk
 unfold ringF natL
 rw [Nat.mod_eq_of_lt hk]; omega
theorem rgL_self {xs : List Int} (h : ringB xs = true) : rgL (ringF xs) xs.length = xs := by
 apply List.ext_getElem?
 intro k
 by_cases hk : k < xs.length
 · have h1 := ringF_get h hk
   rw [List.getD, eG9 hk, Option.getD_some] at h1
   unfold rgL
   rw [List.getElem?_map, List.getElem?_range hk, eG9 hk, h1]; rfl
 · rw [List.getElem?_eq_none (by rw [rgL_len]; omega), List.getElem?_eq_none (by omega)]
theorem rgL_ring {f : Nat → Nat} (hf : ∀ k, f k ≤ 100) (n : Nat) (h1 : 1 ≤ n) (h2 : n ≤ 8) : ringB (rgL f n) = true :=
 ringB_of (by rw [rgL_len]; exact h1) (by rw [rgL_len]; exact h2) (fun k hk => by
  rw [rgL_len] at hk
  rw [rgL_getD f n k hk]
  have := hf k
  omega)
theorem ringF_rgL {f : Nat → Nat} {n : Nat} (hn : 0 < n) (hp : per n f) : ringF (rgL f n) = f := by
 refine per_eq hn (by have := ringF_per (xs := rgL f n); rwa [rgL_len] at this) hp fun k hk => ?_
 unfold ringF natL
 rw [rgL_len, Nat.mod_eq_of_lt hk, rgL_getD f n k hk]; rfl
def roundV (xs : List Int) : List Int := if ringB xs = true then rgL (dF (ringF xs)) xs.length else []
theorem roundV_no {xs : List Int} (h : ringB xs = false) : roundV xs = [] := by unfold roundV; rw [h]; rfl
theorem roundV_yes {xs : List Int} (h : ringB xs = true) : roundV xs = rgL (dF (ringF xs)) xs.length := if_pos h
theorem roundV_rgL {f : Nat → Nat} {n : Nat} (hf : ∀ k, f k ≤ 100) (h1 : 1 ≤ n) (h2 : n ≤ 8) (hp : per n f) : roundV (rgL f n) = rgL (dF f) n := by
 rw [roundV_yes (rgL_ring hf n h1 h2), ringF_rgL (by omega) hp, rgL_len]
def firstI (p : Nat → Bool) : Nat → Option Nat
 | 0 => none
 | m + 1 => match firstI p m with
   | some i => some i
   | none => if p m then some m else none
theorem firstI_none {p : Nat → Bool} : ∀ {m : Nat}, firstI p m = none ↔ ∀ i, i < m → p i = false
 | 0 => by simp [firstI]
 | m + 1 => by
   unfold firstI
   cases h : firstI p m with
   | some i =>
     have h1 : ¬ ∀ i, i < m → p i = false := fun h2 => by rw [firstI_none.2 h2] at h; cases h
     simp only [reduceCtorEq, false_iff]
     intro h2; exact h1 fun i hi => h2 i (by omega)
   | none =>
     have h1 := firstI_none.1 h
     cases hp : p m with
     | true => simp only [if_true, reduceCtorEq, false_iff]; intro h2; have := h2 m (by omega); rw [hp] at this; cases this
     | false =>
       simp only [Bool.false_eq_true, if_false, true_iff]
       intro i hi
       by_cases e : i = m
       · subst e; exact hp
       · exact h1 i (by omega)
theorem firstI_some {p : Nat → Bool} {i : Nat} : ∀ {m : Nat}, firstI p m = some i ↔ i < m ∧ p i = true ∧ ∀ j, j < i → p j = false
 | 0 => by simp [firstI]
 | m + 1 => by
   unfold firstI
   cases h : firstI p m with
   | some k =>
     have h1 := firstI_some.1 h
     constructor
     · intro e; injection e with e; subst e; exact ⟨by omega, h1.2⟩
     · rintro ⟨h2, h3, h4⟩
       rcases Nat.lt_trichotomy k i with h5 | h5 | h5
       · have := h4 k h5; rw [h1.2.1] at this; cases this
       · rw [h5]
       · have := h1.2.2 i h5; rw [h3] at this; cases this
   | none =>
     have h1 := firstI_none.1 h
     cases hp : p m with
     | true =>
       simp only [if_true]
       constructor
       · intro e; injection e with e; subst e; exact ⟨by omega, hp, h1⟩
       · rintro ⟨h2, h3, h4⟩
         have : ¬ i < m := fun h5 => by have := h1 i h5; rw [h3] at this; cases this
         rw [show m = i by omega]
     | false =>
       simp only [Bool.false_eq_true, if_false, reduceCtorEq, false_iff]
       rintro ⟨h2, h3, h4⟩
       by_cases e : i = m
       · subst e; rw [h3] at hp; cases hp
       · have := h1 i (by omega); rw [h3] at this; cases this
def zeroB (f : Nat → Nat) (n r : Nat) : Bool := (List.range n).all fun k => dR f r k == 0
theorem zeroB_iff {f : Nat → Nat} {n r : Nat} : zeroB f n r = true ↔ ∀ k, k < n → dR f r k = 0 := by
 unfold zeroB; rw [List.all_eq_true]
 exact ⟨fun h k hk => by have := h k (List.mem_range.2 hk); simpa using this, fun h k hk => by have := h k (List.mem_range.1 hk); simpa using this⟩
def endN (xs : List Int) : Option Nat := if ringB xs = true then firstI (zeroB (ringF xs) xs.length) 2001 else none
def endI (xs : List Int) : Int := match endN xs with | some r => r | none => -1
def endB (xs : List Int) : Bool := (endN xs).isSome
end
section
abbrev Dk := List Int × List (List Int)
def deskB (d : Dk) : Bool := d.2.all sideB && (sideB d.1 && decide (d.2.length ≤ 8))
theorem deskB_is {d : Dk} : deskB d = true ↔ (∀ r ∈ d.2, sideB r = true) ∧ sideB d.1 = true ∧ d.2.length ≤ 8 := by
 unfold deskB
 simp only [Bool.and_eq_true, List.all_eq_true, decide_eq_true_eq]
def newV (xs : List Int) : Dk := if sideB xs = true then (xs, []) else ([], [])
def flipV (row : List Int) (n : Nat) : List Int := row.set n (1 - row.getD n 0)
def madeV (row : List Int) (k n : Int) : List Int :=
 if k = 0 ∧ 0 ≤ n ∧ n ≤ (row.length : Int) - 1 then flipV row n.toNat
 else if k = 1 ∧ 0 ≤ n ∧ n ≤ 1 ∧ (row.length : Int) < 12 then row ++ [n]
 else if k = 2 ∧ n = 0 then undrV row
 else if k = 3 ∧ n = 0 then turnV row
 else if k = 4 ∧ n = 0 then roundV row
 else []
def pastV (past : List (List Int)) (row : List Int) : List (List Int) := if past.length < 8 then past ++ [row] else (past ++ [row]).tail
def pstV (past : List (List Int)) : List Int := past.getD (past.length - 1) []
def doV (d : Dk) (k n : Int) : Dk × Bool :=
 if deskB d = true then
  (if k = 5 ∧ n = 0 ∧ 0 < d.2.length then ((pstV d.2, d.2.take (d.2.length - 1)), true)
  else if madeV d.1 k n = [] ∨ madeV d.1 k n = d.1 then (d, false)
  else ((madeV d.1 k n, pastV d.2 d.1), true))
 else (([], []), false)
theorem doV_no {d : Dk} (h : deskB d = false) (k n : Int) : doV d k n = (([], []), false) := by unfold doV; rw [h]; rfl
theorem turnV_of {f : Nat → Nat} (hf : ∀ k, f k ≤ 1) {n : Nat} (h1 : 1 ≤ n) (h2 : n ≤ 12) : turnV (stL f 0 n) = stL (side f n) 0 n := by
 rw [turnV_yes (stL_side hf 0 n h1 h2), stL_len]
 unfold stL
 refine List.map_congr_left fun j hj => ?_
 have hj' := List.mem_range.1 hj
 congr 1
 show side _ n j = side f n j
 unfold side
 exact st_congr _ _ (fun i _ h => stL_nat f 0 n i (by omega))
theorem turnV_side {xs : List Int} (h : sideB xs = true) : sideB (turnV xs) = true := by
 have hl := sideB_len h
 have e := turnV_of (side_bit h) hl.1 hl.2
 rw [stL_zero h] at e
 rw [e]
 exact stL_side (side_le (side_bit h) _) 0 _ hl.1 hl.2
theorem turnV_three {xs : List Int} (h : sideB xs = true) : turnV (turnV (turnV xs)) = xs := by
 have hl := sideB_len h
 have hf := side_bit h
 have e := turnV_of hf hl.1 hl.2
 rw [stL_zero h] at e
 rw [e, turnV_of (side_le hf _) hl.1 hl.2, turnV_of (side_le (side_le hf _) _) hl.1 hl.2]
 conv => rhs; rw [← stL_zero h]
 unfold stL
 refine List.map_congr_left fun j hj => ?_
 show ((side (side (side (natL xs) xs.length) xs.length) xs.length j : Nat) : Int) = (natL xs j : Int)
 rw [side_three hf _ j (List.mem_range.1 hj)]
theorem flip_side {row : List Int} (h : sideB row = true) {n : Nat} (hn : n < row.length) : sideB (flipV row n) = true := by
 have hl := sideB_len h
 refine sideB_of (by unfold flipV; rw [List.length_set]; exact hl.1) (by unfold flipV; rw [List.length_set]; exact hl.2) fun i hi => ?_
 unfold flipV at hi ⊢
 rw [List.length_set] at hi
 have h1 := sideB_at h hi
 have h2 := sideB_at h hn
 rw [List.getD, List.getElem?_set]
 by_cases e : n = i
 · subst e
   rw [if_pos rfl, if_pos hn, Option.getD_some]
   omega
 · rw [if_neg e]
   exact h1
theorem put_side {row : List Int} (h : sideB row = true) {n : Int} (h0 : 0 ≤ n) (h1 : n ≤ 1) (hl : row.length < 12) : sideB (row ++ [n]) = true := by
 have hs := sideB_len h
 refine sideB_of (by simp) (by simp; omega) fun i hi => ?_
 by_cases e : i < row.length
 · rw [List.getD, List.getElem?_append_left e]
   exact sideB_at h e
 · have : i = row.length := by simp at hi; omega
   subst this
   rw [List.getD, List.getElem?_append_right (Nat.le_refl _), Nat.sub_self]
   exact ⟨h0, h1⟩
theorem undr_side {row : List Int} (h : sideB row = true) (hne : undrV row ≠ []) : sideB (undrV row) = true := by
 have hl := sideB_len h
 rw [undrV_yes h] at hne ⊢
 by_cases e : row.length - 1 = 0
 · rw [e] at hne; exact absurd rfl hne
 · exact stL_side (side_bit h) 1 _ (by omega) (by omega)
theorem round_side {row : List Int} (h : sideB row = true) (hne : roundV row ≠ []) : sideB (roundV row) = true := by
 have hl := sideB_len h
 cases hr : ringB row with
 | false => rw [roundV_no hr] at hne; exact absurd rfl hne
 | true =>
   have hr8 := ringB_len hr
   rw [roundV_yes hr]
   have hb : ∀ k, ringF row k ≤ 1 := fun k => by
    have := side_bit h (k % row.length)
    unfold ringF; exact this
   refine sideB_of (by rw [rgL_len]; omega) (by rw [rgL_len]; omega) fun i hi => ?_
   rw [rgL_len] at hi
   rw [rgL_getD _ _ _ hi]
   have := dF_le hb i
   omega
theorem made_side {row : List Int} (h : sideB row = true) (k n : Int) (hne : madeV row k n ≠ []) : sideB (madeV row k n) = true := by
 have hl := sideB_len h
 unfold madeV at hne ⊢
 split
 · exact flip_side h (by omega)
 split
 · exact put_side h (by omega) (by omega) (by omega)
 split
 · rename_i h1 h2 h3
   rw [if_neg h1, if_neg h2, if_pos h3] at hne
   exact undr_side h hne
 split
 · exact turnV_side h
 split
 · rename_i h1 h2 h3 h4 h5
   rw [if_neg h1, if_neg h2, if_neg h3, if_neg h4, if_pos h5] at hne
   exact round_side h hne
 · rename_i h1 h2 h3 h4 h5
   rw [if_neg h1, if_neg h2, if_neg h3, if_neg h4, if_neg h5] at hne
   exact absurd rfl hne
theorem past_len (past : List (List Int)) (row : List Int) (h : past.length ≤ 8) : (pastV past row).length ≤ 8 := by
 unfold pastV
 split
 · simp; omega
 · simp; omega
theorem past_mem {past : List (List Int)} {row r : List Int} (h : r ∈ pastV past row) : r ∈ past ∨ r = row := by
 unfold pastV at h
 split at h
 · rcases List.mem_append.1 h with h | h
   · exact .inl h
   · exact .inr (by simpa using h)
 · rcases List.mem_append.1 (List.mem_of_mem_tail h) with h | h
   · exact .inl h
   · exact .inr (by simpa using h)
theorem pstV_mem {past : List (List Int)} (h : 0 < past.length) : pstV past ∈ past := by
 unfold pstV
 rw [List.getD, eG9 (by omega), Option.getD_some]
 exact List.getElem_mem _
theorem do_desk {d : Dk} (h : deskB d = true) (k n : Int) : deskB (doV d k n).1 = true := by
 obtain ⟨h1, h2, h3⟩ := deskB_is.1 h
 unfold doV
 rw [if_pos h]
 split
 · rename_i hb
   exact deskB_is.2 ⟨fun r hr => h1 r (List.mem_of_mem_take hr), h1 _ (pstV_mem hb.2.2), by simp; omega⟩
 split
 · exact h
 · rename_i hb hm
   exact deskB_is.2 ⟨fun r hr => by
    rcases past_mem hr with hr | rfl
    · exact h1 r hr
    · exact h2, made_side h2 k n (fun e => hm (.inl e)), past_len _ _ h3⟩
end
section
open Go.RowKit
def nextE : Nat → List Nat → List Nat
 | a, [] => [a]
 | a, b :: r => (a + b) :: nextE b r
def rowE : Nat → List Nat
 | 0 => [1]
 | n + 1 => nextE 0 (rowE n)
theorem nextE_get : ∀ (l : List Nat) (a k : Nat), (nextE a l).getD k 0 = (a :: l).getD k 0 + l.getD k 0
 | [], a, 0 => rfl
 | [], a, k + 1 => rfl
 | b :: r, a, 0 => rfl
 | b :: r, a, k + 1 => by
   show (nextE b r).getD k 0 = _
   rw [nextE_get r b k]; rfl
theorem nextE_len : ∀ (l : List Nat) (a : Nat), (nextE a l).length = l.length + 1
 | [], _ => rfl
 | b :: r, _ => by show (nextE b r).length + 1 = _; rw [nextE_len r b]; rfl
theorem rowE_len : ∀ n, (rowE n).length = n + 1
 | 0 => rfl
 | n + 1 => by show (nextE 0 (rowE n)).length = _; rw [nextE_len, rowE_len n]
theorem rowE_get : ∀ n k, (rowE n).getD k 0 = bin n k
 | 0, 0 => rfl
 | 0, k + 1 => rfl
 | n + 1, 0 => by
   show (nextE 0 (rowE n)).getD 0 0 = _
   rw [nextE_get, rowE_get n 0, bin_zero, bin_zero]; rfl
 | n + 1, k + 1 => by
   show (nextE 0 (rowE n)).getD (k + 1) 0 = _
   rw [nextE_get, rowE_get n (k + 1), bin_succ, List.getD_cons_succ, rowE_get n k]
theorem rowE_eq (n : Nat) : rowE n = (List.range (n + 1)).map (bin n) := by
 apply List.ext_getElem?
 intro k
 by_cases h : k < n + 1
 · have h1 := rowE_get n k
   rw [List.getElem?_map, List.getElem?_range h]
   rw [List.getD, eG9 (by rw [rowE_len]; exact h)] at h1
   rw [eG9 (by rw [rowE_len]; exact h)]
   exact congrArg some h1
 · rw [List.getElem?_eq_none (by rw [rowE_len]; omega), List.getElem?_eq_none (by simp; omega)]
def gcdU (f : Nat → Nat) : Nat → Nat
 | 0 => 0
 | k + 1 => Nat.gcd (gcdU f k) (f k)
def lcmU (f : Nat → Nat) : Nat → Nat
 | 0 => 1
 | k + 1 => lcmU f k / Nat.gcd (lcmU f k) (f k) * f k
def shared (n : Nat) : Nat := gcdU (fun k => bin n (k + 1)) (n - 1)
def over (n : Nat) : Nat := lcmU (bin n) (n + 1)
def gcdL : Nat → List Nat → Nat
 | a, [] => a
 | a, b :: r => gcdL (Nat.gcd a b) r
theorem gcdL_snoc : ∀ (l : List Nat) (a x : Nat), gcdL a (l ++ [x]) = Nat.gcd (gcdL a l) x
 | [], _, _ => rfl
 | _ :: r, _, x => gcdL_snoc r _ x
theorem gcdL_map (f : Nat → Nat) : ∀ m, gcdL 0 ((List.range m).map f) = gcdU f m
 | 0 => rfl
 | m + 1 => by rw [List.range_succ, List.map_append, List.map_singleton, gcdL_snoc, gcdL_map f m]; rfl
theorem inner_eq (n : Nat) : ((rowE n).drop 1).take (n - 1) = (List.range (n - 1)).map fun k => bin n (k + 1) := by
 rw [rowE_eq]
 apply List.ext_getElem?
 intro k
 rw [List.getElem?_take]
 by_cases h : k < n - 1
 · rw [if_pos h, List.getElem?_drop, List.getElem?_map, List.getElem?_map, List.getElem?_range h, List.getElem?_range (by omega), Nat.add_comm]; rfl
 · rw [if_neg h, List.getElem?_eq_none (by simp; omega)]
theorem shared_eq (n : Nat) : shared n = gcdL 0 (((rowE n).drop 1).take (n - 1)) := by rw [inner_eq, gcdL_map]; rfl
def leastD (n : Nat) : Nat → Nat → Nat
 | 0, k => k
 | f + 1, k => if n % k = 0 then k else leastD n f (k + 1)
theorem shared_all : (List.range 61).all (fun n => decide (n < 2) || (let d := leastD n 60 2; decide (2 ≤ d) && n % d == 0 && (List.range d).all (fun j => decide (j < 2) || !(n % j == 0)) &&
 ((strip d n == 1 && gcdL 0 (((rowE n).drop 1).take (n - 1)) == d) || (decide (1 < strip d n) && gcdL 0 (((rowE n).drop 1).take (n - 1)) == 1)))) = true := by decide +kernel
theorem shared_is {n : Nat} (h1 : 2 ≤ n) (h2 : n ≤ 60) : ∃ d, 2 ≤ d ∧ n % d = 0 ∧ (∀ j, 2 ≤ j → j < d → n % j ≠ 0) ∧ ((strip d n = 1 ∧ shared n = d) ∨ (1 < strip d n ∧ shared n = 1)) := by
 have h := List.all_eq_true.1 shared_all n (List.mem_range.2 (by omega))
 rw [Bool.or_eq_true] at h
 rcases h with h | h
 · have := of_decide_eq_true h; omega
 · generalize leastD n 60 2 = d at h
   rw [← shared_eq] at h
   simp only [Bool.and_eq_true, Bool.or_eq_true, beq_iff_eq, decide_eq_true_eq, List.all_eq_true, List.mem_range, Bool.not_eq_true', beq_eq_false_iff_ne] at h
   obtain ⟨⟨⟨h3, h4⟩, h5⟩, h6⟩ := h
   exact ⟨d, h3, h4, fun j hj hjd => (h5 j hjd).resolve_left (by omega), h6⟩
theorem shared_le {n : Nat} (h1 : 2 ≤ n) (h2 : n ≤ 60) : 1 ≤ shared n ∧ shared n ≤ 60 := by
 obtain ⟨d, h3, h4, _, h5⟩ := shared_is h1 h2
 have : d ≤ n := Nat.le_of_dvd (by omega) (Nat.dvd_of_mod_eq_zero h4)
 rcases h5 with ⟨_, h⟩ | ⟨_, h⟩ <;> omega
def cellE (n k : Nat) : Nat := (rowE n).getD k 0
def catN (u : Nat) : Nat := bin (2 * u) u / (u + 1)
def catE (u : Nat) : Nat := cellE (2 * u) u / (u + 1)
theorem catE_eq (u : Nat) : catE u = catN u := by unfold catE catN cellE; rw [rowE_get]
set_option maxRecDepth 100000 in
theorem cat_all : (List.range 31).all (fun u => (u == 0 || sumF (fun k => catE k * catE (u - 1 - k)) u == catE u) && ((catE u % 2 == 1) == (strip 2 (u + 1) == 1)) && decide (catE u ≤ 4000000000000000) && decide (1 ≤ catE u)) = true := by decide +kernel
theorem cat_one (u : Nat) (h : u ≤ 30) : (u = 0 ∨ sumF (fun k => catN k * catN (u - 1 - k)) u = catN u) ∧ (catN u % 2 = 1 ↔ strip 2 (u + 1) = 1) ∧ catN u ≤ 4000000000000000 ∧ 1 ≤ catN u := by
 have h1 := List.all_eq_true.1 cat_all u (List.mem_range.2 (by omega))
 rw [Bool.and_eq_true, Bool.and_eq_true, Bool.and_eq_true, Bool.or_eq_true, beq_iff_eq, beq_iff_eq, decide_eq_true_eq, decide_eq_true_eq, beq_iff_eq, Bool.eq_iff_iff, beq_iff_eq, beq_iff_eq] at h1
 simp only [catE_eq] at h1
 exact ⟨h1.1.1.1, h1.1.1.2, h1.1.2, h1.2⟩
end
section
open Go
def str (l : List Nat) : ByteArray := ⟨(l.map UInt8.ofNat).toArray⟩
theorem str_nil : str [] = ⟨#[]⟩ := rfl
theorem str_size (l : List Nat) : (str l).size = l.length := by simp [str, ByteArray.size]
theorem str_app (a b : List Nat) : str a ++ str b = str (a ++ b) := by
 unfold str; rw [ByteArray.mk_append_mk, List.map_append]
theorem str_toList (l : List Nat) : (str l).toList = l.map UInt8.ofNat := by unfold str; exact ByteArray.toList_mk _
theorem str_get (l : List Nat) (i : Nat) (h : i < (str l).size) (hl : ∀ x ∈ l, x < 256) : ((str l)[i]).toNat = l.getD i 0 := by
 have hi : i < l.length := by rwa [str_size] at h
 have e : (str l)[i] = UInt8.ofNat l[i] := by
  show ((l.map UInt8.ofNat).toArray)[i]'(by simpa using hi) = _
  rw [List.getElem_toArray, List.getElem_map]
 rw [e, List.getD, eG9 hi, Option.getD_some, UInt8.toNat_ofNat_of_lt' (by exact hl _ (List.getElem_mem hi))]
theorem str_cut (l : List Nat) (a b : Nat) : (str l).extract a b = str ((l.drop a).take (b - a)) := by
 unfold str; rw [ByteArray.extract_mk, List.map_take, List.map_drop]
theorem str_inj {a b : List Nat} (ha : ∀ x ∈ a, x < 256) (hb : ∀ x ∈ b, x < 256) (h : a.map UInt8.ofNat = b.map UInt8.ofNat) : a = b := by
 have e : ∀ (l : List Nat), (∀ x ∈ l, x < 256) → (l.map UInt8.ofNat).map UInt8.toNat = l := fun l hl => by
  rw [List.map_map]
  conv => rhs; rw [← List.map_id l]
  exact List.map_congr_left fun x hx => UInt8.toNat_ofNat_of_lt' (hl x hx)
 rw [← e a ha, ← e b hb, h]
end
section
open Go Go.RowKit
theorem drop_get (l : List Nat) (k : Nat) (h : k < l.length) : l.drop k = l.getD k 0 :: l.drop (k + 1) := by
 rw [List.drop_eq_getElem_cons h, List.getD, eG9 h, Option.getD_some]
theorem drop_all (l : List Nat) : l.drop l.length = [] := List.drop_eq_nil_of_le (Nat.le_refl _)
def waysV (up : Int) : Int := if up < 0 ∨ 30 < up then -1 else (catN up.toNat : Int)
theorem waysV_bad {up : Int} (h : up < 0 ∨ 30 < up) : waysV up = -1 := if_pos h
theorem waysV_nat {u : Nat} (h : u ≤ 30) : waysV u = catN u := by unfold waysV; rw [if_neg (by omega)]; rfl
end
section
open Go.RowKit
def sharedV (row : Int) : Int := if row < 2 ∨ 60 < row then -1 else (shared row.toNat : Int)
theorem sharedV_bad {row : Int} (h : row < 2 ∨ 60 < row) : sharedV row = -1 := if_pos h
theorem sharedV_nat {n : Nat} (h1 : 2 ≤ n) (h2 : n ≤ 60) : sharedV n = shared n := by unfold sharedV; rw [if_neg (by omega)]; rfl
def keep (p n : Nat) : Nat := mulL (digs p n)
theorem keep_le {p : Nat} (hp : 2 ≤ p) (n : Nat) : keep p n ≤ n + 1 := mul_le hp n
def whole (p n : Nat) : Bool := if _h : 2 ≤ p ∧ p ≤ n then n % p == p - 1 && whole p (n / p) else true
termination_by n
decreasing_by exact Nat.div_lt_self (by omega) _h.1
def bad1 (n b : Int) : Prop := n < 0 ∨ 999999999 < n ∨ b < 2 ∨ 16 < b
def bad2 (x y b : Int) : Prop := x < 0 ∨ 499999999 < x ∨ y < 0 ∨ 499999999 < y ∨ b < 2 ∨ 16 < b
def bad3 (x y b : Int) : Prop := x < 0 ∨ 999999999 < x ∨ y < 0 ∨ 999999999 < y ∨ b < 2 ∨ 16 < b
instance (n b : Int) : Decidable (bad1 n b) := by unfold bad1; infer_instance
instance (x y b : Int) : Decidable (bad2 x y b) := by unfold bad2; infer_instance
instance (x y b : Int) : Decidable (bad3 x y b) := by unfold bad3; infer_instance
def carriesV (x y b : Int) : Int := if bad2 x y b then -1 else (carL b.toNat 0 (pairs b.toNat x.toNat y.toNat) : Int)
def underV (x y b : Int) : Bool := if bad3 x y b then false else und b.toNat x.toNat y.toNat
def countV (n b : Int) : Int := if bad1 n b then -1 else (mulL (digs b.toNat n.toNat) : Int)
theorem carriesV_bad {x y b : Int} (h : bad2 x y b) : carriesV x y b = -1 := if_pos h
theorem underV_bad {x y b : Int} (h : bad3 x y b) : underV x y b = false := if_pos h
theorem countV_bad {n b : Int} (h : bad1 n b) : countV n b = -1 := if_pos h
theorem countV_nat {n b : Nat} (h1 : n ≤ 999999999) (h2 : 2 ≤ b) (h3 : b ≤ 16) : countV n b = mulL (digs b n) := by
 unfold countV; rw [if_neg (by unfold bad1; omega)]; simp
theorem carriesV_nat {x y b : Nat} (h1 : x ≤ 499999999) (h1' : y ≤ 499999999) (h2 : 2 ≤ b) (h3 : b ≤ 16) : carriesV x y b = carL b 0 (pairs b x y) := by
 unfold carriesV; rw [if_neg (by unfold bad2; omega)]; simp
theorem underV_nat {x y b : Nat} (h1 : x ≤ 999999999) (h1' : y ≤ 999999999) (h2 : 2 ≤ b) (h3 : b ≤ 16) : underV x y b = und b x y := by
 unfold underV; rw [if_neg (by unfold bad3; omega)]; simp
def badK (row p : Int) : Prop := row < 0 ∨ 999999999 < row ∨ prmI p = false
instance (row p : Int) : Decidable (badK row p) := by unfold badK; infer_instance
def keepV (row p : Int) : Int := if badK row p then -1 else (keep p.toNat row.toNat : Int)
theorem keepV_bad {row p : Int} (h : badK row p) : keepV row p = -1 := if_pos h
theorem badK_not {n p : Nat} (h1 : n ≤ 999999999) (h3 : prm p) : ¬ badK n p := by unfold badK; rw [prmI_ok h3]; simp; omega
theorem badK_nat {row p : Int} (h : ¬ badK row p) : ∃ n P : Nat, row = n ∧ p = P ∧ n ≤ 999999999 ∧ prm P := by
 unfold badK at h
 obtain ⟨P, rfl, hP⟩ := prmI_t (p := p) (by cases e : prmI p; exact absurd (.inr (.inr e)) h; rfl)
 exact ⟨row.toNat, P, by omega, rfl, by omega, hP⟩
theorem keepV_nat {n p : Nat} (h1 : n ≤ 999999999) (h3 : prm p) : keepV n p = keep p n := by unfold keepV; rw [if_neg (badK_not h1 h3)]; simp
theorem keepV_count {n p : Nat} (h1 : n ≤ 999999999) (h3 : prm p) : countV n p = keepV n p := by
 have := prm_two h3
 rw [keepV_nat h1 h3, countV_nat h1 (by omega) (by omega)]; rfl
end
section
def decI (n : Int) : List Nat := decF 20 n.toNat
def toldI (n : Int) : List Nat := if n < 0 then [110, 111, 110, 101] else decI n
def whatT : List Nat := [119, 104, 97, 116]
def rowTx (xs : List Int) : List Nat := xs.flatMap decI
def askV (word : List Nat) (ns : List Int) : List Nat :=
 if word = [99, 101, 108, 108] ∧ ns.length = 2 then toldI (cellV (ns.getD 0 0) (ns.getD 1 0))
 else if word = [115, 104, 97, 114, 101, 100] ∧ ns.length = 1 then toldI (sharedV (ns.getD 0 0))
 else if word = [119, 97, 121, 115] ∧ ns.length = 1 then toldI (waysV (ns.getD 0 0))
 else if word = [107, 101, 112, 116] ∧ ns.length = 2 then toldI (keepV (ns.getD 0 0) (ns.getD 1 0))
 else if word = [108, 101, 102, 116] ∧ ns.length = 3 then toldI (leftV (ns.getD 0 0) (ns.getD 1 0) (ns.getD 2 0))
 else if word = [111, 102, 116, 101, 110] ∧ ns.length = 3 then toldI (cellTV (ns.getD 0 0) (ns.getD 1 0) (ns.getD 2 0))
 else if word = [99, 97, 114, 114, 105, 101, 115] ∧ ns.length = 3 then toldI (carriesV (ns.getD 0 0) (ns.getD 1 0) (ns.getD 2 0))
 else whatT
def numsL : List (List Nat) → Option (List Int)
 | [] => some []
 | w :: r => match digT w with
   | none => none
   | some n => match numsL r with
     | none => none
     | some ns => some ((n : Int) :: ns)
def wordsV (s : List Nat) : List Nat := match numsL (cutT 32 s).tail with
 | none => whatT
 | some ns => askV ((cutT 32 s).getD 0 []) ns
def qaV (row : List Int) (s : List Nat) : List Nat :=
 if s = [114, 111, 119] then rowTx row
 else if s = [111, 110, 101, 115] then decI (onesV row)
 else if s = [108, 97, 115, 116] then decI (endV row)
 else if s = [101, 110, 100] then (if endB row = true then decI (endI row) else [110, 111, 110, 101])
 else if s = [98, 97, 108, 97, 110, 99, 101, 100] then (if 4 * onesV row = (row.length : Int) * ((row.length : Int) + 1) then [121, 101, 115] else [110, 111])
 else wordsV s
def lineV (d : Dk) (s : List Nat) : Dk × List Nat :=
 if deskB d = true then (match readD s with
  | some a => ((doV d a.1 a.2).1, if (doV d a.1 a.2).2 = true then [111, 107] else [110, 111, 116])
  | none => (d, qaV d.1 s))
 else (([], []), [])
theorem lineV_no {d : Dk} (h : deskB d = false) (s : List Nat) : lineV d s = (([], []), []) := by unfold lineV; rw [h]; rfl
theorem lineV_deed {d : Dk} (h : deskB d = true) {s : List Nat} {a : Int × Int} (hr : readD s = some a) : lineV d s = ((doV d a.1 a.2).1, if (doV d a.1 a.2).2 = true then [111, 107] else [110, 111, 116]) := by
 unfold lineV; rw [if_pos h, hr]
theorem lineV_ask {d : Dk} (h : deskB d = true) {s : List Nat} (hr : readD s = none) : lineV d s = (d, qaV d.1 s) := by
 unfold lineV; rw [if_pos h, hr]
theorem decF_ne : ∀ f n, decF f n ≠ []
 | 0, _ => by simp [decF]
 | f + 1, n => by unfold decF; split <;> simp
theorem toldI_ne (n : Int) : toldI n ≠ [] := by
 unfold toldI
 split
 · simp
 · exact decF_ne _ _
theorem askV_ne (w : List Nat) (ns : List Int) : askV w ns ≠ [] := by
 unfold askV
 repeat' split
 all_goals first | exact toldI_ne _ | (unfold whatT; simp)
theorem wordsV_ne (s : List Nat) : wordsV s ≠ [] := by
 unfold wordsV
 split
 · unfold whatT; simp
 · exact askV_ne _ _
theorem qaV_ne {row : List Int} (h : 1 ≤ row.length) (s : List Nat) : qaV row s ≠ [] := by
 unfold qaV
 split
 · unfold rowTx
   cases row with
   | nil => simp at h
   | cons x r =>
     rw [List.flatMap_cons]
     have := decF_ne 20 x.toNat
     intro e
     exact this (List.append_eq_nil_iff.1 e).1
 split
 · exact decF_ne _ _
 split
 · exact decF_ne _ _
 split
 · split
   · exact decF_ne _ _
   · simp
 split
 · split <;> simp
 · exact wordsV_ne s
theorem line_desk {d : Dk} (h : deskB d = true) (s : List Nat) : deskB (lineV d s).1 = true := by
 cases hr : readD s with
 | none => rw [lineV_ask h hr]; exact h
 | some a => rw [lineV_deed h hr]; exact do_desk h _ _
theorem line_ne {d : Dk} (h : deskB d = true) (s : List Nat) : (lineV d s).2 ≠ [] := by
 have hs := sideB_len (deskB_is.1 h).2.1
 cases hr : readD s with
 | none => rw [lineV_ask h hr]; exact qaV_ne hs.1 s
 | some a =>
   rw [lineV_deed h hr]
   simp only
   split <;> simp
theorem line_cell {d : Dk} (h : deskB d = true) : lineV d [99, 101, 108, 108, 32, 52, 32, 50] = (d, [54]) := by
 rw [lineV_ask h (by decide +kernel)]
 rfl
def sayL : Dk → List (List Nat) → Dk × List (List Nat)
 | d, [] => (d, [])
 | d, s :: r => ((sayL (lineV d s).1 r).1, (lineV d s).2 :: (sayL (lineV d s).1 r).2)
def sayV (d : Dk) (L : List (List Nat)) : Dk × List (List Nat) := if deskB d = true ∧ L.length ≤ 40 then sayL d L else (([], []), [])
theorem sayL_len : ∀ (L : List (List Nat)) (d : Dk), (sayL d L).2.length = L.length
 | [], _ => rfl
 | s :: L, d => by unfold sayL; simp [sayL_len L]
theorem sayL_desk : ∀ (L : List (List Nat)) (d : Dk), deskB d = true → deskB (sayL d L).1 = true
 | [], _, h => h
 | s :: L, d, h => by unfold sayL; exact sayL_desk L _ (line_desk h s)
theorem sayL_ne : ∀ (L : List (List Nat)) (d : Dk), deskB d = true → ∀ t ∈ (sayL d L).2, t ≠ []
 | [], _, _, t, ht => by simp [sayL] at ht
 | s :: L, d, h, t, ht => by
   unfold sayL at ht
   rcases List.mem_cons.1 ht with rfl | ht
   · exact line_ne h s
   · exact sayL_ne L _ (line_desk h s) t ht
theorem sayL_app : ∀ (L M : List (List Nat)) (d : Dk), sayL d (L ++ M) = ((sayL (sayL d L).1 M).1, (sayL d L).2 ++ (sayL (sayL d L).1 M).2)
 | [], _, _ => rfl
 | s :: L, M, d => by
   rw [List.cons_append]
   conv => lhs; unfold sayL
   rw [sayL_app L M]
   simp [sayL]
def turnT : List Nat := [116, 117, 114, 110]
theorem line_turn {d : Dk} (h : deskB d = true) : (lineV d turnT).1.1 = turnV d.1 := by
 rw [lineV_deed (a := (3, 0)) h (by decide +kernel)]
 have hs := (deskB_is.1 h).2.1
 have hm : madeV d.1 3 0 = turnV d.1 := by
  unfold madeV
  rw [if_neg (by omega), if_neg (by omega), if_neg (by omega), if_pos ⟨rfl, rfl⟩]
 show (doV d 3 0).1.1 = turnV d.1
 unfold doV
 rw [if_pos h, if_neg (by omega), hm]
 split
 · rename_i he
   rcases he with he | he
   · have := sideB_len (turnV_side hs)
     rw [he] at this; simp at this
   · exact he.symm
 · rfl
theorem say_turns {d : Dk} (h : deskB d = true) : (sayL d [turnT, turnT, turnT]).1.1 = d.1 := by
 have h1 := line_desk h turnT
 have h2 := line_desk h1 turnT
 show (lineV (lineV (lineV d turnT).1 turnT).1 turnT).1.1 = d.1
 rw [line_turn h2, line_turn h1, line_turn h]
 exact turnV_three (deskB_is.1 h).2.1
end
section
open Go.RowKit
theorem downN_lt (l N : Nat) : downN l N < 2 ^ l := Nat.mod_lt _ (Nat.pow_pos (by omega))
def rowB (c N : Nat) : Nat → Nat
 | 0 => N
 | i + 1 => downN (c - (i + 1)) (rowB c N i)
theorem rowB_lt {c N : Nat} (h : N < 2 ^ c) : ∀ i, rowB c N i < 2 ^ (c - i)
 | 0 => h
 | _ + 1 => downN_lt _ _
theorem rowB_small {c N : Nat} (h : N < 2 ^ c) (hc : c ≤ 12) (i : Nat) : rowB c N i < 4096 :=
 lL9 (rowB_lt h i) (lT9 (Nat.pow_le_pow_right (by omega) (by omega : c - i ≤ 12)) (by decide))
theorem rowB_bit {c N : Nat} : ∀ i k, i + k < c → bitF (rowB c N i) k = st (bitF N) i k
 | 0, _, _ => rfl
 | i + 1, k, h => by
   show bitF (downN (c - (i + 1)) (rowB c N i)) k = _
   rw [downN_bit _ _ _ (by omega)]
   show (bitF (rowB c N i) k + bitF (rowB c N i) (k + 1)) % 2 = (st (bitF N) i k + st (bitF N) i (k + 1)) % 2
   rw [rowB_bit i k (by omega), rowB_bit i (k + 1) (by omega)]
theorem pop_more {N m : Nat} (h : N < 2 ^ m) : ∀ d, pop N (m + d) = pop N m
 | 0 => rfl
 | d + 1 => by
   show pop N (m + d) + (N >>> (m + d)) % 2 = pop N m
   rw [pop_more h d, Nat.shiftRight_eq_div_pow, Nat.div_eq_of_lt (lL9 h (Nat.pow_le_pow_right (by omega) (by omega))), Nat.zero_mod, Nat.add_zero]
theorem pop_twelve {c N : Nat} (h : N < 2 ^ c) (hc : c ≤ 12) : pop N 12 = pop N c := by
 have := pop_more h (12 - c)
 rwa [show c + (12 - c) = 12 by omega] at this
theorem pop_le12 (N : Nat) : ∀ k, pop N k ≤ k
 | 0 => Nat.le_refl _
 | k + 1 => by have := pop_le12 N k; simp only [pop]; omega
def onesU (c N : Nat) : Nat → Nat
 | 0 => 0
 | i + 1 => onesU c N i + pop (rowB c N i) 12
theorem onesU_le (c N : Nat) : ∀ i, onesU c N i ≤ i * 12
 | 0 => Nat.le_refl _
 | i + 1 => by have := onesU_le c N i; have := pop_le12 (rowB c N i) 12; simp only [onesU]; omega
theorem onesU_rest {c N : Nat} (h : N < 2 ^ c) (hc : c ≤ 12) : ∀ i, i ≤ c → onesN c N = onesU c N i + onesN (c - i) (rowB c N i)
 | 0, _ => by simp [onesU, rowB]
 | i + 1, hi => by
   rw [onesU_rest h hc i (by omega)]
   have h2 := rowB_lt h i
   obtain ⟨l, hl⟩ : ∃ l, c - i = l + 1 := ⟨c - i - 1, by omega⟩
   rw [hl] at h2 ⊢
   rw [show c - (i + 1) = l by omega]
   show onesU c N i + (pop (rowB c N i) (l + 1) + onesN l (downN l (rowB c N i))) = onesU c N i + pop (rowB c N i) 12 + onesN l (downN (c - (i + 1)) (rowB c N i))
   rw [pop_twelve h2 (by omega), show c - (i + 1) = l by omega]; omega
theorem onesU_all {c N : Nat} (h : N < 2 ^ c) (hc : c ≤ 12) : onesU c N c = onesN c N := by
 rw [onesU_rest h hc c (Nat.le_refl _), Nat.sub_self]; rfl
end
section
open Go
def unl (l : List Bool) : Nat := l.count false
theorem unl_set : ∀ (l : List Bool) (i : Nat), l[i]? = some false → unl (l.set i true) + 1 = unl l
 | [], i, h => by simp at h
 | b :: l, 0, h => by
   simp at h; subst h
   simp [unl]
 | b :: l, i + 1, h => by
   have := unl_set l i (by simpa using h)
   unfold unl at *
   rw [List.set_cons_succ, List.count_cons, List.count_cons]
   omega
theorem unl_none : ∀ (l : List Bool), unl l = 0 → ∀ (i : Nat) (b : Bool), l[i]? = some b → b = true
 | [], _, i, b, h => by simp at h
 | c :: l, h0, 0, b, h => by
   simp at h; subst h
   unfold unl at h0
   rw [List.count_cons] at h0
   cases c with
   | true => rfl
   | false => simp at h0
 | c :: l, h0, i + 1, b, h => by
   refine unl_none l ?_ i b (by simpa using h)
   unfold unl at *
   rw [List.count_cons] at h0
   omega
def backB (ops : Array Oper) : Bool := (List.range ops.size).all fun i => ((ops[i]?).map fun o => o.after.all fun e => !Region.binds .any e || decide (e.on < i)).getD true
theorem all_done {ops : Array Oper} {listed : Array Bool} (hs : listed.size = ops.size) (hb : backB ops = true) (h : Region.ready .any ops listed = []) : ∀ i, i < ops.size → listed.getD i false = true := by
 intro i
 induction i using Nat.strongRecOn with
 | _ i ih =>
   intro hi
   cases e : listed.getD i false with
   | true => rfl
   | false =>
     exfalso
     have h1 : i ∈ Region.ready .any ops listed := by
      unfold Region.ready
      rw [List.mem_filter]
      refine ⟨List.mem_range.2 hi, ?_⟩
      have h2 : listed.getD i true = false := by
       rw [Array.getD_eq_getD_getElem?] at e ⊢
       rw [Array.getElem?_eq_getElem (by omega)] at e ⊢
       exact e
      rw [h2, Array.getElem?_eq_getElem hi]
      simp only [Bool.not_false, Bool.true_and, Option.map_some, Option.getD_some]
      rw [Array.all_eq_true_iff_forall_mem]
      intro x hx
      have h3 := List.all_eq_true.1 hb i (List.mem_range.2 hi)
      rw [Array.getElem?_eq_getElem hi] at h3
      simp only [Option.map_some, Option.getD_some] at h3
      have h4 := (Array.all_eq_true_iff_forall_mem.1 h3) x hx
      cases e6 : Region.binds .any x with
      | false => rfl
      | true =>
        rw [e6] at h4
        have h5 : x.on < i := by simpa using h4
        rw [ih x.on h5 (by omega)]
        rfl
     rw [h] at h1
     cases h1
theorem wpAnyIn_inv {F : Fence} {n : Nat} {P : Program} {ops : Array Oper} {Q : Exit → Act → World → Prop} (hb : backB ops = true) (Inv : (Nat → Bool) → Act → World → Prop)
    (hstep : ∀ L b W i o, ops[i]? = some o → L i = false → (o.after.all fun e => !Region.binds .any e || L e.on) = true → Inv L b W → ∀ Q' : Exit → Act → World → Prop, (∀ b' W', Inv (fun j => if j = i then true else L j) b' W' → Q' .normal b' W') → wpListIn F n P ops Q' [o] b W)
    (hend : ∀ L b W, (∀ i, i < ops.size → L i = true) → Inv L b W → Q .normal b W) :
    ∀ (fuel : Nat) (listed : Array Bool) (b : Act) (W : World), listed.size = ops.size → unl listed.toList ≤ fuel → Inv (fun j => listed.getD j false) b W → wpAnyIn F n P .any ops Q fuel listed b W
  | 0, listed, b, W, hs, hu, hI => by
    have hall : ∀ i, i < ops.size → listed.getD i false = true := fun i hi => by
      have := unl_none listed.toList (by omega) i (listed[i]'(by omega)) (by simp)
      rw [Array.getD_eq_getD_getElem?, Array.getElem?_eq_getElem (by omega)]
      exact this
    refine ⟨?_, hend _ b W hall hI⟩
    unfold Region.ready
    rw [List.filter_eq_nil_iff]
    intro i hi
    have h1 := hall i (List.mem_range.1 hi)
    have h2 : listed.getD i true = true := by
      rw [Array.getD_eq_getD_getElem?] at h1 ⊢
      rw [Array.getElem?_eq_getElem (by have := List.mem_range.1 hi; omega)] at h1 ⊢
      exact h1
    simp [h2]
  | fuel + 1, listed, b, W, hs, hu, hI => by
    refine ⟨fun hr => hend _ b W (all_done hs hb hr) hI, fun i hi => ?_⟩
    unfold Region.ready at hi
    rw [List.mem_filter] at hi
    obtain ⟨h1, h2⟩ := hi
    have hlt := List.mem_range.1 h1
    rw [Bool.and_eq_true] at h2
    obtain ⟨h2, h3⟩ := h2
    have hL : listed[i]? = some false := by
      rw [Array.getD_eq_getD_getElem?, Array.getElem?_eq_getElem (by omega)] at h2
      rw [Array.getElem?_eq_getElem (by omega)]
      simpa using h2
    rw [Array.getElem?_eq_getElem hlt] at h3
    simp only [Option.map_some, Option.getD_some] at h3
    have hst := hstep (fun j => listed.getD j false) b W i ops[i] (Array.getElem?_eq_getElem hlt) (by rw [Array.getD_eq_getD_getElem?, hL]; rfl) h3 hI
      (fun e b' W' => match e with | .normal => wpAnyIn F n P .any ops Q fuel (listed.setIfInBounds i true) b' W' | e => Q e b' W')
      (fun b' W' hI' => by
        refine wpAnyIn_inv hb Inv hstep hend fuel _ b' W' (by simpa using hs) ?_ ?_
        · have := unl_set listed.toList i (by simpa using hL)
          simp only [Array.toList_setIfInBounds]
          omega
        · have : (fun j => if j = i then true else listed.getD j false) = fun j => (listed.setIfInBounds i true).getD j false := by
            funext j
            by_cases e : j = i
            · subst e; rw [if_pos rfl, Array.getD_eq_getD_getElem?, Array.getElem?_setIfInBounds_self_of_lt (by omega)]; rfl
            · rw [if_neg e, Array.getD_eq_getD_getElem?, Array.getD_eq_getD_getElem?, Array.getElem?_setIfInBounds_ne (fun h => e h.symm)]
          rw [← this]; exact hI')
    unfold wpOpIn
    rw [Array.getElem?_eq_getElem hlt]
    simp only [wpListIn] at hst
    exact hst
theorem wpIn_region_inv {F : Fence} {n : Nat} {P : Program} {id : Nat} {ops : Array Oper} {Q : Exit → Act → World → Prop} {a : Act} {w : World} (hm : P.follows .mixedOrders = true) (hb : backB ops = true) (Inv : (Nat → Bool) → Act → World → Prop)
    (h0 : Inv (fun _ => false) a w.drew)
    (hstep : ∀ L b W i o, ops[i]? = some o → L i = false → (o.after.all fun e => !Region.binds .any e || L e.on) = true → Inv L b W → ∀ Q' : Exit → Act → World → Prop, (∀ b' W', Inv (fun j => if j = i then true else L j) b' W' → Q' .normal b' W') → wpListIn F n P ops Q' [o] b W)
    (hend : ∀ L b W, (∀ i, i < ops.size → L i = true) → Inv L b W → Q .normal b W) : (Code.region id ops true).wpIn F n P Q a w := by
  refine wpIn_region_any hm (wpAnyIn_inv hb Inv hstep hend _ _ _ _ (by simp) ?_ ?_)
  · unfold unl
    simp
  · have : (fun j => (Array.replicate ops.size false).getD j false) = fun _ => false := by
      funext j
      rw [Array.getD_eq_getD_getElem?]
      by_cases e : j < ops.size
      · rw [Array.getElem?_replicate, if_pos e]; rfl
      · rw [Array.getElem?_eq_none (by simp; omega)]; rfl
    rw [this]; exact h0
def depB (ops : Array Oper) (j k : Nat) : Bool := ((ops[j]?).map fun o => o.after.any fun e => Region.binds .any e && e.on == k).getD false
def Shut (ops : Array Oper) (L : Nat → Bool) : Prop := ∀ j k, L j = true → depB ops j k = true → L k = true
def needs (ops : Array Oper) (m : Nat) : Nat → Nat → Bool
  | 0, k => k == m
  | d + 1, k => needs ops m d k || (needs ops m d (m - d) && depB ops (m - d) k)
theorem needs_of {ops : Array Oper} {m : Nat} {L : Nat → Bool} (hS : Shut ops L) (hm : L m = true) : ∀ d k, needs ops m d k = true → L k = true
 | 0, k, h => by
   have : k = m := by simpa [needs] using h
   rw [this]; exact hm
 | d + 1, k, h => by
   simp only [needs, Bool.or_eq_true, Bool.and_eq_true] at h
   rcases h with h | ⟨h1, h2⟩
   · exact needs_of hS hm d k h
   · exact hS _ _ (needs_of hS hm d _ h1) h2
theorem dep_of {ops : Array Oper} {i k : Nat} {o : Oper} {L : Nat → Bool} (ho : ops[i]? = some o) (hde : (o.after.all fun e => !Region.binds .any e || L e.on) = true) (h : depB ops i k = true) : L k = true := by
 unfold depB at h
 rw [ho] at h
 simp only [Option.map_some, Option.getD_some] at h
 rw [← Array.any_toList, List.any_eq_true] at h
 obtain ⟨e, he, hek⟩ := h
 rw [Array.mem_toList_iff] at he
 rw [Array.all_eq_true_iff_forall_mem] at hde
 have h1 := hde e he
 rw [Bool.and_eq_true] at hek
 rw [hek.1] at h1
 have h2 : e.on = k := by simpa using hek.2
 subst h2
 simpa using h1
theorem shut_next {ops : Array Oper} {i : Nat} {o : Oper} {L : Nat → Bool} (ho : ops[i]? = some o) (hde : (o.after.all fun e => !Region.binds .any e || L e.on) = true) (hS : Shut ops L) : Shut ops (fun j => if j = i then true else L j) := fun j k hj hd => by
 dsimp only at hj ⊢
 have h : L k = true := by
  by_cases e : j = i
  · subst e; exact dep_of ho hde hd
  · rw [if_neg e] at hj; exact hS j k hj hd
 by_cases e : k = i
 · rw [if_pos e]
 · rw [if_neg e]; exact h
theorem wpAnyIn_inv2 {F : Fence} {n : Nat} {P : Program} {ops : Array Oper} {Q : Exit → Act → World → Prop} (hb : backB ops = true) (Inv : (Nat → Bool) → Act → World → Prop)
    (hstep : ∀ L b W i o, ops[i]? = some o → L i = false → (o.after.all fun e => !Region.binds .any e || L e.on) = true → Inv L b W → ∀ K : Act → World → Prop, (∀ b' W', Inv (fun j => if j = i then true else L j) b' W' → K b' W') → wpOpIn F n P ops Q i K b W)
    (hend : ∀ L b W, (∀ i, i < ops.size → L i = true) → Inv L b W → Q .normal b W) :
    ∀ (fuel : Nat) (listed : Array Bool) (b : Act) (W : World), listed.size = ops.size → unl listed.toList ≤ fuel → Inv (fun j => listed.getD j false) b W → wpAnyIn F n P .any ops Q fuel listed b W
  | 0, listed, b, W, hs, hu, hI => by
    have hall : ∀ i, i < ops.size → listed.getD i false = true := fun i hi => by
      have := unl_none listed.toList (by omega) i (listed[i]'(by omega)) (by simp)
      rw [Array.getD_eq_getD_getElem?, Array.getElem?_eq_getElem (by omega)]
      exact this
    refine ⟨?_, hend _ b W hall hI⟩
    unfold Region.ready
    rw [List.filter_eq_nil_iff]
    intro i hi
    have h1 := hall i (List.mem_range.1 hi)
    have h2 : listed.getD i true = true := by
      rw [Array.getD_eq_getD_getElem?] at h1 ⊢
      rw [Array.getElem?_eq_getElem (by have := List.mem_range.1 hi; omega)] at h1 ⊢
      exact h1
    simp [h2]
  | fuel + 1, listed, b, W, hs, hu, hI => by
    refine ⟨fun hr => hend _ b W (all_done hs hb hr) hI, fun i hi => ?_⟩
    unfold Region.ready at hi
    rw [List.mem_filter] at hi
    obtain ⟨h1, h2⟩ := hi
    have hlt := List.mem_range.1 h1
    rw [Bool.and_eq_true] at h2
    obtain ⟨h2, h3⟩ := h2
    have hL : listed[i]? = some false := by
      rw [Array.getD_eq_getD_getElem?, Array.getElem?_eq_getElem (by omega)] at h2
      rw [Array.getElem?_eq_getElem (by omega)]
      simpa using h2
    rw [Array.getElem?_eq_getElem hlt] at h3
    simp only [Option.map_some, Option.getD_some] at h3
    refine hstep (fun j => listed.getD j false) b W i ops[i] (Array.getElem?_eq_getElem hlt) (by rw [Array.getD_eq_getD_getElem?, hL]; rfl) h3 hI _ (fun b' W' hI' => ?_)
    refine wpAnyIn_inv2 hb Inv hstep hend fuel _ b' W' (by simpa using hs) ?_ ?_
    · have := unl_set listed.toList i (by simpa using hL)
      simp only [Array.toList_setIfInBounds]
      omega
    · have : (fun j => if j = i then true else listed.getD j false) = fun j => (listed.setIfInBounds i true).getD j false := by
        funext j
        by_cases e : j = i
        · subst e; rw [if_pos rfl, Array.getD_eq_getD_getElem?, Array.getElem?_setIfInBounds_self_of_lt (by omega)]; rfl
        · rw [if_neg e, Array.getD_eq_getD_getElem?, Array.getD_eq_getD_getElem?, Array.getElem?_setIfInBounds_ne (fun h => e h.symm)]
      rw [← this]; exact hI'
theorem wpOp_of_list {F : Fence} {n : Nat} {P : Program} {ops : Array Oper} {Q : Exit → Act → World → Prop} {i : Nat} {o : Oper} {rest : List Oper} {b : Act} {W : World} (ho : ops[i]? = some o) (h : wpListIn F n P ops Q (o :: rest) b W) {K : Act → World → Prop} (hK : ∀ b' W', wpListIn F n P ops Q rest b' W' → K b' W') : wpOpIn F n P ops Q i K b W := by
  unfold wpOpIn
  rw [ho]
  simp only [wpListIn] at h ⊢
  split at h
  · rename_i hw
    rw [if_pos hw]
    exact Oper.wpIn_mono (fun a w h => hK a w h) h
  · rename_i hw
    rw [if_neg hw]
    exact ⟨h.1, hK _ _ h.2⟩
def tailB (ops : Array Oper) (m : Nat) : Bool := (List.range ops.size).all fun j => decide (j < m) || (List.range j).all fun k => needs ops j ops.size k
theorem tail_of {ops : Array Oper} {m j k : Nat} {L : Nat → Bool} (ht : tailB ops m = true) (hS : Shut ops L) (hm : m ≤ j) (hj : j < ops.size) (hL : L j = true) (hk : k < j) : L k = true := by
  have h := List.all_eq_true.1 ht j (List.mem_range.2 hj)
  rw [Bool.or_eq_true] at h
  rcases h with h | h
  · simp at h; omega
  · exact needs_of hS hL _ _ (List.all_eq_true.1 h k (List.mem_range.2 hk))
theorem wpIn_region_tail {F : Fence} {n : Nat} {P : Program} {id : Nat} {ops : Array Oper} {Q : Exit → Act → World → Prop} {a : Act} {w : World} (m : Nat) (hm : P.follows .mixedOrders = true) (hb : backB ops = true) (ht : tailB ops m = true) (hsz : m < ops.size)
    (fr : (Nat → Value) → Act) (C : World → Prop) (G : World → World → Prop) (Φ : Nat → Value → World → Prop)
    (h0 : ∃ s, a = fr s) (hput : ∀ i o s v, i < m → ops[i]? = some o → (fr s).put o.dst v = fr (fun j => if j = i then v else s j))
    (hC : C w.drew) (hG : ∀ k v W W', Φ k v W → G W W' → Φ k v W')
    (hstep : ∀ i o s W, i < m → ops[i]? = some o → C W → (∀ k, depB ops i k = true → Φ k (s k) W) → ∀ Q' : Exit → Act → World → Prop,
      (∀ v W', C W' → G W W' → Φ i v W' → Q' .normal ((fr s).put o.dst v) W') → wpListIn F n P ops Q' [o] (fr s) W)
    (htail : ∀ s W, C W → (∀ k, k < m → Φ k (s k) W) → wpListIn F n P ops Q (ops.toList.drop m) (fr s) W) : (Code.region id ops true).wpIn F n P Q a w := by
  have hdrop : ∀ d (h : d < ops.size), ops.toList.drop d = ops[d] :: ops.toList.drop (d + 1) := fun d h => by
    rw [List.drop_eq_getElem_cons (by simpa using h)]; simp
  refine wpIn_region_any hm (wpAnyIn_inv2 hb (fun L b W => Shut ops L ∧ (((∀ j, m ≤ j → j < ops.size → L j = false) ∧ ∃ s, b = fr s ∧ C W ∧ ∀ k, L k = true → Φ k (s k) W) ∨
    (∃ d, m < d ∧ d ≤ ops.size ∧ (∀ j, j < ops.size → (L j = true ↔ j < d)) ∧ wpListIn F n P ops Q (ops.toList.drop d) b W))) ?_ ?_ _ _ _ _ (by simp) ?_ ?_)
  · rintro L b W i o ho hLi hde ⟨hS, (⟨hno, s, rfl, hCW, hΦ⟩ | ⟨d, hd1, hd2, hd3, hd4⟩)⟩ K hK
    · obtain ⟨hi, ho'⟩ := gE9.1 ho
      have hS' := shut_next ho hde hS
      by_cases him : i < m
      · have hst := hstep i o s W him ho hCW (fun k hk => hΦ k (dep_of ho hde hk)) (fun e b' W' => match e with | .normal => K b' W' | e => Q e b' W')
          (fun v W' h1 h2 h3 => hK _ _ ⟨hS', .inl ⟨fun j hj1 hj2 => (by dsimp only; rw [if_neg (by omega)]; exact hno j hj1 hj2), fun j => if j = i then v else s j, hput i o s v him ho, h1, fun k hk => (by
            by_cases e : k = i
            · subst e; simpa using h3
            · simp only [if_neg e] at hk ⊢
              exact hG k _ W W' (hΦ k hk) h2)⟩⟩)
        unfold wpOpIn
        rw [ho]
        simp only [wpListIn] at hst
        exact hst
      · have hall : ∀ k, k < i → L k = true := fun k hk => by
          have := tail_of ht hS' (by omega) hi (if_pos rfl) hk
          rwa [if_neg (by omega)] at this
        have him2 : i = m := by
          rcases Nat.lt_or_ge m i with h | h
          · have h1 := hall m h
            rw [hno m (Nat.le_refl _) hsz] at h1
            cases h1
          · omega
        subst him2
        have hl := htail s W hCW (fun k hk => hΦ k (hall k hk))
        rw [hdrop _ hi, ho'] at hl
        refine wpOp_of_list ho hl (fun b' W' h' => hK _ _ ⟨hS', .inr ⟨i + 1, by omega, by omega, fun j hj => ?_, h'⟩⟩)
        dsimp only
        by_cases e : j = i
        · rw [if_pos e]; exact ⟨fun _ => by omega, fun _ => rfl⟩
        · rw [if_neg e]
          refine ⟨fun h => ?_, fun h => hall j (by omega)⟩
          rcases Nat.lt_or_ge j i with h2 | h2
          · omega
          · rw [hno j h2 hj] at h; cases h
    · obtain ⟨hi, ho'⟩ := gE9.1 ho
      have hS' := shut_next ho hde hS
      have hid : d ≤ i := by
        rcases Nat.lt_or_ge i d with h | h
        · rw [(hd3 i hi).2 h] at hLi; cases hLi
        · exact h
      have hall : ∀ k, k < i → L k = true := fun k hk => by
        have := tail_of ht hS' (by omega) hi (if_pos rfl) hk
        rwa [if_neg (by omega)] at this
      have hid2 : i = d := by
        rcases Nat.lt_or_ge d i with h | h
        · have := (hd3 d (by omega)).1 (hall d h); omega
        · omega
      subst hid2
      rw [hdrop _ hi, ho'] at hd4
      refine wpOp_of_list ho hd4 (fun b' W' h' => hK _ _ ⟨hS', .inr ⟨i + 1, by omega, by omega, fun j hj => ?_, h'⟩⟩)
      dsimp only
      by_cases e : j = i
      · rw [if_pos e]; exact ⟨fun _ => by omega, fun _ => rfl⟩
      · rw [if_neg e]
        have := hd3 j hj
        exact ⟨fun h => by have := this.1 h; omega, fun h => this.2 (by omega)⟩
  · rintro L b W hL ⟨_, (⟨hno, _⟩ | ⟨d, hd1, hd2, hd3, hd4⟩)⟩
    · have := hno m (Nat.le_refl _) hsz
      rw [hL m hsz] at this; cases this
    · have hds : d = ops.size := by
        rcases Nat.lt_or_ge d ops.size with h | h
        · have := (hd3 d h).1 (hL d h); omega
        · omega
      subst hds
      rw [List.drop_of_length_le (by simp)] at hd4
      exact hd4
  · unfold unl
    simp
  · have hfn : (fun j => (Array.replicate ops.size false).getD j false) = fun _ => false := by
      funext j
      rw [Array.getD_eq_getD_getElem?]
      by_cases e : j < ops.size
      · rw [Array.getElem?_replicate, if_pos e]; rfl
      · rw [Array.getElem?_eq_none (by simp; omega)]; rfl
    rw [hfn]
    obtain ⟨s, hs⟩ := h0
    exact ⟨fun _ _ (h : false = true) => (by cases h), .inl ⟨fun _ _ _ => rfl, s, hs, hC, fun _ (h : false = true) => (by cases h)⟩⟩
end
section
open Go.RowKit
theorem Tryz.infoInt : (Tryz.prog.info? 3).map (fun i => (i.zero, i.size, i.bytes)) = some (some (.int .i64 0), 1, 8) := by kernel_rfl
theorem owns_open {w : World} {base n : Nat} {v : Value} {xs : List Value} (h : w.ownsRow base 3 1 v n xs) (hn : 0 < n) :
 ∃ g cap, v = .slice (some ⟨g, 0, none⟩) n cap ∧ base ≤ g ∧ g < w.heap.size ∧ n ≤ cap ∧ ∀ j u, xs[j]? = some u → w.cell? ⟨g, j, none⟩ = some u := by
 rcases h.2 with ⟨_, h0⟩ | ⟨g, cap, cur, rfl, hb, hgb, hc, _⟩
 · omega
 · refine ⟨g, cap, rfl, hb, (gE9.1 hgb).1, hc, fun j u hu => ?_⟩
   have := h.cells (g := g) rfl j u hu
   have hadd : (⟨g, 0, none⟩ : Addr).add j = ⟨g, j, none⟩ := by unfold Addr.add; split <;> simp_all
   rwa [hadd] at this
theorem owns_from {w : World} {b b' n : Nat} {e : TypeId} {v : Value} {xs : List Value} (h : w.ownsRow b e 1 v n xs) (hb : b' ≤ b) : w.ownsRow b' e 1 v n xs := by
 obtain ⟨h1, h2⟩ := h
 refine ⟨h1, ?_⟩
 rcases h2 with hn | ⟨g, cap, cur, rfl, hg, rest⟩
 · exact .inl hn
 · exact .inr ⟨g, cap, cur, rfl, by omega, rest⟩
theorem append_one {ops : Array Oper} {rest : List Oper} {o : Oper} {a : Act} {Q : Exit → Act → World → Prop} {w : World} {z : Int} (hgd : o.guard = none) (s x : Operand)
 (ho : o.op = .call { callee := .builtin .append, args := #[s, x], argTypes := #[28, 28] })
 (base : Nat) (v : Value) (n : Nat) (xs : List Value) (hs : a.eval s = v) (hown : w.ownsRow base 3 1 v n xs) (hx : a.eval x = .slice (some ⟨w.heap.size, 0, none⟩) 1 1)
 (hn : n ≤ 1000000000) (hbase : base ≤ w.heap.size)
 (h : ∀ v' w', w'.ownsRow base 3 1 v' (n + 1) (xs ++ [.int .i64 z]) → (w.alloc (.cells #[.int .i64 z] 3)).grownBy w' v.ownBlock → wpList Tryz.prog ops Q rest (a.put o.dst v') w') :
 wpList Tryz.prog ops Q (o :: rest) a (w.alloc (.cells #[.int .i64 z] 3)) := by
 obtain ⟨i0, hi, hz0, hz1, hz2⟩ := info_parts Tryz.infoInt
 refine wpList_append_own _ hgd s x 28 ho base 3 i0 (.int .i64 0) 1 8 Tryz.underlying28 hi hz0 hz1 hz2 rfl (by decide) v n xs hs (hown.alloc _) ⟨w.heap.size, 0, none⟩ 1 1 [.int .i64 z] hx rfl ?_ ?_ ?_ ?_ ?_ ?_
 · intro j u hj
   match j, hj with
   | 0, hj => simp at hj; subst hj; simp [Addr.add]
 · intro u hu; simp at hu; subst hu; rfl
 · unfold maxLen; omega
 · omega
 · simp; omega
 · intro v' w' h1 h2 _; exact h v' w' h1 h2
theorem step_append_one {ops : Array Oper} {o : Oper} {a : Act} {K : Act → World → Prop} {Q : Exit → Act → World → Prop} {E : Prop} {w : World} {z : Int} (hgd : o.guard = none) (s x : Operand)
 (ho : o.op = .call { callee := .builtin .append, args := #[s, x], argTypes := #[28, 28] })
 (base : Nat) (v : Value) (n : Nat) (xs : List Value) (hs : a.eval s = v) (hown : w.ownsRow base 3 1 v n xs) (hx : a.eval x = .slice (some ⟨w.heap.size, 0, none⟩) 1 1)
 (hn : n ≤ 1000000000) (hbase : base ≤ w.heap.size)
 (h : ∀ v' w', w'.ownsRow base 3 1 v' (n + 1) (xs ++ [.int .i64 z]) → (w.alloc (.cells #[.int .i64 z] 3)).grownBy w' v.ownBlock → K (a.put o.dst v') w') :
 if Region.wanted o (yielded ops a.tmps) = true then Oper.wp Tryz.prog o a (w.alloc (.cells #[.int .i64 z] 3)) K Q else E := by
 obtain ⟨i0, hi, hz0, hz1, hz2⟩ := info_parts Tryz.infoInt
 rw [if_pos (by simp [Region.wanted, hgd])]
 refine wp_append_own _ s x 28 ho base 3 i0 (.int .i64 0) 1 8 Tryz.underlying28 hi hz0 hz1 hz2 rfl (by decide) v n xs hs (hown.alloc _) ⟨w.heap.size, 0, none⟩ 1 1 [.int .i64 z] hx rfl ?_ ?_ ?_ ?_ ?_ ?_
 · intro j u hj
   match j, hj with
   | 0, hj => simp at hj; subst hj; simp [Addr.add]
 · intro u hu; simp at hu; subst hu; rfl
 · unfold maxLen; omega
 · omega
 · simp; omega
 · intro v' w' h1 h2 _; exact h v' w' h1 h2
theorem boxed_below {W V : World} {B : Nat} {t : TypeId} {v : Value} (h : Boxed W B t v) (hV : Below W.heap.size W V) : Boxed V B t v := (hV.block _ h.lt).trans h
inductive Kd where
 | val (v : Value) | one (v : Value) | own (base n : Nat) (xs : List Value) | oneOwn (base n : Nat) (xs : List Value) | cells (n : Nat) (xs : List Value)
def Kd.holds (v : Value) (W : World) : Kd → Prop
 | .val u => v = u
 | .one u => ∃ q, v = .slice (some ⟨q, 0, none⟩) 1 1 ∧ q < W.heap.size ∧ W.cell? ⟨q, 0, none⟩ = some u
 | .own b n xs => W.ownsRow b 3 1 v n xs
 | .cells n xs => ∃ q, v = .slice (some ⟨q, 0, none⟩) n n ∧ q < W.heap.size ∧ ∀ j u, xs[j]? = some u → W.cell? ⟨q, j, none⟩ = some u
 | .oneOwn b n xs => ∃ q u, v = .slice (some ⟨q, 0, none⟩) 1 1 ∧ q < W.heap.size ∧ W.cell? ⟨q, 0, none⟩ = some u ∧ W.ownsRow b 3 1 u n xs
theorem owns_below {w w' : World} {base n : Nat} {e : TypeId} {v : Value} {xs : List Value} (h : w.ownsRow base e 1 v n xs) (hB : Below w.heap.size w w') : w'.ownsRow base e 1 v n xs :=
 h.kept (row := none) ⟨hB.os, hB.tape, hB.output, hB.size, fun k hk _ => hB.block k hk⟩ (by cases v.ownBlock <;> simp)
theorem Kd.mono {v : Value} {W W' : World} (k : Kd) (h : k.holds v W) (hb : Below W.heap.size W W') : k.holds v W' := by
 cases k with
 | val u => exact h
 | one u =>
   obtain ⟨q, h1, h2, h3⟩ := h
   exact ⟨q, h1, lL9 h2 hb.size, (hb.cell (p := ⟨q, 0, none⟩) h2).trans h3⟩
 | own b n xs => exact owns_below h hb
 | cells n xs =>
   obtain ⟨q, h1, h2, h3⟩ := h
   exact ⟨q, h1, lL9 h2 hb.size, fun j u hj => (hb.cell (p := ⟨q, j, none⟩) h2).trans (h3 j u hj)⟩
 | oneOwn b n xs =>
   obtain ⟨q, u, h1, h2, h3, h4⟩ := h
   exact ⟨q, u, h1, lL9 h2 hb.size, (hb.cell (p := ⟨q, 0, none⟩) h2).trans h3, owns_below h4 hb⟩
def kdAt (ks : List Kd) (k : Nat) : Kd := (ks[k]?).getD (.val undef)
theorem wpIn_region_kinds {F : Fence} {n : Nat} {id : Nat} {ops : Array Oper} {Q : Exit → Act → World → Prop} {a : Act} {W : World} (m : Nat) (hm : Tryz.prog.follows .mixedOrders = true) (hb : backB ops = true) (ht : tailB ops m = true) (hsz : m < ops.size)
 (fr : (Nat → Value) → Act) (ks : List Kd)
 (h0 : ∃ s, a = fr s) (hput : ∀ i o s v, i < m → ops[i]? = some o → (fr s).put o.dst v = fr (fun j => if j = i then v else s j))
 (hstep : ∀ i o s V, i < m → ops[i]? = some o → Below W.heap.size W V → (∀ k, depB ops i k = true → (kdAt ks k).holds (s k) V) → ∀ Q' : Exit → Act → World → Prop,
  (∀ v V', Below V.heap.size V V' → (kdAt ks i).holds v V' → Q' .normal ((fr s).put o.dst v) V') → wpListIn F n Tryz.prog ops Q' [o] (fr s) V)
 (htail : ∀ s V, Below W.heap.size W V → (∀ k, k < m → (kdAt ks k).holds (s k) V) → wpListIn F n Tryz.prog ops Q (ops.toList.drop m) (fr s) V) : (Code.region id ops true).wpIn F n Tryz.prog Q a W := by
 refine wpIn_region_tail m hm hb ht hsz fr (fun V => Below W.heap.size W V) (fun V V' => Below V.heap.size V V') (fun k v V => (kdAt ks k).holds v V) h0 hput (Below.refl _ _).drew (fun k v V V' h hg => Kd.mono _ h hg) ?_ htail
 rintro i o s V him ho hV hd Q' hQ'
 exact hstep i o s V him ho hV hd Q' (fun v V' h2 h3 => hQ' v V' (hV.trans (h2.mono hV.size)) h2 h3)
end
section
open Go Go.RowKit
theorem Tryz.infoStr : (Tryz.prog.info? 9).map (fun i => (i.zero, i.size, i.bytes)) = some (some (.string ⟨#[]⟩), 1, 16) := by kernel_rfl
theorem info_any {o : Option TypeInfo} {z : Value} {s b : Nat} (h : o.map (fun i => (i.zero, i.size, i.bytes)) = some (some z, s, b)) : ∃ i, o = some i ∧ i.zero = some z ∧ i.size = s ∧ i.bytes = b := by
 obtain ⟨i, hi, h2⟩ := Option.map_eq_some_iff.1 h
 injection h2 with h3 h4
 injection h4 with h5 h6
 exact ⟨i, hi, h3, h5, h6⟩
def txt (l : List Nat) : Value := .string (str l)
theorem append_text {ops : Array Oper} {rest : List Oper} {o : Oper} {a : Act} {Q : Exit → Act → World → Prop} {w : World} {z : ByteArray} (hgd : o.guard = none) (s x : Operand)
 (ho : o.op = .call { callee := .builtin .append, args := #[s, x], argTypes := #[48, 48] })
 (base : Nat) (v : Value) (n : Nat) (xs : List Value) (hs : a.eval s = v) (hown : w.ownsRow base 9 1 v n xs) (hx : a.eval x = .slice (some ⟨w.heap.size, 0, none⟩) 1 1)
 (hn : n ≤ 4000000) (hbase : base ≤ w.heap.size)
 (h : ∀ v' w', w'.ownsRow base 9 1 v' (n + 1) (xs ++ [.string z]) → (w.alloc (.cells #[.string z] 9)).grownBy w' v.ownBlock → (v'.ownBlock = v.ownBlock ∨ v'.ownBlock = some (w.heap.size + 1)) → wpList Tryz.prog ops Q rest (a.put o.dst v') w') :
 wpList Tryz.prog ops Q (o :: rest) a (w.alloc (.cells #[.string z] 9)) := by
 obtain ⟨i0, hi, hz0, hz1, hz2⟩ := info_any Tryz.infoStr
 refine wpList_plain hgd fun K hK => ?_
 obtain ⟨v', w', hr, h2, h3, _, h5⟩ := run_append_own_at (P := Tryz.prog) (w.alloc (.cells #[.string z] 9)) base 48 o.type 9 i0 (.string ⟨#[]⟩) 1 16 Tryz.underlying48 hi hz0 hz1 hz2 rfl (by decide) v n xs (hown.alloc _) ⟨w.heap.size, 0, none⟩ 1 1 [.string z] rfl (cell_one_new _ _ _) (fun u hu => by simp at hu; subst hu; rfl) (by unfold maxLen; omega) (by omega) (by simp; omega)
 unfold Oper.wp execOp
 simp only [ho, resolve, invoke, builtin, Sem.run_bind, Sem.run_pure, Result.andThen_ok, List.map_toArray, List.map_cons, List.map_nil, hs, hx, hr]
 exact hK _ _ (h v' w' h2 h3 (by rwa [World.size_alloc] at h5))
theorem texts_open {w : World} {base n : Nat} {v : Value} {xs : List Value} (h : w.ownsRow base 9 1 v n xs) (hn : 0 < n) :
 ∃ g cap, v = .slice (some ⟨g, 0, none⟩) n cap ∧ base ≤ g ∧ g < w.heap.size ∧ ∀ j u, xs[j]? = some u → w.cell? ⟨g, j, none⟩ = some u := by
 rcases h.2 with ⟨_, h0⟩ | ⟨g, cap, cur, rfl, hb, hgb, hc, _⟩
 · omega
 · refine ⟨g, cap, rfl, hb, (gE9.1 hgb).1, fun j u hu => ?_⟩
   have := h.cells (g := g) rfl j u hu
   have hadd : (⟨g, 0, none⟩ : Addr).add j = ⟨g, j, none⟩ := by unfold Addr.add; split <;> simp_all
   rwa [hadd] at this
def Texts (w : World) (v : Value) (L : List (List Nat)) : Prop :=
 ∃ a cap, v = .slice a L.length cap ∧ (0 < L.length → ∃ g, a = some ⟨g, 0, none⟩ ∧ g < w.heap.size ∧ ∀ j l, L[j]? = some l → w.cell? ⟨g, j, none⟩ = some (txt l))
theorem Texts.of_owns {w : World} {base : Nat} {v : Value} {L : List (List Nat)} (h : w.ownsRow base 9 1 v L.length (L.map txt)) : Texts w v L := by
 by_cases h0 : 0 < L.length
 · obtain ⟨g, cap, rfl, _, hg, hc⟩ := texts_open h h0
   exact ⟨_, _, rfl, fun _ => ⟨g, rfl, hg, fun j l hj => hc j _ (by rw [List.getElem?_map, hj]; rfl)⟩⟩
 · rcases h.2 with ⟨rfl, _⟩ | ⟨g, cap, cur, rfl, _⟩
   · have : L.length = 0 := by omega
     exact ⟨_, 0, by rw [this], fun hh => absurd hh h0⟩
   · exact ⟨_, _, rfl, fun hh => absurd hh h0⟩
theorem Texts.below {w w' : World} {v : Value} {L : List (List Nat)} (h : Texts w v L) (hB : Below w.heap.size w w') : Texts w' v L := by
 obtain ⟨a, cap, rfl, hc⟩ := h
 refine ⟨a, cap, rfl, fun h0 => ?_⟩
 obtain ⟨g, rfl, hg, hcc⟩ := hc h0
 exact ⟨g, rfl, lL9 hg hB.size, fun j l hj => (hB.cell (p := ⟨g, j, none⟩) hg).trans (hcc j l hj)⟩
end
section
open Go.RowKit
theorem l1In_t (n lo hi : Int) (w : World) (h1 : lo ≤ n) (h2 : n ≤ hi) : Calls Tryz.prog 95 #[.int .i64 n, .int .i64 lo, .int .i64 hi] w fun e w' => e = .returned (.bool true) ∧ w = w' := by
 go_enter Tryz.func95, Tryz.ntmps95
 go_wp2
 go_ret
 exact ⟨rfl, rfl⟩
theorem l1In_f (n lo hi : Int) (w : World) (h : n < lo ∨ hi < n) : Calls Tryz.prog 95 #[.int .i64 n, .int .i64 lo, .int .i64 hi] w fun e w' => e = .returned (.bool false) ∧ w = w' := by
 by_cases h1 : lo ≤ n
 · have h2 : ¬ n ≤ hi := by omega
   clear h
   go_enter Tryz.func95, Tryz.ntmps95
   go_wp2
   go_ret
   exact ⟨rfl, rfl⟩
 · clear h
   go_enter Tryz.func95, Tryz.ntmps95
   go_wp2
   go_ret
   exact ⟨rfl, rfl⟩
theorem within_t (n hi : Int) (w : World) (h1 : 0 ≤ n) (h2 : n ≤ hi) : Calls Tryz.prog 55 #[.int .i64 n, .int .i64 hi] w fun e w' => e = .returned (.bool true) ∧ w = w' := by
 go_enter Tryz.func55, Tryz.ntmps55
 go_wp2
 go_ret
 exact ⟨rfl, rfl⟩
theorem within_f (n hi : Int) (w : World) (h : n < 0 ∨ hi < n) : Calls Tryz.prog 55 #[.int .i64 n, .int .i64 hi] w fun e w' => e = .returned (.bool false) ∧ w = w' := by
 by_cases h1 : 0 ≤ n
 · have h2 : ¬ n ≤ hi := by omega
   clear h
   go_enter Tryz.func55, Tryz.ntmps55
   go_wp2
   go_ret
   exact ⟨rfl, rfl⟩
 · clear h
   go_enter Tryz.func55, Tryz.ntmps55
   go_wp2
   go_ret
   exact ⟨rfl, rfl⟩
theorem cellAt_out (a : Option Addr) (n c : Nat) (p : Int) (w : World) (h : p < 0 ∨ n ≤ p) : Calls Tryz.prog 103 #[.slice a n c, .int .i64 p] w fun e w' => e = .returned (.int .i64 0) ∧ w = w' := by
 by_cases h1 : p < 0
 · clear h
   go_enter Tryz.func103, Tryz.ntmps103
   go_wp2
   go_ret
   exact ⟨rfl, rfl⟩
 · have h2 : (n : Int) ≤ p := by omega
   clear h
   go_enter Tryz.func103, Tryz.ntmps103
   go_wp2
   go_ret
   exact ⟨rfl, rfl⟩
theorem cellAt_in (g n c k : Nat) (z : Int) (w : World) (h : k < n) (hc : w.cell? ⟨g, k, none⟩ = some (.int .i64 z)) : Calls Tryz.prog 103 #[.slice (some ⟨g, 0, none⟩) n c, .int .i64 k] w fun e w' => e = .returned (.int .i64 z) ∧ w = w' := by
 have h2 : ¬ (n : Int) ≤ k := by omega
 go_enter Tryz.func103, Tryz.ntmps103
 go_wp2
 go_ret
 exact ⟨rfl, rfl⟩
theorem clone_in (g n c : Nat) (xs : List Int) (w : World) (hx : xs.length = n) (hn : n ≤ 1000000000) (hc : ∀ k u, (xs.map (Value.int .i64))[k]? = some u → w.cell? ⟨g, k, none⟩ = some u) :
 Calls Tryz.prog 96 #[.slice (some ⟨g, 0, none⟩) n c] w fun e w' => ∃ v, e = .returned v ∧ w'.ownsRow w.heap.size 3 1 v n (xs.map (Value.int .i64)) ∧ Below w.heap.size w w' := by
 obtain ⟨i0, hi, hz0, hz1, hz2⟩ := info_parts Tryz.infoInt
 have hg : ∀ j u, (xs.map (Value.int .i64))[j]? = some u → (w.alloc (.cells #[] 3)).cell? ((⟨g, 0, none⟩ : Addr).add j) = some u := by
  intro j u hj
  have h1 := hc j u hj
  have hadd : (⟨g, 0, none⟩ : Addr).add j = ⟨g, j, none⟩ := by unfold Addr.add; split <;> simp_all
  rw [hadd, World.cell?_alloc_past _ _ _ (World.block_lt_of_cell? w _ h1)]; exact h1
 have hq := Lib.run_eql_slice_nil (P := Tryz.prog) w 28 3 (some ⟨g, 0, none⟩) n c 0 0 Tryz.underlying28
 go_enter Tryz.func96, Tryz.ntmps96
 go_wp2_with (at_builtin; (refine wpList_append_own _ rfl _ _ 28 rfl w.heap.size 3 i0 (.int .i64 0) 1 8 Tryz.underlying28 hi hz0 hz1 hz2 rfl (by decide) _ 0 [] rfl (World.ownsRow_made w #[] 0 (Nat.le_refl _) (by decide) rfl) ⟨g, 0, none⟩ n c (xs.map (Value.int .i64)) rfl (by simp [hx]) hg (by intro u hu; simp at hu; obtain ⟨z, _, rfl⟩ := hu; rfl) (by unfold maxLen; omega) (by omega) (by simp) ?_); intro v' w1 hown' hgrow _)
 simp only [Nat.zero_add, List.nil_append] at hown'
 go_wp2
 go_ret
 exact ⟨_, rfl, hown', ((Below.refl _ w).alloc (Nat.le_refl _) _).grown hgrow (by simp) (fun k hk => by cases hk; exact Nat.le_refl _)⟩
end
section
open Go Go.RowKit
def AbidesSet {β : Type} (T : Nat → Prop) (J : β → World → Prop) : Prop :=
 ∀ s A B (row : Option Nat), J s A → A.grownBy B row → (∀ r, row = some r → T r) → J s B
structure KeepsSet (T : Nat → Prop) (W W' : World) : Prop where
 size : W.heap.size ≤ W'.heap.size
 same : ∀ k, k < W.heap.size → T k → W'.heap[k]? = W.heap[k]?
theorem KeepsSet.refl (T : Nat → Prop) (W : World) : KeepsSet T W W := ⟨Nat.le_refl _, fun _ _ _ => rfl⟩
theorem KeepsSet.trans {T : Nat → Prop} {A B C : World} (h : KeepsSet T A B) (k : KeepsSet T B C) : KeepsSet T A C :=
 ⟨lT9 h.size k.size, fun i hi ht => (k.same i (lL9 hi h.size) ht).trans (h.same i hi ht)⟩
theorem KeepsSet.of_grownBy {T : Nat → Prop} {W W' : World} {row : Option Nat} (hg : W.grownBy W' row) (hr : ∀ r, row = some r → ¬ T r) : KeepsSet T W W' :=
 ⟨hg.size, fun k hk ht => hg.block k hk (fun e => hr k e.symm ht)⟩
theorem KeepsSet.alloc (T : Nat → Prop) (W : World) (o : Obj) : KeepsSet T W (W.alloc o) := KeepsSet.of_grownBy (World.grownBy_alloc W o none) (fun _ h => by cases h)
theorem KeepsSet.setCell {T : Nat → Prop} (W : World) (b : Nat) (v : Value) (h : ¬ T b) : KeepsSet T W (W.setCell ⟨b, 0, none⟩ v) := KeepsSet.of_grownBy (grownBy_setCell' W b v) (fun _ e => by cases e; exact h)
theorem KeepsSet.drew (T : Nat → Prop) (W : World) : KeepsSet T W W.drew := ⟨Nat.le_refl _, fun _ _ _ => rfl⟩
theorem KeepsSet.mono {T T' : Nat → Prop} {W W' : World} (h : KeepsSet T W W') (ht : ∀ k, T' k → T k) : KeepsSet T' W W' := ⟨h.size, fun k hk hk' => h.same k hk (ht k hk')⟩
theorem KeepsSet.of_below {T : Nat → Prop} {B : Nat} {W W' : World} (h : Below B W W') (ht : ∀ k, T k → k < B) : KeepsSet T W W' := ⟨h.size, fun k _ hk => h.block k (ht k hk)⟩
def SeqMem {α : Type} (F : Fence) (n : Nat) (P : Program) (g : Nat) (lb : Array Value) (m : Nat) (encs : Nat → α → Array Value) (Hd : Nat → List α → α → World → Prop)
    (K : Nat → Nat → Prop) (S Sp : Nat → List α → World → Prop) (w : World) : Prop :=
 ∀ (l : Nat) (J Jx : List α → World → Prop) (W : World), Below w.heap.size w W →
   AbidesSet (fun r => W.heap.size ≤ r ∧ r < W.heap.size + m) J → AbidesSet (fun r => W.heap.size ≤ r ∧ r < W.heap.size + m) Jx →
   (∀ pre x W1, J pre W1 → Hd W.heap.size pre x W1 → YieldAt F (n - 1) P l (encs W.heap.size x) W1 fun e W' =>
    (e = .returned (.bool true) ∧ J (pre ++ [x]) W' ∧ KeepsSet (K W.heap.size) W1 W') ∨ (e = .returned (.bool false) ∧ Jx (pre ++ [x]) W' ∧ KeepsSet (K W.heap.size) W1 W')) →
   J [] W →
   CallsIn F n P g (#[.func (.yield l) #[] #[]] ++ lb) W fun e W' => (∃ v, e = .returned v) ∧ ((∃ xs, S W.heap.size xs W' ∧ J xs W') ∨ (∃ pre, Sp W.heap.size pre W' ∧ Jx pre W'))
theorem SeqMem.inRound {α : Type} {F : Fence} {n : Nat} {P : Program} {g : Nat} {lb : Array Value} {m : Nat} {encs : Nat → α → Array Value} {Hd : Nat → List α → α → World → Prop}
 {K : Nat → Nat → Prop} {S Sp : Nat → List α → World → Prop} {w : World} (l : Nat) (h : SeqMem F n P g lb m encs Hd K S Sp w) : SeqMem (F.inRound l) n P g lb m encs Hd K S Sp w := h
def postMem {α : Type} (T : Nat → Prop) (I : List α → World → Prop) (Ix : Code → List α → World → Prop) (xs : List α) (W : World) : Exit → Act → World → Prop
 | .normal, _, W' => KeepsSet T W W' ∧ I xs W'
 | .ret, _, W' => KeepsSet T W W' ∧ Ix .ret xs W'
 | .exit id, _, W' => KeepsSet T W W' ∧ Ix (.exit id) xs W'
 | .goto t, _, W' => KeepsSet T W W' ∧ Ix (.goto t) xs W'
 | .panic _, _, _ => False
 | .outgrown, _, _ => False
variable {F : Fence} {n : Nat} {P : Program}
theorem wpIn_rangeFunc_mem {α : Type} {g : Operand} {ps : Array Tmp} {assign body : Code} {Q : Exit → Act → World → Prop} {a : Act} {w : World}
 (hro : F.round = none) (h1 : 1 ≤ n) {gf : Nat} {lb : Array Value} (hg : a.eval g = .func (.func gf) #[] lb) (hFg : F.fn gf) (eg : ∀ args w, (callFunc gf args).run P w = .ok (.enter gf args) w)
 {m : Nat} {encs : Nat → α → Array Value} {Hd : Nat → List α → α → World → Prop} {K : Nat → Nat → Prop} {S Sp : Nat → List α → World → Prop}
 (hseq : SeqMem F (n - 1) P gf lb m encs Hd K S Sp w) (hps : ∀ b x, (encs b x).size = ps.size)
 (hKn : ¬ K (w.heap.size + 2) (w.heap.size + 1))
 (hHd : ∀ pre x W o, Hd (w.heap.size + 2) pre x W → Hd (w.heap.size + 2) pre x (W.putObj (w.heap.size + 1) o))
 (hS : ∀ xs W o, S (w.heap.size + 2) xs W → S (w.heap.size + 2) xs (W.putObj (w.heap.size + 1) o))
 (hSp : ∀ xs W o, Sp (w.heap.size + 2) xs W → Sp (w.heap.size + 2) xs (W.putObj (w.heap.size + 1) o))
 (I : List α → World → Prop) (Ix : Code → List α → World → Prop)
 (hI : AbidesSet (fun r => w.heap.size ≤ r ∧ r < w.heap.size + 2 + m) I) (hIx : ∀ c, AbidesSet (fun r => w.heap.size ≤ r ∧ r < w.heap.size + 2 + m) (Ix c)) (h0 : I [] w) (a₁ : α → Act)
 (hassign : ∀ (l : Nat) (x : α) (W : World) (K : Act → World → Prop), K (a₁ x) W →
  assign.wpIn (F.inRound l) (n - 1 - 1) P (Exit.then K (fun _ _ _ => False)) { tmps := (ps.zip (encs (w.heap.size + 2) x)).foldl (fun t (p, v) => t.setIfInBounds p v) a.tmps, defers := [] } W)
 (hbody : ∀ (l : Nat) (pre : List α) (x : α) (W : World), w.heap.size + 1 < W.heap.size → I pre W → Hd (w.heap.size + 2) pre x W →
  body.wpIn (F.inRound l) (n - 1 - 1) P (postMem (fun k => k = w.heap.size ∨ k = w.heap.size + 1 ∨ K (w.heap.size + 2) k) I Ix (pre ++ [x]) W) (a₁ x) W)
 (hdone : ∀ (xs : List α) (W : World), S (w.heap.size + 2) xs W → I xs W → W.heap[w.heap.size]? = some (.deferred (some [])) → Q .normal { a with defers := { target := .collected w.heap.size, args := #[] } :: a.defers } W)
 (hstop : ∀ (c : Code) (pre : List α) (W : World), Sp (w.heap.size + 2) pre W → Ix c pre W → W.heap[w.heap.size]? = some (.deferred (some [])) → c.wpIn F n P Q { a with defers := { target := .collected w.heap.size, args := #[] } :: a.defers } W) :
 (Code.rangeFunc g ps assign body).wpIn F n P Q a w := by
 refine wpIn_rangeFunc ?_
 intro fn hfn
 rw [hro]
 obtain ⟨rec, hrec⟩ : ∃ rec : LoopState → Option Code → Loop, rec = fun st pe => { state := st, pending := pe, fn, tmps := a.tmps, params := ps, assign, body, defers := w.heap.size } := ⟨_, rfl⟩
 obtain ⟨W1, hW1⟩ : ∃ W1, (w.alloc (.deferred (some []))).alloc (.loop (rec .ready none)) = W1 := ⟨_, rfl⟩
 have hL1 : W1.heap[w.heap.size + 1]? = some (.loop (rec .ready none)) := by
  rw [← hW1]; have := aN9 (w.alloc (.deferred (some []))) (.loop (rec .ready none)); rwa [World.size_alloc] at this
 have hK1 : W1.heap[w.heap.size]? = some (.deferred (some [])) := by
  rw [← hW1]; exact (Below.heap_alloc _ _ _ (by simp)).trans (aN9 w _)
 have hI1 : I [] W1 := by
  rw [← hW1]
  exact hI _ _ _ _ (hI _ _ _ _ h0 (World.grownBy_alloc w _ none) (fun _ h => by cases h)) (World.grownBy_alloc _ _ none) (fun _ h => by cases h)
 have hb1 : Below w.heap.size w W1 := by
  rw [← hW1]; exact ((Below.refl _ w).alloc (Nat.le_refl _) _).alloc (by simp) _
 have hsz : W1.heap.size = w.heap.size + 2 := by rw [← hW1]; simp
 have putI : ∀ (J : List α → World → Prop) (s : List α) (W : World) (o : Obj), AbidesSet (fun r => w.heap.size ≤ r ∧ r < w.heap.size + 2 + m) J → J s W → J s (W.putObj (w.heap.size + 1) o) := fun J s W o hJ hs =>
  hJ _ _ _ (some (w.heap.size + 1)) hs (grownBy_putObj' W _ o) (fun r e => by cases e; omega)
 refine ⟨w.heap.size + 1, [{ target := .collected w.heap.size, args := #[] }], W1, { target := .fn (.func gf) lb, args := #[.func (.yield (w.heap.size + 1)) #[] #[]] }, W1, gf,
  #[.func (.yield (w.heap.size + 1)) #[] #[]] ++ lb, W1, ?_, ?_, ?_, ?_, fun _ => h1, ?_⟩
 · rw [← hW1, hrec]; exact run_enterLoop_outer _ _ _ _ _
 · simp only [resolve, hg]
   simp [go_sem]
 · intro f' hf'; simp [Target.leads] at hf'; subst hf'; exact hFg
 · simp [invoke, go_sem, eg]
 · have hkeep : ∀ {A B : World} {row : Option Nat} {k : Nat} {o : Obj}, A.grownBy B row → (∀ r, row = some r → W1.heap.size ≤ r ∧ r < W1.heap.size + m) → k < w.heap.size + 2 → A.heap[k]? = some o → B.heap[k]? = some o := fun hg hr hk ho =>
  (hg.block _ (gE9.1 ho).1 (fun e => by have := (hr _ e.symm).1; omega)).trans ho
   have hwide : ∀ {row : Option Nat}, (∀ r, row = some r → W1.heap.size ≤ r ∧ r < W1.heap.size + m) → (∀ r, row = some r → w.heap.size ≤ r ∧ r < w.heap.size + 2 + m) := fun hr r e => by have := hr r e; omega
   have H := hseq (w.heap.size + 1)
    (fun pre W => I pre W ∧ W.heap[w.heap.size + 1]? = some (.loop (rec .ready none)) ∧ W.heap[w.heap.size]? = some (.deferred (some [])))
    (fun pre W => ∃ c, Ix c pre W ∧ W.heap[w.heap.size + 1]? = some (.loop (rec .done (some c))) ∧ W.heap[w.heap.size]? = some (.deferred (some [])))
    W1 hb1
    (fun s A B row hs hg' hr => ⟨hI s A B row hs.1 hg' (hwide hr), hkeep hg' hr (by omega) hs.2.1, hkeep hg' hr (by omega) hs.2.2⟩)
    (fun s A B row hs hg' hr => by
     obtain ⟨c, hc, hl, hk⟩ := hs
     exact ⟨c, hIx c s A B row hc hg' (hwide hr), hkeep hg' hr (by omega) hl, hkeep hg' hr (by omega) hk⟩)
   rw [hsz] at H
   refine (H ?_ ⟨hI1, hL1, hK1⟩).mono ?_
   · -- one round
     rintro pre x W ⟨hi, hl, hk⟩ hhd
     have hlt : w.heap.size + 1 < W.heap.size := (gE9.1 hl).1
     have hy := run_yield (P := P) (args := encs (w.heap.size + 2) x) hl (by rw [hrec]; exact hps _ x)
     rw [hrec] at hy
     refine ⟨fn, _, assign, body, hy, roundIn_of_wpIn hfn (hassign _ x W _ ⟨_, run_beginRound hl (by rw [hrec]), ?_⟩)⟩
     have hl2 : (W.putObj (w.heap.size + 1) (.loop { rec .ready none with state := .busy })).heap[w.heap.size + 1]? = some (.loop { rec .ready none with state := .busy }) := World.putObj_heap_same hlt
     have hk2 : (W.putObj (w.heap.size + 1) (.loop { rec .ready none with state := .busy })).heap[w.heap.size]? = some (.deferred (some [])) := (World.putObj_heap_other (by omega)).trans hk
     have hput : ∀ (W : World) (o : Obj), KeepsSet (K (w.heap.size + 2)) W (W.putObj (w.heap.size + 1) o) := fun W o => KeepsSet.of_grownBy (grownBy_putObj' W _ o) (fun r e => by cases e; exact hKn)
     refine wpIn_mono (hbody _ pre x _ (by simpa using hlt) (putI I _ _ _ hI hi) (hHd _ _ _ _ hhd)) ?_
     have fin : ∀ (jump : Option Code) (W3 : World), KeepsSet (fun k => k = w.heap.size ∨ k = w.heap.size + 1 ∨ K (w.heap.size + 2) k) (W.putObj (w.heap.size + 1) (.loop { rec .ready none with state := .busy })) W3 →
      (Instr.endRound (w.heap.size + 1) jump).run P W3 = .ok (.bool jump.isNone) (W3.putObj (w.heap.size + 1) (.loop (rec (if jump.isNone then .ready else .done) jump))) ∧
      (W3.putObj (w.heap.size + 1) (.loop (rec (if jump.isNone then .ready else .done) jump))).heap[w.heap.size + 1]? = some (.loop (rec (if jump.isNone then .ready else .done) jump)) ∧
      (W3.putObj (w.heap.size + 1) (.loop (rec (if jump.isNone then .ready else .done) jump))).heap[w.heap.size]? = some (.deferred (some [])) ∧
      KeepsSet (K (w.heap.size + 2)) W (W3.putObj (w.heap.size + 1) (.loop (rec (if jump.isNone then .ready else .done) jump))) := fun jump W3 hk3 => by
      have hl3 := (hk3.same (w.heap.size + 1) (by simpa using hlt) (.inr (.inl rfl))).trans hl2
      have hk4 := (hk3.same w.heap.size (by simp; omega) (.inl rfl)).trans hk2
      have := run_endRound (P := P) jump hl3
      rw [hrec] at this ⊢
      exact ⟨this, World.putObj_heap_same (gE9.1 hl3).1, (World.putObj_heap_other (by omega)).trans hk4, (hput _ _).trans ((hk3.mono (fun k h => .inr (.inr h))).trans (hput _ _))⟩
     rintro e a3 W3 hp
     cases e with
     | normal =>
       obtain ⟨hk3, hi3⟩ := hp
       obtain ⟨hr, hl4, hk4, hkk⟩ := fin none W3 hk3
       exact ⟨_, _, hr, .inl ⟨rfl, ⟨putI I _ _ _ hI hi3, hl4, hk4⟩, hkk⟩⟩
     | ret =>
       obtain ⟨hk3, hi3⟩ := hp
       obtain ⟨hr, hl4, hk4, hkk⟩ := fin (some .ret) W3 hk3
       exact ⟨_, _, hr, .inr ⟨rfl, ⟨.ret, putI (Ix .ret) _ _ _ (hIx _) hi3, hl4, hk4⟩, hkk⟩⟩
     | exit id =>
       obtain ⟨hk3, hi3⟩ := hp
       obtain ⟨hr, hl4, hk4, hkk⟩ := fin (some (.exit id)) W3 hk3
       exact ⟨_, _, hr, .inr ⟨rfl, ⟨.exit id, putI (Ix (.exit id)) _ _ _ (hIx _) hi3, hl4, hk4⟩, hkk⟩⟩
     | goto t =>
       obtain ⟨hk3, hi3⟩ := hp
       obtain ⟨hr, hl4, hk4, hkk⟩ := fin (some (.goto t)) W3 hk3
       exact ⟨_, _, hr, .inr ⟨rfl, ⟨.goto t, putI (Ix (.goto t)) _ _ _ (hIx _) hi3, hl4, hk4⟩, hkk⟩⟩
     | panic ch => exact hp.elim
     | outgrown => exact hp.elim
   · -- behind the iterator
     rintro e W2 ⟨⟨v, rfl⟩, (⟨xs, hSx, hi, hl, hk⟩ | ⟨pre, hSx, c, hi, hl, hk⟩)⟩
     · exact ⟨none, _, by have := run_endLoop (P := P) hl (by rw [hrec]; simp); rw [hrec] at this; exact this, hdone xs _ (hS _ _ _ hSx) (putI I _ _ _ hI hi) ((World.putObj_heap_other (by omega)).trans hk)⟩
     · exact ⟨some c, _, by have := run_endLoop (P := P) hl (by rw [hrec]; simp); rw [hrec] at this; exact this, hstop c pre _ (hSp _ _ _ hSx) (putI (Ix c) _ _ _ (hIx c) hi) ((World.putObj_heap_other (by omega)).trans hk)⟩
end
section
open Go.RowKit
def RowAt (w : World) (g N : Nat) (f : Nat → Int) : Prop :=
 ∃ cur : Array Value, w.heap[g]? = some (.cells cur 3 (0, 0)) ∧ N ≤ cur.size ∧ ∀ i, i < N → cur[i]? = some (.int .i64 (f i))
theorem RowAt.lt {w : World} {g N : Nat} {f : Nat → Int} (h : RowAt w g N f) : g < w.heap.size := by
 obtain ⟨cur, h1, _⟩ := h; exact (gE9.1 h1).1
theorem RowAt.cell {w : World} {g N : Nat} {f : Nat → Int} (h : RowAt w g N f) {i : Nat} (hi : i < N) : w.cell? ⟨g, i, none⟩ = some (.int .i64 (f i)) := by
 obtain ⟨cur, h1, h2, h3⟩ := h
 rw [cell_of_row w g i cur 3 (0, 0) h1]; exact h3 i hi
theorem RowAt.frozen {w : World} {g N : Nat} {f : Nat → Int} (h : RowAt w g N f) (i : Nat) : w.frozen? ⟨g, i, none⟩ = false := by
 obtain ⟨cur, h1, _⟩ := h
 simp [World.frozen?, h1]
theorem RowAt.congr {w : World} {g N : Nat} {f f' : Nat → Int} (h : RowAt w g N f) (he : ∀ i, i < N → f i = f' i) : RowAt w g N f' := by
 obtain ⟨cur, h1, h2, h3⟩ := h
 exact ⟨cur, h1, h2, fun i hi => by rw [← he i hi]; exact h3 i hi⟩
theorem RowAt.set {w : World} {g N : Nat} {f : Nat → Int} (h : RowAt w g N f) {p : Nat} (z : Int) : RowAt (w.setCell ⟨g, p, none⟩ (.int .i64 z)) g N (fun i => if i = p then z else f i) := by
 obtain ⟨cur, h1, h2, h3⟩ := h
 obtain ⟨hlt, hk⟩ := gE9.1 h1
 have h2' : ∀ i, i < N → i < cur.size := fun i hi => lL9 hi h2
 refine ⟨cur.setIfInBounds p (.int .i64 z), ?_, by simpa using h2, fun i hi => ?_⟩
 · show (w.heap.modify g _)[g]? = _
   rw [Array.getElem?_eq_getElem (by rw [Array.size_modify]; exact hlt), Array.getElem_modify_self, hk]; rfl
 · rw [Array.getElem?_setIfInBounds]
   by_cases e : p = i
   · subst e; simp [h2' _ hi]
   · rw [if_neg e, h3 i hi]; simp only []; rw [if_neg (fun h : i = p => e h.symm)]
theorem RowAt.of_block {w w' : World} {g N : Nat} {f : Nat → Int} (h : RowAt w g N f) (hb : w'.heap[g]? = w.heap[g]?) : RowAt w' g N f := by
 obtain ⟨cur, h1, h2, h3⟩ := h
 exact ⟨cur, hb.trans h1, h2, h3⟩
theorem RowAt.kept {w w' : World} {g N : Nat} {f : Nat → Int} {row : Option Nat} (h : RowAt w g N f) (hg : w.grownBy w' row) (hr : some g ≠ row) : RowAt w' g N f := h.of_block (hg.block g h.lt hr)
theorem RowAt.of_owns {w : World} {base n : Nat} {v : Value} {xs : List Int} (h : w.ownsRow base 3 1 v n (xs.map (Value.int .i64))) (hn : 0 < n) :
 ∃ g cap, v = .slice (some ⟨g, 0, none⟩) n cap ∧ base ≤ g ∧ RowAt w g n (fun i => xs.getD i 0) := by
 have hl : xs.length = n := by have := h.1; simpa using this
 rcases h.2 with ⟨_, h0⟩ | ⟨g, cap, cur, rfl, hb, hgb, hc, _, hs, ht⟩
 · omega
 · refine ⟨g, cap, rfl, hb, cur, hgb, by omega, fun i hi => ?_⟩
   have h1 : (cur.toList.take (n * 1))[i]? = some (.int .i64 (xs.getD i 0)) := by
    rw [ht, List.getElem?_map, eG9 (by omega)]; simp [List.getD, hl, hi]
   rw [List.getElem?_take, if_pos (by omega)] at h1
   rw [← Array.getElem?_toList]; exact h1
theorem grownBy_drew {w w' : World} {row : Option Nat} (h : w.grownBy w' row) : w.grownBy w'.drew row := ⟨h.os, h.tape, h.output, h.size, h.block⟩
theorem grownBy_set {w w' : World} {g : Nat} (h : w.grownBy w' (some g)) (p : Nat) (v : Value) : w.grownBy (w'.setCell ⟨g, p, none⟩ v) (some g) :=
 ⟨h.os, h.tape, h.output, by simp [World.setCell]; exact h.size, fun k hk hr => (Below.heap_setCell _ _ _ k (fun e => hr (by rw [e]))).trans (h.block k hk hr)⟩
theorem grownBy_refl (w : World) (row : Option Nat) : w.grownBy w row := ⟨rfl, rfl, rfl, Nat.le_refl _, fun _ _ _ => rfl⟩
set_option maxHeartbeats 400000 in
theorem addBefore_in (g n N : Nat) (f : Nat → Int) (w : World) (hn : 1 ≤ n) (hnN : n ≤ N) (hN : N ≤ 1000000) (hf : ∀ i, -2305843009213693952 ≤ f i ∧ f i ≤ 2305843009213693952) (hr : RowAt w g N f) :
 Calls Tryz.prog 183 #[.slice (some ⟨g, 0, none⟩) n N] w fun e w' =>
  (∃ v, e = .returned v) ∧ RowAt w' g N (fun i => if 0 < i ∧ i < n then f i + f (i - 1) else f i) ∧ w.grownBy w' (some g) := by
 go_enter Tryz.func183, Tryz.ntmps183
 go_wp2
 go_loopw [2] (fun p wr => ∃ k : Nat, k < n ∧ p = .int .i64 k ∧ RowAt wr g N (fun i => if k < i ∧ i < n then f i + f (i - 1) else f i) ∧ w.grownBy wr (some g)) (fun p _ => (intOf p).toNat)
 case atStart => exact ⟨n - 1, by omega, by go_num, hr.congr (fun i _ => by rw [if_neg (by omega)]), grownBy_refl _ _⟩
 case round =>
  obtain ⟨k, hk, rfl, hrow, hg⟩ := hrel
  by_cases hk0 : k = 0
  · subst hk0
    go_wp2
    go_end0
    exact ⟨⟨_, rfl⟩, hrow, hg⟩
  · obtain ⟨j, rfl⟩ : ∃ j, k = j + 1 := ⟨k - 1, by omega⟩
    have hca := hrow.cell (i := j + 1) (by omega)
    have hcb := hrow.cell (i := j) (by omega)
    rw [if_neg (by omega)] at hca hcb
    have hfr := hrow.frozen (j + 1)
    have h1 := hf (j + 1)
    have h2 := hf j
    go_wp2
    have hw1 : IntKind.i64.wrap (j : Int) = j := IntWalk.i64_in _ (by omega)
    have hw2 : IntKind.i64.wrap (f (j + 1) + f j) = f (j + 1) + f j := IntWalk.i64_in _ (by omega)
    have hw3 : ((j : Int) + 1).toNat = j + 1 := by omega
    have hw4 : (j : Int) + 1 < n := by omega
    have hw5 : (0 : Int) ≤ (j : Int) + 1 := by omega
    have hw6 : j < n := by omega
    go_region
    all_goals
     go_wp2
     go_roundw
     case rel =>
      refine ⟨j, by omega, by go_num, (hrow.of_block (w' := wr.drew) rfl).set _ |>.congr (fun i hi => ?_), grownBy_set (grownBy_drew hg) _ _⟩
      by_cases e : i = j + 1
      · subst e; rw [if_pos rfl, if_pos (by omega)]; rfl
      · rw [if_neg e]
        by_cases e2 : j + 1 < i ∧ i < n
        · rw [if_pos e2, if_pos (by omega)]
        · rw [if_neg e2, if_neg (by omega)]
     case measure => simp [intOf]
end
section
open Go.RowKit Go.Shelf
attribute [local go_sem] Oper.semAt_some
theorem make_row {F : Fence} {n : Nat} (w : World) {ops : Array Oper} {rest : List Oper} {o : Oper} {a : Act} {Q : Exit → Act → World → Prop}
 (hg : o.guard = none) (l c : Operand) (hop : o.op = Op.makeSlice 28 l c) (L C : Int) (N : Nat) (hl : a.eval l = .int .i64 L) (hc : a.eval c = .int .i64 C) (hL : L = (N : Int)) (hC : C = (N : Int)) (hN : N ≤ 1000000)
 (hK : ∀ w', RowAt w' w.heap.size N (fun _ => 0) → w.grownBy w' none → wpListIn F n Tryz.prog ops Q rest (a.put o.dst (.slice (some ⟨w.heap.size, 0, none⟩) N N)) w') :
 wpListIn F n Tryz.prog ops Q (o :: rest) a w := by
 obtain ⟨i0, hi, hz0, hz1, hz2⟩ := info_parts Tryz.infoInt
 refine wpListIn_plain hg fun K hK' => ?_
 obtain ⟨w', hrun, r1, r2⟩ := run_make_full (P := Tryz.prog) w w.heap.size 28 3 i0 (.int .i64 0) 1 Tryz.underlying28 hi hz0 hz1 .i64 .i64 N (by rw [hz2]; omega) (by unfold maxLen; omega) (Nat.le_refl _)
 subst hL
 subst hC
 unfold Oper.wpIn
 refine ⟨?_, ?_⟩
 · simp [Oper.about, hop]
 · rw [Oper.semAt_plain F _ _ (by rw [hop]; intro c hc'; cases hc')]
   simp [execOp, hop, hl, hc, hrun, Result.andThen]
   refine hK' _ _ (hK w' ?_ r2)
   obtain ⟨hlen, hv⟩ := r1
   rcases hv with ⟨h, _⟩ | ⟨g, cap, cur, h, _, hgb, _, _, hs, ht⟩
   · cases h
   · cases h
     refine ⟨cur, hgb, by omega, fun i hi' => ?_⟩
     have h1 : cur.toList.take (N * 1) = cur.toList := List.take_of_length_le (by simp; omega)
     rw [h1] at ht
     rw [← Array.getElem?_toList, ht, Array.getElem?_toList]
     simp [madeCells, Value.cells, hi', Nat.mod_one]
theorem bin_turn (j i : Nat) : (if 0 < i ∧ i < j + 1 then (bin (j - 1) i : Int) + bin (j - 1) (i - 1) else bin (j - 1) i) = bin j i := by
 cases j with
 | zero => rw [if_neg (by omega)]
 | succ j =>
   rw [show j + 1 - 1 = j by omega]
   cases i with
   | zero => rw [if_neg (by omega), bin_zero, bin_zero]
   | succ i =>
     by_cases h : i + 1 < j + 1 + 1
     · rw [if_pos ⟨by omega, h⟩, bin_succ, show i + 1 - 1 = i by omega]; omega
     · rw [if_neg (by omega), bin_over j (i + 1) (by omega), bin_over (j + 1) (i + 1) (by omega)]
set_option maxRecDepth 100000 in
set_option maxHeartbeats 1000000 in
theorem rows_stops (n B L : Nat) (hL : L ≤ 60) (hn : 1 ≤ n) (w : World) (hB : B < w.heap.size) (hc : w.cell? ⟨B, 0, none⟩ = some (.int .i64 L)) :
 SeqMem Fence.wide n Tryz.prog 182 #[.pointer (some ⟨B, 0, none⟩)] 1 (fun n0 (j : Nat) => #[.slice (some ⟨n0, 0, none⟩) (j + 1) (L + 1)])
  (fun n0 pre j W => pre = List.range j ∧ j ≤ L ∧ RowAt W n0 (L + 1) (fun i => bin j i)) (fun n0 k => k = n0)
  (fun n0 xs W => xs = List.range (L + 1) ∧ RowAt W n0 (L + 1) (fun i => bin L i))
  (fun n0 pre W => ∃ j, j ≤ L ∧ pre = List.range (j + 1) ∧ RowAt W n0 (L + 1) (fun i => bin j i)) w := by
 intro l J Jx W hW hJ hJx hY h0
 have hc' := (hW.cell (p := ⟨B, 0, none⟩) hB).trans hc
 have hBW : B < W.heap.size := lL9 hB hW.size
 refine callsIn_of_wp Tryz.func182 rfl trivial ?_ rfl
 simp only [Tryz.ntmps182, List.size_toArray, List.length_cons, List.length_nil, Nat.reduceAdd, Nat.reduceSub, Array.replicate_succ, Array.replicate_zero, List.push_toArray, List.append_toArray, List.nil_append, List.cons_append]
 gi_wp2_with (gi_at_make; go_loud (refine make_row W rfl _ _ rfl _ _ (L + 1) rfl rfl (by omega) (by omega) (by omega) ?_; intro w1 hrow hgrow; have hz := hrow.cell (i := 0) (by omega); have hzf := hrow.frozen 0; have hcb : w1.cell? ⟨B, 0, none⟩ = some (.int .i64 L) := hgrow.cell hc' (by simp); have hcc : (w1.setCell ⟨W.heap.size, 0, none⟩ (.int .i64 1)).cell? ⟨B, 0, none⟩ = some (.int .i64 L) := (World.cell?_setCell_other _ _ _ _ (by intro h; cases h; omega)).trans hcb))
 have hstart : RowAt (w1.setCell ⟨W.heap.size, 0, none⟩ (.int .i64 1)) W.heap.size (L + 1) (fun i => (bin (0 - 1) i : Int)) := (hrow.set (p := 0) 1).congr (fun i _ => by cases i <;> rfl)
 have hJ0 : J [] (w1.setCell ⟨W.heap.size, 0, none⟩ (.int .i64 1)) := hJ _ _ _ (some W.heap.size) (hJ _ _ _ none h0 hgrow (fun _ h => by cases h)) (grownBy_setCell' _ _ _) (fun r e => by cases e; omega)
 gi_loopw [12] (fun i wr => ∃ j : Nat, j ≤ L + 1 ∧ i = .int .i64 j ∧ J (List.range j) wr ∧ RowAt wr W.heap.size (L + 1) (fun i => (bin (j - 1) i : Int))) (fun i _ => L + 1 - (intOf i).toNat)
 case atStart => exact ⟨0, by omega, rfl, hJ0, hstart⟩
 case round =>
  obtain ⟨j, hj, rfl, hJs, hrw⟩ := hrel
  by_cases hlt : j < L + 1
  · have hA := addBefore_in W.heap.size (j + 1) (L + 1) (fun i => (bin (j - 1) i : Int)) wr (by omega) (by omega) (by omega) (fun i => by have := bin_small (j - 1) i (by omega); omega) hrw
    have hi1 : (j : Int) + 1 ≤ (L : Int) + 1 := by omega
    have hi2 : (0 : Int) ≤ (j : Int) + 1 := by omega
    have hi3 : ((j : Int) + 1).toNat = j + 1 := by omega
    gi_wp2_with (refine ⟨trivial, ?_⟩; gi_at_call 183; go_loud (refine (cW9.2 hA).mono ?_; clear hA; rintro e w2 ⟨⟨v, rfl⟩, hrow2, hg2⟩; have hrow3 := hrow2.congr (fun i _ => bin_turn j i); have hJ2 := hJ _ _ _ (some W.heap.size) hJs hg2 (fun r e => by cases e; omega); obtain ⟨fn, tmps, assign, body, hy, hR⟩ := hY _ j w2 hJ2 ⟨rfl, by omega, hrow3⟩; clear hY))
    refine hR.mono ?_
    rintro e W3 (⟨rfl, hJ3, hk3⟩ | ⟨rfl, hJx3, hk3⟩)
    · have hrow4 := hrow3.of_block (hk3.same _ hrow3.lt rfl)
      gi_wp2
      go_roundw
      case rel => exact ⟨j + 1, by omega, by go_num, by rw [List.range_succ]; exact hJ3, hrow4⟩
      case measure => simp [intOf]; omega
    · have hrow4 := hrow3.of_block (hk3.same _ hrow3.lt rfl)
      gi_wp2
      refine bodyPost_ret (results_none rfl _ _ _) rfl ?_
      exact ⟨⟨_, rfl⟩, .inr ⟨_, ⟨j, by omega, (List.range_succ).symm, hrow4⟩, hJx3⟩⟩
  · obtain rfl : j = L + 1 := by omega
    gi_wp2
    go_end0
    exact ⟨⟨_, rfl⟩, .inl ⟨_, ⟨rfl, hrw.congr (fun i _ => by rw [show L + 1 - 1 = L by omega])⟩, hJs⟩⟩
theorem rowsTo_in (L : Int) (w : World) : Calls Tryz.prog 145 #[.int .i64 L] w fun e w' => e = .returned (.func (.func 182) #[] #[.pointer (some ⟨w.heap.size, 0, none⟩)]) ∧ w.alloc (.cells #[.int .i64 L] 3) = w' := by
 have hmf : ∀ (fn : Fn) (first cap : Array Value) (w : World), (Instr.makeFunc fn first cap).run Tryz.prog w = .ok (.func fn first cap) w := fun _ _ _ _ => rfl
 go_enter Tryz.func145, Tryz.ntmps145
 go_wp2
 go_ret
 exact ⟨rfl, rfl⟩
def lastV (g k N : Nat) : Value := if k = 0 then .slice none 0 0 else .slice (some ⟨g, 0, none⟩) k N
set_option maxRecDepth 100000 in
set_option maxHeartbeats 1000000 in
theorem implRow_in (r : Nat) (hr : r ≤ 60) (w : World) : Calls Tryz.prog 104 #[.int .i64 r] w fun e w' =>
 ∃ v, e = .returned v ∧ w'.ownsRow w.heap.size 3 1 v (r + 1) ((rowN r).map (Value.int .i64)) ∧ Below w.heap.size w w' := by
 refine (cW9 (n := 9)).1 ?_
 refine callsIn_of_wp_marks Tryz.func104 rfl trivial ?_ rfl
 simp only [Tryz.ntmps104, List.size_toArray, List.length_cons, List.length_nil, Nat.reduceAdd, Nat.reduceSub, Array.replicate_succ, Array.replicate_zero, List.push_toArray, List.append_toArray, List.nil_append, List.cons_append]
 gi_wp2_with (first | (refine ⟨trivial, ?_⟩; gi_at_call 55; refine (cW9.2 (within_t _ _ _ (by omega) (by omega))).mono ?_; rintro e w' ⟨rfl, rfl⟩) | (refine ⟨trivial, ?_⟩; gi_at_call 145; refine (cW9.2 (rowsTo_in _ _)).mono ?_; rintro e w' ⟨rfl, rfl⟩))
 obtain ⟨W0, hW0⟩ : ∃ W0, ((w.alloc (Obj.cells #[Value.slice none 0 0] 28)).alloc (Obj.cells #[Value.int IntKind.i64 ↑r] 3)) = W0 := ⟨_, rfl⟩
 have hsz1 : W0.heap.size ≤ w.heap.size + 2 := by rw [← hW0]; simp
 have hsz2 : w.heap.size + 2 ≤ W0.heap.size := by rw [← hW0]; simp
 have hbox : Boxed W0 w.heap.size 28 (.slice none 0 0) := by rw [← hW0]; exact (Boxed.new w _ _).alloc _
 have hbx : Boxed W0 (w.heap.size + 1) 3 (.int .i64 r) := by rw [← hW0]; have := Boxed.new (w.alloc (Obj.cells #[Value.slice none 0 0] 28)) 3 (.int .i64 r); rwa [World.size_alloc] at this
 have hbel : Below w.heap.size w W0 := by rw [← hW0]; exact ((Below.refl _ w).alloc (Nat.le_refl _) _).alloc (by simp) _
 rw [hW0]
 clear hW0
 refine wpIn_rangeFunc_mem rfl (by omega) (gf := 182) (lb := #[.pointer (some ⟨w.heap.size + 1, 0, none⟩)]) rfl trivial (enters_of Tryz.func182 (by kernel_rfl) rfl)
  (rows_stops (9 - 1) (w.heap.size + 1) r hr (by omega) W0 (by omega) hbx.cell) (fun _ _ => rfl) (by omega)
  (fun pre x W o h => ⟨h.1, h.2.1, h.2.2.of_block (World.putObj_heap_other (by omega))⟩) (fun xs W o h => ⟨h.1, h.2.of_block (World.putObj_heap_other (by omega))⟩)
  (fun pre W o h => by obtain ⟨j, h1, h2, h3⟩ := h; exact ⟨j, h1, h2, h3.of_block (World.putObj_heap_other (by omega))⟩)
  (fun pre W => Boxed W w.heap.size 28 (lastV (W0.heap.size + 2) pre.length (r + 1)) ∧ Below w.heap.size w W) (fun _ _ _ => False)
  (fun s A B row hs hg hr => ⟨hs.1.kept hg (fun e => by have := hr _ e.symm; omega), hs.2.grown hg hs.2.size (fun k e => by have := hr _ e; omega)⟩)
  (fun _ _ _ _ _ hs _ _ => hs) ⟨hbox, hbel⟩
  (fun x => { tmps := #[.int .i64 r, undef, .slice none 0 0, .pointer (some ⟨w.heap.size, 0, none⟩), .slice (some ⟨W0.heap.size + 2, 0, none⟩) (x + 1) (r + 1), .int .i64 r, .bool true, .bool false, .int .i64 r, .func (.func 182) #[] #[.pointer (some ⟨w.heap.size + 1, 0, none⟩)], .slice (some ⟨W0.heap.size + 2, 0, none⟩) (x + 1) (r + 1), undef, undef, undef], defers := [] }) ?assign ?body ?done ?stop
 case assign =>
  intro l x W K hK
  gi_wp2
  exact hK
 case body =>
  rintro l pre x W hlt ⟨hb, hB⟩ ⟨hpre, hx, hrow⟩
  have hc := hb.cell
  have hf := hb.frozen
  gi_wp2
  refine ⟨KeepsSet.setCell _ _ _ (by omega), ?_, hB.setCell (p := ⟨w.heap.size, 0, none⟩) (Nat.le_refl _) _⟩
  have := hb.set (.slice (some ⟨W0.heap.size + 2, 0, none⟩) (x + 1) (r + 1))
  rw [show lastV (W0.heap.size + 2) (pre ++ [x]).length (r + 1) = .slice (some ⟨W0.heap.size + 2, 0, none⟩) (x + 1) (r + 1) by subst hpre; simp [lastV]]
  exact this
 case done =>
  rintro ys W ⟨rfl, hrow⟩ ⟨hb, hB⟩ hK
  rw [show lastV (W0.heap.size + 2) (List.range (r + 1)).length (r + 1) = .slice (some ⟨W0.heap.size + 2, 0, none⟩) (r + 1) (r + 1) by simp [lastV]] at hb
  have hc := hb.cell
  have hcl := clone_in (W0.heap.size + 2) (r + 1) (r + 1) (rowN r) W (rowN_len r) (by omega) (fun k u hu => by
   rw [List.getElem?_map, rowN, List.getElem?_map] at hu
   by_cases hk : k < r + 1
   · rw [List.getElem?_range hk] at hu
     simp only [Option.map_some, Option.some.injEq] at hu
     rw [← hu]; exact hrow.cell hk
   · rw [List.getElem?_eq_none (by simp; omega)] at hu; cases hu)
  gi_wp2_with (refine ⟨trivial, ?_⟩; gi_at_call 96; refine (cW9.2 hcl).mono ?_; clear hcl; rintro e W5 ⟨v, rfl, hown, hB5⟩)
  have hDW : W0.heap.size < W.heap.size := (gE9.1 hK).1
  have hK5 := (hB5.block _ hDW).trans hK
  refine ⟨by simp, .inl ⟨_, _, rfl, run_takeDeferred hK5, ?_⟩⟩
  refine ⟨_, results_tmp rfl _ _ _, v, rfl, owns_from (ownsRow_putObj hown _ hK5 rfl) hB.size, ?_⟩
  refine (hB.trans (hB5.mono hB.size)).grown (grownBy_putObj' W5 _ _) ?_ (fun k e => by cases e; omega)
  exact lT9 hB.size hB5.size
 case stop =>
  rintro c pre W _ h _
  exact h.elim
theorem implCell (row place : Int) (w : World) : Calls Tryz.prog 63 #[.int .i64 row, .int .i64 place] w fun e w' =>
 e = .returned (.int .i64 (cellV row place)) ∧ Below w.heap.size w w' := by
 by_cases h1 : row < 0 ∨ 60 < row
 · have hv := hide (cellV_bad (row := row) (place := place) (by omega))
   go_enter Tryz.func63, Tryz.ntmps63
   go_wp2_with (go_at_call 55; refine (within_f _ _ _ (by assumption)).mono ?_; rintro e w' ⟨rfl, rfl⟩)
   go_ret
   exact ⟨ret_int hv.out.symm, Below.refl _ _⟩
 · by_cases h2 : place < 0
   · have hv := hide (cellV_bad (row := row) (place := place) (by omega))
     have h1a : 0 ≤ row := by omega
     have h1b : row ≤ 60 := by omega
     clear h1
     go_enter Tryz.func63, Tryz.ntmps63
     go_wp2_with (go_at_call 55; refine (within_t _ _ _ (by assumption) (by assumption)).mono ?_; rintro e w' ⟨rfl, rfl⟩)
     go_ret
     exact ⟨ret_int hv.out.symm, Below.refl _ _⟩
   · obtain ⟨r, rfl⟩ : ∃ r : Nat, row = r := ⟨row.toNat, by omega⟩
     obtain ⟨k, rfl⟩ : ∃ k : Nat, place = k := ⟨place.toNat, by omega⟩
     have h6 : r ≤ 60 := by omega
     have hv := hide (cellV_nat (k := k) h6)
     have h1a : (0 : Int) ≤ r := by omega
     have h1b : (r : Int) ≤ 60 := by omega
     clear h1
     go_enter Tryz.func63, Tryz.ntmps63
     go_wp2_with (first | (go_at_call 55; refine (within_t _ _ _ (by assumption) (by assumption)).mono ?_; rintro e w' ⟨rfl, rfl⟩) | (go_at_call 104; refine (implRow_in _ (by assumption) _).mono ?_; rintro e w1 ⟨v, rfl, hown, hB⟩; obtain ⟨g, cap, rfl, hg1, hg2, hg3, hcells⟩ := owns_open hown (by omega); have hC : Calls Tryz.prog 103 #[.slice (some ⟨g, 0, none⟩) (r + 1) cap, .int .i64 k] w1 (fun e w' => e = .returned (.int .i64 (bin r k)) ∧ w1 = w') := (by by_cases hp : k < r + 1; exact cellAt_in g (r + 1) cap k _ w1 hp (hcells k _ (by rw [List.getElem?_map, rowN, List.getElem?_map, List.getElem?_range hp]; rfl)); rw [bin_over r k (by omega)]; exact cellAt_out _ _ _ _ _ (.inr (by omega))); clear hcells) | (go_at_call 103; refine hC.mono ?_; clear hC; rintro e w2 ⟨rfl, rfl⟩))
     go_ret
     exact ⟨ret_int hv.out.symm, hB⟩
end
section
open Go.RowKit
theorem alive_in (w : World) : Calls Tryz.prog 19 #[] w fun e w' => e = .returned (.bool true) ∧ Below w.heap.size w w' := by
 have h1 := hide (show cellV 4 2 = 6 by decide)
 have h2 := hide (show cellV (-1) 0 = -1 by decide)
 go_enter Tryz.func19, Tryz.ntmps19
 go_wp2_with (first | (go_at_call 63; (with_reducible refine (implCell 4 2 _).mono ?_); rw [h1.out]; rintro e w1 ⟨rfl, hB1⟩) | (go_at_call 63; (with_reducible refine (implCell (-1) 0 _).mono ?_); rw [h2.out]; rintro e w2 ⟨rfl, hB2⟩))
 go_ret
 exact ⟨rfl, hB1.trans (hB2.mono hB1.size)⟩
def Ints (w : World) (v : Value) (xs : List Int) : Prop :=
 (∃ a c, v = .slice a 0 c ∧ xs = []) ∨ ∃ g cap, v = .slice (some ⟨g, 0, none⟩) xs.length cap ∧ g < w.heap.size ∧ ∀ i, i < xs.length → w.cell? ⟨g, i, none⟩ = some (.int .i64 (xs.getD i 0))
theorem Ints.below {w w' : World} {v : Value} {xs : List Int} (h : Ints w v xs) (hb : Below w.heap.size w w') : Ints w' v xs := by
 rcases h with h | ⟨g, cap, rfl, hg, hc⟩
 · exact .inl h
 · exact .inr ⟨g, cap, rfl, lL9 hg hb.size, fun i hi => (hb.cell (by exact hg)).trans (hc i hi)⟩
theorem Ints.of_owns {w : World} {base n : Nat} {v : Value} {xs : List Int} (h : w.ownsRow base 3 1 v n (xs.map (Value.int .i64))) : Ints w v xs := by
 have hl : xs.length = n := by have := h.1; simpa using this
 subst hl
 by_cases h0 : 0 < xs.length
 · obtain ⟨g, cap, rfl, _, h2, _, hc⟩ := owns_open h h0
   exact .inr ⟨g, cap, rfl, h2, fun i hi => hc i _ (by rw [List.getElem?_map, eG9 hi]; simp [List.getD, hi])⟩
 · obtain rfl : xs = [] := List.length_eq_zero_iff.1 (by omega)
   rcases h.2 with ⟨rfl, _⟩ | ⟨g, cap, cur, rfl, _⟩
   · exact .inl ⟨_, _, rfl, rfl⟩
   · exact .inl ⟨_, _, rfl, rfl⟩
set_option maxHeartbeats 400000 in
theorem sameInts_in (v u : Value) (xs : List Int) (w : World) (hn : xs.length ≤ 1000000000) (hv : Ints w v xs) (hu : Ints w u xs) :
    Calls Tryz.prog 28 #[v, u] w fun e w' => e = .returned (.bool true) ∧ Below w.heap.size w w' := by
  rcases hv with ⟨a, c, rfl, rfl⟩ | ⟨g, cap, rfl, hg, hc⟩
  · have hu' : ∃ a' c', u = .slice a' 0 c' := by
      rcases hu with ⟨a', c', rfl, _⟩ | ⟨g, cap, rfl, _⟩
      · exact ⟨_, _, rfl⟩
      · exact ⟨_, _, rfl⟩
    obtain ⟨a', c', rfl⟩ := hu'
    clear hu
    go_enter Tryz.func28, Tryz.ntmps28
    go_wp2
    refine wp_loop_rounds 1 ?_
    rw [rounds_succ]
    go_wp2
    go_ret
    exact ⟨rfl, Below.refl _ _⟩
  · have hu' : ∃ a' c', u = .slice a' xs.length c' := by
      rcases hu with ⟨a', c', rfl, h⟩ | ⟨g, cap, rfl, _⟩
      · exact ⟨_, _, by rw [h]; rfl⟩
      · exact ⟨_, _, rfl⟩
    obtain ⟨a', c', rfl⟩ := hu'
    go_enter Tryz.func28, Tryz.ntmps28
    go_wp2
    go_loopw [5] (fun i wr => ∃ k : Nat, k ≤ xs.length ∧ i = .int .i64 k ∧ Below w.heap.size w wr) (fun i _ => xs.length - (intOf i).toNat)
    case atStart => exact ⟨0, Nat.zero_le _, rfl, Below.refl _ _⟩
    case round =>
      obtain ⟨k, hk, rfl, hB⟩ := hrel
      by_cases hlt : k < xs.length
      · have h1 : wr.cell? ⟨g, k, none⟩ = some (.int .i64 (xs.getD k 0)) := (hB.cell (by exact hg)).trans (hc k hlt)
        rcases hu with ⟨_, _, _, h⟩ | ⟨g2, cap2, h, hg2, hc2⟩
        · subst h; exact absurd hlt (by simp)
        · cases h
          have h2 : wr.cell? ⟨g2, k, none⟩ = some (.int .i64 (xs.getD k 0)) := (hB.cell (by exact hg2)).trans (hc2 k hlt)
          clear hc hc2
          obtain ⟨z, hz⟩ : ∃ z, z = xs.getD k 0 := ⟨_, rfl⟩
          rw [← hz] at h1 h2
          clear hz
          go_wp2
          go_region
          all_goals
            go_wp2
            go_roundw
            case rel => exact ⟨k + 1, by omega, by go_num, hB.drew⟩
            case measure => simp [intOf]; omega
      · obtain rfl : k = xs.length := by omega
        go_wp2
        go_ret
        exact ⟨rfl, hB⟩
theorem Ints.grown {w w' : World} {v : Value} {xs : List Int} {g : Nat} (h : Ints w v xs) (hg : w.grownBy w' (some g)) (hne : v.ownBlock ≠ some g) : Ints w' v xs := by
  rcases h with h | ⟨b, cap, rfl, hb, hc⟩
  · exact .inl h
  · have hbg : some b ≠ some g := by simpa [Value.ownBlock] using hne
    exact .inr ⟨b, cap, rfl, lL9 hb hg.size, fun i hi => hg.cell (hc i hi) (by exact hbg)⟩
end
section
open Go Go.RowKit
structure After (w : World) where
 now : World
 ok : Below w.heap.size w now
instance (w : World) : Nonempty (After w) := ⟨⟨w, Below.refl _ _⟩⟩
theorem wp_region_below {P : Program} {id : Nat} {Q : Exit → Act → World → Prop} {a : Act} {W : World} {l : List Oper} (w : World) (hm : P.follows .mixedOrders = true) (hB : Region.lexB .any l.toArray = true) (hW : Below w.heap.size w W)
 (h : wpQuiet P l.toArray (fun w' => ∃ n : After w, w' = n.now) (fun a' => ∀ w', (∃ n : After w, w' = n.now) → Q .normal a' w') l a) : (Code.region id l.toArray true).wp P Q a W :=
 wp_region_quiet (C := fun w' => ∃ n : After w, w' = n.now) hm hB ⟨⟨_, hW.drew⟩, rfl⟩ (by simpa using h)
theorem after_of {P : Program} {f : FuncId} {args : Array Value} {w : World} {n : After w} {v : Value}
 (h : Calls P f args n.now fun e w' => e = .returned v ∧ Below n.now.heap.size n.now w') : Calls P f args n.now fun e w'' => e = .returned v ∧ ∃ m : After w, w'' = m.now :=
 h.mono fun _ w' ⟨he, hb⟩ => ⟨he, ⟨w', n.ok.trans (hb.mono n.ok.size)⟩, rfl⟩
theorem after_of_same {P : Program} {f : FuncId} {args : Array Value} {w : World} {n : After w} {v : Value}
 (h : Calls P f args n.now fun e w' => e = .returned v ∧ n.now = w') : Calls P f args n.now fun e w'' => e = .returned v ∧ ∃ m : After w, w'' = m.now :=
 h.mono fun _ _ ⟨he, hb⟩ => ⟨he, n, hb.symm⟩
set_option maxHeartbeats 400000 in
theorem sameTexts_in (v u : Value) (L : List (List Nat)) (w : World) (hn : L.length ≤ 1000000) (hv : Texts w v L) (hu : Texts w u L) :
 Calls Tryz.prog 27 #[v, u] w fun e w' => e = .returned (.bool true) ∧ Below w.heap.size w w' := by
 obtain ⟨a, cap, rfl, hc⟩ := hv
 obtain ⟨b, cap2, rfl, hd⟩ := hu
 go_enter Tryz.func27, Tryz.ntmps27
 go_wp2
 go_loopw [5] (fun i wr => ∃ k : Nat, k ≤ L.length ∧ i = .int .i64 k ∧ Below w.heap.size w wr) (fun i _ => L.length - (intOf i).toNat)
 case atStart => exact ⟨0, Nat.zero_le _, rfl, Below.refl _ _⟩
 case round =>
  obtain ⟨k, hk, rfl, hB⟩ := hrel
  by_cases hlt : k < L.length
  · obtain ⟨g, rfl, hg, hcc⟩ := hc (by omega)
    obtain ⟨g2, rfl, hg2, hdd⟩ := hd (by omega)
    have h1 := (hB.cell (p := ⟨g, k, none⟩) (by exact hg)).trans (hcc k _ (eG9 hlt))
    have h2 := (hB.cell (p := ⟨g2, k, none⟩) (by exact hg2)).trans (hdd k _ (eG9 hlt))
    unfold txt at h1 h2
    generalize str L[k] = Z at *
    clear hc hd hcc hdd
    go_wp2
    go_region
    all_goals
     go_wp2
     go_roundw
     case rel => exact ⟨k + 1, by omega, by go_num, hB.drew⟩
     case measure => simp [intOf]; omega
  · obtain rfl : k = L.length := by omega
    clear hc hd
    go_wp2
    go_ret
    exact ⟨rfl, hB⟩
def TextAt (w : World) (g N : Nat) (f : Nat → ByteArray) : Prop :=
 ∃ cur : Array Value, w.heap[g]? = some (.cells cur 9 (0, 0)) ∧ N ≤ cur.size ∧ ∀ i, i < N → cur[i]? = some (.string (f i))
theorem TextAt.lt {w : World} {g N : Nat} {f : Nat → ByteArray} (h : TextAt w g N f) : g < w.heap.size := by
 obtain ⟨cur, h1, _⟩ := h; exact (gE9.1 h1).1
theorem TextAt.cell {w : World} {g N : Nat} {f : Nat → ByteArray} (h : TextAt w g N f) {i : Nat} (hi : i < N) : w.cell? ⟨g, i, none⟩ = some (.string (f i)) := by
 obtain ⟨cur, h1, h2, h3⟩ := h
 rw [cell_of_row w g i cur 9 (0, 0) h1]; exact h3 i hi
theorem TextAt.frozen {w : World} {g N : Nat} {f : Nat → ByteArray} (h : TextAt w g N f) (i : Nat) : w.frozen? ⟨g, i, none⟩ = false := by
 obtain ⟨cur, h1, _⟩ := h
 simp [World.frozen?, h1]
theorem TextAt.congr {w : World} {g N : Nat} {f f' : Nat → ByteArray} (h : TextAt w g N f) (he : ∀ i, i < N → f i = f' i) : TextAt w g N f' := by
 obtain ⟨cur, h1, h2, h3⟩ := h
 exact ⟨cur, h1, h2, fun i hi => by rw [← he i hi]; exact h3 i hi⟩
theorem TextAt.set {w : World} {g N : Nat} {f : Nat → ByteArray} (h : TextAt w g N f) {p : Nat} (z : ByteArray) : TextAt (w.setCell ⟨g, p, none⟩ (.string z)) g N (fun i => if i = p then z else f i) := by
 obtain ⟨cur, h1, h2, h3⟩ := h
 obtain ⟨hlt, hk⟩ := gE9.1 h1
 have h2' : ∀ i, i < N → i < cur.size := fun i hi => lL9 hi h2
 refine ⟨cur.setIfInBounds p (.string z), ?_, by simpa using h2, fun i hi => ?_⟩
 · show (w.heap.modify g _)[g]? = _
   rw [Array.getElem?_eq_getElem (by rw [Array.size_modify]; exact hlt), Array.getElem_modify_self, hk]; rfl
 · rw [Array.getElem?_setIfInBounds]
   by_cases e : p = i
   · subst e; simp [h2' _ hi]
   · rw [if_neg e, h3 i hi]; simp only []; rw [if_neg (fun h : i = p => e h.symm)]
theorem TextAt.of_block {w w' : World} {g N : Nat} {f : Nat → ByteArray} (h : TextAt w g N f) (hb : w'.heap[g]? = w.heap[g]?) : TextAt w' g N f := by
 obtain ⟨cur, h1, h2, h3⟩ := h
 exact ⟨cur, hb.trans h1, h2, h3⟩
theorem TextAt.of_owns {w : World} {base : Nat} {v : Value} {L : List (List Nat)} (h : w.ownsRow base 9 1 v L.length (L.map txt)) (hn : 0 < L.length) :
 ∃ g cap, v = .slice (some ⟨g, 0, none⟩) L.length cap ∧ base ≤ g ∧ TextAt w g L.length (fun i => str (L.getD i [])) := by
 rcases h.2 with ⟨_, h0⟩ | ⟨g, cap, cur, rfl, hb, hgb, hc, _, hs, ht⟩
 · omega
 · refine ⟨g, cap, rfl, hb, cur, hgb, by omega, fun i hi => ?_⟩
   have h1 : (cur.toList.take (L.length * 1))[i]? = some (.string (str (L.getD i []))) := by
    rw [ht, List.getElem?_map, eG9 hi]; simp [List.getD, txt, hi]
   rw [List.getElem?_take, if_pos (by omega)] at h1
   rw [← Array.getElem?_toList]; exact h1
theorem Texts.grown {w w' : World} {v : Value} {L : List (List Nat)} {g : Nat} (h : Texts w v L) (hg : w.grownBy w' (some g)) (hne : v.ownBlock ≠ some g) : Texts w' v L := by
 obtain ⟨a, cap, rfl, hc⟩ := h
 refine ⟨a, cap, rfl, fun h0 => ?_⟩
 obtain ⟨b, rfl, hb, hcc⟩ := hc h0
 have hbg : some b ≠ some g := by simpa [Value.ownBlock] using hne
 exact ⟨b, rfl, lL9 hb hg.size, fun j l hj => hg.cell (hcc j l hj) (by exact hbg)⟩
end
section
open Go
theorem wpIn_region_two {F : Fence} {n : Nat} {P : Program} {id : Nat} {ops : Array Oper} {Q : Exit → Act → World → Prop} {a : Act} {w : World} (p m : Nat) (hm : P.follows .mixedOrders = true) (hb : backB ops = true) (ht : tailB ops m = true) (hpm : p < m) (hsz : m < ops.size)
    (fr : (Nat → Value) → Act) (C : Bool → World → Prop) (G : World → World → Prop) (Φ : Bool → Nat → Value → World → Prop)
    (h0 : ∃ s, a = fr s) (hput : ∀ i o s v, i < m → ops[i]? = some o → (fr s).put o.dst v = fr (fun j => if j = i then v else s j))
    (hC : C false w.drew) (hG : ∀ c k v W W', Φ c k v W → G W W' → Φ c k v W')
    (hstep : ∀ c i o s W, i < m → i ≠ p → (c = true → needs ops p ops.size i = false) → ops[i]? = some o → C c W → (∀ k, depB ops i k = true → Φ c k (s k) W) → ∀ Q' : Exit → Act → World → Prop,
      (∀ v W', C c W' → G W W' → Φ c i v W' → Q' .normal ((fr s).put o.dst v) W') → wpListIn F n P ops Q' [o] (fr s) W)
    (hmid : ∀ o s W, ops[p]? = some o → C false W → (∀ k, depB ops p k = true → Φ false k (s k) W) → ∀ Q' : Exit → Act → World → Prop,
      (∀ v W', C true W' → (∀ k x, k ≠ p → Φ false k x W → Φ true k x W') → Φ true p v W' → Q' .normal ((fr s).put o.dst v) W') → wpListIn F n P ops Q' [o] (fr s) W)
    (htail : ∀ s W, C true W → (∀ k, k < m → Φ true k (s k) W) → wpListIn F n P ops Q (ops.toList.drop m) (fr s) W) : (Code.region id ops true).wpIn F n P Q a w := by
  have hdrop : ∀ d (h : d < ops.size), ops.toList.drop d = ops[d] :: ops.toList.drop (d + 1) := fun d h => by
    rw [List.drop_eq_getElem_cons (by simpa using h)]; simp
  refine wpIn_region_any hm (wpAnyIn_inv2 hb (fun L b W => Shut ops L ∧ (((∀ j, m ≤ j → j < ops.size → L j = false) ∧ ∃ s, b = fr s ∧ C (L p) W ∧ ∀ k, L k = true → Φ (L p) k (s k) W) ∨
    (∃ d, m < d ∧ d ≤ ops.size ∧ (∀ j, j < ops.size → (L j = true ↔ j < d)) ∧ wpListIn F n P ops Q (ops.toList.drop d) b W))) ?_ ?_ _ _ _ _ (by simp) ?_ ?_)
  · rintro L b W i o ho hLi hde ⟨hS, (⟨hno, s, rfl, hCW, hΦ⟩ | ⟨d, hd1, hd2, hd3, hd4⟩)⟩ K hK
    · obtain ⟨hi, ho'⟩ := gE9.1 ho
      have hS' := shut_next ho hde hS
      by_cases him : i < m
      · by_cases hip : i = p
        · subst hip
          rw [hLi] at hCW hΦ
          have hL1 : (fun j => if j = i then true else L j) i = true := if_pos rfl
          have hst := hmid o s W ho hCW (fun k hk => hΦ k (dep_of ho hde hk)) (fun e b' W' => match e with | .normal => K b' W' | e => Q e b' W')
            (fun v W' h1 h2 h3 => hK _ _ ⟨hS', .inl ⟨fun j hj1 hj2 => (by dsimp only; rw [if_neg (by omega)]; exact hno j hj1 hj2), fun j => if j = i then v else s j, hput i o s v him ho, (by rw [hL1]; exact h1), fun k hk => (by
              rw [hL1]
              by_cases e : k = i
              · subst e; simpa using h3
              · simp only [if_neg e] at hk ⊢
                exact h2 k _ e (hΦ k hk))⟩⟩)
          unfold wpOpIn
          rw [ho]
          simp only [wpListIn] at hst
          exact hst
        · have hLp : (fun j => if j = i then true else L j) p = L p := if_neg (fun e => hip e.symm)
          have hst := hstep (L p) i o s W him hip (fun hc => (by
            cases hn : needs ops p ops.size i with
            | false => rfl
            | true => have := needs_of hS hc _ _ hn; rw [hLi] at this; cases this)) ho hCW (fun k hk => hΦ k (dep_of ho hde hk)) (fun e b' W' => match e with | .normal => K b' W' | e => Q e b' W')
            (fun v W' h1 h2 h3 => hK _ _ ⟨hS', .inl ⟨fun j hj1 hj2 => (by dsimp only; rw [if_neg (by omega)]; exact hno j hj1 hj2), fun j => if j = i then v else s j, hput i o s v him ho, (by rw [hLp]; exact h1), fun k hk => (by
              rw [hLp]
              by_cases e : k = i
              · subst e; simpa using h3
              · simp only [if_neg e] at hk ⊢
                exact hG _ k _ W W' (hΦ k hk) h2)⟩⟩)
          unfold wpOpIn
          rw [ho]
          simp only [wpListIn] at hst
          exact hst
      · have hall : ∀ k, k < i → L k = true := fun k hk => by
          have := tail_of ht hS' (by omega) hi (if_pos rfl) hk
          rwa [if_neg (by omega)] at this
        have him2 : i = m := by
          rcases Nat.lt_or_ge m i with h | h
          · have h1 := hall m h
            rw [hno m (Nat.le_refl _) hsz] at h1
            cases h1
          · omega
        subst him2
        have hLp := hall p hpm
        rw [hLp] at hCW hΦ
        have hl := htail s W hCW (fun k hk => hΦ k (hall k hk))
        rw [hdrop _ hi, ho'] at hl
        refine wpOp_of_list ho hl (fun b' W' h' => hK _ _ ⟨hS', .inr ⟨i + 1, by omega, by omega, fun j hj => ?_, h'⟩⟩)
        dsimp only
        by_cases e : j = i
        · rw [if_pos e]; exact ⟨fun _ => by omega, fun _ => rfl⟩
        · rw [if_neg e]
          refine ⟨fun h => ?_, fun h => hall j (by omega)⟩
          rcases Nat.lt_or_ge j i with h2 | h2
          · omega
          · rw [hno j h2 hj] at h; cases h
    · obtain ⟨hi, ho'⟩ := gE9.1 ho
      have hS' := shut_next ho hde hS
      have hid : d ≤ i := by
        rcases Nat.lt_or_ge i d with h | h
        · rw [(hd3 i hi).2 h] at hLi; cases hLi
        · exact h
      have hall : ∀ k, k < i → L k = true := fun k hk => by
        have := tail_of ht hS' (by omega) hi (if_pos rfl) hk
        rwa [if_neg (by omega)] at this
      have hid2 : i = d := by
        rcases Nat.lt_or_ge d i with h | h
        · have := (hd3 d (by omega)).1 (hall d h); omega
        · omega
      subst hid2
      rw [hdrop _ hi, ho'] at hd4
      refine wpOp_of_list ho hd4 (fun b' W' h' => hK _ _ ⟨hS', .inr ⟨i + 1, by omega, by omega, fun j hj => ?_, h'⟩⟩)
      dsimp only
      by_cases e : j = i
      · rw [if_pos e]; exact ⟨fun _ => by omega, fun _ => rfl⟩
      · rw [if_neg e]
        have := hd3 j hj
        exact ⟨fun h => by have := this.1 h; omega, fun h => this.2 (by omega)⟩
  · rintro L b W hL ⟨_, (⟨hno, _⟩ | ⟨d, hd1, hd2, hd3, hd4⟩)⟩
    · have := hno m (Nat.le_refl _) hsz
      rw [hL m hsz] at this; cases this
    · have hds : d = ops.size := by
        rcases Nat.lt_or_ge d ops.size with h | h
        · have := (hd3 d h).1 (hL d h); omega
        · omega
      subst hds
      rw [List.drop_of_length_le (by simp)] at hd4
      exact hd4
  · unfold unl
    simp
  · have hfn : (fun j => (Array.replicate ops.size false).getD j false) = fun _ => false := by
      funext j
      rw [Array.getD_eq_getD_getElem?]
      by_cases e : j < ops.size
      · rw [Array.getElem?_replicate, if_pos e]; rfl
      · rw [Array.getElem?_eq_none (by simp; omega)]; rfl
    rw [hfn]
    obtain ⟨s, hs⟩ := h0
    exact ⟨fun _ _ (h : false = true) => (by cases h), .inl ⟨fun _ _ _ => rfl, s, hs, hC, fun _ (h : false = true) => (by cases h)⟩⟩
theorem wpIn_region_store {F : Fence} {n : Nat} {P : Program} {id : Nat} {ops : Array Oper} {Q : Exit → Act → World → Prop} {a : Act} {w : World} (p m : Nat) (hm : P.follows .mixedOrders = true) (hb : backB ops = true) (ht : tailB ops m = true) (hpm : p < m) (hsz : m < ops.size)
    (fr : (Nat → Value) → Act) (C : Bool → World → Prop) (G : World → World → Prop) (Φ : Bool → Nat → Value → World → Prop)
    (h0 : ∃ s, a = fr s) (hput : ∀ i o s v, i < m → ops[i]? = some o → (fr s).put o.dst v = fr (fun j => if j = i then v else s j))
    (hC : C false w.drew) (hG : ∀ c k v W W', Φ c k v W → G W W' → Φ c k v W')
    (hstep : ∀ c i o s W, i < m → i ≠ p → (c = true → needs ops p ops.size i = false) → ops[i]? = some o → C c W → (∀ k, depB ops i k = true → Φ c k (s k) W) → ∀ Q' : Exit → Act → World → Prop,
      (∀ v W', C c W' → G W W' → Φ c i v W' → Q' .normal ((fr s).put o.dst v) W') → wpListIn F n P ops Q' [o] (fr s) W)
    (hmid : ∀ o s W, ops[p]? = some o → C false W → (∀ k, depB ops p k = true → Φ false k (s k) W) → ∀ Q' : Exit → Act → World → Prop,
      (∀ v W', C true W' → (∀ k, k ≠ p → Φ false k (s k) W → Φ true k (s k) W') → Φ true p v W' → Q' .normal ((fr s).put o.dst v) W') → wpListIn F n P ops Q' [o] (fr s) W)
    (htail : ∀ s W, C true W → (∀ k, k < m → Φ true k (s k) W) → wpListIn F n P ops Q (ops.toList.drop m) (fr s) W) : (Code.region id ops true).wpIn F n P Q a w := by
  have hdrop : ∀ d (h : d < ops.size), ops.toList.drop d = ops[d] :: ops.toList.drop (d + 1) := fun d h => by
    rw [List.drop_eq_getElem_cons (by simpa using h)]; simp
  refine wpIn_region_any hm (wpAnyIn_inv2 hb (fun L b W => Shut ops L ∧ (((∀ j, m ≤ j → j < ops.size → L j = false) ∧ ∃ s, b = fr s ∧ C (L p) W ∧ ∀ k, L k = true → Φ (L p) k (s k) W) ∨
    (∃ d, m < d ∧ d ≤ ops.size ∧ (∀ j, j < ops.size → (L j = true ↔ j < d)) ∧ wpListIn F n P ops Q (ops.toList.drop d) b W))) ?_ ?_ _ _ _ _ (by simp) ?_ ?_)
  · rintro L b W i o ho hLi hde ⟨hS, (⟨hno, s, rfl, hCW, hΦ⟩ | ⟨d, hd1, hd2, hd3, hd4⟩)⟩ K hK
    · obtain ⟨hi, ho'⟩ := gE9.1 ho
      have hS' := shut_next ho hde hS
      by_cases him : i < m
      · by_cases hip : i = p
        · subst hip
          rw [hLi] at hCW hΦ
          have hL1 : (fun j => if j = i then true else L j) i = true := if_pos rfl
          have hst := hmid o s W ho hCW (fun k hk => hΦ k (dep_of ho hde hk)) (fun e b' W' => match e with | .normal => K b' W' | e => Q e b' W')
            (fun v W' h1 h2 h3 => hK _ _ ⟨hS', .inl ⟨fun j hj1 hj2 => (by dsimp only; rw [if_neg (by omega)]; exact hno j hj1 hj2), fun j => if j = i then v else s j, hput i o s v him ho, (by rw [hL1]; exact h1), fun k hk => (by
              rw [hL1]
              by_cases e : k = i
              · subst e; simpa using h3
              · simp only [if_neg e] at hk ⊢
                exact h2 k e (hΦ k hk))⟩⟩)
          unfold wpOpIn
          rw [ho]
          simp only [wpListIn] at hst
          exact hst
        · have hLp : (fun j => if j = i then true else L j) p = L p := if_neg (fun e => hip e.symm)
          have hst := hstep (L p) i o s W him hip (fun hc => (by
            cases hn : needs ops p ops.size i with
            | false => rfl
            | true => have := needs_of hS hc _ _ hn; rw [hLi] at this; cases this)) ho hCW (fun k hk => hΦ k (dep_of ho hde hk)) (fun e b' W' => match e with | .normal => K b' W' | e => Q e b' W')
            (fun v W' h1 h2 h3 => hK _ _ ⟨hS', .inl ⟨fun j hj1 hj2 => (by dsimp only; rw [if_neg (by omega)]; exact hno j hj1 hj2), fun j => if j = i then v else s j, hput i o s v him ho, (by rw [hLp]; exact h1), fun k hk => (by
              rw [hLp]
              by_cases e : k = i
              · subst e; simpa using h3
              · simp only [if_neg e] at hk ⊢
                exact hG _ k _ W W' (hΦ k hk) h2)⟩⟩)
          unfold wpOpIn
          rw [ho]
          simp only [wpListIn] at hst
          exact hst
      · have hall : ∀ k, k < i → L k = true := fun k hk => by
          have := tail_of ht hS' (by omega) hi (if_pos rfl) hk
          rwa [if_neg (by omega)] at this
        have him2 : i = m := by
          rcases Nat.lt_or_ge m i with h | h
          · have h1 := hall m h
            rw [hno m (Nat.le_refl _) hsz] at h1
            cases h1
          · omega
        subst him2
        have hLp := hall p hpm
        rw [hLp] at hCW hΦ
        have hl := htail s W hCW (fun k hk => hΦ k (hall k hk))
        rw [hdrop _ hi, ho'] at hl
        refine wpOp_of_list ho hl (fun b' W' h' => hK _ _ ⟨hS', .inr ⟨i + 1, by omega, by omega, fun j hj => ?_, h'⟩⟩)
        dsimp only
        by_cases e : j = i
        · rw [if_pos e]; exact ⟨fun _ => by omega, fun _ => rfl⟩
        · rw [if_neg e]
          refine ⟨fun h => ?_, fun h => hall j (by omega)⟩
          rcases Nat.lt_or_ge j i with h2 | h2
          · omega
          · rw [hno j h2 hj] at h; cases h
    · obtain ⟨hi, ho'⟩ := gE9.1 ho
      have hS' := shut_next ho hde hS
      have hid : d ≤ i := by
        rcases Nat.lt_or_ge i d with h | h
        · rw [(hd3 i hi).2 h] at hLi; cases hLi
        · exact h
      have hall : ∀ k, k < i → L k = true := fun k hk => by
        have := tail_of ht hS' (by omega) hi (if_pos rfl) hk
        rwa [if_neg (by omega)] at this
      have hid2 : i = d := by
        rcases Nat.lt_or_ge d i with h | h
        · have := (hd3 d (by omega)).1 (hall d h); omega
        · omega
      subst hid2
      rw [hdrop _ hi, ho'] at hd4
      refine wpOp_of_list ho hd4 (fun b' W' h' => hK _ _ ⟨hS', .inr ⟨i + 1, by omega, by omega, fun j hj => ?_, h'⟩⟩)
      dsimp only
      by_cases e : j = i
      · rw [if_pos e]; exact ⟨fun _ => by omega, fun _ => rfl⟩
      · rw [if_neg e]
        have := hd3 j hj
        exact ⟨fun h => by have := this.1 h; omega, fun h => this.2 (by omega)⟩
  · rintro L b W hL ⟨_, (⟨hno, _⟩ | ⟨d, hd1, hd2, hd3, hd4⟩)⟩
    · have := hno m (Nat.le_refl _) hsz
      rw [hL m hsz] at this; cases this
    · have hds : d = ops.size := by
        rcases Nat.lt_or_ge d ops.size with h | h
        · have := (hd3 d h).1 (hL d h); omega
        · omega
      subst hds
      rw [List.drop_of_length_le (by simp)] at hd4
      exact hd4
  · unfold unl
    simp
  · have hfn : (fun j => (Array.replicate ops.size false).getD j false) = fun _ => false := by
      funext j
      rw [Array.getD_eq_getD_getElem?]
      by_cases e : j < ops.size
      · rw [Array.getElem?_replicate, if_pos e]; rfl
      · rw [Array.getElem?_eq_none (by simp; omega)]; rfl
    rw [hfn]
    obtain ⟨s, hs⟩ := h0
    exact ⟨fun _ _ (h : false = true) => (by cases h), .inl ⟨fun _ _ _ => rfl, s, hs, hC, fun _ (h : false = true) => (by cases h)⟩⟩
end
section
open Go.RowKit Go.Shelf
attribute [local go_sem] Oper.semAt_some
theorem decF_len : ∀ f n, (decF f n).length ≤ f + 1
 | 0, _ => by simp [decF]
 | f + 1, n => by
   unfold decF
   split
   · simp
   · have := decF_len f (n / 10); simp; omega
theorem decF_low (f n : Nat) (h : n < 10) : decF f n = [48 + n] := by
 cases f with
 | zero => unfold decF; rw [Nat.mod_eq_of_lt h]
 | succ f => unfold decF; rw [if_pos h]
theorem byte_text (x : Nat) (w : World) (q : Nat) (hq : w.cell? ⟨q, 0, none⟩ = some (.int .u8 x)) : (convert 22 9 (.slice (some ⟨q, 0, none⟩) 1 1)).run Tryz.prog w = .ok (.string (str [x])) w := by
 rw [run_convert_bytes_string _ _ _ 5 _ _ _ Tryz.underlying22 Tryz.underlying5 Tryz.underlying9]
 rw [run_bytesToString _ ⟨q, 0, none⟩ 1 1 [(x : Int)] (run_loadCells_list _ ⟨q, 0, none⟩ [.int .u8 x] (fun j v hj => by
  match j, hj with
  | 0, hj =>
    simp at hj
    subst hj
    exact hq))]
 rfl
set_option maxRecDepth 100000 in
set_option maxHeartbeats 1000000 in
theorem specNumber : ∀ (f n : Nat), n < 10 ^ (f + 1) → n ≤ 1000000000000000000 → f ≤ 20 → ∀ w : World, Calls Tryz.prog 67 #[.int .i64 n] w fun e w' => e = .returned (.string (str (decF f n))) ∧ Below w.heap.size w w' := by
 intro f
 induction f with
 | zero =>
   intro n hn _ _ w
   have h10 : n < 10 := by simpa using hn
   have hni : (n : Int) < 10 := by omega
   have hc := fun w => byte_text (48 + n) (w.alloc (.cells #[.int .u8 (48 + n : Nat)] 5)) w.heap.size (Boxed.new w 5 _).cell
   rw [decF_low 0 n h10]
   obtain ⟨S, hS⟩ : ∃ S, str [48 + n] = S := ⟨_, rfl⟩
   rw [hS] at hc ⊢
   have hcast : ((48 + n : Nat) : Int) = 48 + (n : Int) := by omega
   simp only [hcast] at hc
   have hw1 : IntKind.i64.wrap (48 + (n : Int)) = 48 + (n : Int) := IntWalk.i64_in _ (by omega)
   have hw2 : IntKind.u8.wrap (48 + (n : Int)) = 48 + (n : Int) := IntWalk.u8_in _ (by omega)
   have hmx : ¬ (n : Int) < 0 := by omega
   clear hS hn h10 hcast
   go_enter Tryz.func67, Tryz.ntmps67
   go_wp2
   go_ret
   exact ⟨rfl, (Below.refl _ w).alloc (Nat.le_refl _) _⟩
 | succ f ih =>
   intro n hn hn18 hf w
   by_cases h10 : n < 10
   · have hb := ih n (by have : 10 ^ 1 ≤ 10 ^ (f + 1) := Nat.pow_le_pow_right (by omega) (by omega); omega) hn18 (by omega) w
     rw [decF_low _ n h10] at hb ⊢
     exact hb
   · have hni : ¬ (n : Int) < 10 := by omega
     have hqd : n / 10 < 10 ^ (f + 1) := by rw [Nat.div_lt_iff_lt_mul (by decide)]; rwa [Nat.pow_succ] at hn
     have hI := fun V => ih (n / 10) hqd (by omega) (by omega) V
     have hd : decF (f + 1) n = decF f (n / 10) ++ [48 + n % 10] := by conv => lhs; unfold decF; rw [if_neg h10]
     rw [hd]
     have hl := decF_len f (n / 10)
     have happ := str_app (decF f (n / 10)) [48 + n % 10]
     have hs1 := str_size (decF f (n / 10))
     have hs2 := str_size [48 + n % 10]
     have hq1 : Int.tmod (n : Int) 10 = ((n % 10 : Nat) : Int) := tmod_n n 10
     have hq2 : Int.tdiv (n : Int) 10 = ((n / 10 : Nat) : Int) := tdiv_n n 10
     have hr := Nat.mod_lt n (show 0 < 10 by decide)
     have hp := Nat.div_le_self n 10
     generalize n / 10 = p at *
     generalize n % 10 = r at *
     have hc := fun (W : World) (q : Nat) h => byte_text (48 + r) W q h
     obtain ⟨X, hX⟩ : ∃ X, str (decF f p) = X := ⟨_, rfl⟩
     obtain ⟨Y, hY⟩ : ∃ Y, str [48 + r] = Y := ⟨_, rfl⟩
     obtain ⟨Z, hZ⟩ : ∃ Z, str (decF f p ++ [48 + r]) = Z := ⟨_, rfl⟩
     rw [hX] at hI hs1 happ
     rw [hY] at hc hs2 happ
     rw [hZ] at happ ⊢
     have hXs : X.size ≤ 100 := by omega
     have hYs : Y.size ≤ 100 := by simp at hs2; omega
     have hw1 : IntKind.i64.wrap (r : Int) = r := IntWalk.i64_in _ (by omega)
     have hw2 : IntKind.i64.wrap (48 + (r : Int)) = 48 + (r : Int) := IntWalk.i64_in _ (by omega)
     have hw3 : IntKind.u8.wrap (48 + (r : Int)) = 48 + (r : Int) := IntWalk.u8_in _ (by omega)
     have hw4 : IntKind.i64.wrap (p : Int) = p := IntWalk.i64_in _ (by omega)
     have hcast : ((48 + r : Nat) : Int) = 48 + (r : Int) := by omega
     simp only [hcast] at hc
     clear ih hn hd hX hY hZ hs1 hs2 hqd hl hcast
     refine (cW9 (n := 9)).1 ?_
     refine callsIn_of_wp Tryz.func67 rfl trivial ?_ rfl
     simp only [Tryz.ntmps67, List.size_toArray, List.length_cons, List.length_nil, Nat.reduceAdd, Nat.reduceSub, Array.replicate_succ, Array.replicate_zero, List.push_toArray, List.append_toArray, List.nil_append, List.cons_append]
     gi_wp2
     refine wpIn_region_kinds 9 (by kernel_rfl) (by kernel_rfl) (by kernel_rfl) (by decide)
      (fun s => { tmps := #[.int .i64 n, undef, .string ⟨#[]⟩, .int .i64 n, .bool false, undef, undef, undef, undef, undef, undef, s 0, s 1, s 2, s 3, s 4, s 5, s 6, s 7, s 8, undef], defers := [] })
      [.val (.int .i64 n), .val (.int .i64 p), .val (.string X), .val (.int .i64 n), .val (.int .i64 r), .val (.int .i64 (48 + (r : Int))), .val (.int .u8 (48 + (r : Int))), .one (.int .u8 (48 + (r : Int))), .val (.string Y)]
      ⟨fun _ => undef, rfl⟩ ?put ?step ?tail
     case put =>
      intro i o s v hi ho
      rcases (show i = 0 ∨ i = 1 ∨ i = 2 ∨ i = 3 ∨ i = 4 ∨ i = 5 ∨ i = 6 ∨ i = 7 ∨ i = 8 by omega) with rfl | rfl | rfl | rfl | rfl | rfl | rfl | rfl | rfl
      all_goals
       simp at ho
       subst ho
       simp [Act.put]
     case step =>
      rintro i o s V hi ho hV hd Q' hQ
      rcases (show i = 0 ∨ i = 1 ∨ i = 2 ∨ i = 3 ∨ i = 4 ∨ i = 5 ∨ i = 6 ∨ i = 7 ∨ i = 8 by omega) with rfl | rfl | rfl | rfl | rfl | rfl | rfl | rfl | rfl
      all_goals
       simp at ho
       subst ho
       simp [Act.put] at hQ
       have hQ' := hide hQ
       clear hQ
      case inl =>
       clear hd
       gi_wp2
       exact hQ'.out _ _ (Below.refl _ _) rfl
      case inr.inl =>
       have e1 : s 0 = .int .i64 n := hd 0 (by kernel_rfl)
       clear hd
       gi_wp2
       exact hQ'.out _ _ (Below.refl _ _) rfl
      case inr.inr.inl =>
       have e1 : s 1 = .int .i64 p := hd 1 (by kernel_rfl)
       clear hd
       gi_wp2_with (refine ⟨trivial, ?_⟩; gi_at_call 67; refine (cW9.2 (hI _)).mono ?_; rintro e w' ⟨rfl, hB'⟩)
       have hr' := hQ'.out
       rw [e1] at hr'
       exact hr' _ _ hB' rfl
      case inr.inr.inr.inl =>
       clear hd
       gi_wp2
       exact hQ'.out _ _ (Below.refl _ _) rfl
      case inr.inr.inr.inr.inl =>
       have e1 : s 3 = .int .i64 n := hd 3 (by kernel_rfl)
       clear hd
       gi_wp2
       exact hQ'.out _ _ (Below.refl _ _) rfl
      case inr.inr.inr.inr.inr.inl =>
       have e1 : s 4 = .int .i64 r := hd 4 (by kernel_rfl)
       clear hd
       gi_wp2
       exact hQ'.out _ _ (Below.refl _ _) rfl
      case inr.inr.inr.inr.inr.inr.inl =>
       have e1 : s 5 = .int .i64 (48 + (r : Int)) := hd 5 (by kernel_rfl)
       clear hd
       gi_wp2
       exact hQ'.out _ _ (Below.refl _ _) rfl
      case inr.inr.inr.inr.inr.inr.inr.inl =>
       have e1 : s 6 = .int .u8 (48 + (r : Int)) := hd 6 (by kernel_rfl)
       clear hd
       gi_wp2
       exact hQ'.out _ _ ((Below.refl _ V).alloc (Nat.le_refl _) _) ⟨V.heap.size, rfl, by simp, (Boxed.new V 5 _).cell⟩
      case inr.inr.inr.inr.inr.inr.inr.inr =>
       obtain ⟨q, e1, hq, hcq⟩ : ∃ q, s 7 = .slice (some ⟨q, 0, none⟩) 1 1 ∧ q < V.heap.size ∧ V.cell? ⟨q, 0, none⟩ = some (.int .u8 (48 + (r : Int))) := hd 7 (by kernel_rfl)
       have hcv := hc V q hcq
       clear hd hc
       gi_wp2
       exact hQ'.out _ _ (Below.refl _ _) rfl
     case tail =>
      rintro s V hV hd
      have e2 : s 2 = .string X := hd 2 (by omega)
      have e8 : s 8 = .string Y := hd 8 (by omega)
      clear hd
      simp only [List.drop_succ_cons, List.drop_zero]
      gi_wp2
      refine bodyPost_ret (results_tmp rfl _ _ _) rfl ⟨rfl, hV⟩
end
section
open Go.RowKit
def digI (l : List Nat) : Int := match digT l with | some n => n | none => -1
theorem digL_cons (c : Nat) (r : List Nat) (n : Nat) : digL (c :: r) n = if 48 ≤ c ∧ c ≤ 57 then digL r (10 * n + (c - 48)) else none := rfl
theorem digI_short {l : List Nat} (h : l.length < 1 ∨ 9 < l.length) : digI l = -1 := by
 unfold digI digT
 rw [if_neg (by omega)]
theorem digI_lead {l : List Nat} (h : 1 < l.length) (h0 : l.getD 0 0 = 48) : digI l = -1 := by
 unfold digI digT
 rw [if_neg (by rintro ⟨_, _, h3⟩; exact h3 ⟨h, h0⟩)]
theorem digI_loop {l : List Nat} (h1 : 1 ≤ l.length) (h9 : l.length ≤ 9) (h0 : ¬ (1 < l.length ∧ l.getD 0 0 = 48)) : digI l = match digL l 0 with | some n => (n : Int) | none => -1 := by
 unfold digI digT
 rw [if_pos ⟨h1, h9, h0⟩]
set_option maxHeartbeats 1000000 in
theorem specDigits (l : List Nat) (hl : ∀ x ∈ l, x < 256) (hn : l.length ≤ 2000000) (w : World) : Calls Tryz.prog 72 #[.string (str l)] w fun e w' => e = .returned (.int .i64 (digI l)) ∧ w = w' := by
 have hsz := str_size l
 have hget := fun i h => str_get l i h hl
 by_cases hlen : l.length < 1 ∨ 9 < l.length
 · have hv := hide (digI_short hlen)
   obtain ⟨s, hs⟩ : ∃ s, str l = s := ⟨_, rfl⟩
   rw [hs] at hsz ⊢
   clear hs hget
   generalize l.length = n at *
   have hs1 : s.size < 1 ∨ 9 < s.size := by omega
   go_enter Tryz.func72, Tryz.ntmps72
   go_wp2_with (go_at_call 95; refine (l1In_f _ _ _ _ (by omega)).mono ?_; rintro e w' ⟨rfl, rfl⟩)
   go_ret
   exact ⟨by rw [hv.out]; rfl, rfl⟩
 · by_cases hlead : 1 < l.length ∧ l.getD 0 0 = 48
   · have hv := hide (digI_lead hlead.1 hlead.2)
     obtain ⟨s, hs⟩ : ∃ s, str l = s := ⟨_, rfl⟩
     rw [hs] at hsz hget ⊢
     have hg0 := hget 0
     rw [hlead.2] at hg0
     clear hs hget
     have hs1 : 0 < s.size := by omega
     have hs2 : (1 : Int) < (s.size : Int) := by omega
     have hg1 : s[0].toNat = 48 := hg0 hs1
     clear hg0
     generalize l.length = n at *
     go_enter Tryz.func72, Tryz.ntmps72
     go_wp2_with (go_at_call 95; refine (l1In_t _ _ _ _ (by omega) (by omega)).mono ?_; rintro e w' ⟨rfl, rfl⟩)
     go_ret
     exact ⟨by rw [hv.out]; rfl, rfl⟩
   · have hv := hide (digI_loop (by omega) (by omega) hlead)
     obtain ⟨s, hs⟩ : ∃ s, str l = s := ⟨_, rfl⟩
     rw [hs] at hsz hget ⊢
     have hg0 := hget 0
     have h0 : 0 < s.size := by omega
     obtain ⟨c0, hc0⟩ : ∃ c, l.getD 0 0 = c := ⟨_, rfl⟩
     rw [hc0] at hg0 hlead
     have hg1 : s[0].toNat = c0 := hg0 h0
     obtain ⟨N, hN⟩ : ∃ N, l.length = N := ⟨_, rfl⟩
     have hdrop := fun k (h : k < N) => drop_get l k (by omega)
     have hall : l.drop N = [] := by rw [← hN]; exact drop_all l
     have hstart : digL (l.drop 0) 0 = digL l 0 := rfl
     rw [hN] at hsz hlen hlead
     have hgeth := hide hget
     clear hs hg0 hc0 hN hn hl hget
     have hN1 : 1 ≤ N := by omega
     have hN9 : N ≤ 9 := by omega
     have hch : (¬ 1 < N) ∨ ((1 < N) ∧ c0 ≠ 48) := by omega
     clear hlen hlead
     have hst' := hide hstart
     clear hstart
     rcases hch with hn1 | ⟨hn1, hne⟩
     case' inl => have hs2 : ¬ (1 : Int) < (s.size : Int) := by omega
     case' inr => have hs2 : (1 : Int) < (s.size : Int) := by omega
     case' inr => have hb : ((c0 : Int) == 48) = false := by rw [beq_eq_false_iff_ne]; omega
     all_goals
      go_enter Tryz.func72, Tryz.ntmps72
      go_wp2_with (go_at_call 95; refine (l1In_t _ _ _ _ (by omega) (by omega)).mono ?_; rintro e w' ⟨rfl, rfl⟩)
      go_loop [3, 4] (fun a b => ∃ k n : Nat, k ≤ N ∧ n < 10 ^ k ∧ b = .int .i64 k ∧ a = .int .i64 n ∧ Hid (digL (l.drop k) n = digL l 0)) (fun _ b => N - (intOf b).toNat)
      case atStart => exact ⟨0, 0, by omega, by omega, rfl, rfl, hst'⟩
      case round =>
       obtain ⟨k, n, hk, hnk, rfl, rfl, hok⟩ := hrel
       by_cases hlt : k < N
       · have hki : (k : Int) < (s.size : Int) := by omega
         have hg := hgeth.out k
         have hd := hdrop k hlt
         obtain ⟨c, hc⟩ : ∃ c, l.getD k 0 = c := ⟨_, rfl⟩
         rw [hc] at hg hd
         have hok' := hok.out
         rw [hd, digL_cons] at hok'
         have hks : ∀ hh : k < s.size, s[k].toNat = c := hg
         have hkl : k < s.size := by omega
         have hkc : s[k].toNat = c := hks hkl
         have hc256 : c < 256 := by rw [← hkc]; exact UInt8.toNat_lt _
         have hn8 : n < 100000000 := lL9 hnk (lT9 (Nat.pow_le_pow_right (by omega) (show k ≤ 8 by omega)) (by decide))
         clear hc hok hg hd hks hdrop hall
         by_cases e1 : c < 48
         · rw [if_neg (by omega)] at hok'
           have hr := hide (show digI l = -1 by rw [hv.out, ← hok'])
           have hci : (c : Int) < 48 := by omega
           clear hok' hst'
           go_wp2
           go_ret
           exact ⟨by rw [hr.out]; rfl, rfl⟩
         · by_cases e2 : 57 < c
           · rw [if_neg (by omega)] at hok'
             have hr := hide (show digI l = -1 by rw [hv.out, ← hok'])
             have hci : ¬ (c : Int) < 48 := by omega
             have hci2 : (57 : Int) < (c : Int) := by omega
             clear hok' hst'
             go_wp2
             go_ret
             exact ⟨by rw [hr.out]; rfl, rfl⟩
           · rw [if_pos (by omega)] at hok'
             have hci : ¬ (c : Int) < 48 := by omega
             have hci2 : ¬ (57 : Int) < (c : Int) := by omega
             have hnx := hide hok'
             have hw1 : IntKind.u8.wrap ((c : Int) - 48) = (c : Int) - 48 := IntWalk.u8_in _ (by omega)
             have hw2 : IntKind.i64.wrap (10 * (n : Int)) = 10 * (n : Int) := IntWalk.i64_in _ (by omega)
             have hw3 : IntKind.i64.wrap ((c : Int) - 48) = (c : Int) - 48 := IntWalk.i64_in _ (by omega)
             have hw4 : IntKind.i64.wrap (10 * (n : Int) + ((c : Int) - 48)) = 10 * (n : Int) + ((c : Int) - 48) := IntWalk.i64_in _ (by omega)
             have hp : 10 ^ (k + 1) = 10 * 10 ^ k := by rw [Nat.pow_succ]; omega
             clear hok' hst'
             go_wp2
             go_round
             case rel => exact ⟨k + 1, 10 * n + (c - 48), by omega, by omega, by go_num, by go_num, hnx⟩
             case measure => simp [intOf]; omega
       · obtain rfl : k = N := by omega
         have hki : ¬ ((k : Nat) : Int) < (s.size : Int) := by omega
         have hok' := hok.out
         rw [hall] at hok'
         have hr := hide (show digI l = n by rw [hv.out, ← hok']; rfl)
         clear hok hok' hdrop hst'
         go_wp2
         go_ret
         exact ⟨by rw [hr.out]; rfl, rfl⟩
theorem take_next (l : List Nat) (f k : Nat) (hf : f ≤ k) (hk : k < l.length) : (l.drop f).take (k + 1 - f) = (l.drop f).take (k - f) ++ [l.getD k 0] := by
 rw [show k + 1 - f = k - f + 1 by omega, List.take_add_one, List.getElem?_drop, show f + (k - f) = k by omega, List.getD, eG9 hk]
 rfl
theorem take_none (l : List Nat) (k : Nat) : (l.drop k).take (k - k) = [] := by rw [Nat.sub_self]; rfl
theorem cutL_hit (sep : Nat) (line r : List Nat) : cutL sep line (sep :: r) = line :: cutL sep [] r := by rw [cutL, if_pos rfl]
theorem cutL_other {sep c : Nat} (h : c ≠ sep) (line r : List Nat) : cutL sep line (c :: r) = cutL sep (line ++ [c]) r := by rw [cutL, if_neg h]
set_option maxHeartbeats 1000000 in
theorem specCut (sep : Nat) (hsep : sep < 256) (l : List Nat) (hl : ∀ x ∈ l, x < 256) (hn : l.length ≤ 2000000) (w : World) : Calls Tryz.prog 71 #[.string (str l), .int .u8 sep] w fun e w' =>
 ∃ v, e = .returned v ∧ w'.ownsRow w.heap.size 9 1 v (cutT sep l).length ((cutT sep l).map txt) ∧ Below w.heap.size w w' := by
 have hsz := str_size l
 have hget := hide (fun i h => str_get l i h hl)
 have hcut := hide (fun a b => str_cut l a b)
 have hdrop := hide (fun k (h : k < l.length) => drop_get l k h)
 have hall := drop_all l
 have hnext := hide (fun f k h1 h2 => take_next l f k h1 h2)
 have hB0 : Below w.heap.size w (w.alloc (.cells #[] 9)) := (Below.refl _ _).alloc (Nat.le_refl _) _
 have hmade : (w.alloc (.cells #[] 9)).ownsRow w.heap.size 9 1 (.slice (some ⟨w.heap.size, 0, none⟩) 0 0) 0 [] := World.ownsRow_made _ _ _ (Nat.le_refl _) (by decide) rfl
 have hst : Hid (cutT sep l = [] ++ cutL sep ((l.drop 0).take (0 - 0)) (l.drop 0)) := hide rfl
 obtain ⟨T, hT⟩ : ∃ T, cutT sep l = T := ⟨_, rfl⟩
 rw [hT] at hst ⊢
 obtain ⟨S, hS⟩ : ∃ S, str l = S := ⟨_, rfl⟩
 rw [hS] at hsz ⊢
 have hget' : Hid (∀ i (h : i < S.size), (S[i]).toNat = l.getD i 0) := by subst hS; exact hget
 have hcut' : Hid (∀ a b, S.extract a b = str ((l.drop a).take (b - a))) := by subst hS; exact hcut
 clear hT hS hl hget hcut
 go_enter Tryz.func71, Tryz.ntmps71
 go_wp2
 go_loopw [5, 6, 7] (fun o a b wr => ∃ (f k : Nat) (xs : List (List Nat)), f ≤ k ∧ k ≤ l.length ∧ xs.length ≤ k ∧ a = .int .i64 f ∧ b = .int .i64 k ∧ wr.ownsRow w.heap.size 9 1 o xs.length (xs.map txt) ∧ Hid (T = xs ++ cutL sep ((l.drop f).take (k - f)) (l.drop k)) ∧ Below w.heap.size w wr) (fun _ _ b _ => l.length - (intOf b).toNat)
 case atStart => exact ⟨0, 0, [], by omega, by omega, Nat.zero_le _, rfl, rfl, hmade, hst, hB0⟩
 case round =>
  clear hmade hst hB0
  obtain ⟨f, k, xs, hf, hk, hxs, rfl, rfl, hown, hrel, hB⟩ := hrel
  by_cases hlt : k < l.length
  · have hki : (k : Int) < (S.size : Int) := by omega
    have hkS : k < S.size := by omega
    have hg := hget'.out k hkS
    have hd := hdrop.out k hlt
    have hnx := hnext.out f k hf hlt
    have hr := hrel.out
    obtain ⟨c, hc⟩ : ∃ c, l.getD k 0 = c := ⟨_, rfl⟩
    rw [hc] at hg hd hnx
    rw [hd] at hr
    by_cases e : c = sep
    · subst e
      rw [cutL_hit] at hr
      have hX := hcut'.out f k
      obtain ⟨X, hXX⟩ : ∃ X, (l.drop f).take (k - f) = X := ⟨_, rfl⟩
      rw [hXX] at hX hr
      obtain ⟨Y, hY⟩ : ∃ Y, str X = Y := ⟨_, rfl⟩
      have hfk : (f : Int) ≤ (k : Int) := by omega
      have hkS2 : (k : Int) ≤ (S.size : Int) := by omega
      have hfin := hide (show xs.map txt ++ [.string Y] = (xs ++ [X]).map txt by rw [List.map_append, ← hY]; rfl)
      have hr' := hide (show T = (xs ++ [X]) ++ cutL c ((l.drop (k + 1)).take (k + 1 - (k + 1))) (l.drop (k + 1)) by rw [take_none, List.append_assoc]; exact hr)
      rw [hY] at hX
      clear hr hrel hd hnx hXX hY hc
      go_wp2_with (at_builtin; refine append_text rfl _ _ rfl w.heap.size _ _ _ rfl hown rfl (by omega) hB.size ?_; intro v' w3 hown' hgr hbk)
      rw [hfin.out] at hown'
      have hB3 : Below w.heap.size w w3 := (hB.alloc hB.size _).grown hgr (by rw [World.size_alloc]; have := hB.size; omega) (fun q hq => (hown.lt q hq).1)
      go_roundw
      case rel => exact ⟨k + 1, k + 1, xs ++ [X], by omega, by omega, by simp; omega, by go_num, by go_num, by simpa using hown', hr', hB3⟩
      case measure => simp [intOf]; omega
    · have hb : ((c : Int) == (sep : Int)) = false := by rw [beq_eq_false_iff_ne]; omega
      rw [cutL_other e, ← hnx] at hr
      have hr' := hide hr
      clear hr hrel hd hnx hc
      go_wp2
      go_roundw
      case rel => exact ⟨f, k + 1, xs, by omega, by omega, by omega, by go_num, by go_num, hown, hr', hB⟩
      case measure => simp [intOf]; omega
  · obtain rfl : k = l.length := by omega
    have hki : ¬ ((l.length : Nat) : Int) < (S.size : Int) := by omega
    have hr := hrel.out
    rw [hall] at hr
    have hX := hcut'.out f S.size
    rw [hsz] at hX
    obtain ⟨X, hXX⟩ : ∃ X, (l.drop f).take (l.length - f) = X := ⟨_, rfl⟩
    rw [hXX] at hX hr
    obtain ⟨Y, hY⟩ : ∃ Y, str X = Y := ⟨_, rfl⟩
    have hfin := hide (show T = xs ++ [X] by rw [hr]; rfl)
    have hfin2 := hide (show xs.map txt ++ [.string Y] = (xs ++ [X]).map txt by rw [List.map_append, ← hY]; rfl)
    have hfk : (f : Int) ≤ (l.length : Int) := by omega
    rw [hY] at hX
    clear hr hrel hXX hY hall
    go_wp2_with (at_builtin; refine append_text rfl _ _ rfl w.heap.size _ _ _ rfl hown rfl (by omega) hB.size ?_; intro v' w3 hown' hgr hbk)
    rw [hfin2.out] at hown'
    have hB3 : Below w.heap.size w w3 := (hB.alloc hB.size _).grown hgr (by rw [World.size_alloc]; have := hB.size; omega) (fun q hq => (hown.lt q hq).1)
    go_ret
    exact ⟨_, rfl, by rw [hfin.out]; simpa using hown', hB3⟩
def Bytes (W0 : World) (a : Option Addr) (len : Nat) : Prop :=
 len ≤ 2000 ∧ (0 < len → ∃ b off, a = some ⟨b, off, none⟩ ∧ b < W0.heap.size ∧ ∃ z : Nat → Int, (∀ i, 0 ≤ z i ∧ z i ≤ 255) ∧ ∀ i, i < len → W0.cell? ⟨b, off + i, none⟩ = some (.int .u8 (z i)))
def Rd (W0 : World) (R : Nat) (a : Option Addr) (len cap : Nat) (w : World) (p : Nat) : Prop :=
 Below W0.heap.size W0 w ∧ W0.heap.size ≤ R ∧ w.heap[R]? = some (.cells #[.slice a len cap, .int .i64 p] 109 (0, 0))
theorem Rd.cell0 {W0 w : World} {R len cap p : Nat} {a : Option Addr} (h : Rd W0 R a len cap w p) : w.cell? ⟨R, 0, none⟩ = some (.slice a len cap) := by
 rw [cell_of_row w R 0 _ _ _ h.2.2]; rfl
theorem Rd.cell1 {W0 w : World} {R len cap p : Nat} {a : Option Addr} (h : Rd W0 R a len cap w p) : w.cell? ⟨R, 1, none⟩ = some (.int .i64 p) := by
 rw [cell_of_row w R 1 _ _ _ h.2.2]; rfl
theorem Rd.frozen {W0 w : World} {R len cap p : Nat} {a : Option Addr} (h : Rd W0 R a len cap w p) (i : Nat) : w.frozen? ⟨R, i, none⟩ = false := by
 simp [World.frozen?, h.2.2]
theorem Rd.set {W0 w : World} {R len cap p : Nat} {a : Option Addr} (h : Rd W0 R a len cap w p) (q : Nat) : Rd W0 R a len cap (w.setCell ⟨R, 1, none⟩ (.int .i64 q)) q := by
 obtain ⟨h1, h2, h3⟩ := h
 obtain ⟨hlt, hk⟩ := gE9.1 h3
 refine ⟨h1.setCell h2 _, h2, ?_⟩
 show (w.heap.modify R _)[R]? = _
 rw [Array.getElem?_eq_getElem (by rw [Array.size_modify]; exact hlt), Array.getElem_modify_self, hk]; rfl
theorem Rd.kept {W0 w w' : World} {R len cap p : Nat} {a : Option Addr} {row : Option Nat} (h : Rd W0 R a len cap w p) (hg : w.grownBy w' row) (hr : some R ≠ row) (hrow : ∀ k, row = some k → W0.heap.size ≤ k) : Rd W0 R a len cap w' p := by
 obtain ⟨h1, h2, h3⟩ := h
 exact ⟨h1.grown hg h1.size hrow, h2, (hg.block R (gE9.1 h3).1 hr).trans h3⟩
theorem xor_i64 (a b : Nat) (ha : a < 4294967296) (hb : b < 4294967296) : bits .xor .i64 (a : Int) (b : Int) = ((a ^^^ b : Nat) : Int) := by
 have hx : a ^^^ b < 2 ^ 32 := Nat.xor_lt_two_pow (by omega) (by omega)
 have h1 : (BitVec.ofInt 64 (a : Int)).toNat = a := by
  rw [BitVec.ofInt_natCast, BitVec.toNat_ofNat]; exact Nat.mod_eq_of_lt (by omega)
 have h2 : (BitVec.ofInt 64 (b : Int)).toNat = b := by
  rw [BitVec.ofInt_natCast, BitVec.toNat_ofNat]; exact Nat.mod_eq_of_lt (by omega)
 show IntKind.i64.wrap ((BitVec.ofInt 64 (a : Int) ^^^ BitVec.ofInt 64 (b : Int)).toNat : Int) = _
 rw [BitVec.toNat_xor, h1, h2]
 exact IntWalk.i64_in _ (by omega)
theorem xor_nonneg (T : Int) (h0 : 0 ≤ T) (h1 : T ≤ 2000000000) : 0 ≤ bits .xor .i64 T (T / 64) := by
 obtain ⟨t, rfl⟩ : ∃ t : Nat, T = t := ⟨T.toNat, by omega⟩
 rw [show (t : Int) / 64 = ((t / 64 : Nat) : Int) by omega, xor_i64 _ _ (by omega) (by omega)]
 omega
theorem Rd.alloc {W0 w : World} {R len cap p : Nat} {a : Option Addr} (h : Rd W0 R a len cap w p) (o : Obj) : Rd W0 R a len cap (w.alloc o) p := h.kept (World.grownBy_alloc w o none) (by simp) (fun _ h => by cases h)
theorem Rd.drew {W0 w : World} {R len cap p : Nat} {a : Option Addr} (h : Rd W0 R a len cap w p) : Rd W0 R a len cap w.drew p := ⟨⟨h.1.os, h.1.tape, h.1.output, h.1.size, h.1.block⟩, h.2.1, h.2.2⟩
theorem Rd.ne {W0 w : World} {R len cap p : Nat} {a : Option Addr} (h : Rd W0 R a len cap w p) : (w.heap.size = R) = False := by
 have := (gE9.1 h.2.2).1
 simp; omega
def Only (R : Nat) (w w' : World) : Prop := ∀ k, k ≠ R → w'.heap[k]? = w.heap[k]?
theorem only_set (w : World) (R : Nat) (v : Value) : Only R w (w.setCell ⟨R, 1, none⟩ v) := fun k hk => Below.heap_setCell _ _ _ k hk
def Picked (W0 : World) (R : Nat) (a : Option Addr) (len cap p : Nat) (n : Int) (w : World) (e : Ending) (w' : World) : Prop :=
 ∃ x : Int, e = .returned (.int .i64 x) ∧ 0 ≤ x ∧ (n < 1 → x = 0) ∧ (1 ≤ n → x < n) ∧ Rd W0 R a len cap w' (p + 1) ∧ w.grownBy w' (some R) ∧ Only R w w'
set_option maxHeartbeats 400000 in
theorem pick_in (W0 : World) (R len cap p : Nat) (a : Option Addr) (n : Int) (w : World) (hb : Bytes W0 a len) (h : Rd W0 R a len cap w p) (hp : p ≤ 1000000) :
 Calls Tryz.prog 42 #[.pointer (some ⟨R, 0, none⟩), .int .i64 n] w (Picked W0 R a len cap p n w) := by
 have hc0 := h.cell0
 have hc1 := h.cell1
 have hf1 := h.frozen 1
 have hset := h.set (p + 1)
 have hd0 : (w.setCell ⟨R, 1, none⟩ (.int .i64 ((p : Int) + 1))).cell? ⟨R, 0, none⟩ = some (.slice a len cap) := hset.cell0
 have hd1 : (w.setCell ⟨R, 1, none⟩ (.int .i64 ((p : Int) + 1))).cell? ⟨R, 1, none⟩ = some (.int .i64 ((p : Int) + 1)) := hset.cell1
 have hgr : w.grownBy (w.setCell ⟨R, 1, none⟩ (.int .i64 ((p : Int) + 1))) (some R) := grownBy_set (grownBy_refl _ _) _ _
 by_cases hn1 : n < 1
 · go_enter Tryz.func42, Tryz.ntmps42
   go_wp2
   go_ret
   exact ⟨0, rfl, by omega, fun _ => rfl, fun h => by omega, hset, hgr, only_set _ _ _⟩
 · by_cases hl : len = 0
   · subst hl
     go_enter Tryz.func42, Tryz.ntmps42
     go_wp2
     go_ret
     exact ⟨0, rfl, by omega, fun _ => rfl, fun h => by omega, hset, hgr, only_set _ _ _⟩
   · obtain ⟨hlen, hbb⟩ := hb
     obtain ⟨b, off, rfl, hbW, z, hz, hcells⟩ := hbb (by omega)
     have hl1 : ((len : Int) == 0) = false := by simp; omega
     by_cases hpl : p < len
     · have hcp : (w.setCell ⟨R, 1, none⟩ (.int .i64 ((p : Int) + 1))).cell? ⟨b, off + p, none⟩ = some (.int .u8 (z p)) := (hset.1.cell (by exact hbW)).trans (hcells p hpl)
       have hzp := hz p
       generalize z p = zp at hcp hzp
       clear hcells hz hbb
       go_enter Tryz.func42, Tryz.ntmps42
       go_wp2
       go_ret
       exact ⟨zp % n, rfl, Int.emod_nonneg _ (by omega), fun h => by omega, fun _ => Int.emod_lt_of_pos _ (by omega), hset, hgr, only_set _ _ _⟩
     · obtain ⟨m1, hm1, hq1⟩ : ∃ m1 : Nat, m1 < len ∧ Int.tmod (p : Int) (len : Int) = (m1 : Int) := ⟨p % len, Nat.mod_lt _ (by omega), by rw [Int.tmod_eq_emod_of_nonneg (by omega)]; rfl⟩
       obtain ⟨m2, hm2, hq2⟩ : ∃ m2 : Nat, m2 < len ∧ Int.tmod ((p : Int) * 7 + 3) (len : Int) = (m2 : Int) := ⟨(p * 7 + 3) % len, Nat.mod_lt _ (by omega), by rw [Int.tmod_eq_emod_of_nonneg (by omega)]; rfl⟩
       obtain ⟨q, hq0, hqp, hq3⟩ : ∃ q : Int, 0 ≤ q ∧ q ≤ 1000000 ∧ Int.tdiv (p : Int) (len : Int) = q := ⟨_, Int.tdiv_nonneg (by omega) (by omega), by rw [Int.tdiv_eq_ediv_of_nonneg (by omega)]; have := Int.ediv_le_self (a := (p : Int)) (len : Int) (by omega); omega, rfl⟩
       have hcp1 : (w.setCell ⟨R, 1, none⟩ (.int .i64 ((p : Int) + 1))).cell? ⟨b, off + m1, none⟩ = some (.int .u8 (z m1)) := (hset.1.cell (by exact hbW)).trans (hcells m1 hm1)
       have hcp2 : (w.setCell ⟨R, 1, none⟩ (.int .i64 ((p : Int) + 1))).cell? ⟨b, off + m2, none⟩ = some (.int .u8 (z m2)) := (hset.1.cell (by exact hbW)).trans (hcells m2 hm2)
       have hz1 := hz m1
       have hz2 := hz m2
       generalize z m1 = z1 at hcp1 hz1
       generalize z m2 = z2 at hcp2 hz2
       clear hcells hz hbb
       have hw1 : IntKind.i64.wrap (z1 * 131) = z1 * 131 := IntWalk.i64_in _ (by omega)
       have hw2 : IntKind.i64.wrap (z2 * 1117) = z2 * 1117 := IntWalk.i64_in _ (by omega)
       have hw3 : IntKind.i64.wrap (z1 * 131 + z2 * 1117) = z1 * 131 + z2 * 1117 := IntWalk.i64_in _ (by omega)
       have hw4 : IntKind.i64.wrap ((p : Int) * 29) = (p : Int) * 29 := IntWalk.i64_in _ (by omega)
       have hw5 : IntKind.i64.wrap (z1 * 131 + z2 * 1117 + (p : Int) * 29) = z1 * 131 + z2 * 1117 + (p : Int) * 29 := IntWalk.i64_in _ (by omega)
       have hw6 : IntKind.i64.wrap (q * 53) = q * 53 := IntWalk.i64_in _ (by omega)
       have hw7 : IntKind.i64.wrap (z1 * 131 + z2 * 1117 + (p : Int) * 29 + q * 53) = z1 * 131 + z2 * 1117 + (p : Int) * 29 + q * 53 := IntWalk.i64_in _ (by omega)
       have hw8 : IntKind.i64.wrap ((p : Int) * 7) = (p : Int) * 7 := IntWalk.i64_in _ (by omega)
       have hw9 : IntKind.i64.wrap ((p : Int) * 7 + 3) = (p : Int) * 7 + 3 := IntWalk.i64_in _ (by omega)
       have hw10 : IntKind.i64.wrap (q : Int) = q := IntWalk.i64_in _ (by omega)
       have hw11 : IntKind.i64.wrap (m1 : Int) = m1 := IntWalk.i64_in _ (by omega)
       have hw12 : IntKind.i64.wrap (m2 : Int) = m2 := IntWalk.i64_in _ (by omega)
       go_enter Tryz.func42, Tryz.ntmps42
       go_wp2
       go_quiet (fail)
       clear hw1 hw2 hw3 hw4 hw5 hw6 hw7 hw8 hw9 hw10 hw11 hw12 hq1 hq2 hq3
       obtain ⟨T, hT, hT0, hT1⟩ : ∃ T : Int, z1 * 131 + z2 * 1117 + (p : Int) * 29 + q * 53 = T ∧ 0 ≤ T ∧ T ≤ 2000000000 := ⟨_, rfl, by omega, by omega⟩
       rw [hT]
       clear hT
       have hx := xor_nonneg T hT0 hT1
       generalize hX : bits .xor .i64 T (T / 64) = X at hx
       go_wp2
       go_ret
       have hD : w.grownBy ((w.setCell ⟨R, 1, none⟩ (.int .i64 ((p : Int) + 1))).drewN nq) (some R) := ⟨hgr.os, hgr.tape, hgr.output, hgr.size, hgr.block⟩
       have hS : Rd W0 R (some ⟨b, off, none⟩) len cap ((w.setCell ⟨R, 1, none⟩ (.int .i64 ((p : Int) + 1))).drewN nq) (p + 1) := ⟨⟨hset.1.os, hset.1.tape, hset.1.output, hset.1.size, hset.1.block⟩, hset.2.1, hset.2.2⟩
       exact ⟨X % n, rfl, Int.emod_nonneg _ (by omega), fun h => by omega, fun _ => Int.emod_lt_of_pos _ (by omega), hS, hD, only_set _ _ _⟩
def Fits (x : Int) : Prop := -9223372036854775808 ≤ x ∧ x ≤ 9223372036854775807
theorem wrap_fits (n : Int) : Fits (IntKind.i64.wrap n) := by
 unfold Fits IntKind.wrap
 simp [IntKind.signed, IntKind.bits]
 split <;> omega
theorem wrap64_fits (n : Int) : Fits (wrap64 n) := by
 unfold Fits wrap64; omega
def Int1 (e : Ending) : Prop := ∃ x : Int, Fits x ∧ e = .returned (.int .i64 x)
def dV (k n : Int) : Value := .agg #[.int .i64 k, .int .i64 n]
theorem laidOut12 : laidOutB Tryz.prog = true := by kernel_rfl
theorem keyedDeed : Maps.Keyed Tryz.prog 39 := Maps.Keyed.of_law (deep_law_gate laidOut12 (of_decide_eq_true (by kernel_rfl)) (of_decide_eq_true (by kernel_rfl)) (by kernel_rfl) (by kernel_rfl))
theorem types_three : ∃ d, Tryz.prog.types.size + 1 = d + 3 := ⟨Tryz.prog.types.size - 2, by have : 3 ≤ Tryz.prog.types.size := of_decide_eq_true (by kernel_rfl); omega⟩
theorem key_deed (k n : Int) (hk : Fits k) (hn : Fits n) : ∃ l, keyOf Tryz.prog 39 (dV k n) = some l := by
 obtain ⟨d, hd⟩ := types_three
 have h1 : Tryz.prog.keyType 39 = true := by kernel_rfl
 have h0 : Tryz.prog.cellsOf 39 = 2 := by kernel_rfl
 have h3 : Tryz.prog.cellsOf 3 = 1 := by kernel_rfl
 have w0 : (Lit.int .i64 k).wf = true := WalkArith.wf_i64 hk
 have w1 : (Lit.int .i64 n).wf = true := WalkArith.wf_i64 hn
 refine Option.isSome_iff_exists.1 ?_
 unfold keyOf dV
 rw [Tryz.underlying39, hd]
 simp [h1, Value.formed, Tryz.underlying39, h0, Value.cells, Program.keyLits, h3, Tryz.underlying3, w0, w1]
theorem equal_deed {k n k' n' : Int} (hk : Fits k) (hn : Fits n) (hk' : Fits k') (hn' : Fits n') (w : World) :
 (Op.equalIn 10000 39 (.agg #[.int .i64 k, .int .i64 n]) (.agg #[.int .i64 k', .int .i64 n'])).run Tryz.prog w = .ok (decide (k = k' ∧ n = n')) w := by
 obtain ⟨l, hl⟩ := key_deed k n hk hn
 obtain ⟨m, hm⟩ := key_deed k' n' hk' hn'
 obtain ⟨r, h1, h2⟩ := run_equal_deep (P := Tryz.prog) w (m := Tryz.prog.types.size + 1) (of_decide_eq_true (by kernel_rfl)) (k := 39) (by kernel_rfl) (by kernel_rfl) hl hm
 have h3 : r = decide (k = k' ∧ n = n') := by
  rw [Bool.eq_iff_iff, h2, decide_eq_true_eq]
  constructor
  · intro e
    subst e
    have := keyedDeed.inj hl hm
    unfold dV at this
    simpa using this
  · rintro ⟨rfl, rfl⟩
    rw [hl] at hm
    injection hm
 rw [← h3]
 exact h1
theorem decF_small (n : Nat) (h : n < 100) : (decF 20 n).length ≤ 2 := by
 unfold decF
 split
 · simp
 · rw [decF_low _ _ (by omega)]; simp
set_option maxRecDepth 100000 in
set_option maxHeartbeats 2000000 in
theorem specDeedText (k n : Int) (hk : Fits k) (hn : Fits n) (w : World) : Calls Tryz.prog 86 #[dV k n] w fun e w' => e = .returned (.string (str (deedT k n))) ∧ Below w.heap.size w w' := by
 have hB0 : Below w.heap.size w (w.alloc (.cells #[.int .i64 k, .int .i64 n] 39)) := (Below.refl _ w).alloc (Nat.le_refl _) _
 have q2 := equal_deed hk hn (k' := 2) (n' := 0) (by constructor <;> omega) (by constructor <;> omega) (w.alloc (.cells #[.int .i64 k, .int .i64 n] 39))
 have q3 := equal_deed hk hn (k' := 3) (n' := 0) (by constructor <;> omega) (by constructor <;> omega) (w.alloc (.cells #[.int .i64 k, .int .i64 n] 39))
 have q4 := equal_deed hk hn (k' := 4) (n' := 0) (by constructor <;> omega) (by constructor <;> omega) (w.alloc (.cells #[.int .i64 k, .int .i64 n] 39))
 have q5 := equal_deed hk hn (k' := 5) (n' := 0) (by constructor <;> omega) (by constructor <;> omega) (w.alloc (.cells #[.int .i64 k, .int .i64 n] 39))
 unfold dV
 by_cases h0 : k = 0 ∧ 0 ≤ n ∧ n ≤ 99
 · obtain ⟨rfl, h1, h2⟩ := h0
   obtain ⟨m, rfl⟩ : ∃ m : Nat, n = m := ⟨n.toNat, by omega⟩
   have hN := fun V => specNumber 20 m (lL9 (show m < 100 by omega) (by decide)) (by omega) (by omega) V
   have happ := str_app [102, 108, 105, 112, 32] (decF 20 m)
   have hsz := str_size (decF 20 m)
   have hsl := decF_small m (by omega)
   have hd : deedT 0 m = [102, 108, 105, 112, 32] ++ decF 20 m := by unfold deedT; rw [if_pos ⟨rfl, h1, h2⟩]; rfl
   rw [hd]
   obtain ⟨X, hX⟩ : ∃ X, str (decF 20 m) = X := ⟨_, rfl⟩
   obtain ⟨Z, hZ⟩ : ∃ Z, str ([102, 108, 105, 112, 32] ++ decF 20 m) = Z := ⟨_, rfl⟩
   rw [hX] at hN happ hsz
   rw [hZ] at happ ⊢
   have happ2 : (⟨#[102, 108, 105, 112, 32]⟩ : ByteArray) ++ X = Z := happ
   have hXs : X.size ≤ 100 := by omega
   clear q2 q3 q4 q5 hd hX hZ hsz hsl happ
   go_enter Tryz.func86, Tryz.ntmps86
   go_wp2_with (first
    | (go_at_call 95; refine (l1In_t _ _ _ _ (by omega) (by omega)).mono ?_; rintro e w' ⟨rfl, rfl⟩)
    | (go_at_call 67; refine (hN _).mono ?_; rintro e w3 ⟨rfl, hB3⟩))
   go_ret
   exact ⟨rfl, hB0.trans (hB3.mono hB0.size)⟩
 by_cases h1 : k = 1 ∧ 0 ≤ n ∧ n ≤ 9
 · obtain ⟨rfl, h1, h2⟩ := h1
   obtain ⟨m, rfl⟩ : ∃ m : Nat, n = m := ⟨n.toNat, by omega⟩
   have hN := fun V => specNumber 20 m (lL9 (show m < 100 by omega) (by decide)) (by omega) (by omega) V
   have happ := str_app [112, 117, 116, 32] (decF 20 m)
   have hsz := str_size (decF 20 m)
   have hsl := decF_small m (by omega)
   have hd : deedT 1 m = [112, 117, 116, 32] ++ decF 20 m := by unfold deedT; rw [if_neg (by omega), if_pos ⟨rfl, h1, h2⟩]; rfl
   rw [hd]
   obtain ⟨X, hX⟩ : ∃ X, str (decF 20 m) = X := ⟨_, rfl⟩
   obtain ⟨Z, hZ⟩ : ∃ Z, str ([112, 117, 116, 32] ++ decF 20 m) = Z := ⟨_, rfl⟩
   rw [hX] at hN happ hsz
   rw [hZ] at happ ⊢
   have happ2 : (⟨#[112, 117, 116, 32]⟩ : ByteArray) ++ X = Z := happ
   have hXs : X.size ≤ 100 := by omega
   clear q2 q3 q4 q5 hd hX hZ hsz hsl happ
   go_enter Tryz.func86, Tryz.ntmps86
   go_wp2_with (first
    | (go_at_call 95; refine (l1In_t _ _ _ _ (by omega) (by omega)).mono ?_; rintro e w' ⟨rfl, rfl⟩)
    | (go_at_call 67; refine (hN _).mono ?_; rintro e w3 ⟨rfl, hB3⟩))
   go_ret
   exact ⟨rfl, hB0.trans (hB3.mono hB0.size)⟩
 by_cases h2 : k = 2 ∧ n = 0
 · obtain ⟨rfl, rfl⟩ := h2
   have hd : deedT 2 0 = [117, 110, 100, 101, 114] := rfl
   rw [hd]
   have e2 : decide ((2 : Int) = 2 ∧ (0 : Int) = 0) = true := by decide
   have e3 : decide ((2 : Int) = 3 ∧ (0 : Int) = 0) = false := by decide
   have e4 : decide ((2 : Int) = 4 ∧ (0 : Int) = 0) = false := by decide
   have e5 : decide ((2 : Int) = 5 ∧ (0 : Int) = 0) = false := by decide
   rw [e2] at q2
   rw [e3] at q3
   rw [e4] at q4
   rw [e5] at q5
   clear hd e2 e3 e4 e5
   go_enter Tryz.func86, Tryz.ntmps86
   go_wp2
   go_ret
   exact ⟨rfl, hB0⟩
 by_cases h3 : k = 3 ∧ n = 0
 · obtain ⟨rfl, rfl⟩ := h3
   have hd : deedT 3 0 = [116, 117, 114, 110] := rfl
   rw [hd]
   have e2 : decide ((3 : Int) = 2 ∧ (0 : Int) = 0) = false := by decide
   have e3 : decide ((3 : Int) = 3 ∧ (0 : Int) = 0) = true := by decide
   have e4 : decide ((3 : Int) = 4 ∧ (0 : Int) = 0) = false := by decide
   have e5 : decide ((3 : Int) = 5 ∧ (0 : Int) = 0) = false := by decide
   rw [e2] at q2
   rw [e3] at q3
   rw [e4] at q4
   rw [e5] at q5
   clear hd e2 e3 e4 e5
   go_enter Tryz.func86, Tryz.ntmps86
   go_wp2
   go_ret
   exact ⟨rfl, hB0⟩
 by_cases h4 : k = 4 ∧ n = 0
 · obtain ⟨rfl, rfl⟩ := h4
   have hd : deedT 4 0 = [114, 111, 117, 110, 100] := rfl
   rw [hd]
   have e2 : decide ((4 : Int) = 2 ∧ (0 : Int) = 0) = false := by decide
   have e3 : decide ((4 : Int) = 3 ∧ (0 : Int) = 0) = false := by decide
   have e4 : decide ((4 : Int) = 4 ∧ (0 : Int) = 0) = true := by decide
   have e5 : decide ((4 : Int) = 5 ∧ (0 : Int) = 0) = false := by decide
   rw [e2] at q2
   rw [e3] at q3
   rw [e4] at q4
   rw [e5] at q5
   clear hd e2 e3 e4 e5
   go_enter Tryz.func86, Tryz.ntmps86
   go_wp2
   go_ret
   exact ⟨rfl, hB0⟩
 by_cases h5 : k = 5 ∧ n = 0
 · obtain ⟨rfl, rfl⟩ := h5
   have hd : deedT 5 0 = [98, 97, 99, 107] := rfl
   rw [hd]
   have e2 : decide ((5 : Int) = 2 ∧ (0 : Int) = 0) = false := by decide
   have e3 : decide ((5 : Int) = 3 ∧ (0 : Int) = 0) = false := by decide
   have e4 : decide ((5 : Int) = 4 ∧ (0 : Int) = 0) = false := by decide
   have e5 : decide ((5 : Int) = 5 ∧ (0 : Int) = 0) = true := by decide
   rw [e2] at q2
   rw [e3] at q3
   rw [e4] at q4
   rw [e5] at q5
   clear hd e2 e3 e4 e5
   go_enter Tryz.func86, Tryz.ntmps86
   go_wp2
   go_ret
   exact ⟨rfl, hB0⟩
 have hd : deedT k n = [] := by
  unfold deedT
  rw [if_neg h0, if_neg h1, if_neg h2, if_neg h3, if_neg h4, if_neg h5]
 rw [hd]
 rw [decide_eq_false h2] at q2
 rw [decide_eq_false h3] at q3
 rw [decide_eq_false h4] at q4
 rw [decide_eq_false h5] at q5
 have g2 := hide h2
 have g3 := hide h3
 have g4 := hide h4
 have g5 := hide h5
 clear hd h2 h3 h4 h5
 by_cases k0 : k = 0
 · subst k0
   have hb : n < 0 ∨ 99 < n := by omega
   clear h0 h1
   go_enter Tryz.func86, Tryz.ntmps86
   go_wp2_with (go_at_call 95; refine (l1In_f _ _ _ _ (by assumption)).mono ?_; rintro e w' ⟨rfl, rfl⟩)
   go_ret
   exact ⟨rfl, hB0⟩
 · by_cases k1 : k = 1
   · subst k1
     have hb : n < 0 ∨ 9 < n := by omega
     clear h0 h1
     go_enter Tryz.func86, Tryz.ntmps86
     go_wp2_with (go_at_call 95; refine (l1In_f _ _ _ _ (by assumption)).mono ?_; rintro e w' ⟨rfl, rfl⟩)
     go_ret
     exact ⟨rfl, hB0⟩
   · have b0 : (k == 0) = false := by rw [beq_eq_false_iff_ne]; exact k0
     have b1 : (k == 1) = false := by rw [beq_eq_false_iff_ne]; exact k1
     clear h0 h1
     go_enter Tryz.func86, Tryz.ntmps86
     go_wp2
     all_goals try subst_vars
     all_goals first
      | exact absurd ⟨rfl, rfl⟩ g2.out
      | exact absurd ⟨rfl, rfl⟩ g3.out
      | exact absurd ⟨rfl, rfl⟩ g4.out
      | exact absurd ⟨rfl, rfl⟩ g5.out
      | (go_ret; exact ⟨rfl, hB0⟩)
end
section
open Go.RowKit Go.Shelf
attribute [local go_sem] Oper.semAt_some
def cellsD (L : List (Int × Int)) : List Value := L.flatMap fun a => [.int .i64 a.1, .int .i64 a.2]
theorem cellsD_cons (a : Int × Int) (L : List (Int × Int)) : cellsD (a :: L) = .int .i64 a.1 :: .int .i64 a.2 :: cellsD L := rfl
theorem cellsD_at : ∀ (L : List (Int × Int)) (k : Nat), k < L.length → (cellsD L)[2 * k]? = some (.int .i64 (L.getD k (0, 0)).1) ∧ (cellsD L)[2 * k + 1]? = some (.int .i64 (L.getD k (0, 0)).2)
 | a :: L, 0, _ => ⟨rfl, rfl⟩
 | a :: L, k + 1, h => by
   have ih := cellsD_at L k (by simpa using h)
   rw [cellsD_cons, show 2 * (k + 1) = 2 * k + 1 + 1 by omega]
   exact ⟨ih.1, ih.2⟩
theorem deeds_open {w : World} {base n : Nat} {v : Value} {L : List (Int × Int)} (h : w.ownsRow base 39 2 v n (cellsD L)) (hn : 0 < n) (hL : L.length = n) :
 ∃ g cap, v = .slice (some ⟨g, 0, none⟩) n cap ∧ base ≤ g ∧ g < w.heap.size ∧ ∀ k, k < n → w.cell? ⟨g, 2 * k, none⟩ = some (.int .i64 (L.getD k (0, 0)).1) ∧ w.cell? ⟨g, 2 * k + 1, none⟩ = some (.int .i64 (L.getD k (0, 0)).2) := by
 rcases h.2 with ⟨_, h0⟩ | ⟨g, cap, cur, rfl, hb, hg, hc, _, hs, ht⟩
 · omega
 · refine ⟨g, cap, rfl, hb, (gE9.1 hg).1, fun k hk => ?_⟩
   have hat := cellsD_at L k (by omega)
   have hcell : ∀ j u, j < n * 2 → (cellsD L)[j]? = some u → w.cell? ⟨g, j, none⟩ = some u := fun j u hj hu => by
    rw [← ht, List.getElem?_take] at hu
    rw [if_pos hj] at hu
    simp [World.cell?, hg]
    rw [← Array.getElem?_toList]; exact hu
   exact ⟨hcell _ _ (by omega) hat.1, hcell _ _ (by omega) hat.2⟩
theorem Tryz.infoDeed : (Tryz.prog.info? 39).map (fun i => (i.zero, i.size, i.bytes)) = some (some (.agg #[.int .i64 0, .int .i64 0]), 2, 16) := by kernel_rfl
def rdV (l : List Nat) : (Int × Int) × Bool := match readD l with | some a => (a, true) | none => ((0, 0), false)
theorem rd_some {l : List Nat} {a : Int × Int} (h : readD l = some a) : rdV l = (a, true) := by unfold rdV; rw [h]
theorem rd_none {l : List Nat} (h : readD l = none) : rdV l = ((0, 0), false) := by unfold rdV; rw [h]
theorem digL_small : ∀ (r : List Nat) (n m j : Nat), digL r n = some m → n < 10 ^ j → m < 10 ^ (j + r.length)
 | [], n, m, j, h, hn => by
   injection h with h
   subst h
   exact hn
 | c :: r, n, m, j, h, hn => by
   rw [digL_cons] at h
   split at h
   · have := digL_small r _ m (j + 1) h (by rw [Nat.pow_succ]; omega)
     rw [List.length_cons, show j + (r.length + 1) = j + 1 + r.length by omega]
     exact this
   · cases h
theorem digT_small {l : List Nat} {n : Nat} (h : digT l = some n) : n < 1000000000 := by
 unfold digT at h
 split at h
 · rename_i hl
   have := digL_small l 0 n 0 h (by decide)
   exact lL9 this (lT9 (Nat.pow_le_pow_right (by omega) (show 0 + l.length ≤ 9 by omega)) (by decide))
 · cases h
theorem secI_fits (l : List Nat) : Fits (secI l) ∧ secI l ≤ 999999999 ∧ -1 ≤ secI l := by
 unfold secI
 split
 · rename_i n h
   have := digT_small h
   exact ⟨by constructor <;> omega, by omega, by omega⟩
 · exact ⟨by constructor <;> omega, by omega, by omega⟩
theorem fits_cand {l : List Nat} : ∀ a ∈ candD l, Fits a.1 ∧ Fits a.2 := by
 intro a ha
 unfold candD at ha
 rcases List.mem_append.1 ha with h | h
 · simp at h
   rcases h with rfl | rfl | rfl | rfl <;> exact ⟨by constructor <;> simp, by constructor <;> simp⟩
 · split at h
   · simp at h
     rcases h with rfl | rfl
     · exact ⟨by constructor <;> simp, (secI_fits l).1⟩
     · exact ⟨by constructor <;> simp, (secI_fits l).1⟩
   · cases h
theorem cand_len (l : List Nat) : (candD l).length ≤ 6 := by
 unfold candD
 split <;> simp
theorem word_mem (L : List (List Nat)) (k : Nat) (h : k < L.length) : L.getD k [] ∈ L := by
 rw [List.getD, eG9 h]; exact List.getElem_mem h
theorem word_cells {w : World} {g : Nat} {L : List (List Nat)} (h : ∀ j u, (L.map txt)[j]? = some u → w.cell? ⟨g, j, none⟩ = some u) : ∀ j, j < L.length → w.cell? ⟨g, j, none⟩ = some (txt (L.getD j [])) := fun j hj => h j _ (by
 rw [List.getElem?_map, eG9 hj, List.getD, eG9 hj]; rfl)
theorem own_more {w w' : World} {base n size : Nat} {e : TypeId} {v : Value} {xs : List Value} (h : w.ownsRow base e size v n xs) (hB : Below w.heap.size w w') : w'.ownsRow base e size v n xs :=
 h.kept (row := none) ⟨hB.os, hB.tape, hB.output, hB.size, fun k hk _ => hB.block k hk⟩ (by cases v.ownBlock <;> simp)
theorem set_cells {W : World} {b : Nat} {cur : Array Value} {t : TypeId} (h : W.heap[b]? = some (.cells cur t (0, 0))) (p : Nat) (v : Value) : (W.setCell ⟨b, p, none⟩ v).heap[b]? = some (.cells (cur.setIfInBounds p v) t (0, 0)) := by
 obtain ⟨hlt, hk⟩ := gE9.1 h
 show (W.heap.modify b _)[b]? = _
 rw [Array.getElem?_eq_getElem (by rw [Array.size_modify]; exact hlt), Array.getElem_modify_self, hk]; rfl
theorem deed_set {W : World} {B : Nat} {x y : Value} (h : W.heap[B]? = some (.cells #[x, y] 39 (0, 0))) (k n : Int) :
 ((W.setCell ⟨B, 0, none⟩ (.int .i64 k)).setCell ⟨B, 1, none⟩ (.int .i64 n)).heap[B]? = some (.cells #[.int .i64 k, .int .i64 n] 39 (0, 0)) := set_cells (set_cells h 0 _) 1 _
theorem results_deed {fn : Func} {p u : Tmp} (h : fn.results = #[.cell p 39, .tmp u]) (tmps : Array Value) (w : World) (B : Nat) (k n : Int) (hp : tmps.getD p undef = .pointer (some ⟨B, 0, none⟩))
 (hb : w.heap[B]? = some (.cells #[.int .i64 k, .int .i64 n] 39 (0, 0))) : (results fn tmps).run Tryz.prog w = .ok (.tuple #[dV k n, tmps.getD u undef]) w := by
 have hl : (loadVar 39 ⟨B, 0, none⟩).run Tryz.prog w = .ok (dV k n) w := run_loadVar_row w B _ 39 #[.int .i64 k, .int .i64 n] (0, 0) _ hb Tryz.underlying39 rfl (by kernel_rfl)
 have hp' : tmps[p]?.getD undef = .pointer (some ⟨B, 0, none⟩) := by simpa using hp
 simp [results, h, hp', asAddr, hl, Result.andThen]
theorem cutL_mem (sep : Nat) : ∀ (r line : List Nat), ∀ x ∈ cutL sep line r, (∀ c ∈ x, c ∈ line ∨ c ∈ r) ∧ x.length ≤ line.length + r.length
 | [], line, x, hx => by
   have : x = line := by simpa [cutL] using hx
   subst this
   exact ⟨fun c hc => .inl hc, by simp⟩
 | c :: r, line, x, hx => by
   by_cases e : c = sep
   · subst e
     rw [cutL_hit] at hx
     rcases List.mem_cons.1 hx with rfl | hx
     · exact ⟨fun c hc => .inl hc, by omega⟩
     · obtain ⟨h1, h2⟩ := cutL_mem c r [] x hx
       exact ⟨fun y hy => .inr (List.mem_cons_of_mem _ ((h1 y hy).resolve_left (by simp))), by simp at h2 ⊢; omega⟩
   · rw [cutL_other e] at hx
     obtain ⟨h1, h2⟩ := cutL_mem sep r (line ++ [c]) x hx
     refine ⟨fun y hy => ?_, by simp at h2 ⊢; omega⟩
     rcases h1 y hy with h | h
     · rcases List.mem_append.1 h with h | h
       · exact .inl h
       · exact .inr (by simp at h; simp [h])
     · exact .inr (List.mem_cons_of_mem _ h)
theorem cutL_pos (sep : Nat) : ∀ (r line : List Nat), 0 < (cutL sep line r).length
 | [], line => by simp [cutL]
 | c :: r, line => by
   by_cases e : c = sep
   · subst e; rw [cutL_hit]; simp
   · rw [cutL_other e]; exact cutL_pos sep r _
end
end Go.Proofs.YtiaaefapbcjgmaaGreatDoor
