/-
  The program's TriangleOk and GapOk: for every argument what they hand back, and nothing that was there is written.
-/
import Derived.Test.YtjghhmgnbcabdaaImpl6
namespace Go.Proofs.Ytjghhmgnbcabdaa
open Go.RowKit Go.Shelf Go.BigFrame

/-- Something holds of each row and place of the first triangle. -/
def each (H : Nat → Nat → Bool) (R : Nat) : Bool := decide (∀ i, i < R → ∀ j, j < i + 1 → H i j = true)

set_option maxHeartbeats 1000000 in
theorem each_tri (J : World → Prop) (R : Nat) (hR : R ≤ 64) (H : Nat → Nat → Bool) (a b c d : Value)
    (hcall : ∀ W (i j : Nat), J W → i < R → j < i + 1 → Calls Try.prog 48 #[.int .i64 i, .int .i64 j, a, b, c, d] W fun e w' => e = .returned (.bool (H i j)) ∧ J w') (w : World) (hw : J w) :
    Calls Try.prog 47 #[.int .i64 R, .func (.func 48) #[] #[a, b, c, d]] w fun e w' => e = .returned (.bool (each H R)) ∧ J w' := by
  obtain ⟨S, hS⟩ : ∃ S, each H R = S := ⟨_, rfl⟩
  rw [hS]
  have hS' := hide hS
  clear hS
  go_enter Try.func47, Try.ntmps47
  go_wp2
  go_loopw [8] (fun i wr => ∃ n : Nat, n ≤ R ∧ i = .int .i64 n ∧ Hid (∀ m, m < n → ∀ k, k < m + 1 → H m k = true) ∧ J wr) (fun i _ => R - (intOf i).toNat)
  case atStart => exact ⟨0, Nat.zero_le _, rfl, hide (fun m hm => by omega), hw⟩
  case round =>
    clear hw
    obtain ⟨n, hn, rfl, hall, hJ⟩ := hrel
    by_cases hlt : n < R
    · have hni : (n : Int) < (R : Int) := by omega
      go_wp2
      go_loopw [13] (fun i wi => ∃ k : Nat, k ≤ n + 1 ∧ i = .int .i64 k ∧ Hid (∀ j, j < k → H n j = true) ∧ J wi) (fun i _ => n + 1 - (intOf i).toNat)
      case atStart => exact ⟨0, Nat.zero_le _, rfl, hide (fun m hm => by omega), hJ⟩
      case round =>
        clear hJ
        obtain ⟨k, hk, rfl, hrow, hJ⟩ := hrel
        by_cases hkn : k < n + 1
        · have hki : (k : Int) < (n : Int) + 1 := by omega
          have hc := hcall wr n k hJ hlt hkn
          obtain ⟨v, hv⟩ : ∃ v, H n k = v := ⟨_, rfl⟩
          rw [hv] at hc
          have hv' := hide hv
          clear hcall hv
          cases v with
          | true =>
            have hrow' : Hid (∀ j, j < k + 1 → H n j = true) := hide (fun j hj => by
              by_cases e : j = k
              · subst e; exact hv'.out
              · exact hrow.out j (by omega))
            clear hrow hv'
            go_wp2_with (go_at_call 48; (with_reducible refine hc.mono ?_); clear hc; rintro e w' ⟨rfl, hJ'⟩)
            go_roundw
            case rel => exact ⟨k + 1, by omega, by go_num, hrow', hJ'⟩
            case measure => simp [intOf]; omega
          | false =>
            obtain rfl : S = false := by
              rw [← hS'.out]
              unfold each
              rw [decide_eq_false_iff_not]
              exact fun h => by have := h n hlt k hkn; rw [hv'.out] at this; cases this
            clear hrow hv'
            go_wp2_with (go_at_call 48; (with_reducible refine hc.mono ?_); clear hc; rintro e w' ⟨rfl, hJ'⟩)
            go_ret
            exact ⟨rfl, hJ'⟩
        · obtain rfl : k = n + 1 := by omega
          have hki : ¬ (n : Int) + 1 < (n : Int) + 1 := by omega
          have hall' : Hid (∀ m, m < n + 1 → ∀ k, k < m + 1 → H m k = true) := hide (fun m hm j hjm => by
            by_cases e : m = n
            · subst e; exact hrow.out j hjm
            · exact hall.out m (by omega) j hjm)
          clear hrow hcall
          go_wp2
          go_roundw
          case rel => exact ⟨n + 1, by omega, by go_num, hall', hJ⟩
          case measure => simp [intOf]; omega
    · obtain rfl : n = R := by omega
      obtain rfl : S = true := by
        rw [← hS'.out]
        unfold each
        rw [decide_eq_true_eq]
        exact hall.out
      clear hcall
      go_wp2
      go_ret
      exact ⟨rfl, hJ⟩

/-- What the triangle's closure reads: the small triangle, both corners, the number and the prime. -/
structure TriJ (w0 : World) (R p N K T a b c d x y z x' y' z' : Nat) (w : World) : Prop where
  sm : Sm w R p
  here : Cor w R x y z N K
  first : Cor w R x' y' z' (0 : Nat) (0 : Nat)
  bh : Boxed w a 32 (fromF x y z)
  bt : Boxed w b 3 (.int .i64 T)
  bf : Boxed w c 32 (fromF x' y' z')
  bp : Boxed w d 3 (.int .i64 p)
  bel : Below w0.heap.size w0 w
  up : w0.heap.size ≤ R
  ne : a ≠ R ∧ b ≠ R ∧ c ≠ R ∧ d ≠ R ∧ x ≠ R ∧ y ≠ R ∧ z ≠ R ∧ x' ≠ R ∧ y' ≠ R ∧ z' ≠ R
theorem TriJ.grown {w0 : World} {R p N K T a b c d x y z x' y' z' : Nat} {w w' : World} (h : TriJ w0 R p N K T a b c d x y z x' y' z' w) (hS : Sm w' R p) (hg : w.grownBy w' (some R)) : TriJ w0 R p N K T a b c d x y z x' y' z' w' := by
  obtain ⟨h1, h2, h3, h4, h5, h6, h7, h8, h9, n1, n2, n3, n4, n5, n6, n7, n8, n9, n10⟩ := h
  have q : ∀ {a : Nat}, a ≠ R → some a ≠ some R := fun h e => h (Option.some.inj e)
  exact ⟨hS, h2.kept hg (q n5) (q n6) (q n7), h3.kept hg (q n8) (q n9) (q n10), h4.kept hg (q n1), h5.kept hg (q n2), h6.kept hg (q n3), h7.kept hg (q n4), h8.grown hg h8.size (fun k e => by cases e; exact h9), h9, n1, n2, n3, n4, n5, n6, n7, n8, n9, n10⟩
theorem TriJ.drew {w0 : World} {R p N K T a b c d x y z x' y' z' : Nat} {w : World} (h : TriJ w0 R p N K T a b c d x y z x' y' z' w) : TriJ w0 R p N K T a b c d x y z x' y' z' w.drew :=
  h.grown h.sm.drew (grownBy_drew (grownBy_refl _ _))

set_option maxRecDepth 100000 in
set_option maxHeartbeats 1000000 in
theorem tri_call (w0 : World) (R p N K T a b c d x y z x' y' z' i j : Nat) (hp : prm p) (hN : N ≤ 100000) (hK : K ≤ N) (hT : T < p) (hi : i < 64) (hj : j < i + 1) (w : World) (h : TriJ w0 R p N K T a b c d x y z x' y' z' w) :
    Calls Try.prog 48 #[.int .i64 i, .int .i64 j, .pointer (some ⟨a, 0, none⟩), .pointer (some ⟨b, 0, none⟩), .pointer (some ⟨c, 0, none⟩), .pointer (some ⟨d, 0, none⟩)] w fun e w' => e = .returned (.bool (leftN p (N + i) (K + j) == T * leftN p i j % p)) ∧ TriJ w0 R p N K T a b c d x y z x' y' z' w' := by
  have hp2 := prm_two hp
  obtain ⟨J, hJ⟩ : ∃ J, TriJ w0 R p N K T a b c d x y z x' y' z' = J := ⟨_, rfl⟩
  have ch : ∀ n : Keep J, n.now.cell? ⟨a, 0, none⟩ = some (fromF x y z) := fun n => (hJ ▸ n.ok : TriJ w0 R p N K T a b c d x y z x' y' z' n.now).bh.cell
  have ct : ∀ n : Keep J, n.now.cell? ⟨b, 0, none⟩ = some (.int .i64 T) := fun n => (hJ ▸ n.ok : TriJ w0 R p N K T a b c d x y z x' y' z' n.now).bt.cell
  have cf : ∀ n : Keep J, n.now.cell? ⟨c, 0, none⟩ = some (fromF x' y' z') := fun n => (hJ ▸ n.ok : TriJ w0 R p N K T a b c d x y z x' y' z' n.now).bf.cell
  have cp : ∀ n : Keep J, n.now.cell? ⟨d, 0, none⟩ = some (.int .i64 p) := fun n => (hJ ▸ n.ok : TriJ w0 R p N K T a b c d x y z x' y' z' n.now).bp.cell
  have c1 : ∀ n : Keep J, Calls Try.prog 68 #[.int .i64 i, .int .i64 j, .pointer (some ⟨x, 0, none⟩), .pointer (some ⟨y, 0, none⟩), .pointer (some ⟨z, 0, none⟩)] n.now fun e w' => e = .returned (.int .i64 (leftN p (N + i) (K + j) : Nat)) ∧ J w' := fun n => by
    have hn : TriJ w0 R p N K T a b c d x y z x' y' z' n.now := hJ ▸ n.ok
    exact (here_in R p x y z N K i j hp (by omega) (by omega) n.now hn.sm hn.here).mono fun e w' ⟨e1, e2, e3⟩ => ⟨e1, hJ ▸ hn.grown e2 e3⟩
  have c2 : ∀ n : Keep J, Calls Try.prog 68 #[.int .i64 i, .int .i64 j, .pointer (some ⟨x', 0, none⟩), .pointer (some ⟨y', 0, none⟩), .pointer (some ⟨z', 0, none⟩)] n.now fun e w' => e = .returned (.int .i64 (leftN p i j : Nat)) ∧ J w' := fun n => by
    have hn : TriJ w0 R p N K T a b c d x y z x' y' z' n.now := hJ ▸ n.ok
    have := here_in R p x' y' z' 0 0 i j hp (by omega) (by omega) n.now hn.sm hn.first
    rw [Nat.zero_add, Nat.zero_add] at this
    exact this.mono fun e w' ⟨e1, e2, e3⟩ => ⟨e1, hJ ▸ hn.grown e2 e3⟩
  have hJ0 : J w.drew := by rw [← hJ]; exact h.drew
  haveI : Nonempty (Keep J) := ⟨⟨_, hJ0⟩⟩
  have hJ' := hide hJ
  have hx2 := leftN_prime hp (N + i) (K + j)
  have hy2 := leftN_prime hp i j
  obtain ⟨u, hu⟩ : ∃ u, leftN p (N + i) (K + j) = u := ⟨_, rfl⟩
  obtain ⟨v, hv⟩ : ∃ v, leftN p i j = v := ⟨_, rfl⟩
  rw [hu] at c1 hx2
  rw [hv] at c2 hy2
  rw [hu, hv]
  obtain ⟨D, hD⟩ : ∃ D, T * v = D := ⟨_, rfl⟩
  have hDi : (T : Int) * (v : Int) = (D : Int) := by rw [← hD]; simp
  have hDl : D ≤ 13 * 13 := by rw [← hD]; exact Nat.mul_le_mul (by omega) (by omega)
  rw [hD]
  have hq := tmod_n D p
  have hql := Nat.mod_lt D (show 0 < p by omega)
  generalize D % p = E at *
  have hb := cast_beq u E
  rw [← hb]
  clear hb hu hv hD hJ h
  have hw1 : IntKind.i64.wrap (D : Int) = D := IntWalk.i64_in _ (by omega)
  have hw2 : IntKind.i64.wrap (E : Int) = E := IntWalk.i64_in _ (by omega)
  have hp0 : ((p : Int) == 0) = false := by simp; omega
  unfold fromF at ch cf
  go_enter Try.func48, Try.ntmps48
  go_wp2_with fail
  refine wp_region_keep J (by kernel_rfl) (by kernel_rfl) hJ0 ?_
  repeat (go_big_quiet_step (first | (go_at_call 68; with_reducible exact keep_of (c1 _)) | (go_at_call 68; with_reducible exact keep_of (c2 _))))
  refine wpQuiet_nil ?_
  rintro _ ⟨nq, rfl⟩
  go_wp2
  go_ret
  exact ⟨rfl, by rw [hJ'.out]; exact nq.ok⟩
end Go.Proofs.Ytjghhmgnbcabdaa
