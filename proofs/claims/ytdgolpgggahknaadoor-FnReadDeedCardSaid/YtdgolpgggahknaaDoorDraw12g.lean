/-
  The draws of chapter 12: a text with a byte of it changed.
-/
import Derived.Test.YtdgolpgggahknaaDoorDraw12f
namespace Go.Proofs.YtdgolpgggahknaaDoor
open Go Go.RowKit
attribute [local go_sem] Oper.semAt_some

/-- A text of at most m bytes. -/
def TxtLe (m : Nat) (v : Value) : Prop := ∃ l : List Nat, v = .string (str l) ∧ (∀ x ∈ l, x < 256) ∧ l.length ≤ m
/-- What a byte becomes. -/
def spL (j : Nat) : List Nat := match j with
  | 1 => [48]
  | 2 => [32]
  | 3 => [10]
  | 4 => [45]
  | 5 => [98, 97, 99, 107]
  | _ => []
theorem spL_le : ∀ j, (∀ x ∈ spL j, x < 256) ∧ (spL j).length ≤ 4 := fun j => by
  unfold spL
  split <;> simp
theorem cut_le (l : List Nat) (hl : ∀ x ∈ l, x < 256) (a b : Nat) : TxtLe l.length (.string ((str l).extract a b)) := by
  rw [str_cut]
  exact ⟨_, rfl, fun x hx => hl x (List.mem_of_mem_drop (List.mem_of_mem_take hx)), by simp; omega⟩

theorem app_le {m n t : Nat} {v u : Value} (hv : TxtLe m v) (hu : TxtLe n u) (ht : m + n ≤ t) (_hs : t ≤ 100000) :
    ∃ A, v = .string A ∧ A.size ≤ m ∧ ∃ C, u = .string C ∧ (C.size ≤ n ∧ A.size + C.size ≤ t ∧ TxtLe t (.string (A ++ C))) := by
  obtain ⟨a, rfl, ha, hb⟩ := hv
  obtain ⟨c, rfl, hc, hd⟩ := hu
  refine ⟨_, rfl, by rw [str_size]; exact hb, _, rfl, by rw [str_size]; exact hd, by rw [str_size, str_size]; omega, a ++ c, by rw [str_app], fun x hx => ?_, by rw [List.length_append]; omega⟩
  rcases List.mem_append.1 hx with h | h
  · exact ha x h
  · exact hc x h
theorem spl_cells (V : World) : ∀ j, j < 6 → (V.alloc (.cells #[.string ⟨#[]⟩, .string ⟨#[48]⟩, .string ⟨#[32]⟩, .string ⟨#[10]⟩, .string ⟨#[45]⟩, .string ⟨#[98, 97, 99, 107]⟩] 9)).cell? ⟨V.heap.size, j, none⟩ = some (.string (str (spL j))) := fun j hj => by
  rw [World.cell?_alloc_at _ _ _ _ rfl]
  rcases (show j = 0 ∨ j = 1 ∨ j = 2 ∨ j = 3 ∨ j = 4 ∨ j = 5 by omega) with rfl | rfl | rfl | rfl | rfl | rfl <;> kernel_rfl
set_option maxRecDepth 100000 in
set_option maxHeartbeats 2000000 in
theorem l20Spoil_in (W0 : World) (R len cap p : Nat) (a : Option Addr) (w : World) (hb : Bytes W0 a len) (h : Rd W0 R a len cap w p) (hp : p ≤ 800000) (l : List Nat) (hl : ∀ x ∈ l, x < 256) (hn : l.length ≤ 900) :
    Calls Tryd.prog 41 #[.pointer (some ⟨R, 0, none⟩), .string (str l)] w fun e w' => (∃ v, e = .returned v ∧ TxtLe (2 * l.length + 10) v) ∧ ∃ p', p' ≤ p + 40 ∧ Rd W0 R a len cap w' p' ∧ w.grownBy w' (some R) := by
  have hRw := h.lt
  have hW0R := h.2.1
  have hsz := str_size l
  refine (callsIn_wide (n := 9)).1 ?_
  refine callsIn_of_wp Tryd.func41 rfl trivial ?_ rfl
  simp only [Tryd.ntmps41, List.size_toArray, List.length_cons, List.length_nil, Nat.reduceAdd, Nat.reduceSub, Array.replicate_succ, Array.replicate_zero, List.push_toArray, List.append_toArray, List.nil_append, List.cons_append]
  by_cases h0 : l.length = 0
  · obtain rfl := List.length_eq_zero_iff.1 h0
    have hfin : TxtLe (2 * ([] : List Nat).length + 10) (.string ⟨#[10]⟩) := ⟨[10], by rw [show str [10] = ⟨#[10]⟩ by kernel_rfl], by simp, by simp⟩
    have hz : (str []).size = 0 := by kernel_rfl
    obtain ⟨S, hS⟩ : ∃ S, str [] = S := ⟨_, rfl⟩
    rw [hS] at hz ⊢
    generalize 2 * ([] : List Nat).length + 10 = M at *
    clear hS hsz hl hn h0
    gi_wp2
    go_ret
    exact ⟨⟨_, rfl, hfin⟩, p, by omega, h, grownBy_refl _ _⟩
  have hcutA := hide (cut_le l hl)
  obtain ⟨S, hS⟩ : ∃ S, str l = S := ⟨_, rfl⟩
  rw [hS] at hsz hcutA ⊢
  obtain ⟨N, hN⟩ : ∃ N, l.length = N := ⟨_, rfl⟩
  rw [hN] at hsz hcutA hn h0 ⊢
  clear hS hN hl
  have hsz0 : ¬ (S.size : Int) = 0 := by omega
  have hszb : ((S.size : Int) == 0) = false := by rw [beq_eq_false_iff_ne]; exact hsz0
  gi_wp2_with fail
  refine ⟨trivial, ?_⟩
  gi_at_call 40
  refine (callsIn_wide.2 (pick_in W0 R len cap p a _ w hb h (by omega))).mono ?_
  rintro e w1 ⟨x, rfl, hx0, _, hx1, hR1, hg1, _⟩
  have hx2 := hx1 (by omega)
  obtain ⟨k, rfl⟩ : ∃ k : Nat, x = k := ⟨x.toNat, by omega⟩
  clear hx1 h
  gi_wp2_with fail
  refine wpIn_region_rd W0 R len cap (p + 1) a 1 14 [(some 13, 0), (some 14, 1), (some 15, 2), (some 16, 3), (some 17, 4), (some 18, 5), (some 19, 6), (some 20, 7), (some 21, 8), (some 22, 9), (some 23, 10), (some 24, 11), (some 25, 12), (some 26, 13)] (by omega) (by kernel_rfl) (by kernel_rfl) (by kernel_rfl) (by decide) (by decide) (by rfl) (by decide) hR1
    (fun i v V => match i with | 0 => v = .string S | 1 => v = .int .i64 k | 2 => TxtLe N v | 3 => ∃ g, v = .slice (some ⟨g, 0, none⟩) 6 6 ∧ g ≠ R ∧ g < V.heap.size ∧ ∀ j, j < 6 → V.cell? ⟨g, j, none⟩ = some (.string (str (spL j))) | 4 => v = .pointer (some ⟨R, 0, none⟩) | 5 => ∃ x : Nat, x < 6 ∧ v = .int .i64 x | 6 => ∃ g j, v = .pointer (some ⟨g, j, none⟩) ∧ g ≠ R ∧ g < V.heap.size ∧ ∃ z, TxtLe 4 z ∧ V.cell? ⟨g, j, none⟩ = some z | 7 => TxtLe 4 v | 8 => TxtLe (N + 4) v | 9 => v = .string S | 10 => v = .int .i64 k | 11 => v = .int .i64 ((k : Int) + 1) | 12 => TxtLe N v | 13 => TxtLe (2 * N + 10) v | _ => True)
    (fun i v V V' h hg => match i, h with | 0, h => h | 1, h => h | 2, h => h | 3, h => (by obtain ⟨g, h1, h2, h3, h4⟩ := h; exact ⟨g, h1, h2, Nat.lt_of_lt_of_le h3 hg.size, fun j hj => (grown_cell12 hg h3 h2 j).trans (h4 j hj)⟩) | 4, h => h | 5, h => h | 6, h => (by obtain ⟨g, j, h1, h2, h3, z, h4, h6⟩ := h; exact ⟨g, j, h1, h2, Nat.lt_of_lt_of_le h3 hg.size, z, h4, (grown_cell12 hg h3 h2 j).trans h6⟩) | 7, h => h | 8, h => h | 9, h => h | 10, h => h | 11, h => h | 12, h => h | 13, h => h | (_ + 14), _ => trivial)
    ?step ?tail
  case step =>
    rintro i oo s V q hi ho hqb hRV hgV hd Q' hQ
    rcases (show i = 0 ∨ i = 1 ∨ i = 2 ∨ i = 3 ∨ i = 4 ∨ i = 5 ∨ i = 6 ∨ i = 7 ∨ i = 8 ∨ i = 9 ∨ i = 10 ∨ i = 11 ∨ i = 12 ∨ i = 13 by omega) with rfl | rfl | rfl | rfl | rfl | rfl | rfl | rfl | rfl | rfl | rfl | rfl | rfl | rfl
    all_goals
      simp at ho
      subst ho
      simp only [putsOf, Act.put, List.setIfInBounds_toArray, List.set_cons_succ, List.set_cons_zero] at hQ ⊢
      have hQ' := hide hQ
      clear hQ
    · clear hd
      gi_wp2
      have hr := hQ'.out
      exact hr _ _ q (by omega) hRV (grownBy_refl _ _) rfl
    · clear hd
      gi_wp2
      have hr := hQ'.out
      exact hr _ _ q (by omega) hRV (grownBy_refl _ _) rfl
    · have e0 : s 0 = .string S := hd 0 (by kernel_rfl)
      have e1 : s 1 = .int .i64 k := hd 1 (by kernel_rfl)
      clear hd
      gi_wp2
      have hr := hQ'.out
      simp only [e0, e1] at hr ⊢
      exact hr _ _ q (by omega) hRV (grownBy_refl _ _) (hcutA.out _ _)
    · clear hd
      have zV := hRV.lt
      have zV2 := World.size_alloc V (.cells #[.string ⟨#[]⟩, .string ⟨#[48]⟩, .string ⟨#[32]⟩, .string ⟨#[10]⟩, .string ⟨#[45]⟩, .string ⟨#[98, 97, 99, 107]⟩] 9)
      have hcs := spl_cells V
      gi_wp2
      have hr := hQ'.out
      exact hr _ _ q (by omega) (hRV.alloc _) (World.grownBy_alloc _ _ _) ⟨V.heap.size, rfl, by omega, by rw [World.size_alloc]; omega, hcs⟩
    · clear hd
      gi_wp2
      have hr := hQ'.out
      exact hr _ _ q (by omega) hRV (grownBy_refl _ _) rfl
    · have e1 : s 4 = .pointer (some ⟨R, 0, none⟩) := hd 4 (by kernel_rfl)
      clear hd
      gi_wp2_with (refine ⟨trivial, ?_⟩; gi_at_call 40; go_loud (refine (callsIn_wide.2 (pick_in W0 R len cap q a _ V hb hRV (by omega))).mono ?_; rintro e V9 ⟨x, rfl, hx0, _, hx1, hR9, hg9, _⟩))
      have hx := hx1 (by omega)
      obtain ⟨y, rfl⟩ : ∃ y : Nat, x = y := ⟨x.toNat, by omega⟩
      have hr := hQ'.out
      simp only [e1] at hr ⊢
      exact hr _ _ (q + 1) (by omega) hR9 hg9 ⟨y, by omega, rfl⟩
    · obtain ⟨g, e1, h2, h3, h4⟩ : ∃ g, s 3 = .slice (some ⟨g, 0, none⟩) 6 6 ∧ g ≠ R ∧ g < V.heap.size ∧ ∀ j, j < 6 → V.cell? ⟨g, j, none⟩ = some (.string (str (spL j))) := hd 3 (by kernel_rfl)
      obtain ⟨y, hy, e2⟩ : ∃ x : Nat, x < 6 ∧ s 5 = .int .i64 x := hd 5 (by kernel_rfl)
      clear hd
      have hyi : (y : Int) < 6 := by omega
      have hc := h4 y hy
      have hkz : TxtLe 4 (.string (str (spL y))) := ⟨_, rfl, (spL_le y).1, (spL_le y).2⟩
      obtain ⟨z, hz⟩ : ∃ z, Value.string (str (spL y)) = z := ⟨_, rfl⟩
      rw [hz] at hc hkz
      clear h4 hz
      gi_wp2
      have hr := hQ'.out
      simp only [e1, e2] at hr ⊢
      exact hr _ _ q (by omega) hRV (grownBy_refl _ _) ⟨g, _, rfl, h2, h3, z, hkz, by simpa using hc⟩
    · obtain ⟨g, j, e1, h2, h3, z, h4, h6⟩ : ∃ g j, s 6 = .pointer (some ⟨g, j, none⟩) ∧ g ≠ R ∧ g < V.heap.size ∧ ∃ z, TxtLe 4 z ∧ V.cell? ⟨g, j, none⟩ = some z := hd 6 (by kernel_rfl)
      clear hd
      obtain ⟨lz, rfl, _⟩ := id h4
      gi_wp2
      have hr := hQ'.out
      simp only [e1] at hr ⊢
      exact hr _ _ q (by omega) hRV (grownBy_refl _ _) h4
    · have hA : TxtLe N (s 2) := hd 2 (by kernel_rfl)
      have hC : TxtLe 4 (s 7) := hd 7 (by kernel_rfl)
      clear hd
      obtain ⟨A, eA, zA, zC⟩ := app_le hA hC (show _ ≤ N + 4 by omega) (by omega)
      obtain ⟨C, eC, hAC⟩ := zC
      gi_wp2
      have hr := hQ'.out
      simp only [eA, eC] at hr ⊢
      exact hr _ _ q (by omega) hRV (grownBy_refl _ _) hAC.2.2
    · clear hd
      gi_wp2
      have hr := hQ'.out
      exact hr _ _ q (by omega) hRV (grownBy_refl _ _) rfl
    · clear hd
      gi_wp2
      have hr := hQ'.out
      exact hr _ _ q (by omega) hRV (grownBy_refl _ _) rfl
    · have e1 : s 10 = .int .i64 k := hd 10 (by kernel_rfl)
      clear hd
      have hw : IntKind.i64.wrap ((k : Int) + 1) = (k : Int) + 1 := IntWalk.i64_in _ (by omega)
      gi_wp2
      have hr := hQ'.out
      simp only [e1] at hr ⊢
      exact hr _ _ q (by omega) hRV (grownBy_refl _ _) rfl
    · have e0 : s 9 = .string S := hd 9 (by kernel_rfl)
      have e1 : s 11 = .int .i64 ((k : Int) + 1) := hd 11 (by kernel_rfl)
      clear hd
      gi_wp2
      have hr := hQ'.out
      simp only [e0, e1] at hr ⊢
      exact hr _ _ q (by omega) hRV (grownBy_refl _ _) (hcutA.out _ _)
    · have hA : TxtLe (N + 4) (s 8) := hd 8 (by kernel_rfl)
      have hC : TxtLe N (s 12) := hd 12 (by kernel_rfl)
      clear hd
      obtain ⟨A, eA, zA, zC⟩ := app_le hA hC (show _ ≤ 2 * N + 10 by omega) (by omega)
      obtain ⟨C, eC, hAC⟩ := zC
      gi_wp2
      have hr := hQ'.out
      simp only [eA, eC] at hr ⊢
      exact hr _ _ q (by omega) hRV (grownBy_refl _ _) hAC.2.2
  case tail =>
    rintro s V q hqb hRV hgV hd
    replace hqb : q ≤ p + 1 + 15 := by simpa using hqb
    have hT : TxtLe (2 * N + 10) (s 13) := hd 13 (by omega)
    clear hd
    have hgw := hg1.trans hgV
    simp only [putsOf, Act.put, List.setIfInBounds_toArray, List.set_cons_succ, List.set_cons_zero]
    simp only [List.drop_succ_cons, List.drop_zero]
    generalize s 13 = z at *
    gi_wp2
    go_ret
    exact ⟨⟨_, rfl, hT⟩, q, by omega, hRV, hgw⟩
end Go.Proofs.YtdgolpgggahknaaDoor
