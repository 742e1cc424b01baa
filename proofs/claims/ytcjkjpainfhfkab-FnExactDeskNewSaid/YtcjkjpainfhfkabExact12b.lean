/-
  The walk of the exact law on DeskOk.
-/
import Derived.Test.YtcjkjpainfhfkabLawKit11
import Derived.Test.YtcjkjpainfhfkabLawKit8
import Derived.Test.YtcjkjpainfhfkabImpl12a
namespace Go.Proofs.Ytcjkjpainfhfkab
open Go.RowKit
attribute [local go_sem] Oper.semAt_some

/-- A region that draws its order, of which all that lay before stands until the last operations, whatever is known of each operation's value. -/
theorem wpIn_region_phi {F : Fence} {n : Nat} {id : Nat} {ops : Array Oper} {Q : Exit → Act → World → Prop} {a : Act} {W : World} (m : Nat) (hm : Try.prog.follows .mixedOrders = true) (hb : backB ops = true) (ht : tailB ops m = true) (hsz : m < ops.size)
    (fr : (Nat → Value) → Act) (Φ : Nat → Value → World → Prop) (hmono : ∀ k v V V', Φ k v V → Below V.heap.size V V' → Φ k v V')
    (h0 : ∃ s, a = fr s) (hput : ∀ i o s v, i < m → ops[i]? = some o → (fr s).put o.dst v = fr (fun j => if j = i then v else s j))
    (hstep : ∀ i o s V, i < m → ops[i]? = some o → Below W.heap.size W V → (∀ k, depB ops i k = true → Φ k (s k) V) → ∀ Q' : Exit → Act → World → Prop,
      (∀ v V', Below V.heap.size V V' → Φ i v V' → Q' .normal ((fr s).put o.dst v) V') → wpListIn F n Try.prog ops Q' [o] (fr s) V)
    (htail : ∀ s V, Below W.heap.size W V → (∀ k, k < m → Φ k (s k) V) → wpListIn F n Try.prog ops Q (ops.toList.drop m) (fr s) V) : (Code.region id ops true).wpIn F n Try.prog Q a W := by
  refine wpIn_region_tail m hm hb ht hsz fr (fun V => Below W.heap.size W V) (fun V V' => Below V.heap.size V V') Φ h0 hput (Below.refl _ _).drew (fun k v V V' h hg => hmono k v V V' h hg) ?_ htail
  rintro i o s V him ho hV hd Q' hQ'
  exact hstep i o s V him ho hV hd Q' (fun v V' h2 h3 => hQ' v V' (hV.trans (h2.mono hV.size)) h2 h3)
theorem acc_each (L : Nat → Nat) : ∀ n j, j < n → L j ≤ accN L n
  | n + 1, j, h => by
    show L j ≤ accN L n + L n
    by_cases e : j = n
    · subst e; omega
    · have := acc_each L n j (by omega); omega
theorem desk_agg {W : World} {x p : Value} {d : Dk} {base : Nat} (hx : W.ownsRow base 3 1 x d.1.length (d.1.map (Value.int .i64))) (hp : OwnSS W base p d.2) : DeskI W (.agg #[x, p]) d := ⟨x, p, rfl, Ints.of_owns hx, hp.past⟩

set_option maxRecDepth 100000 in
set_option maxHeartbeats 2000000 in
theorem exactDeskOk (v : Value) (d : Dk) (w : World) (hv : ArgD w v d) (hn1 : d.1.length ≤ 9223372036854775807) (hn : d.2.length ≤ 9223372036854775807) (hln : ∀ j, (d.2.getD j []).length ≤ 9223372036854775807) :
    Calls Try.prog 3 #[v] w fun e w' => e = .returned (.bool true) ∧ Below w.heap.size w w' := by
  obtain ⟨va, vb, vc, ve, hform⟩ := hv.form
  obtain ⟨x, p, rfl, hx, hp⟩ := id hv
  injection hform with hform
  simp at hform
  obtain ⟨rfl, rfl⟩ := hform
  have hB := (Below.refl _ w).alloc (Nat.le_refl _) (.cells #[.slice va d.1.length vb, .slice vc d.2.length ve] 25)
  have k0 := World.alloc_heap_new w (.cells #[.slice va d.1.length vb, .slice vc d.2.length ve] 25)
  obtain ⟨W1, hW1⟩ : ∃ W1, w.alloc (.cells #[.slice va d.1.length vb, .slice vc d.2.length ve] 25) = W1 := ⟨_, rfl⟩
  rw [hW1] at hB k0
  have hz := szDesk_in _ d 1048576 W1 (hv.below hB) hn1 hn hln (Nat.le_refl _)
  obtain ⟨c0, c1, _, _⟩ := row_at k0
  have l0 := (Array.getElem?_eq_some_iff.1 k0).1
  have hv' := hide hv
  clear hv hx hp hn1 hn hln
  refine (callsIn_wide (n := 9)).1 ?_
  refine callsIn_of_wp Try.func3 rfl trivial ?_ rfl
  simp only [Try.ntmps3, List.size_toArray, List.length_cons, List.length_nil, Nat.reduceAdd, Nat.reduceSub, Array.replicate_succ, Array.replicate_zero, List.push_toArray, List.append_toArray, List.nil_append, List.cons_append]
  gi_wp2_with fail
  refine ⟨trivial, ?_⟩
  gi_at_call 7
  refine (callsIn_wide.2 hz).mono ?_
  rintro e W2 ⟨rfl | ⟨q, rfl, hq⟩, hB2⟩
  · gi_wp2
    go_ret
    exact ⟨rfl, hB.trans (hB2.mono hB.size)⟩
  · have hq0 : ¬ (q : Int) < 0 := by omega
    have s1 : d.1.length ≤ 1048576 := by omega
    have s2 : d.2.length ≤ 1048576 := by omega
    have s3 : ∀ j, j < d.2.length → (d.2.getD j []).length ≤ 1048576 := fun j hj => by
      have := acc_each (fun j => (d.2.getD j []).length) d.2.length j hj
      exact Nat.le_trans this (by omega)
    have s4 : DkS d := ⟨by omega, by omega, fun j => by
      by_cases hj : j < d.2.length
      · have := s3 j hj; omega
      · rw [List.getD, List.getElem?_eq_none (by omega)]; simp⟩
    have hT := fun V (hV : Below w.heap.size w V) => toDesk_in w _ d V hv'.out hV s1 s2 s3
    have k2 := (hB2.block _ l0).trans k0
    obtain ⟨c0, c1, _, _⟩ := row_at k2
    have hB2w := hB.trans (hB2.mono hB.size)
    have l2 := (Array.getElem?_eq_some_iff.1 k2).1
    clear hq hz k0 l0 hB hB2
    gi_wp2_with fail
    refine ⟨trivial, ?_⟩
    gi_at_call 9
    refine (callsIn_wide.2 (hT _ hB2w)).mono ?_
    rintro e W3 ⟨x3, p3, rfl, hx3, hp3, hB3⟩
    have k3 := (hB3.block _ l2).trans k2
    have hB3w := hB2w.trans (hB3.mono hB2w.size)
    have hS := specDeskOk _ d W3 (desk_agg hx3 hp3) s4
    clear hx3 hp3
    gi_wp2_with fail
    refine ⟨trivial, ?_⟩
    gi_at_call 8
    refine (callsIn_wide.2 hS).mono ?_
    rintro e W4 ⟨rfl, hB4⟩
    have l3 := (Array.getElem?_eq_some_iff.1 k3).1
    have k4 := (hB4.block _ l3).trans k3
    have hB4w := hB3w.trans (hB4.mono hB3w.size)
    obtain ⟨c0, c1, _, _⟩ := row_at k4
    have l4 := (Array.getElem?_eq_some_iff.1 k4).1
    clear hS hB3 hB4 k2 k3 l2 l3 hB2w hB3w
    gi_wp2_with fail
    refine ⟨trivial, ?_⟩
    gi_at_call 9
    refine (callsIn_wide.2 (hT _ hB4w)).mono ?_
    rintro e W5 ⟨x5, p5, rfl, hx5, hp5, hB5⟩
    have k5 := (hB5.block _ l4).trans k4
    have hB5w := hB4w.trans (hB5.mono hB4w.size)
    have l5 := (Array.getElem?_eq_some_iff.1 k5).1
    have hd5 := desk_agg hx5 hp5
    obtain ⟨xa, xc, rfl⟩ := own_form hx5
    obtain ⟨pa, pc, rfl⟩ := hp5.form
    have ha := (Below.refl _ W5).alloc (Nat.le_refl _) (.cells #[.slice xa d.1.length xc, .slice pa d.2.length pc] 28)
    have m6 := World.alloc_heap_new W5 (.cells #[.slice xa d.1.length xc, .slice pa d.2.length pc] 28)
    obtain ⟨W6, hW6⟩ : ∃ W6, W5.alloc (.cells #[.slice xa d.1.length xc, .slice pa d.2.length pc] 28) = W6 := ⟨_, rfl⟩
    rw [hW6] at ha m6
    have k6 := (ha.block _ l5).trans k5
    have hd6 := hd5.below ha
    have hB6w := hB5w.trans (ha.mono hB5w.size)
    obtain ⟨e0, e1, _, _⟩ := row_at m6
    have hI := implDeskOk _ d W6 hd6 s4
    have l6 := (Array.getElem?_eq_some_iff.1 k6).1
    have n6 := (Array.getElem?_eq_some_iff.1 m6).1
    clear hx5 hp5 hd5 hB5 k4 k5 l4 l5 hB4w hB5w ha
    gi_wp2_with fail
    refine ⟨trivial, ?_⟩
    gi_at_call 10
    refine (callsIn_wide.2 hI).mono ?_
    rintro e W7 ⟨rfl, hB7⟩
    have k7 := (hB7.block _ l6).trans k6
    have m7 := (hB7.block _ n6).trans m6
    have hd7 := hd6.below hB7
    have hB7w := hB6w.trans (hB7.mono hB6w.size)
    clear hI hB7 hd6 k6 m6 l6 n6 hB6w
    gi_wp2_with fail
    refine wpIn_region_phi 3 (by kernel_rfl) (by kernel_rfl) (by kernel_rfl) (by decide)
      (fun s => { tmps := #[.agg #[.slice va d.1.length vb, .slice vc d.2.length ve], .pointer (some ⟨w.heap.size, 0, none⟩), .bool false, .int .i64 q, .bool (deskB d), .pointer (some ⟨W5.heap.size, 0, none⟩), .bool (deskB d), .agg #[.slice va d.1.length vb, .slice vc d.2.length ve], .int .i64 1048576, .int .i64 q, .int .i64 q, .bool (decide ((q : Int) < 0)), .agg #[.slice va d.1.length vb, .slice vc d.2.length ve], .agg #[x3, p3], .bool (deskB d), .agg #[.slice va d.1.length vb, .slice vc d.2.length ve], .agg #[.slice xa d.1.length xc, .slice pa d.2.length pc], .agg #[.slice xa d.1.length xc, .slice pa d.2.length pc], .bool (deskB d), .bool (deskB d), .bool (deskB d), .bool false, s 0, s 1, s 2, undef, undef], defers := [] })
      (fun k v V => (k = 0 → v = .agg #[.slice xa d.1.length xc, .slice pa d.2.length pc]) ∧ (k = 1 → v = .agg #[.slice va d.1.length vb, .slice vc d.2.length ve]) ∧ (k = 2 → DeskI V v d))
      (fun k v V V' h hb => ⟨h.1, h.2.1, fun e => (h.2.2 e).below hb⟩)
      ⟨fun _ => undef, rfl⟩ ?put ?step ?tail
    case put =>
      intro i o s v hi ho
      rcases (show i = 0 ∨ i = 1 ∨ i = 2 by omega) with rfl | rfl | rfl
      all_goals
        simp at ho
        subst ho
        simp [Act.put]
    case step =>
      rintro i o s V hi ho hV hd Q' hQ
      have k8 := (hV.block _ (Array.getElem?_eq_some_iff.1 k7).1).trans k7
      have m8 := (hV.block _ (Array.getElem?_eq_some_iff.1 m7).1).trans m7
      obtain ⟨c0, c1, _, _⟩ := row_at k8
      obtain ⟨e0, e1, _, _⟩ := row_at m8
      have hT8 := hT V (hB7w.trans (hV.mono hB7w.size))
      clear hT k8 m8
      rcases (show i = 0 ∨ i = 1 ∨ i = 2 by omega) with rfl | rfl | rfl
      all_goals
        simp at ho
        subst ho
        simp [Act.put] at hQ
        have hQ' := hide hQ
        clear hQ
      case inl =>
        clear hd
        gi_wp2
        exact hQ'.out _ _ (Below.refl _ _) rfl
      case inr.inl =>
        clear hd
        gi_wp2
        exact hQ'.out _ _ (Below.refl _ _) rfl
      case inr.inr =>
        have e1 : s 1 = .agg #[.slice va d.1.length vb, .slice vc d.2.length ve] := (hd 1 (by kernel_rfl)).2.1 rfl
        clear hd
        gi_wp2_with (refine ⟨trivial, ?_⟩; gi_at_call 9; go_loud (refine (callsIn_wide.2 hT8).mono ?_; rintro e W9 ⟨x9, p9, rfl, hx9, hp9, hB9⟩))
        have hr := hQ'.out
        rw [e1] at hr
        exact hr _ _ hB9 (desk_agg hx9 hp9)
    case tail =>
      rintro s V hV hd
      have e0 : s 0 = .agg #[.slice xa d.1.length xc, .slice pa d.2.length pc] := (hd 0 (by omega)).1 rfl
      have hd2 := (hd 2 (by omega)).2.2 rfl
      clear hd
      have hE := eqDesk_in _ _ d V ⟨by omega, by omega, fun j hj => by have := s3 j hj; omega⟩ (hd7.below hV) hd2
      obtain ⟨y, z, ey, hy, hz⟩ := hd2
      rw [ey] at hE
      simp only [List.drop_succ_cons, List.drop_zero]
      gi_wp2_with (refine ⟨trivial, ?_⟩; gi_at_call 11; go_loud (refine (callsIn_wide.2 hE).mono ?_; rintro e W9 ⟨rfl, hB9⟩))
      go_ret
      exact ⟨rfl, hB7w.trans ((hV.trans (hB9.mono hV.size)).mono hB7w.size)⟩
end Go.Proofs.Ytcjkjpainfhfkab
