/-
  The laws' helpers over deeds: compared, marked and held.
-/
import Derived.Test.YtkcbfiglmjdaiaaDoorSpecZ
import Derived.Test.YtkcbfiglmjdaiaaDoorBaseZ
namespace Go.Proofs.YtkcbfiglmjdaiaaDoor
open Go.RowKit Go.BigFrame

/-- The numbers of deeds, one behind the other. -/
def numD (L : List (Int × Int)) (i : Nat) : Int := match (cellsD L)[i]? with | some (.int _ z) => z | _ => 0
theorem numD_at (L : List (Int × Int)) (i : Nat) (h : i < L.length * 2) : (cellsD L)[i]? = some (.int .i64 (numD L i)) := by
  have hlt : i / 2 < L.length := by omega
  have hat := cellsD_at L (i / 2) hlt
  have : ∃ z, (cellsD L)[i]? = some (.int .i64 z) := by
    rcases (show i = 2 * (i / 2) ∨ i = 2 * (i / 2) + 1 by omega) with e | e
    · rw [e]; exact ⟨_, hat.1⟩
    · rw [e]; exact ⟨_, hat.2⟩
  obtain ⟨z, hz⟩ := this
  unfold numD
  rw [hz]
/-- Deeds of one's own lie in a block, or there are none. -/
theorem blk_deeds {w : World} {base : Nat} {v : Value} {L : List (Int × Int)} (h : w.ownsRow base 36 2 v L.length (cellsD L)) (hn : 0 < L.length) :
    ∃ g cap, v = .slice (some ⟨g, 0, none⟩) L.length cap ∧ base ≤ g ∧ L.length ≤ cap ∧ BlkAt w g 36 (cap * 2) (intsV (L.length * 2) (numD L)) := by
  rcases h.2 with ⟨_, h0⟩ | ⟨g, cap, cur, rfl, hb, hg, hc, _, hs, ht⟩
  · omega
  · refine ⟨g, cap, rfl, hb, hc, cur, hg, hs, fun i z hi => ?_⟩
    unfold intsV at hi
    split at hi
    · rename_i hlt
      rw [← hi, ← numD_at L i hlt, ← ht, List.getElem?_take, if_pos hlt, Array.getElem?_toList]
    · cases hi

theorem BlkAt.setK {w : World} {g M K p : Nat} {t : TypeId} {f : Nat → Int} (h : BlkAt w g t M (intsV K f)) (z : Int) (hp : p < K) (hK : K ≤ M) : BlkAt (w.setCell ⟨g, p, none⟩ (.int .i64 z)) g t M (intsV K fun i => if i = p then z else f i) :=
  (h.set (.int .i64 z) (by omega)).weaken (fun i u hi => by
    unfold intsV at hi
    unfold updV
    split at hi
    · rename_i hl
      dsimp only at hi
      by_cases e : i = p
      · rw [if_pos e] at hi
        rw [if_pos e]; exact hi
      · rw [if_neg e] at hi
        rw [if_neg e]
        unfold intsV
        rw [if_pos hl]; exact hi
    · cases hi)
theorem BlkAt.congrK {w : World} {g M K : Nat} {t : TypeId} {f f' : Nat → Int} (h : BlkAt w g t M (intsV K f)) (he : ∀ i, i < K → f' i = f i) : BlkAt w g t M (intsV K f') :=
  h.weaken (fun i u hi => by
    unfold intsV at hi ⊢
    split at hi
    · rename_i hl
      rw [if_pos hl, ← he i hl]; exact hi
    · cases hi)

end Go.Proofs.YtkcbfiglmjdaiaaDoor
/-
  The laws' helpers over deeds that came in: copies of them, their sizes, and marks over such copies.
-/
namespace Go.Proofs.YtkcbfiglmjdaiaaDoor
open Go.RowKit

theorem own_shape {w : World} {base n size : Nat} {e : TypeId} {v : Value} {xs : List Value} (h : w.ownsRow base e size v n xs) : ∃ a c, v = .slice a n c := by
  rcases h.2 with ⟨rfl, hn⟩ | ⟨g, cap, cur, rfl, _⟩
  · exact ⟨_, 0, by rw [hn]⟩
  · exact ⟨_, _, rfl⟩
theorem DeedsI.none (w : World) (a : Option Addr) (c : Nat) : DeedsI w (.slice a 0 c) [] := ⟨a, c, rfl, fun h => absurd h (Nat.lt_irrefl 0)⟩
theorem DeedsI.grown {w w' : World} {v : Value} {L : List (Int × Int)} {g : Nat} (h : DeedsI w v L) (hg : w.grownBy w' (some g)) (hne : v.ownBlock ≠ some g) : DeedsI w' v L := by
  obtain ⟨a, c, rfl, h⟩ := h
  refine ⟨a, c, rfl, fun h0 => ?_⟩
  obtain ⟨b, o, rfl, hb, hc⟩ := h h0
  have hbg : b ≠ g := fun e => hne (by rw [e]; rfl)
  exact ⟨b, o, rfl, Nat.lt_of_lt_of_le hb hg.size, fun k hk => ⟨hg.cell (hc k hk).1 (by simp; exact hbg), hg.cell (hc k hk).2 (by simp; exact hbg)⟩⟩
/-- 'make([]Deed, n)': a block of noughts. -/
theorem make_deeds (w : World) {ops : Array Oper} {rest : List Oper} {o : Oper} {a : Act} {Q : Exit → Act → World → Prop}
    (hg : o.guard = none) (l c : Operand) (hop : o.op = Op.makeSlice 23 l c) (L C : Int) (N : Nat) (hl : a.eval l = .int .i64 L) (hc : a.eval c = .int .i64 C) (hL : L = (N : Int)) (hC : C = (N : Int)) (hN : N ≤ 10000000)
    (hK : ∀ w', BlkAt w' w.heap.size 36 (N * 2) (intsV (N * 2) fun _ => 0) → w.grownBy w' none → wpList Tryd.prog ops Q rest (a.put o.dst (.slice (some ⟨w.heap.size, 0, none⟩) N N)) w') :
    wpList Tryd.prog ops Q (o :: rest) a w := by
  obtain ⟨i0, hi, hz0, hz1, hz2⟩ := info_any Tryd.infoDeed
  refine wpList_plain hg fun K hK' => ?_
  obtain ⟨w', hrun, r1, r2⟩ := run_make_full (P := Tryd.prog) w w.heap.size 23 36 i0 (.agg #[.int .i64 0, .int .i64 0]) 2 Tryd.underlying23 hi hz0 hz1 .i64 .i64 N (by rw [hz2]; omega) (by unfold maxLen; omega) (Nat.le_refl _)
  subst hL
  subst hC
  unfold Oper.wp
  simp [execOp, hop, hl, hc, hrun, Result.andThen]
  refine hK' _ _ (hK w' ?_ r2)
  obtain ⟨hlen, hv⟩ := r1
  rcases hv with ⟨h, _⟩ | ⟨g, cap, cur, h, _, hgb, _, _, hs, ht⟩
  · cases h
  · cases h
    refine ⟨cur, hgb, by omega, fun i v hi' => ?_⟩
    have h1 : cur.toList.take (N * 2) = cur.toList := List.take_of_length_le (by simp; omega)
    unfold intsV at hi'
    split at hi'
    · rename_i hlt
      rw [h1] at ht
      rw [← Array.getElem?_toList, ht, Array.getElem?_toList]
      have : i % 2 = 0 ∨ i % 2 = 1 := by omega
      rcases this with e | e <;> simpa [madeCells, Value.cells, hlt, e] using hi'
    · cases hi'
theorem BlkAt.deeds {w : World} {g base : Nat} {L : List (Int × Int)} (h : BlkAt w g 36 (L.length * 2) (intsV (L.length * 2) (numD L))) (hb : base ≤ g) (hN : L.length ≤ 10000000) :
    w.ownsRow base 36 2 (.slice (some ⟨g, 0, none⟩) L.length L.length) L.length (cellsD L) := by
  obtain ⟨cur, h1, h2, h3⟩ := h
  refine ⟨cellsD_len L, .inr ⟨g, L.length, cur, rfl, hb, h1, Nat.le_refl _, by unfold maxLen; omega, h2, ?_⟩⟩
  have ht : cur.toList.take (L.length * 2) = cur.toList := List.take_of_length_le (by simp; omega)
  rw [ht]
  apply List.ext_getElem?
  intro i
  by_cases hi : i < L.length * 2
  · rw [Array.getElem?_toList, h3 i _ (intsV_at hi), numD_at L i hi]
  · rw [List.getElem?_eq_none (by simp; omega), List.getElem?_eq_none (by rw [cellsD_len]; omega)]
theorem deeds_form {W : World} {base : Nat} {r : Value} {L : List (Int × Int)} (h : W.ownsRow base 36 2 r L.length (cellsD L)) : ∃ a c, r = .slice a L.length c := own_shape h
end Go.Proofs.YtkcbfiglmjdaiaaDoor
