/-
  The model's ReadJournal.
-/
import Derived.Test.YtdgolpgggahknaaDoorSpecZ
namespace Go.Proofs.YtdgolpgggahknaaDoor
open Go.RowKit

/-- 'append(s, d)' of one deed. -/
theorem append_deed {ops : Array Oper} {rest : List Oper} {o : Oper} {a : Act} {Q : Exit → Act → World → Prop} {w : World} {x : Int × Int} (hgd : o.guard = none) (s y : Operand)
    (ho : o.op = .call { callee := .builtin .append, args := #[s, y], argTypes := #[32, 32] })
    (base : Nat) (v : Value) (L : List (Int × Int)) (hs : a.eval s = v) (hown : w.ownsRow base 24 2 v L.length (cellsD L)) (B : Nat) (hBw : w.heap.size = B) (hx : a.eval y = .slice (some ⟨B, 0, none⟩) 1 1)
    (hn : L.length ≤ 4000000) (hbase : base ≤ w.heap.size)
    (h : ∀ v' w', w'.ownsRow base 24 2 v' (L ++ [x]).length (cellsD (L ++ [x])) → (w.alloc (.cells #[.int .i64 x.1, .int .i64 x.2] 24)).grownBy w' v.ownBlock → (v'.ownBlock = v.ownBlock ∨ v'.ownBlock = some (w.heap.size + 1)) → wpList Tryd.prog ops Q rest (a.put o.dst v') w') :
    wpList Tryd.prog ops Q (o :: rest) a (w.alloc (.cells #[.int .i64 x.1, .int .i64 x.2] 24)) := by
  subst hBw
  obtain ⟨i0, hi, hz0, hz1, hz2⟩ := info_any Tryd.infoDeed
  refine wpList_plain hgd fun K hK => ?_
  have hnew := World.alloc_heap_new w (.cells #[.int .i64 x.1, .int .i64 x.2] 24)
  obtain ⟨v', w', hr, h2, h3, _, h5⟩ := run_append_own_at (P := Tryd.prog) (w.alloc (.cells #[.int .i64 x.1, .int .i64 x.2] 24)) base 32 o.type 24 i0 (.agg #[.int .i64 0, .int .i64 0]) 2 16 Tryd.underlying32 hi hz0 hz1 hz2 rfl (by decide) v L.length (cellsD L) (hown.alloc _) ⟨w.heap.size, 0, none⟩ 1 1 (cellsD [x]) rfl (fun j u hj => by
    have hadd : (⟨w.heap.size, 0, none⟩ : Addr).add j = ⟨w.heap.size, j, none⟩ := by unfold Addr.add; split <;> simp_all
    rw [hadd, cell_of_row _ _ j _ _ _ hnew]
    simpa [cellsD] using hj) (cellsD_one [x]) (by unfold maxLen; omega) (by omega) (by rw [World.size_alloc]; omega)
  unfold Oper.wp execOp
  simp only [ho, resolve, invoke, builtin, Sem.run_bind, Sem.run_pure, Result.andThen_ok, List.map_toArray, List.map_cons, List.map_nil, hs, hx, hr]
  refine hK _ _ (h v' w' ?_ h3 (by rwa [World.size_alloc] at h5))
  rw [cellsD_app, List.length_append]
  exact h2

set_option maxRecDepth 100000 in
set_option maxHeartbeats 2000000 in
theorem specReadJournal (l : List Nat) (hl : ∀ x ∈ l, x < 256) (hn : l.length ≤ 1500000) (w : World) : Calls Tryd.prog 25 #[.string (str l)] w fun e w' =>
    ∃ u, e = .returned (.tuple #[u, .int .i64 ((jrT l).2 : Nat)]) ∧ w'.ownsRow w.heap.size 24 2 u (jrT l).1.length (cellsD (jrT l).1) ∧ Below w.heap.size w w' := by
  have hsz := str_size l
  have hget := hide (fun i h => str_get l i h hl)
  have hcut := hide (fun a b => str_cut l a b)
  have hdrop := hide (fun k (h : k < l.length) => drop_get l k h)
  have hall := drop_all l
  have hnext := hide (fun f k h1 h2 => take_next l f k h1 h2)
  have hB0 : Below w.heap.size w (w.alloc (.cells #[] 24)) := (Below.refl _ _).alloc (Nat.le_refl _) _
  have hmade : (w.alloc (.cells #[] 24)).ownsRow w.heap.size 24 2 (.slice (some ⟨w.heap.size, 0, none⟩) 0 0) 0 (cellsD []) := World.ownsRow_made _ _ _ (Nat.le_refl _) (by decide) rfl
  have hst : Hid (jrT l = ([] ++ (jrL ((l.drop 0).take (0 - 0)) (l.drop 0)).1, 0 + (jrL ((l.drop 0).take (0 - 0)) (l.drop 0)).2)) := hide (by simp [jrT])
  obtain ⟨T, hT⟩ : ∃ T, jrT l = T := ⟨_, rfl⟩
  rw [hT] at hst ⊢
  obtain ⟨S, hS⟩ : ∃ S, str l = S := ⟨_, rfl⟩
  rw [hS] at hsz ⊢
  have hget' : Hid (∀ i (h : i < S.size), (S[i]).toNat = l.getD i 0) := by subst hS; exact hget
  have hcut' : Hid (∀ a b, S.extract a b = str ((l.drop a).take (b - a))) := by subst hS; exact hcut
  clear hT hS hget hcut
  go_enter Tryd.func25, Tryd.ntmps25
  go_wp2
  go_loopw [4, 5, 6] (fun o a b wr => ∃ (f k : Nat) (L : List (Int × Int)), f ≤ k ∧ k ≤ l.length ∧ L.length ≤ k ∧ a = .int .i64 f ∧ b = .int .i64 k ∧ wr.ownsRow w.heap.size 24 2 o L.length (cellsD L) ∧ Hid (T = (L ++ (jrL ((l.drop f).take (k - f)) (l.drop k)).1, f + (jrL ((l.drop f).take (k - f)) (l.drop k)).2)) ∧ Below w.heap.size w wr) (fun _ _ b _ => l.length - (intOf b).toNat)
  case atStart => exact ⟨0, 0, [], by omega, by omega, Nat.zero_le _, rfl, rfl, hmade, hst, hB0⟩
  case round =>
    clear hmade hst hB0
    obtain ⟨f, k, L, hf, hk, hL, rfl, rfl, hown, hrel, hB⟩ := hrel
    by_cases hlt : k < l.length
    · have hki : (k : Int) < (S.size : Int) := by omega
      have hkS : k < S.size := by omega
      have hg := hget'.out k hkS
      have hd := hdrop.out k hlt
      have hnx := hnext.out f k hf hlt
      have hr := hrel.out
      obtain ⟨c, hc⟩ : ∃ c, l.getD k 0 = c := ⟨_, rfl⟩
      rw [hc] at hg hd hnx
      rw [hd] at hr
      by_cases e : c = 10
      · subst e
        have hX := hcut'.out f k
        have hXl : ((l.drop f).take (k - f)).length = k - f := by rw [List.length_take, List.length_drop]; omega
        have hXb : ∀ x ∈ (l.drop f).take (k - f), x < 256 := fun x hx => hl x (List.mem_of_mem_drop (List.mem_of_mem_take hx))
        obtain ⟨X, hXX⟩ : ∃ X, (l.drop f).take (k - f) = X := ⟨_, rfl⟩
        rw [hXX] at hX hr hXl hXb
        have hRD := fun V => specReadDeed X hXb (by omega) V
        have hfk : (f : Int) ≤ (k : Int) := by omega
        have hkS2 : (k : Int) ≤ (S.size : Int) := by omega
        cases hrd : readD X with
        | none =>
          rw [jrL_none hrd] at hr
          rw [rd_none hrd] at hRD
          have hr' := hide (show T = (L, f) by rw [hr]; simp)
          obtain ⟨Y, hY⟩ : ∃ Y, str X = Y := ⟨_, rfl⟩
          rw [hY] at hX hRD
          unfold dV at hRD
          clear hr hrel hd hnx hXX hY hc hrd
          go_wp2_with (go_at_call 15; refine (hRD _).mono ?_; clear hRD; rintro e w3 ⟨rfl, hB3⟩)
          go_ret2
          rw [hr'.out]
          refine ⟨_, rfl, ?_, (hB.trans (hB3.mono hB.size)).alloc (Nat.le_trans hB.size hB3.size) _⟩
          exact (own_more hown hB3).alloc _
        | some x =>
          rw [jrL_deed hrd] at hr
          rw [rd_some hrd] at hRD
          have hr' := hide (show T = ((L ++ [x]) ++ (jrL ((l.drop (k + 1)).take (k + 1 - (k + 1))) (l.drop (k + 1))).1, (k + 1) + (jrL ((l.drop (k + 1)).take (k + 1 - (k + 1))) (l.drop (k + 1))).2) by
            rw [take_none, List.append_assoc, hr]
            congr 1
            simp only
            omega)
          obtain ⟨Y, hY⟩ : ∃ Y, str X = Y := ⟨_, rfl⟩
          rw [hY] at hX hRD
          unfold dV at hRD
          clear hr hrel hd hnx hXX hY hc hrd
          go_wp2_with (first
            | (go_at_call 15; refine (hRD _).mono ?_; clear hRD; go_loud (rintro e w3 ⟨rfl, hB3⟩; have hown3 := (own_more hown hB3).alloc (.cells #[.int .i64 x.1, .int .i64 x.2] 24); have hB4 := (hB.trans (hB3.mono hB.size)).alloc (Nat.le_trans hB.size hB3.size) (.cells #[.int .i64 x.1, .int .i64 x.2] 24)))
            | (at_builtin; refine append_deed (x := x) rfl _ _ rfl w.heap.size _ L rfl hown3 (w3.heap.size + 1) (by simp) rfl (by omega) hB4.size ?_; intro v' w5 hown5 hgr hbk))
          have hB5 : Below w.heap.size w w5 := (hB4.alloc hB4.size _).grown hgr (by rw [World.size_alloc]; have := hB4.size; omega) (fun q hq => (hown3.lt q hq).1)
          go_roundw
          case rel => exact ⟨k + 1, k + 1, L ++ [x], by omega, by omega, by simp; omega, by go_num, by go_num, hown5, hr', hB5⟩
          case measure => simp [intOf]; omega
      · have hb : ((c : Int) == 10) = false := by rw [beq_eq_false_iff_ne]; omega
        rw [jrL_other e, ← hnx] at hr
        have hr' := hide hr
        clear hr hrel hd hnx hc
        go_wp2
        go_roundw
        case rel => exact ⟨f, k + 1, L, by omega, by omega, by omega, by go_num, by go_num, hown, hr', hB⟩
        case measure => simp [intOf]; omega
    · obtain rfl : k = l.length := by omega
      have hki : ¬ ((l.length : Nat) : Int) < (S.size : Int) := by omega
      have hr := hrel.out
      rw [hall] at hr
      have hr' := hide (show T = (L, f) by rw [hr]; simp [jrL])
      clear hr hrel hall
      go_wp2
      go_ret2
      rw [hr'.out]
      exact ⟨_, rfl, hown, hB⟩
end Go.Proofs.YtdgolpgggahknaaDoor
