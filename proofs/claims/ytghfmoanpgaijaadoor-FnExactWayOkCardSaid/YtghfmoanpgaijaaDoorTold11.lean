/-
  slices.AppendSeq and slices.Collect of an iterator of texts that makes memory of its own; the program's WaysTold.
-/
import Derived.Test.YtghfmoanpgaijaaDoorWays11
import Derived.OwnWalkIn
namespace Go.Proofs.YtghfmoanpgaijaaDoor
open Go.RowKit Go.Shelf
attribute [local go_sem] Oper.semAt_some

/-- 'append(s, z)' of one text inside a fence. -/
theorem append_text_in {F : Fence} {k : Nat} {ops : Array Oper} {rest : List Oper} {o : Oper} {a : Act} {Q : Exit → Act → World → Prop} {w : World} {z : ByteArray} (hgd : o.guard = none) (s x : Operand)
    (ho : o.op = .call { callee := .builtin .append, args := #[s, x], argTypes := #[28, 28] })
    (base : Nat) (v : Value) (n : Nat) (xs : List Value) (hs : a.eval s = v) (hown : w.ownsRow base 9 1 v n xs) (hx : a.eval x = .slice (some ⟨w.heap.size, 0, none⟩) 1 1)
    (hn : n ≤ 4000000) (hbase : base ≤ w.heap.size)
    (h : ∀ v' w', w'.ownsRow base 9 1 v' (n + 1) (xs ++ [.string z]) → (w.alloc (.cells #[.string z] 9)).grownBy w' v.ownBlock → (v'.ownBlock = v.ownBlock ∨ v'.ownBlock = some (w.heap.size + 1)) → wpListIn F k Tryd.prog ops Q rest (a.put o.dst v') w') :
    wpListIn F k Tryd.prog ops Q (o :: rest) a (w.alloc (.cells #[.string z] 9)) := by
  obtain ⟨i0, hi, hz0, hz1, hz2⟩ := info_any Tryd.infoStr
  refine wpListIn_plain hgd fun K hK => ?_
  obtain ⟨v', w', hr, h2, h3, _, h5⟩ := run_append_own_at (P := Tryd.prog) (w.alloc (.cells #[.string z] 9)) base 28 o.type 9 i0 (.string ⟨#[]⟩) 1 16 Tryd.underlying28 hi hz0 hz1 hz2 rfl (by decide) v n xs (hown.alloc _) ⟨w.heap.size, 0, none⟩ 1 1 [.string z] rfl (cell_one_new _ _ _) (fun u hu => by simp at hu; subst hu; rfl) (by unfold maxLen; omega) (by omega) (by simp; omega)
  unfold Oper.wpIn
  refine ⟨?_, ?_⟩
  · simp [Oper.about, ho, resolve, Target.leads, Sem.run_pure]
  · rw [Oper.semAt_plain F _ _ (by rw [ho]; intro c hc'; cases hc')]
    simp only [execOp, ho, resolve, invoke, builtin, Sem.run_bind, Sem.run_pure, Result.andThen_ok, List.map_toArray, List.map_cons, List.map_nil, hs, hx, hr]
    exact hK _ _ (h v' w' h2 h3 (by rwa [World.size_alloc] at h5))

theorem ownsRow_grown' {w w' : World} {base n : Nat} {t : TypeId} {v : Value} {xs : List Value} {row : Option Nat} (h : w.ownsRow base t 1 v n xs) (hg : w.grownBy w' row) (hr : ∀ k, v.ownBlock = some k → row ≠ some k) : w'.ownsRow base t 1 v n xs := by
  obtain ⟨h1, h2⟩ := h
  refine ⟨h1, ?_⟩
  rcases h2 with hn | ⟨g, cap, cur, rfl, hb, hgb, rest⟩
  · exact .inl hn
  · exact .inr ⟨g, cap, cur, rfl, hb, (hg.block g (Array.getElem?_eq_some_iff.1 hgb).1 (fun e => hr g rfl e.symm)).trans hgb, rest⟩

set_option maxRecDepth 100000 in
set_option maxHeartbeats 1000000 in
theorem appendTexts_in (gf : Nat) (lb : Array Value) (K : Nat → Prop) (w : World) (xs : List (List Nat)) (hxs : xs.length ≤ 4000000)
    (eg : ∀ args w, (callFunc gf args).run Tryd.prog w = .ok (.enter gf args) w)
    (hseq : ∀ W, Below w.heap.size w W → SeqDyn 8 Tryd.prog gf lb (fun x => #[txt x]) K xs W)
    (hK : ∀ k, K k → k < w.heap.size) :
    Calls Tryd.prog 50 #[.slice none 0 0, .func (.func gf) #[] lb] w fun e w' =>
      ∃ v, e = .returned v ∧ w'.ownsRow w.heap.size 9 1 v xs.length (xs.map txt) ∧ Below w.heap.size w w' := by
  refine (callsIn_wide (n := 9)).1 ?_
  refine callsIn_of_wp_marks Tryd.func50 rfl trivial ?_ rfl
  simp only [Tryd.ntmps50, List.size_toArray, List.length_cons, List.length_nil, Nat.reduceAdd, Nat.reduceSub, Array.replicate_succ, Array.replicate_zero, List.push_toArray, List.append_toArray, List.nil_append, List.cons_append]
  gi_wp2
  obtain ⟨W0, hW0⟩ : ∃ W0, (w.alloc (Obj.cells #[Value.slice none 0 0] 28)) = W0 := ⟨_, rfl⟩
  have hsz1 : W0.heap.size ≤ w.heap.size + 1 := by rw [← hW0]; simp
  have hsz2 : w.heap.size + 1 ≤ W0.heap.size := by rw [← hW0]; simp
  have hbs : Boxed W0 w.heap.size 28 (.slice none 0 0) := by rw [← hW0]; exact Boxed.new w _ _
  have hbel : Below w.heap.size w W0 := by rw [← hW0]; exact (Below.refl _ w).alloc (Nat.le_refl _) _
  rw [hW0]
  clear hW0
  refine wpIn_rangeFunc_dyn (gf := gf) (lb := lb) rfl eg (hseq W0 hbel) (fun _ => rfl) (fun h => by have := hK _ h; omega)
    (fun U pre W => (∃ v, Boxed W w.heap.size 28 v ∧ W.ownsRow (w.heap.size + 1) 9 1 v pre.length (pre.map txt) ∧ (∀ k, v.ownBlock = some k → ¬ U k ∧ W0.heap.size + 2 ≤ k)) ∧ Below w.heap.size w W ∧ W0.heap.size ≤ W.heap.size ∧ ∀ k, U k → W0.heap.size ≤ k ∧ k < W.heap.size) (fun _ _ _ _ => False)
    (fun U U' s A B row hs hg hr hu => by
      obtain ⟨⟨v, h1, h2, h3⟩, h4, h5, h6⟩ := hs
      have hsz := hg.size
      have hrow : ∀ r, row = some r → W0.heap.size ≤ r := fun r e => by
        rcases hr r e with (h | h) | h
        · omega
        · omega
        · exact (h6 r h).1
      refine ⟨⟨v, h1.kept hg (fun e => by have := hrow _ e.symm; omega), ownsRow_grown' h2 hg (fun k hk e => ?_), fun k hk => ⟨fun hU => ?_, (h3 k hk).2⟩⟩, h4.grown hg h4.size (fun k e => by have := hrow _ e; omega), by omega, fun k hk => ?_⟩
      · have hk2 := h3 k hk
        rcases hr k e with (h | h) | h
        · omega
        · omega
        · exact hk2.1 h
      · rcases hu k hU with h | h
        · exact (h3 k hk).1 h
        · have := h2.lt k hk; omega
      · rcases hu k hk with h | h
        · have := h6 k h; omega
        · omega)
    (fun _ _ _ _ _ _ _ hs _ _ _ => hs) ⟨⟨_, hbs, World.ownsRow_nil _ _ _ _, fun k e => by cases e⟩, hbel, Nat.le_refl _, fun _ h => h.elim⟩
    (fun x => { tmps := #[.slice none 0 0, .func (.func gf) #[] lb, .pointer (some ⟨w.heap.size, 0, none⟩), undef, .slice none 0 0, txt x, .func (.func gf) #[] lb, txt x, undef, undef, undef, undef, undef], defers := [] }) ?assign ?body ?done ?stop
  case assign =>
    intro l x W Q hQ
    gi_wp2
    exact hQ
  case body =>
    rintro l U pre x post W hx hlt hU ⟨⟨v, hbx, hown, hfree⟩, hB, hsz, hUs⟩
    have hpl : pre.length ≤ 4000000 := by have := congrArg List.length hx; rw [List.length_append] at this; omega
    have hc := hbx.cell
    have hf := hbx.frozen
    have hpm : txt x = .string (str x) := rfl
    obtain ⟨z, hz⟩ : ∃ z, str x = z := ⟨_, rfl⟩
    rw [hz] at hpm
    clear hz
    gi_wp2_with (gi_at_builtin; go_loud (refine append_text_in rfl _ _ rfl (w.heap.size + 1) v _ _ rfl hown rfl (by omega) (by omega) ?_; intro v' w1 hown' hgrow hwhere; obtain ⟨g', cap', rfl, _, _, _⟩ := texts_open hown' (by omega); have hb1 := (hbx.alloc (.cells #[.string z] 9)).kept hgrow (fun e => by have := (hown.lt _ e.symm).1; omega); have hc1 := hb1.cell; have hf1 := hb1.frozen))
    have hgs := hgrow.size
    rw [World.size_alloc] at hgs
    have hgk : KeepsSet (fun k => k = W0.heap.size ∨ k = W0.heap.size + 1 ∨ K k ∨ U k) W w1 :=
      (KeepsSet.alloc _ W _).trans (KeepsSet.of_grownBy hgrow (fun r e h => by
        have h1 := hfree r e
        have h2 := (hown.lt r e).1
        rcases h with h | h | h | h
        · omega
        · omega
        · have := hK _ h; omega
        · exact h1.1 h))
    have hB1 : Below w.heap.size w w1 := (hB.alloc hB.size _).grown hgrow (by have := hB.size; simp; omega) (fun k hk => by have := (hown.lt k hk).1; omega)
    refine ⟨hgk.trans (KeepsSet.setCell _ _ _ (fun h => by
        rcases h with h | h | h | h
        · omega
        · omega
        · have := hK _ h; omega
        · have := hU _ h; omega)), ⟨_, hb1.set _, ?_, fun k hk => ?_⟩, hB1.setCell (p := ⟨w.heap.size, 0, none⟩) (Nat.le_refl _) _, ?_, fun k hk => ?_⟩
    · rw [List.length_append, List.map_append, List.map_cons, hpm]
      exact ownsRow_grown' hown' (grownBy_setCell' w1 w.heap.size _) (fun k hk e => by cases e; have := (hown'.lt _ hk).1; omega)
    · have hw := hown'.lt k hk
      rw [hk] at hwhere
      rcases hwhere with h | h
      · have h1 := hfree k h.symm
        exact ⟨h1.1, h1.2⟩
      · cases h
        exact ⟨fun hU' => by have := hUs _ hU'; omega, by omega⟩
    · show W0.heap.size ≤ (w1.setCell _ _).heap.size
      rw [World.size_setCell]; omega
    · have := hUs k hk
      rw [World.size_setCell]; omega
  case done =>
    rintro U W ⟨⟨v, hbx, hown, hfree⟩, hB, hsz, hUs⟩ hD
    have hc := hbx.cell
    gi_wp2
    refine ⟨by simp, .inl ⟨_, _, rfl, run_takeDeferred hD, ?_⟩⟩
    refine ⟨_, results_tmp rfl _ _ _, v, rfl, owns_from (ownsRow_putObj hown _ hD rfl) (by omega), ?_⟩
    exact hB.grown (grownBy_putObj' W _ _) hB.size (fun k e => by cases e; omega)
  case stop =>
    rintro c U pre W _ h _
    exact h.elim

theorem collectTexts_in (gf : Nat) (lb : Array Value) (K : Nat → Prop) (w : World) (xs : List (List Nat)) (hxs : xs.length ≤ 4000000)
    (eg : ∀ args w, (callFunc gf args).run Tryd.prog w = .ok (.enter gf args) w)
    (hseq : ∀ W, Below w.heap.size w W → SeqDyn 8 Tryd.prog gf lb (fun x => #[txt x]) K xs W)
    (hK : ∀ k, K k → k < w.heap.size) :
    Calls Tryd.prog 32 #[.func (.func gf) #[] lb] w fun e w' =>
      ∃ v, e = .returned v ∧ w'.ownsRow w.heap.size 9 1 v xs.length (xs.map txt) ∧ Below w.heap.size w w' := by
  have hA := appendTexts_in gf lb K w xs hxs eg hseq hK
  go_enter Tryd.func32, Tryd.ntmps32
  go_wp2_with (go_at_call 50; refine hA.mono ?_; clear hA; rintro e w' ⟨v, rfl, hown, hB⟩)
  go_ret
  exact ⟨v, rfl, hown, hB⟩

set_option maxHeartbeats 1000000 in
theorem implTold (up : Int) (w : World) : Calls Tryd.prog 15 #[.int .i64 up] w fun e w' =>
    ∃ v, e = .returned v ∧ w'.ownsRow w.heap.size 9 1 v (toldV up).length ((toldV up).map txt) ∧ Below w.heap.size w w' := by
  by_cases hbad : up < 0 ∨ 7 < up
  · rw [toldV_bad hbad]
    go_enter Tryd.func15, Tryd.ntmps15
    go_wp2_with (go_at_call 31; refine (within_f _ _ _ (by omega)).mono ?_; rintro e w' ⟨rfl, rfl⟩)
    go_ret
    exact ⟨_, rfl, World.ownsRow_nil _ _ _ _, Below.refl _ _⟩
  · obtain ⟨u, rfl⟩ : ∃ u : Nat, up = u := ⟨up.toNat, by omega⟩
    have hu : u ≤ 7 := by omega
    rw [toldV_nat hu]
    have hlen : (wl u u).length ≤ 4000000 := by
      rw [wl_many hu]
      have hb := bin_le (2 * u) u
      have hb2 : (2 : Nat) ^ (2 * u) ≤ 16384 := Nat.le_trans (Nat.pow_le_pow_right (by omega) (show 2 * u ≤ 14 by omega)) (by decide)
      have hd := Nat.div_le_self (bin (2 * u) u) (u + 1)
      unfold catN
      omega
    have hF := waysFrom_in ⟨#[]⟩ u u
    have hC : ∀ V W1, ((V.alloc (.cells #[.string ⟨#[]⟩] 9)).alloc (.cells #[.int .i64 u] 3)).alloc (.cells #[.int .i64 u] 3) = W1 →
        Calls Tryd.prog 32 #[.func (.func 51) #[] #[.pointer (some ⟨V.heap.size + 1, 0, none⟩), .pointer (some ⟨V.heap.size + 2, 0, none⟩), .pointer (some ⟨V.heap.size, 0, none⟩)]] W1 fun e w' =>
          ∃ v, e = .returned v ∧ w'.ownsRow V.heap.size 9 1 v (wl u u).length ((wl u u).map txt) ∧ Below V.heap.size V w' := fun V W1 hW1 => by
      have hB1 : Below V.heap.size V W1 := by rw [← hW1]; exact (((Below.refl _ V).alloc (Nat.le_refl _) _).alloc (by simp) _).alloc (by simp; omega) _
      have hs1 : W1.heap.size = V.heap.size + 3 := by rw [← hW1]; simp
      have b0 : Boxed W1 V.heap.size 9 (txt []) := by rw [← hW1]; exact ((Boxed.new V _ _).alloc _).alloc _
      have b1 : Boxed W1 (V.heap.size + 1) 3 (.int .i64 (u : Int)) := by
        rw [← hW1]
        have := Boxed.new (V.alloc (.cells #[.string ⟨#[]⟩] 9)) 3 (.int .i64 (u : Int))
        rw [World.size_alloc] at this
        exact this.alloc _
      have b2 : Boxed W1 (V.heap.size + 2) 3 (.int .i64 (u : Int)) := by
        rw [← hW1]
        have := Boxed.new ((V.alloc (.cells #[.string ⟨#[]⟩] 9)).alloc (.cells #[.int .i64 u] 3)) 3 (.int .i64 (u : Int))
        rwa [World.size_alloc, World.size_alloc] at this
      refine (collectTexts_in 51 _ (fun k => k = V.heap.size + 1 ∨ k = V.heap.size + 2 ∨ k = V.heap.size) W1 (wl u u) hlen (enters_of Tryd.func51 (by kernel_rfl) rfl) (fun W hW => ?_) (fun k hk => by omega)).mono ?_
      · have := from_stops 14 [] u u 8 (V.heap.size + 1) (V.heap.size + 2) V.heap.size W (by simp) (by omega) (by omega) (by omega) (by omega) (by omega) (boxed_below b1 hW) (boxed_below b2 hW) (boxed_below b0 hW)
        rwa [fromL_all] at this
      · rintro e w' ⟨v, rfl, hown, hB⟩
        exact ⟨v, rfl, owns_from hown hB1.size, hB1.trans (hB.mono hB1.size)⟩
    go_enter Tryd.func15, Tryd.ntmps15
    go_wp2_with (first
      | (go_at_call 31; refine (within_t _ _ _ (by omega) (by omega)).mono ?_; rintro e w' ⟨rfl, rfl⟩)
      | (go_at_call 33; refine (hF _).mono ?_; rintro e w1 ⟨rfl, hw1⟩)
      | (go_at_call 32; refine (hC _ _ hw1).mono ?_; rintro e w2 ⟨v, rfl, hown, hB⟩))
    go_ret
    exact ⟨v, rfl, hown, hB⟩
end Go.Proofs.YtghfmoanpgaijaaDoor
