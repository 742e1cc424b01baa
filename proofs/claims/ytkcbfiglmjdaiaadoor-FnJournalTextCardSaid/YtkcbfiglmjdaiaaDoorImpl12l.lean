/-
  The program's ReadJournal at every text.
-/
import Derived.Test.YtkcbfiglmjdaiaaDoorImpl12k
import Derived.Test.YtkcbfiglmjdaiaaDoorSpec12g
import Derived.Test.YtkcbfiglmjdaiaaDoorL12Z
namespace Go.Proofs.YtkcbfiglmjdaiaaDoor
open Go Go.RowKit
attribute [local go_sem] Oper.semAt_some

theorem append_deed_in {F : Fence} {n : Nat} {ops : Array Oper} {rest : List Oper} {o : Oper} {a : Act} {Q : Exit → Act → World → Prop} {w : World} {x : Int × Int} (hgd : o.guard = none) (s y : Operand)
    (ho : o.op = .call { callee := .builtin .append, args := #[s, y], argTypes := #[23, 23] })
    (base : Nat) (v : Value) (L : List (Int × Int)) (hs : a.eval s = v) (hown : w.ownsRow base 36 2 v L.length (cellsD L)) (B : Nat) (hBw : w.heap.size = B) (hx : a.eval y = .slice (some ⟨B, 0, none⟩) 1 1)
    (hn : L.length ≤ 4000000) (hbase : base ≤ w.heap.size)
    (h : ∀ v' w', w'.ownsRow base 36 2 v' (L ++ [x]).length (cellsD (L ++ [x])) → (w.alloc (.cells #[.int .i64 x.1, .int .i64 x.2] 36)).grownBy w' v.ownBlock → (v'.ownBlock = v.ownBlock ∨ v'.ownBlock = some (w.heap.size + 1)) → wpListIn F n Tryd.prog ops Q rest (a.put o.dst v') w') :
    wpListIn F n Tryd.prog ops Q (o :: rest) a (w.alloc (.cells #[.int .i64 x.1, .int .i64 x.2] 36)) := by
  subst hBw
  obtain ⟨i0, hi, hz0, hz1, hz2⟩ := info_any Tryd.infoDeed
  refine wpListIn_plain hgd fun K hK => ?_
  have hnew := World.alloc_heap_new w (.cells #[.int .i64 x.1, .int .i64 x.2] 36)
  obtain ⟨v', w', hr, h2, h3, _, h5⟩ := run_append_own_at (P := Tryd.prog) (w.alloc (.cells #[.int .i64 x.1, .int .i64 x.2] 36)) base 23 o.type 36 i0 (.agg #[.int .i64 0, .int .i64 0]) 2 16 Tryd.underlying23 hi hz0 hz1 hz2 rfl (by decide) v L.length (cellsD L) (hown.alloc _) ⟨w.heap.size, 0, none⟩ 1 1 (cellsD [x]) rfl (fun j u hj => by
    have hadd : (⟨w.heap.size, 0, none⟩ : Addr).add j = ⟨w.heap.size, j, none⟩ := by unfold Addr.add; split <;> simp_all
    rw [hadd, cell_of_row _ _ j _ _ _ hnew]
    simpa [cellsD] using hj) (cellsD_one [x]) (by unfold maxLen; omega) (by omega) (by rw [World.size_alloc]; omega)
  unfold Oper.wpIn
  refine ⟨by simp [Oper.about, ho, resolve, Target.leads, Sem.run_pure], ?_⟩
  rw [Oper.semAt_plain F _ _ (by rw [ho]; intro c hc'; cases hc')]
  simp only [execOp, ho, resolve, invoke, builtin, Sem.run_bind, Sem.run_pure, Result.andThen_ok, List.map_toArray, List.map_cons, List.map_nil, hs, hx, hr]
  refine hK _ _ (h v' w' ?_ h3 (by rwa [World.size_alloc] at h5))
  rw [cellsD_app, List.length_append]
  exact h2

theorem jr_countJ : ∀ (s line : List Nat), (jrL line s).1.length ≤ s.length
  | [], _ => by simp [jrL]
  | c :: s, line => by
    by_cases e : c = 10
    · subst e
      cases hr : readD line with
      | none => rw [jrL_none hr]; simp
      | some a =>
        rw [jrL_deed hr]
        have := jr_countJ s []
        simpa using this
    · rw [jrL_other e]
      have := jr_countJ s (line ++ [c])
      simp; omega
set_option maxRecDepth 100000 in
set_option maxHeartbeats 2000000 in
theorem implReadJournal (l : List Nat) (hl : ∀ x ∈ l, x < 256) (hn : l.length ≤ 1100000) (w : World) (hE : Env w) : Calls Tryd.prog 8 #[.string (str l)] w fun e w' =>
    ∃ u, e = .returned (.tuple #[u, .int .i64 ((jrT l).2 : Nat)]) ∧ w'.ownsRow w.heap.size 36 2 u (jrT l).1.length (cellsD (jrT l).1) ∧ Below w.heap.size w w' := by
  have hjr : jrT l = takeJ (linL [] l) := jr_lines l [] (by simp)
  refine (callsIn_wide (n := 9)).1 ?_
  refine callsIn_of_wp_marks Tryd.func8 rfl trivial ?_ rfl
  simp only [Tryd.ntmps8, List.size_toArray, List.length_cons, List.length_nil, Nat.reduceAdd, Nat.reduceSub, Array.replicate_succ, Array.replicate_zero, List.push_toArray, List.append_toArray, List.nil_append, List.cons_append]
  have hLn := fun V => linesOf_in (str l) V
  have hIt := fun V B (h : Boxed V B 9 (txt l)) => lines_stops l hl hn (9 - 1) B V h
  obtain ⟨w2, hw2⟩ : ∃ w2, ((w.alloc (.cells #[.slice none 0 0] 23)).alloc (.cells #[.int .i64 0] 3)).alloc (.cells #[.string (str l)] 9) = w2 := ⟨_, rfl⟩
  have z2 : w2.heap.size = w.heap.size + 3 := by rw [← hw2]; simp
  have b0 : Boxed w2 w.heap.size 23 (.slice none 0 0) := by rw [← hw2]; exact ((Boxed.new w _ _).alloc _).alloc _
  have b1 : Boxed w2 (w.heap.size + 1) 3 (.int .i64 0) := by rw [← hw2]; exact (by have := Boxed.new (w.alloc (.cells #[.slice none 0 0] 23)) 3 (.int .i64 0); rw [World.size_alloc] at this; exact this.alloc _)
  have b2 : Boxed w2 (w.heap.size + 2) 9 (txt l) := by rw [← hw2]; exact (by have := Boxed.new ((w.alloc (.cells #[.slice none 0 0] 23)).alloc (.cells #[.int .i64 0] 3)) 9 (.string (str l)); simp only [World.size_alloc] at this; exact this)
  have hB2 : Below w.heap.size w w2 := by rw [← hw2]; exact (((Below.refl _ w).alloc (Nat.le_refl _) _).alloc (by simp) _).alloc (by simp; omega) _
  have hE2 := hE.below hB2
  have hrj : RJ w (fun _ => False) (.slice none 0 0) [] 0 w2 := ⟨b0, b1, World.ownsRow_nil _ _ _ _, fun k e => (by cases e), fun _ h => h.elim, by omega, hB2⟩
  have hIt2 := hIt w2 (w.heap.size + 2) b2
  obtain ⟨S, hS⟩ : ∃ S, str l = S := ⟨_, rfl⟩
  obtain ⟨XS, hXS⟩ : ∃ XS, linL [] l = XS := ⟨_, rfl⟩
  rw [hS] at hLn hw2 ⊢
  rw [hXS] at hIt2 hjr
  rw [hjr]
  clear hIt b0 b1 b2 hB2
  gi_wp2_with fail
  refine ⟨trivial, ?_⟩
  gi_at_call 19
  refine (callsIn_wide.2 (hLn _)).mono ?_
  rintro e w3 ⟨rfl, hw3⟩
  rw [hw2] at hw3
  subst hw3
  gi_wp2_with fail
  refine wpIn_rangeFunc_mut (gf := 34) (lb := #[.pointer (some ⟨w.heap.size + 2, 0, none⟩)]) rfl (enters_of Tryd.func34 (by kernel_rfl) rfl) hIt2 (fun _ => rfl) (fun k hk => by omega)
    (fun U pre V => ∃ u L m, RJ w U u L m V ∧ ∀ rest, XS = pre ++ rest → takeJ XS = (L ++ (takeJ rest).1, m + (takeJ rest).2))
    (fun c U pre V => c = .exit 0 ∧ ∃ u L m, RJ w U u L m V ∧ takeJ XS = (L, m))
    (fun U U' s A B row hs hg hr hu => by
      obtain ⟨u, L, m, h1, h2⟩ := hs
      exact ⟨u, L, m, h1.abides hg (fun r e => by rcases hr r e with (h | h | h) | h <;> first | exact .inr h | (left; omega)) hu, h2⟩)
    (fun c U U' s A B row hs hg hr hu => by
      obtain ⟨h0, u, L, m, h1, h2⟩ := hs
      exact ⟨h0, u, L, m, h1.abides hg (fun r e => by rcases hr r e with (h | h | h) | h <;> first | exact .inr h | (left; omega)) hu, h2⟩)
    ⟨_, [], 0, hrj, fun rest h => by rw [show XS = rest from h]; simp⟩
    (fun x => { tmps := #[.string S, undef, .slice none 0 0, .int .i64 0, .pointer (some ⟨w.heap.size, 0, none⟩), .pointer (some ⟨w.heap.size + 1, 0, none⟩), txt x, undef, undef, undef, undef, .string S,
      .func (.func 34) #[] #[.pointer (some ⟨w.heap.size + 2, 0, none⟩)], txt x, undef, undef, undef, undef, undef, undef, undef, undef, undef, undef, undef, undef, undef, undef, undef, undef, undef, undef, undef, undef, undef, undef, undef, undef, undef, undef], defers := [] }) ?assign ?body ?done ?stop
  case assign =>
    intro l' x V Q hQ
    gi_wp2
    exact hQ
  case body =>
    rintro l' U pre x post V hxs hlt hU ⟨u, L, m, hRJ, hT⟩
    have hTx := hT (x :: post) hxs
    obtain ⟨hx0, hx1, hx2⟩ := lin_mem l [] x (by rw [hXS, hxs]; simp)
    have hxb : ∀ c ∈ x, c < 256 := fun c hc => hl c ((hx1 c hc).resolve_left (by simp))
    have hxn : x.length ≤ 1100000 := by simp at hx2; omega
    have hE3 := hE.below hRJ.below
    have hCut := fun W => cutSuffix_in x hxb (by omega) W
    have htb : ∀ c ∈ (cutN x).1, c < 256 := fun c hc => by
      unfold cutN at hc
      split at hc
      · exact hxb c ((List.dropLast_sublist x).subset hc)
      · exact hxb c hc
    have htn : (cutN x).1.length ≤ 1100000 := by
      unfold cutN
      split
      · simp; omega
      · exact hxn
    have hRd := fun W hW => implReadDeed (cutN x).1 htb htn W hW
    have hstep : takeJ (x :: post) = if (cutN x).2 = true ∧ (rdV (cutN x).1).2 = true then ((rdV (cutN x).1).1 :: (takeJ post).1, x.length + (takeJ post).2) else ([], 0) := by
      rw [takeJ]
      unfold cutN
      by_cases e : x.getLast? = some 10
      · rw [if_pos e, if_pos e]
        unfold rdV
        cases readD x.dropLast <;> simp
      · rw [if_neg e, if_neg e]; simp
    have hxs' : ∀ rest, XS = (pre ++ [x]) ++ rest → rest = post := fun rest h => by
      rw [hxs] at h
      simpa using h.symm
    obtain ⟨T, hT1⟩ : ∃ T, str (cutN x).1 = T := ⟨_, rfl⟩
    obtain ⟨en, hen⟩ : ∃ en, (cutN x).2 = en := ⟨_, rfl⟩
    obtain ⟨⟨⟨k, n⟩, ok⟩, hrd⟩ : ∃ r, rdV (cutN x).1 = r := ⟨_, rfl⟩
    have hXs := str_size x
    obtain ⟨X, hX⟩ : ∃ X, str x = X := ⟨_, rfl⟩
    rw [hT1, hen, hX] at hCut
    rw [hT1, hrd] at hRd
    rw [hen, hrd] at hstep
    rw [hX] at hXs
    have hRd3 := hRd V hE3
    unfold dV at hRd3
    simp only [txt, hX]
    simp only at hRd3 hstep
    clear hT1 hen hrd hRd hE3 htb htn hxb hx1 hx2 hIt2 hLn hrj hE2
    gi_wp2_with (refine ⟨trivial, ?_⟩; gi_at_call 20; refine (callsIn_wide.2 (hCut _)).mono ?_; clear hCut; rintro e w4 ⟨rfl, rfl⟩)
    refine ⟨trivial, ?_⟩
    gi_at_call 21
    refine (callsIn_wide.2 hRd3).mono ?_
    rintro e w5 ⟨rfl, hB5⟩
    have hR5 : RJ w U u L m w5 := hRJ.abides (below_grownL hB5) (fun r e => by cases e) (fun _ h => .inl h)
    have hK5 : ∀ (T : Nat → Prop), KeepsSet T V w5 := fun T => KeepsSet.of_grownBy (below_grownL hB5) (fun r e => by cases e)
    have hR6 : RJ w U u L m (w5.alloc (.cells #[.int .i64 k, .int .i64 n] 36)) := hR5.abides (World.grownBy_alloc _ _ none) (fun r e => by cases e) (fun _ h => .inl h)
    have hK6 : ∀ (T : Nat → Prop), KeepsSet T V (w5.alloc (.cells #[.int .i64 k, .int .i64 n] 36)) := fun T => (hK5 T).trans (KeepsSet.of_grownBy (World.grownBy_alloc _ _ none) (fun r e => by cases e))
    clear hRd3
    by_cases hgood : en = true ∧ ok = true
    · obtain ⟨rfl, rfl⟩ := hgood
      rw [if_pos ⟨rfl, rfl⟩] at hstep
      rw [hstep] at hTx
      simp only at hTx
      have hc1 := jr_countJ l []
      have hc2 := (jt_of_jr l []).2.2.2.1
      have hjr' : jrL [] l = takeJ XS := hjr
      rw [hjr', hTx] at hc1 hc2
      simp at hc1 hc2
      obtain ⟨ua, uc, rfl⟩ := own_shape hRJ.own
      have hV5 : w.heap.size + 5 ≤ V.heap.size := by omega
      have h56 := hB5.size
      have hfar := hR6.far
      have hlow := hRJ.low
      obtain ⟨W6, hW6⟩ : ∃ W6, w5.alloc (.cells #[.int .i64 k, .int .i64 n] 36) = W6 := ⟨_, rfl⟩
      have kb := World.alloc_heap_new w5 (.cells #[.int .i64 k, .int .i64 n] 36)
      have z6 : w5.heap.size + 1 = W6.heap.size := by rw [← hW6]; simp
      rw [hW6] at hR6 hK6 kb
      have cb0 : W6.cell? ⟨w5.heap.size, 0, none⟩ = some (.int .i64 k) := (by simp [World.cell?, kb])
      have cb1 : W6.cell? ⟨w5.heap.size, 1, none⟩ = some (.int .i64 n) := (by simp [World.cell?, kb])
      have cBl := hR6.bl.cell
      have hown6 := hR6.own
      have hnew : ∀ rest, XS = (pre ++ [x]) ++ rest → takeJ XS = ((L ++ [(k, n)]) ++ (takeJ rest).1, (m + x.length) + (takeJ rest).2) := fun rest h => by
        rw [hxs' rest h, hTx]
        simp [Nat.add_assoc]
      replace hnew := hide hnew
      clear hTx hstep hT hxs' hjr'
      gi_wp2_with (gi_at_builtin; go_loud (refine append_deed_in (x := (k, n)) rfl _ _ rfl w.heap.size _ L rfl hown6 _ rfl rfl (by omega) (Nat.le_trans hR6.below.size (Nat.le_refl _)) ?_))
      intro v' w7 hown7 hgr hwh
      obtain ⟨va, vc, hva⟩ := own_shape hown7
      have hu7 : ∀ r, (Value.slice ua L.length uc).ownBlock = some r → w.heap.size + 5 ≤ r := fun r e => (hfar r e).1
      have bl7 : Boxed w7 w.heap.size 23 (.slice ua L.length uc) := (hR6.bl.alloc _).kept hgr (fun e => by have := hu7 _ e.symm; omega)
      have bn7 : Boxed w7 (w.heap.size + 1) 3 (.int .i64 m) := (hR6.bn.alloc _).kept hgr (fun e => by have := hu7 _ e.symm; omega)
      have cl7 := bl7.cell
      have fl7 := bl7.frozen
      have g8 := grownBy_setAtL w7 w.heap.size 0 v'
      have bl8 := boxed_setL bl7 v'
      have bn8 := bn7.kept g8 (fun e => by injection e with e; omega)
      have hv' : ∀ r, v'.ownBlock = some r → w.heap.size + 5 ≤ r ∧ ¬ U r := fun r e => by
        rcases hwh with h | h
        · exact hfar r (h ▸ e)
        · rw [h] at e
          injection e with e
          refine ⟨by omega, fun hu => ?_⟩
          have := (hlow r hu).2
          omega
      have hown8 := hown7.kept g8 (.inr (fun e => by have := (hv' _ e).1; omega))
      subst hva
      obtain ⟨W8, hW8⟩ : ∃ W8, w7.setCell ⟨w.heap.size, 0, none⟩ (.slice va (L.length + 1) vc) = W8 := ⟨_, rfl⟩
      rw [hW8] at g8 bl8 bn8 hown8
      have cn8 := bn8.cell
      have fn8 := bn8.frozen
      have hw : IntKind.i64.wrap ((m : Int) + (x.length : Int)) = (m : Int) + (x.length : Int) := IntWalk.i64_in _ (by omega)
      have g9 := grownBy_setAtL W8 (w.heap.size + 1) 0 (.int .i64 ((m + x.length : Nat) : Int))
      have bn9 := boxed_setL bn8 (.int .i64 ((m + x.length : Nat) : Int))
      have bl9 := bl8.kept g9 (fun e => by injection e with e; omega)
      have hown9 := hown8.kept g9 (.inr (fun e => by have := (hv' _ e).1; omega))
      have hs7 := hgr.size
      have hs8 := g8.size
      have hs9 := g9.size
      rw [World.size_alloc] at hs7
      have hB6 := hR6.below
      have hB9 := (((hB6.alloc hB6.size (.cells #[.int .i64 k, .int .i64 n] 36)).grown hgr (by rw [World.size_alloc]; have := hB6.size; omega) (fun r e => by have := hu7 _ e; omega)).grown g8 (by have := hB6.size; omega) (fun r e => by cases e; omega)).grown g9 (by have := hB6.size; omega) (fun r e => by cases e; omega)
      have hKS := (((hK6 (fun k => k = w3.heap.size ∨ k = w3.heap.size + 1 ∨ k = w.heap.size + 2 ∨ U k)).trans (KeepsSet.alloc _ W6 (.cells #[.int .i64 k, .int .i64 n] 36))).trans (KeepsSet.of_grownBy hgr (fun r e h => by
          obtain ⟨q1, q2⟩ := hfar r e
          rcases h with h | h | h | h
          · omega
          · omega
          · omega
          · exact q2 h))).trans ((KeepsSet.of_grownBy g8 (fun r e h => by
          cases e
          rcases h with h | h | h | h
          · omega
          · omega
          · omega
          · have := (hlow _ h).1; omega)).trans (KeepsSet.of_grownBy g9 (fun r e h => by
          cases e
          rcases h with h | h | h | h
          · omega
          · omega
          · omega
          · have := (hlow _ h).1; omega)))
      have hcast : ((m + x.length : Nat) : Int) = (m : Int) + (x.length : Int) := by omega
      rw [hcast] at g9 bn9 bl9 hown9 hB9 hKS hs9
      obtain ⟨W9, hW9⟩ : ∃ W9, W8.setCell ⟨w.heap.size + 1, 0, none⟩ (.int .i64 ((m : Int) + (x.length : Int))) = W9 := ⟨_, rfl⟩
      rw [hW9] at g9 bn9 bl9 hown9 hB9 hKS hs9
      rw [← hcast] at bn9
      have hRJ9 : RJ w U (.slice va (L.length + 1) vc) (L ++ [(k, n)]) (m + x.length) W9 := ⟨bl9, bn9, (by simpa using hown9), hv', fun r hr => ⟨(hlow r hr).1, by have := (hlow r hr).2; omega⟩, by omega, hB9⟩
      clear g8 g9 hgr hown7 hown8 hown9 bl7 bn7 bl8 bn8 bl9 bn9 hwh hR6 hK6 hcast
      gi_wp2
      exact ⟨hKS, _, _, _, hRJ9, hnew.out⟩
    · rw [if_neg hgood] at hstep
      have hfin : takeJ XS = (L, m) := by rw [hTx, hstep]; simp
      have hfin' := hide hfin
      clear hstep hfin hTx hT
      cases en with
      | false =>
        gi_wp2
        exact ⟨hK6 _, rfl, u, L, m, hR6, hfin'.out⟩
      | true =>
        cases ok with
        | true => exact absurd ⟨rfl, rfl⟩ hgood
        | false =>
          gi_wp2
          exact ⟨hK6 _, rfl, u, L, m, hR6, hfin'.out⟩
  case done =>
    rintro U V ⟨u, L, m, hRJ, hT⟩ hdef
    have hT2 : takeJ XS = (L, m) := by have := hT [] (by simp); simpa [takeJ] using this
    obtain ⟨ua, uc, rfl⟩ := own_shape hRJ.own
    have q2 := hide hT2
    have d0 := hRJ.bl
    have d1 := hRJ.bn
    clear hT2 hT
    gi_wp2
    refine wpIn_region_put 3 [(some 38, 0), (some 39, 1), (some 2, 2)] (by kernel_rfl) (by kernel_rfl) (by kernel_rfl) (by decide) (by rfl) (by decide)
      (fun j v _ => match j with | 0 => v = .slice ua L.length uc | 1 => v = .int .i64 m | 2 => v = .slice ua L.length uc | _ => True)
      (fun j v V V' h _ => match j, h with | 0, h => h | 1, h => h | 2, h => h | (_ + 3), _ => trivial)
      ?_ ?_
    · rintro j oo s V' hj ho hBV hd Q' hQ
      rcases (show j = 0 ∨ j = 1 ∨ j = 2 by omega) with rfl | rfl | rfl
      all_goals
        simp at ho
        subst ho
        simp only [putsOf, Act.put, List.setIfInBounds_toArray, List.set_cons_succ, List.set_cons_zero] at hQ ⊢
        have hQ' := hide hQ
        clear hQ
      · clear hd
        have hcV := (boxed_below d0 hBV).cell
        gi_wp2
        exact hQ'.out _ _ (Below.refl _ _) rfl
      · clear hd
        have hcV := (boxed_below d1 hBV).cell
        gi_wp2
        exact hQ'.out _ _ (Below.refl _ _) rfl
      · have e1 : s 0 = .slice ua L.length uc := hd 0 (by kernel_rfl)
        clear hd
        gi_wp2
        have hr := hQ'.out
        simp only [e1] at hr ⊢
        exact hr _ _ (Below.refl _ _) rfl
    · rintro s V' hBV hd
      have f1 : s 1 = .int .i64 m := hd 1 (by omega)
      have f2 : s 2 = .slice ua L.length uc := hd 2 (by omega)
      clear hd
      have hD' := (hBV.block _ (Array.getElem?_eq_some_iff.1 hdef).1).trans hdef
      simp only [putsOf, Act.put, List.setIfInBounds_toArray, List.set_cons_succ, List.set_cons_zero]
      simp only [List.drop_succ_cons, List.drop_zero]
      simp only [f1, f2]
      gi_wp2
      refine ⟨by simp, .inl ⟨_, _, rfl, run_takeDeferred hD', ?_⟩⟩
      refine ⟨_, results_tmp2 rfl _ _ _, _, (by rw [q2.out]; rfl), ?_, ?_⟩
      · rw [q2.out]
        exact (own_more hRJ.own hBV).kept (grownBy_putObj' _ _ _) (.inr (fun e => by have := hRJ.far _ e; omega))
      · exact (hRJ.below.trans (hBV.mono hRJ.below.size)).grown (grownBy_putObj' _ _ _) (Nat.le_trans hRJ.below.size hBV.size) (fun k e => by cases e; omega)
  case stop =>
    rintro c U pre V _ ⟨rfl, u, L, m, hRJ, hT2⟩ hdef
    obtain ⟨ua, uc, rfl⟩ := own_shape hRJ.own
    have q2 := hide hT2
    have d0 := hRJ.bl
    have d1 := hRJ.bn
    clear hT2
    gi_wp2
    refine wpIn_region_put 3 [(some 38, 0), (some 39, 1), (some 2, 2)] (by kernel_rfl) (by kernel_rfl) (by kernel_rfl) (by decide) (by rfl) (by decide)
      (fun j v _ => match j with | 0 => v = .slice ua L.length uc | 1 => v = .int .i64 m | 2 => v = .slice ua L.length uc | _ => True)
      (fun j v V V' h _ => match j, h with | 0, h => h | 1, h => h | 2, h => h | (_ + 3), _ => trivial)
      ?_ ?_
    · rintro j oo s V' hj ho hBV hd Q' hQ
      rcases (show j = 0 ∨ j = 1 ∨ j = 2 by omega) with rfl | rfl | rfl
      all_goals
        simp at ho
        subst ho
        simp only [putsOf, Act.put, List.setIfInBounds_toArray, List.set_cons_succ, List.set_cons_zero] at hQ ⊢
        have hQ' := hide hQ
        clear hQ
      · clear hd
        have hcV := (boxed_below d0 hBV).cell
        gi_wp2
        exact hQ'.out _ _ (Below.refl _ _) rfl
      · clear hd
        have hcV := (boxed_below d1 hBV).cell
        gi_wp2
        exact hQ'.out _ _ (Below.refl _ _) rfl
      · have e1 : s 0 = .slice ua L.length uc := hd 0 (by kernel_rfl)
        clear hd
        gi_wp2
        have hr := hQ'.out
        simp only [e1] at hr ⊢
        exact hr _ _ (Below.refl _ _) rfl
    · rintro s V' hBV hd
      have f1 : s 1 = .int .i64 m := hd 1 (by omega)
      have f2 : s 2 = .slice ua L.length uc := hd 2 (by omega)
      clear hd
      have hD' := (hBV.block _ (Array.getElem?_eq_some_iff.1 hdef).1).trans hdef
      simp only [putsOf, Act.put, List.setIfInBounds_toArray, List.set_cons_succ, List.set_cons_zero]
      simp only [List.drop_succ_cons, List.drop_zero]
      simp only [f1, f2]
      gi_wp2
      refine ⟨by simp, .inl ⟨_, _, rfl, run_takeDeferred hD', ?_⟩⟩
      refine ⟨_, results_tmp2 rfl _ _ _, _, (by rw [q2.out]; rfl), ?_, ?_⟩
      · rw [q2.out]
        exact (own_more hRJ.own hBV).kept (grownBy_putObj' _ _ _) (.inr (fun e => by have := hRJ.far _ e; omega))
      · exact (hRJ.below.trans (hBV.mono hRJ.below.size)).grown (grownBy_putObj' _ _ _) (Nat.le_trans hRJ.below.size hBV.size) (fun k e => by cases e; omega)
end Go.Proofs.YtkcbfiglmjdaiaaDoor
