/-
  The iterator over the heights along a text; the program's WayOk.
-/
import Derived.Test.YtghfmoanpgaijaaDoorRangeD
import Derived.Test.YtghfmoanpgaijaaDoorMath11b
import Derived.Test.YtghfmoanpgaijaaDoorStrKit
import Derived.Test.YtghfmoanpgaijaaDoorIter
import Derived.Test.YtghfmoanpgaijaaDoorRegKinds
import Derived.Test.YtghfmoanpgaijaaDoorLay11
namespace Go.Proofs.YtghfmoanpgaijaaDoor
open Go.RowKit Go.Shelf
attribute [local go_sem] Oper.semAt_some

theorem dropW_nil {α : Type} (p : α → Bool) : ∀ L : List α, L.dropWhile p = [] ↔ ∀ b ∈ L, p b = true
  | [] => ⟨fun _ b hb => (by simp at hb), fun _ => rfl⟩
  | a :: r => by
    rw [List.dropWhile_cons]
    by_cases e : p a = true
    · rw [if_pos e, dropW_nil p r]
      refine ⟨fun h b hb => ?_, fun h b hb => h b (List.mem_cons_of_mem _ hb)⟩
      rcases List.mem_cons.1 hb with rfl | hb
      · exact e
      · exact h b hb
    · rw [if_neg e]
      exact ⟨fun h => (by cases h), fun h => absurd (h a List.mem_cons_self) e⟩
theorem trimS_nil (L cs : List UInt8) : Lib.trimS L cs = [] ↔ ∀ b ∈ L, cs.contains b = true := by
  unfold Lib.trimS Lib.trimLeftS Lib.trimRightS
  rw [dropW_nil]
  constructor
  · intro h b hb
    by_cases e : L.reverse.dropWhile (cs.contains ·) = []
    · rw [dropW_nil] at e
      exact e b (List.mem_reverse.2 hb)
    · obtain ⟨x, r, hx⟩ := List.exists_cons_of_ne_nil e
      have h1 := List.head_dropWhile_not (cs.contains ·) e
      simp only [hx, List.head_cons] at h1
      have h2 := h x (List.mem_reverse.2 (by rw [hx]; exact List.mem_cons_self))
      rw [h2] at h1
      cases h1
  · intro h b hb
    have hs : b ∈ L.reverse := (List.dropWhile_sublist (fun x => cs.contains x)).subset (List.mem_reverse.1 hb)
    exact h b (List.mem_reverse.1 hs)

/-- Whether a text is of brackets alone. -/
def onlyB (l : List Nat) : Bool := l.all fun x => x == 40 || x == 41
theorem onlyB_iff (l : List Nat) : onlyB l = true ↔ ∀ x ∈ l, x = 40 ∨ x = 41 := by
  unfold onlyB
  rw [List.all_eq_true]
  exact forall_congr' fun x => forall_congr' fun _ => by rw [Bool.or_eq_true, beq_iff_eq, beq_iff_eq]
theorem trim_in (l : List Nat) (hl : ∀ x ∈ l, x < 256) (hn : l.length ≤ 1048576) (w : World) : Calls Tryd.prog 27 #[.string (str l), .string ⟨#[40, 41]⟩] w fun e w' =>
    ∃ t : ByteArray, e = .returned (.string t) ∧ (t.toList == []) = onlyB l ∧ Below w.heap.size w w' := by
  have h := Any.strings_Trim_laid Tryd.trimA (by kernel_rfl) (str l) ⟨#[40, 41]⟩ w (by rw [str_size]; omega) (by decide) (ascii_of_all (by decide))
  refine h.mono ?_
  rintro e w' ⟨rfl, hB⟩
  refine ⟨_, rfl, ?_, hB⟩
  rw [ByteArray.toList_mk, Bool.eq_iff_iff, onlyB_iff, beq_iff_eq]
  show Lib.trimS (l.map UInt8.ofNat) [40, 41] = [] ↔ _
  rw [trimS_nil]
  constructor
  · intro h x hx
    have h1 := h _ (List.mem_map.2 ⟨x, hx, rfl⟩)
    have h2 := hl x hx
    simp only [List.contains_eq_mem, List.mem_cons, List.not_mem_nil, or_false, decide_eq_true_eq] at h1
    rcases h1 with e | e
    · left; have := congrArg UInt8.toNat e; rw [UInt8.toNat_ofNat_of_lt' (by exact h2)] at this; simpa using this
    · right; have := congrArg UInt8.toNat e; rw [UInt8.toNat_ofNat_of_lt' (by exact h2)] at this; simpa using this
  · intro h b hb
    obtain ⟨x, hx, rfl⟩ := List.mem_map.1 hb
    rcases h x hx with rfl | rfl <;> rfl

theorem heightsOf_in (s : ByteArray) (w : World) : Calls Tryd.prog 28 #[.string s] w fun e w' => e = .returned (.func (.func 48) #[] #[.pointer (some ⟨w.heap.size, 0, none⟩)]) ∧ w.alloc (.cells #[.string s] 9) = w' := by
  have hmf : ∀ (fn : Fn) (first cap : Array Value) (w : World), (Instr.makeFunc fn first cap).run Tryd.prog w = .ok (.func fn first cap) w := fun _ _ _ _ => rfl
  go_enter Tryd.func28, Tryd.ntmps28
  go_wp2
  go_ret
  exact ⟨rfl, rfl⟩

theorem range_split {N : Nat} {pre post : List Nat} {x : Nat} (h : List.range N = pre ++ x :: post) : x = pre.length ∧ x < N ∧ pre = List.range x := by
  have h1 : (List.range N)[pre.length]? = some x := by rw [h, List.getElem?_append_right (Nat.le_refl _), Nat.sub_self]; rfl
  have hlt : pre.length < N := by have := (List.getElem?_eq_some_iff.1 h1).1; simpa using this
  rw [List.getElem?_range hlt] at h1
  have e := Option.some.inj h1
  refine ⟨e.symm, by omega, ?_⟩
  have h2 := congrArg (List.take pre.length) h
  rw [List.take_left, List.take_range, Nat.min_eq_left (by omega)] at h2
  rw [← h2, e]

set_option maxRecDepth 100000 in
set_option maxHeartbeats 1000000 in
theorem heights_stops (n B : Nat) (l : List Nat) (hl : ∀ x ∈ l, x < 256) (hn : l.length ≤ 1000) (w : World) (hB : Boxed w B 9 (.string (str l))) :
    SeqDyn n Tryd.prog 48 #[.pointer (some ⟨B, 0, none⟩)] (fun k : Nat => #[.int .i64 k, .int .i64 (hgt l (k + 1))]) (fun k => k = B) (List.range l.length) w := by
  intro y J Jx W hW hJ hJx hY h0
  have hBW := boxed_below hB hW
  have hc := hBW.cell
  have hsz := str_size l
  have hget := fun i h => str_get l i h hl
  refine callsIn_of_wp Tryd.func48 rfl trivial ?_ rfl
  simp only [Tryd.ntmps48, List.size_toArray, List.length_cons, List.length_nil, Nat.reduceAdd, Nat.reduceSub, Array.replicate_succ, Array.replicate_zero, List.push_toArray, List.append_toArray, List.nil_append, List.cons_append]
  obtain ⟨s, hs⟩ : ∃ s, str l = s := ⟨_, rfl⟩
  rw [hs] at hBW hc hsz hget
  clear hs hB hW
  gi_wp2
  gi_loopw [3, 7] (fun a b wr => ∃ k : Nat, k ≤ l.length ∧ a = .int .i64 (hgt l k) ∧ b = .int .i64 k ∧ J (fun _ => False) (List.range k) wr ∧ Boxed wr B 9 (.string s)) (fun _ b _ => l.length - (intOf b).toNat)
  case atStart => exact ⟨0, by omega, by rw [hgt_zero], rfl, h0, hBW⟩
  case round =>
    obtain ⟨k, hk, rfl, rfl, hJs, hbx⟩ := hrel
    clear hc hBW h0
    by_cases hlt : k < l.length
    · have hki : (k : Int) < (s.size : Int) := by omega
      have hg := hget k
      have hcc := hbx.cell
      have hsu := hgt_succ l k hlt
      have hab := hgt_abs l k (by omega)
      obtain ⟨c, hc⟩ : ∃ c, l.getD k 0 = c := ⟨_, rfl⟩
      rw [hc] at hg hsu
      have hks : ∀ hh : k < s.size, s[k].toNat = c := hg
      have hpost : List.range l.length = List.range k ++ k :: (List.range' (k + 1) (l.length - (k + 1))) := by
        rw [List.range_eq_range', List.range_eq_range', show l.length = k + (1 + (l.length - (k + 1))) by omega, ← List.range'_append_1, show k + (1 + (l.length - (k + 1))) - (k + 1) = l.length - (k + 1) by omega]
        congr 1
        rw [Nat.add_comm 1, List.range'_succ, Nat.zero_add]
      obtain ⟨fn, tmps, assign, body, hy, hR⟩ := hY _ _ k _ wr hpost hJs
      have hR' := roundIn_any (m := n - 1) hR
      have hpost' : Hid (List.range l.length = (List.range k ++ [k]) ++ (List.range' (k + 1) (l.length - (k + 1)))) := hide (by rw [hpost, List.append_assoc]; rfl)
      clear hget hc hg hR hpost
      have hsu' := hide hsu
      obtain ⟨h, hh⟩ : ∃ h, hgt l k = h := ⟨_, rfl⟩
      obtain ⟨h', hh'⟩ : ∃ h', hgt l (k + 1) = h' := ⟨_, rfl⟩
      rw [hh, hh'] at hsu
      rw [hh'] at hy
      rw [hh] at hab ⊢
      by_cases e1 : c = 40
      · subst e1
        rw [if_pos rfl] at hsu
        subst hsu
        have h7 : IntKind.i64.wrap (h + 1) = h + 1 := IntWalk.i64_in _ (by omega)
        replace hh := hide hh
        clear hh'
        gi_wp2
        refine ⟨fun h => by simp [Fence.wide] at h, ?_⟩
        refine hR'.mono ?_
        rintro e W3 (⟨rfl, hJ3, hk3⟩ | ⟨rfl, hJx3, hk3⟩)
        · have hb3 : Boxed W3 B 9 (.string s) := (hk3.same B hbx.lt (.inl rfl)).trans hbx
          clear hcc hbx hks
          gi_wp2
          go_roundw
          case rel => exact ⟨k + 1, by omega, by have h9 := hsu'.out; simp at h9; rw [h9, hh.out], by go_num, by rw [List.range_succ]; exact hJ3, hb3⟩
          case measure => simp [intOf]; omega
        · gi_wp2
          refine bodyPost_ret (results_none rfl _ _ _) rfl ?_
          exact ⟨⟨_, rfl⟩, .inr ⟨_, _, ⟨_, hpost'.out.symm⟩, hJx3⟩⟩
      · rw [if_neg e1] at hsu
        subst hsu
        have h7 : IntKind.i64.wrap (h - 1) = h - 1 := IntWalk.i64_in _ (by omega)
        replace hh := hide hh
        clear hh'
        have hb1 : ((c : Int) == 40) = false := by simp; omega
        gi_wp2
        refine ⟨fun h => by simp [Fence.wide] at h, ?_⟩
        refine hR'.mono ?_
        rintro e W3 (⟨rfl, hJ3, hk3⟩ | ⟨rfl, hJx3, hk3⟩)
        · have hb3 : Boxed W3 B 9 (.string s) := (hk3.same B hbx.lt (.inl rfl)).trans hbx
          clear hcc hbx hks
          gi_wp2
          go_roundw
          case rel => exact ⟨k + 1, by omega, by rw [hsu'.out, if_neg e1, hh.out], by go_num, by rw [List.range_succ]; exact hJ3, hb3⟩
          case measure => simp [intOf]; omega
        · gi_wp2
          refine bodyPost_ret (results_none rfl _ _ _) rfl ?_
          exact ⟨⟨_, rfl⟩, .inr ⟨_, _, ⟨_, hpost'.out.symm⟩, hJx3⟩⟩
    · obtain rfl : k = l.length := by omega
      have hki : ¬ ((l.length : Nat) : Int) < (s.size : Int) := by omega
      clear hget
      gi_wp2
      go_end0
      exact ⟨⟨_, rfl⟩, .inl ⟨_, hJs⟩⟩

theorem rcell_one {fn : Func} {p : Tmp} {ty : TypeId} (h : fn.results = #[.cell p ty]) (tmps : Array Value) (P : Program) (w : World) :
    (results fn tmps).run P w = ((asAddr (tmps.getD p undef)).run P w).andThen fun a w₁ => (loadVar ty a).run P w₁ := by
  simp only [results, h]
  simp [Sem.run_bind, Result.andThen]
theorem rcell_bool {fn : Func} {p : Tmp} (h : fn.results = #[.cell p 4]) (tmps : Array Value) (w : World) (B : Nat) (v : Bool) (hp : tmps.getD p undef = .pointer (some ⟨B, 0, none⟩)) (hb : Boxed w B 4 (.bool v)) :
    (results fn tmps).run Tryd.prog w = .ok (.bool v) w := by
  have hc := hb.cell
  rw [rcell_one h, hp]
  go_simp

set_option maxRecDepth 100000 in
set_option maxHeartbeats 1000000 in
theorem implWayOk (l : List Nat) (hl : ∀ x ∈ l, x < 256) (hn : l.length ≤ 1048576) (w : World) : Calls Tryd.prog 11 #[.string (str l)] w fun e w' => e = .returned (.bool (wayL l)) ∧ Below w.heap.size w w' := by
  have hT := trim_in l hl hn
  have hsz := str_size l
  refine (callsIn_wide (n := 9)).1 ?_
  refine callsIn_of_wp_marks Tryd.func11 rfl trivial ?_ rfl
  simp only [Tryd.ntmps11, List.size_toArray, List.length_cons, List.length_nil, Nat.reduceAdd, Nat.reduceSub, Array.replicate_succ, Array.replicate_zero, List.push_toArray, List.append_toArray, List.nil_append, List.cons_append]
  by_cases h14 : 14 < l.length
  · have hv : wayL l = false := by
      unfold wayL
      rw [decide_eq_false (show ¬ l.length ≤ 14 by omega), Bool.and_false]
    have hv' := hide hv
    have h14' : (14 : Int) < (l.length : Int) := by omega
    clear hv hT
    gi_wp2_with ((with_reducible apply And.intro); exact trivial)
    exact ⟨_, rcell_bool rfl _ _ w.heap.size false rfl (Boxed.new w _ _), by rw [hv'.out], (Below.refl _ w).alloc (Nat.le_refl _) _⟩
  · have h14' : ¬ (14 : Int) < (l.length : Int) := by omega
    have hbx : Boxed (w.alloc (Obj.cells #[Value.bool false] 4)) w.heap.size 4 (.bool false) := Boxed.new w _ _
    cases hob : onlyB l with
    | false =>
      have hv : wayL l = false := by
        cases e : wayL l with
        | false => rfl
        | true =>
          have h1 := (onlyB_iff l).2 (okW_bytes l 0 (wayL_is e).1)
          rw [hob] at h1
          cases h1
      have hv' := hide hv
      rw [hob] at hT
      clear hv
      gi_wp2_with (first
        | (refine ⟨trivial, ?_⟩; gi_at_call 27; refine (callsIn_wide.2 (hT _)).mono ?_; clear hT; rintro e w1 ⟨t, rfl, ht, hB⟩; have hb1 : Boxed w1 w.heap.size 4 (.bool false) := (hB.block _ hbx.lt).trans hbx; have hc1 := hb1.cell; have hf1 := hb1.frozen)
        | ((with_reducible apply And.intro); exact trivial))
      exact ⟨_, rcell_bool rfl _ _ w.heap.size false rfl (hb1.set _), by rw [hv'.out], (((Below.refl _ w).alloc (Nat.le_refl _) _).trans (hB.mono (by simp))).setCell (p := ⟨w.heap.size, 0, none⟩) (Nat.le_refl _) _⟩
    | true =>
      have hbr := (onlyB_iff l).1 hob
      rw [hob] at hT
      have hH := heightsOf_in (str l)
      gi_wp2_with (first
        | (refine ⟨trivial, ?_⟩; gi_at_call 27; refine (callsIn_wide.2 (hT _)).mono ?_; clear hT; rintro e w1 ⟨t, rfl, ht, hB⟩; have hb1 : Boxed w1 w.heap.size 4 (.bool false) := (hB.block _ hbx.lt).trans hbx)
        | (refine ⟨trivial, ?_⟩; gi_at_call 28; refine (callsIn_wide.2 (hH _)).mono ?_; clear hH; rintro e w2 ⟨rfl, hw2⟩)
        | ((with_reducible apply And.intro); exact trivial))
      have hs1 := hB.size
      rw [World.size_alloc] at hs1
      have hs2 : w2.heap.size ≤ w1.heap.size + 2 := by rw [← hw2]; simp
      have hs3 : w1.heap.size + 2 ≤ w2.heap.size := by rw [← hw2]; simp
      have hr2 : Boxed w2 w.heap.size 4 (.bool false) := by rw [← hw2]; exact (hb1.alloc _).alloc _
      have hl2 : Boxed w2 w1.heap.size 3 (.int .i64 0) := by rw [← hw2]; exact (Boxed.new w1 _ _).alloc _
      have hx2 : Boxed w2 (w1.heap.size + 1) 9 (.string (str l)) := by
        rw [← hw2]
        have := Boxed.new (w1.alloc (.cells #[.int .i64 0] 3)) 9 (.string (str l))
        rwa [World.size_alloc] at this
      have hB2 : Below w.heap.size w w2 := by
        rw [← hw2]
        exact ((((Below.refl _ w).alloc (Nat.le_refl _) _).trans (hB.mono (by simp))).alloc (by omega) _).alloc (by simp; omega) _
      clear hw2 hb1 hB hbx ht hob
      refine wpIn_rangeFunc_dyn (gf := 48) (lb := #[.pointer (some ⟨w1.heap.size + 1, 0, none⟩)]) rfl (enters_of Tryd.func48 (by kernel_rfl) rfl)
        (heights_stops (9 - 1) (w1.heap.size + 1) l hl (by omega) w2 hx2) (fun _ => rfl) (by omega)
        (fun U pre V => Boxed V w.heap.size 4 (.bool false) ∧ Boxed V w1.heap.size 3 (.int .i64 (hgt l pre.length)) ∧ 0 ≤ hgt l pre.length ∧ Hid (okW (hgt l pre.length).toNat (l.drop pre.length) = okW 0 l) ∧ Below w.heap.size w V ∧ w2.heap.size ≤ V.heap.size ∧ ∀ k, U k → w2.heap.size ≤ k)
        (fun c U pre V => c = .ret ∧ Boxed V w.heap.size 4 (.bool false) ∧ okW 0 l = false ∧ Below w.heap.size w V ∧ w2.heap.size ≤ V.heap.size ∧ ∀ k, U k → w2.heap.size ≤ k)
        (fun U U' s A B row hs hg hr hu => by
          obtain ⟨h1, h2, h3, h4, h5, h6, h7⟩ := hs
          have hsz := hg.size
          have hrow : ∀ r, row = some r → w2.heap.size ≤ r := fun r e => by
            rcases hr r e with (h | h) | h
            · omega
            · omega
            · exact h7 r h
          exact ⟨h1.kept hg (fun e => by have := hrow _ e.symm; omega), h2.kept hg (fun e => by have := hrow _ e.symm; omega), h3, h4, h5.grown hg h5.size (fun k e => by have := hrow _ e; omega), by omega, fun k hk => by
            rcases hu k hk with h | h
            · exact h7 k h
            · omega⟩)
        (fun c U U' s A B row hs hg hr hu => by
          obtain ⟨h0, h1, h3, h5, h6, h7⟩ := hs
          have hsz := hg.size
          have hrow : ∀ r, row = some r → w2.heap.size ≤ r := fun r e => by
            rcases hr r e with (h | h) | h
            · omega
            · omega
            · exact h7 r h
          exact ⟨h0, h1.kept hg (fun e => by have := hrow _ e.symm; omega), h3, h5.grown hg h5.size (fun k e => by have := hrow _ e; omega), by omega, fun k hk => by
            rcases hu k hk with h | h
            · exact h7 k h
            · omega⟩)
        ⟨hr2, by rw [List.length_nil, hgt_zero]; exact hl2, by rw [List.length_nil, hgt_zero]; omega, hide (by rw [List.length_nil, hgt_zero]; rfl), hB2, Nat.le_refl _, fun _ h => h.elim⟩
        (fun x => { tmps := #[.string (str l), undef, .pointer (some ⟨w.heap.size, 0, none⟩), .pointer (some ⟨w1.heap.size, 0, none⟩), undef, .int .i64 (hgt l (x + 1)), .string (str l), .int .i64 l.length, .bool false, .bool false, .string (str l), .string t, .bool false, .bool false, .string (str l),
          .func (.func 48) #[] #[.pointer (some ⟨w1.heap.size + 1, 0, none⟩)], .int .i64 x, .int .i64 (hgt l (x + 1)), undef, undef, undef, undef, undef], defers := [] }) ?assign ?body ?done ?stop
      case assign =>
        intro l' x V Q hQ
        gi_wp2
        exact hQ
      case body =>
        rintro l' U pre x post V hxs hlt hU ⟨h1, h2, h3, h4, h5, h6, h7⟩
        obtain ⟨hx, hxl, hpre⟩ := range_split hxs
        have hpl : (pre ++ [x]).length = x + 1 := by rw [List.length_append, ← hx]; rfl
        rw [← hx] at h2 h3 h4
        have hnx := okW_next hbr hxl h3 h4.out
        have hab := hgt_abs l (x + 1) (by omega)
        have hpl' := hide hpl
        obtain ⟨h, hh⟩ : ∃ h, hgt l (x + 1) = h := ⟨_, rfl⟩
        have hnx' := hide hnx
        rw [hh] at hnx' ⊢
        have hc1 := h1.cell
        have hf1 := h1.frozen
        have hc2 := h2.cell
        have hf2 := h2.frozen
        have hh' := hide hh
        clear hpl hh hx hxs hpre hnx
        have hkp : ∀ b v, (b = w.heap.size ∨ b = w1.heap.size) → KeepsSet (fun k => k = w2.heap.size ∨ k = w2.heap.size + 1 ∨ k = w1.heap.size + 1 ∨ U k) V (V.setCell ⟨b, 0, none⟩ v) := fun b v hb => KeepsSet.setCell _ _ _ (fun h => by
          rcases h with h | h | h | h
          · omega
          · omega
          · omega
          · have := hU _ h; omega)
        by_cases hneg : h < 0
        · gi_wp2
          exact ⟨hkp _ _ (.inl rfl), rfl, h1.set _, hnx'.out.1 hneg, h5.setCell (p := ⟨w.heap.size, 0, none⟩) (Nat.le_refl _) _, by rw [World.size_setCell]; exact h6, h7⟩
        · have hge : 0 ≤ h := by omega
          gi_wp2
          refine ⟨hkp _ _ (.inr rfl), Boxed.other (W := V) h1 (by omega) _, ?_, ?_, ?_, h5.setCell (p := ⟨w1.heap.size, 0, none⟩) (by show w.heap.size ≤ w1.heap.size; omega) _, by rw [World.size_setCell]; exact h6, h7⟩
          · rw [hpl'.out, hh'.out]; exact h2.set _
          · rw [hpl'.out, hh'.out]; exact hge
          · rw [hpl'.out, hh'.out]; exact hide (hnx'.out.2 hge)
      case done =>
        rintro U V ⟨h1, h2, h3, h4, h5, h6, h7⟩ hD
        rw [List.length_range] at h2 h3 h4
        have hv : wayL l = decide (hgt l l.length = 0) := by
          unfold wayL
          rw [okW_last h3 h4.out, decide_eq_true (show l.length ≤ 14 by omega), Bool.and_true]
        obtain ⟨h, hh⟩ : ∃ h, hgt l l.length = h := ⟨_, rfl⟩
        rw [hh] at h2 hv
        have hv' := hide hv
        have hc1 := h1.cell
        have hf1 := h1.frozen
        have hc2 := h2.cell
        have hDlt := (Array.getElem?_eq_some_iff.1 hD).1
        have hD2 : ∀ v, (V.setCell ⟨w.heap.size, 0, none⟩ v).heap[w2.heap.size]? = some (.deferred (some [])) := fun v => by
          rw [heap_setCell_other _ _ _ _ (by show w2.heap.size ≠ w.heap.size; omega)]; exact hD
        clear hh h3 h4 hv
        gi_wp2
        refine ⟨by simp, .inl ⟨_, _, rfl, run_takeDeferred (hD2 _), ?_⟩⟩
        refine ⟨_, rcell_bool rfl _ _ w.heap.size _ rfl ((h1.set (.bool (h == 0))).kept (grownBy_putObj' _ _ _) (by simp; omega)), by rw [hv'.out]; rfl, ?_⟩
        exact (h5.setCell (p := ⟨w.heap.size, 0, none⟩) (Nat.le_refl _) _).grown (grownBy_putObj' _ _ _) (by rw [World.size_setCell]; exact h5.size) (fun k e => by cases e; omega)
      case stop =>
        rintro c U pre V _ ⟨rfl, h1, h3, h5, h6, h7⟩ hD
        have hv : wayL l = false := by
          unfold wayL
          rw [h3, Bool.false_and]
        have hv' := hide hv
        clear hv h3
        gi_wp2
        refine ⟨by simp, .inl ⟨_, _, rfl, run_takeDeferred hD, ?_⟩⟩
        refine ⟨_, rcell_bool rfl _ _ w.heap.size false rfl (h1.kept (grownBy_putObj' _ _ _) (by simp; omega)), by rw [hv'.out], ?_⟩
        exact h5.grown (grownBy_putObj' _ _ _) h5.size (fun k e => by cases e; omega)
end Go.Proofs.YtghfmoanpgaijaaDoor
