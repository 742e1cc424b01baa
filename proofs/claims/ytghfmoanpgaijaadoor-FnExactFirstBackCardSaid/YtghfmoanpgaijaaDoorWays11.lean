/-
  The recursive iterator over ways: it hands out, in order, all ways that begin with a text.
-/
import Derived.Test.YtghfmoanpgaijaaDoorRangeD
import Derived.Test.YtghfmoanpgaijaaDoorRegKinds
import Derived.Test.YtghfmoanpgaijaaDoorMath11b
import Derived.Test.YtghfmoanpgaijaaDoorStrKit
import Derived.Test.YtghfmoanpgaijaaDoorIter
namespace Go.Proofs.YtghfmoanpgaijaaDoor
open Go.RowKit Go.Shelf
attribute [local go_sem] Oper.semAt_some

theorem waysFrom_in (s : ByteArray) (o c : Int) (w : World) : Calls Tryd.prog 33 #[.string s, .int .i64 o, .int .i64 c] w fun e w' =>
    e = .returned (.func (.func 51) #[] #[.pointer (some ⟨w.heap.size + 1, 0, none⟩), .pointer (some ⟨w.heap.size + 2, 0, none⟩), .pointer (some ⟨w.heap.size, 0, none⟩)]) ∧
    ((w.alloc (.cells #[.string s] 9)).alloc (.cells #[.int .i64 o] 3)).alloc (.cells #[.int .i64 c] 3) = w' := by
  have hmf : ∀ (fn : Fn) (first cap : Array Value) (w : World), (Instr.makeFunc fn first cap).run Tryd.prog w = .ok (.func fn first cap) w := fun _ _ _ _ => rfl
  go_enter Tryd.func33, Tryd.ntmps33
  go_wp2
  go_ret
  exact ⟨rfl, rfl⟩

/-- An iterator's value over three boxes. -/
def FnAt (base : Nat) (b : List Nat) (o c : Int) (v : Value) (W : World) : Prop :=
  ∃ p q r, v = .func (.func 51) #[] #[.pointer (some ⟨p, 0, none⟩), .pointer (some ⟨q, 0, none⟩), .pointer (some ⟨r, 0, none⟩)] ∧ base ≤ p ∧ base ≤ q ∧ base ≤ r ∧
    Boxed W p 3 (.int .i64 o) ∧ Boxed W q 3 (.int .i64 c) ∧ Boxed W r 9 (txt b)
theorem FnAt.mono {base : Nat} {b : List Nat} {o c : Int} {v : Value} {W V : World} (h : FnAt base b o c v W) (hV : Below W.heap.size W V) : FnAt base b o c v V := by
  obtain ⟨p, q, r, h1, h2, h3, h4, h5, h6, h7⟩ := h
  exact ⟨p, q, r, h1, h2, h3, h4, boxed_below h5 hV, boxed_below h6 hV, boxed_below h7 hV⟩
theorem waysFrom_at (base : Nat) (b : List Nat) (o c : Int) (w : World) (hb : base ≤ w.heap.size) : Calls Tryd.prog 33 #[txt b, .int .i64 o, .int .i64 c] w fun e w' =>
    ∃ v, e = .returned v ∧ FnAt base b o c v w' ∧ Below w.heap.size w w' := by
  refine (waysFrom_in (str b) o c w).mono ?_
  rintro e w' ⟨rfl, rfl⟩
  refine ⟨_, rfl, ⟨_, _, _, rfl, by omega, by omega, hb, ?_, ?_, ?_⟩, (((Below.refl _ w).alloc (Nat.le_refl _) _).alloc (by simp) _).alloc (by simp; omega) _⟩
  · have := Boxed.new (w.alloc (.cells #[.string (str b)] 9)) 3 (.int .i64 o)
    rw [World.size_alloc] at this
    exact this.alloc _
  · have := Boxed.new ((w.alloc (.cells #[.string (str b)] 9)).alloc (.cells #[.int .i64 o] 3)) 3 (.int .i64 c)
    rw [World.size_alloc, World.size_alloc] at this
    exact this
  · exact ((Boxed.new w 9 (.string (str b))).alloc _).alloc _

/-- What an operation of the region leaves. -/
inductive Kw where
  | val (v : Value) | fn (b : List Nat) (o c : Int)
def Kw.holds (base : Nat) (v : Value) (W : World) : Kw → Prop
  | .val u => v = u
  | .fn b o c => FnAt base b o c v W
theorem Kw.mono {base : Nat} {v : Value} {W W' : World} (k : Kw) (h : k.holds base v W) (hb : Below W.heap.size W W') : k.holds base v W' := by
  cases k with
  | val u => exact h
  | fn b o c => exact FnAt.mono h hb
def kwAt (ks : List Kw) (k : Nat) : Kw := (ks[k]?).getD (.val undef)
theorem wpIn_region_ways {F : Fence} {n : Nat} {id : Nat} {ops : Array Oper} {Q : Exit → Act → World → Prop} {a : Act} {W : World} (m : Nat) (hm : Tryd.prog.follows .mixedOrders = true) (hb : backB ops = true) (ht : tailB ops m = true) (hsz : m < ops.size)
    (fr : (Nat → Value) → Act) (ks : List Kw)
    (h0 : ∃ s, a = fr s) (hput : ∀ i o s v, i < m → ops[i]? = some o → (fr s).put o.dst v = fr (fun j => if j = i then v else s j))
    (hstep : ∀ i o s V, i < m → ops[i]? = some o → Below W.heap.size W V → (∀ k, depB ops i k = true → (kwAt ks k).holds W.heap.size (s k) V) → ∀ Q' : Exit → Act → World → Prop,
      (∀ v V', Below V.heap.size V V' → (kwAt ks i).holds W.heap.size v V' → Q' .normal ((fr s).put o.dst v) V') → wpListIn F n Tryd.prog ops Q' [o] (fr s) V)
    (htail : ∀ s V, Below W.heap.size W V → (∀ k, k < m → (kwAt ks k).holds W.heap.size (s k) V) → wpListIn F n Tryd.prog ops Q (ops.toList.drop m) (fr s) V) : (Code.region id ops true).wpIn F n Tryd.prog Q a W := by
  refine wpIn_region_tail m hm hb ht hsz fr (fun V => Below W.heap.size W V) (fun V V' => Below V.heap.size V V') (fun k v V => (kwAt ks k).holds W.heap.size v V) h0 hput (Below.refl _ _).drew (fun k v V V' h hg => Kw.mono _ h hg) ?_ htail
  rintro i o s V him ho hV hd Q' hQ'
  exact hstep i o s V him ho hV hd Q' (fun v V' h2 h3 => hQ' v V' (hV.trans (h2.mono hV.size)) h2 h3)

set_option maxRecDepth 100000 in
set_option maxHeartbeats 1000000 in
theorem from_stops : ∀ (N : Nat) (b : List Nat) (o c : Int) (n : Nat) (Bo Bc Bb : Nat) (w : World), b.length + N ≤ 1000 → -100 ≤ o → o ≤ 100 → -100 ≤ c → c ≤ 100 → (0 ≤ o → o ≤ c → o + c ≤ N) →
    Boxed w Bo 3 (.int .i64 o) → Boxed w Bc 3 (.int .i64 c) → Boxed w Bb 9 (txt b) →
    SeqDyn n Tryd.prog 51 #[.pointer (some ⟨Bo, 0, none⟩), .pointer (some ⟨Bc, 0, none⟩), .pointer (some ⟨Bb, 0, none⟩)] (fun x => #[txt x]) (fun k => k = Bo ∨ k = Bc ∨ k = Bb) (fromL b o c) w := by
  intro N
  induction N using Nat.strongRecOn with
  | _ N ih =>
  intro b o c n Bo Bc Bb w hbl ho1 ho2 hc1 hc2 hN hBo hBc hBb l J Jx W hW hJ hJx hY h0
  have hbo := boxed_below hBo hW
  have hbc := boxed_below hBc hW
  have hbb := boxed_below hBb hW
  clear hBo hBc hBb hW
  refine callsIn_of_wp_marks Tryd.func51 rfl trivial ?_ rfl
  simp only [Tryd.ntmps51, List.size_toArray, List.length_cons, List.length_nil, Nat.reduceAdd, Nat.reduceSub, Array.replicate_succ, Array.replicate_zero, List.push_toArray, List.append_toArray, List.nil_append, List.cons_append]
  have h1 := (hbo.alloc (.cells #[.func (.yield l) #[] #[]] 24)).cell
  have h2 := (hbc.alloc (.cells #[.func (.yield l) #[] #[]] 24)).cell
  have h3 := (hbb.alloc (.cells #[.func (.yield l) #[] #[]] 24)).cell
  have hyb : Boxed (W.alloc (.cells #[.func (.yield l) #[] #[]] 24)) W.heap.size 24 (.func (.yield l) #[] #[]) := Boxed.new W _ _
  have hyc := hyb.cell
  have hJ1 : J (fun k => k = W.heap.size) [] (W.alloc (.cells #[.func (.yield l) #[] #[]] 24)) := hJ _ _ _ _ _ none h0 (World.grownBy_alloc W _ none) (fun _ e => by cases e) (fun k hk => .inr (by subst hk; rw [World.size_alloc]; omega))
  clear h0
  by_cases ho : o < 0
  · have hx := hide (fromL_bad (b := b) (o := o) (c := c) (.inl ho))
    gi_wp2
    exact ⟨_, results_none rfl _ _ _, ⟨_, rfl⟩, .inl ⟨_, by rw [hx.out]; exact hJ1⟩⟩
  · by_cases hco : c < o
    · have hx := hide (fromL_bad (b := b) (o := o) (c := c) (.inr hco))
      gi_wp2
      exact ⟨_, results_none rfl _ _ _, ⟨_, rfl⟩, .inl ⟨_, by rw [hx.out]; exact hJ1⟩⟩
    · by_cases hc0 : c = 0
      · subst hc0
        obtain rfl : o = 0 := by omega
        obtain ⟨fn, tmps, assign, body, hy, hR⟩ := hY _ [] b [] _ (by rw [fromL_nil]; rfl) hJ1
        have hx := hide (fromL_nil b)
        clear hY
        gi_wp2
        refine ⟨fun h => by simp [Fence.wide] at h, ?_⟩
        refine hR.mono ?_
        rintro e W3 (⟨rfl, hJ3, hk3⟩ | ⟨rfl, hJx3, hk3⟩)
        · gi_wp2
          exact ⟨_, results_none rfl _ _ _, ⟨_, rfl⟩, .inl ⟨_, by rw [hx.out]; exact hJ3⟩⟩
        · gi_wp2
          exact ⟨_, results_none rfl _ _ _, ⟨_, rfl⟩, .inr ⟨_, _, by rw [hx.out]; exact List.prefix_refl _, hJx3⟩⟩
      · obtain ⟨o', rfl⟩ : ∃ k : Nat, o = k := ⟨o.toNat, by omega⟩
        obtain ⟨c', rfl⟩ : ∃ k : Nat, c = k := ⟨c.toNat, by omega⟩
        have hstep := fromL_step b o' c' (by omega) (by omega)
        obtain ⟨W0, hW0⟩ : ∃ W0, W.alloc (.cells #[.func (.yield l) #[] #[]] 24) = W0 := ⟨_, rfl⟩
        have hsz0 : W.heap.size + 1 ≤ W0.heap.size := by rw [← hW0]; simp
        have hsz1 : W0.heap.size ≤ W.heap.size + 1 := by rw [← hW0]; simp
        have hbo0 : Boxed W0 Bo 3 (.int .i64 o') := by rw [← hW0]; exact hbo.alloc _
        have hbc0 : Boxed W0 Bc 3 (.int .i64 c') := by rw [← hW0]; exact hbc.alloc _
        have hbb0 : Boxed W0 Bb 9 (.string (str b)) := by rw [← hW0]; exact hbb.alloc _
        rw [hW0] at h1 h2 h3 hyb hyc hJ1
        clear hbo hbc hbb
        have hx := hide hstep
        clear hstep
        have hw0 := fun V (hV : W0.heap.size ≤ V.heap.size) => waysFrom_at W0.heap.size (b ++ [40]) ((o' : Int) - 1) c' V hV
        have hw1 := fun V (hV : W0.heap.size ≤ V.heap.size) => waysFrom_at W0.heap.size (b ++ [41]) o' ((c' : Int) - 1) V hV
        have hcat0 : str b ++ ⟨#[40]⟩ = str (b ++ [40]) := str_app b [40]
        have hcat1 : str b ++ ⟨#[41]⟩ = str (b ++ [41]) := str_app b [41]
        have hsZ : (str b).size ≤ 1000 := by rw [str_size]; omega
        unfold txt at h3 hw0 hw1
        obtain ⟨Z, hZ⟩ : ∃ Z, str b = Z := ⟨_, rfl⟩
        obtain ⟨Y0, hY0⟩ : ∃ Z, str (b ++ [40]) = Z := ⟨_, rfl⟩
        obtain ⟨Y1, hY1⟩ : ∃ Z, str (b ++ [41]) = Z := ⟨_, rfl⟩
        rw [hZ] at h3 hbb0 hcat0 hcat1 hsZ
        rw [hY0] at hw0 hcat0
        rw [hY1] at hw1 hcat1
        clear hZ hY0 hY1
        gi_wp2
        clear hW0
        refine wpIn_region_ways 12 (by kernel_rfl) (by kernel_rfl) (by kernel_rfl) (by decide)
          (fun s => { tmps := #[.func (.yield l) #[] #[], .pointer (some ⟨Bo, 0, none⟩), .pointer (some ⟨Bc, 0, none⟩), .pointer (some ⟨Bb, 0, none⟩), .pointer (some ⟨W.heap.size, 0, none⟩), undef, undef, undef, undef, undef,
            .int .i64 o', .bool false, .bool false, .int .i64 c', .int .i64 o', .bool false, .bool false, .int .i64 c', .bool false, undef, undef, undef,
            s 0, s 1, s 2, s 3, s 4, s 5, s 6, s 7, s 8, s 9, s 10, s 11, undef, undef, undef, undef, undef, undef, undef, undef, undef, undef, undef, undef, undef, undef, undef], defers := [] })
          [.val (.string Z), .val (.string Y0), .val (.int .i64 o'), .val (.int .i64 ((o' : Int) - 1)), .val (.int .i64 c'), .fn (b ++ [40]) ((o' : Int) - 1) c', .val (.string Z), .val (.string Y1), .val (.int .i64 o'), .val (.int .i64 c'), .val (.int .i64 ((c' : Int) - 1)), .fn (b ++ [41]) o' ((c' : Int) - 1)]
          ⟨fun _ => undef, rfl⟩ ?put ?step ?tail
        case put =>
          intro i o s v hi ho
          rcases (show i = 0 ∨ i = 1 ∨ i = 2 ∨ i = 3 ∨ i = 4 ∨ i = 5 ∨ i = 6 ∨ i = 7 ∨ i = 8 ∨ i = 9 ∨ i = 10 ∨ i = 11 by omega) with rfl | rfl | rfl | rfl | rfl | rfl | rfl | rfl | rfl | rfl | rfl | rfl
          all_goals
            simp at ho
            subst ho
            simp [Act.put]
        case step =>
          rintro i o s V hi ho hV hd Q' hQ
          have hbo' := (boxed_below hbo0 hV).cell
          have hbc' := (boxed_below hbc0 hV).cell
          have hbb' := (boxed_below hbb0 hV).cell
          have hVs := hV.size
          rcases (show i = 0 ∨ i = 1 ∨ i = 2 ∨ i = 3 ∨ i = 4 ∨ i = 5 ∨ i = 6 ∨ i = 7 ∨ i = 8 ∨ i = 9 ∨ i = 10 ∨ i = 11 by omega) with rfl | rfl | rfl | rfl | rfl | rfl | rfl | rfl | rfl | rfl | rfl | rfl
          all_goals
            simp at ho
            subst ho
            simp [Act.put] at hQ
            have hQ' := hide hQ
            clear hQ
          case inl => clear hd; gi_wp2; exact hQ'.out _ _ (Below.refl _ _) rfl
          case inr.inl =>
            have e1 : s 0 = .string Z := hd 0 (by kernel_rfl)
            clear hd; gi_wp2
            have hr := hQ'.out
            rw [e1] at hr
            exact hr _ _ (Below.refl _ _) rfl
          case inr.inr.inl => clear hd; gi_wp2; exact hQ'.out _ _ (Below.refl _ _) rfl
          case inr.inr.inr.inl =>
            have e1 : s 2 = .int .i64 o' := hd 2 (by kernel_rfl)
            clear hd; gi_wp2
            have hr := hQ'.out
            rw [e1] at hr
            exact hr _ _ (Below.refl _ _) rfl
          case inr.inr.inr.inr.inl => clear hd; gi_wp2; exact hQ'.out _ _ (Below.refl _ _) rfl
          case inr.inr.inr.inr.inr.inl =>
            have e1 : s 1 = .string Y0 := hd 1 (by kernel_rfl)
            have e2 : s 3 = .int .i64 ((o' : Int) - 1) := hd 3 (by kernel_rfl)
            have e3 : s 4 = .int .i64 c' := hd 4 (by kernel_rfl)
            have hc := hw0 V hVs
            clear hd hw0 hw1
            gi_wp2_with (refine ⟨trivial, fun h => by simp [Fence.wide] at h, ?_⟩; gi_at_call 33; refine (callsIn_wide.2 hc).mono ?_; clear hc; rintro e w' ⟨v, rfl, hv, hB'⟩)
            have hr := hQ'.out
            rw [e1, e2, e3] at hr
            exact hr _ _ hB' hv
          case inr.inr.inr.inr.inr.inr.inl => clear hd; gi_wp2; exact hQ'.out _ _ (Below.refl _ _) rfl
          case inr.inr.inr.inr.inr.inr.inr.inl =>
            have e1 : s 6 = .string Z := hd 6 (by kernel_rfl)
            clear hd; gi_wp2
            have hr := hQ'.out
            rw [e1] at hr
            exact hr _ _ (Below.refl _ _) rfl
          case inr.inr.inr.inr.inr.inr.inr.inr.inl => clear hd; gi_wp2; exact hQ'.out _ _ (Below.refl _ _) rfl
          case inr.inr.inr.inr.inr.inr.inr.inr.inr.inl => clear hd; gi_wp2; exact hQ'.out _ _ (Below.refl _ _) rfl
          case inr.inr.inr.inr.inr.inr.inr.inr.inr.inr.inl =>
            have e1 : s 9 = .int .i64 c' := hd 9 (by kernel_rfl)
            clear hd; gi_wp2
            have hr := hQ'.out
            rw [e1] at hr
            exact hr _ _ (Below.refl _ _) rfl
          case inr.inr.inr.inr.inr.inr.inr.inr.inr.inr.inr =>
            have e1 : s 7 = .string Y1 := hd 7 (by kernel_rfl)
            have e2 : s 8 = .int .i64 o' := hd 8 (by kernel_rfl)
            have e3 : s 10 = .int .i64 ((c' : Int) - 1) := hd 10 (by kernel_rfl)
            have hc := hw1 V hVs
            clear hd hw0 hw1
            gi_wp2_with (refine ⟨trivial, fun h => by simp [Fence.wide] at h, ?_⟩; gi_at_call 33; refine (callsIn_wide.2 hc).mono ?_; clear hc; rintro e w' ⟨v, rfl, hv, hB'⟩)
            have hr := hQ'.out
            rw [e1, e2, e3] at hr
            exact hr _ _ hB' hv
        case tail =>
          rintro s V hV hd
          obtain ⟨p0, q0, r0, e5, hp0, hq0, hr0, hbp0, hbq0, hbr0⟩ : FnAt W0.heap.size (b ++ [40]) ((o' : Int) - 1) c' (s 5) V := hd 5 (by omega)
          obtain ⟨p1, q1, r1, e11, hp1, hq1, hr1, hbp1, hbq1, hbr1⟩ : FnAt W0.heap.size (b ++ [41]) o' ((c' : Int) - 1) (s 11) V := hd 11 (by omega)
          have hJV : J (fun k => W.heap.size ≤ k ∧ k < V.heap.size) [] V := hJ _ _ _ _ _ none hJ1 ⟨hV.os, hV.tape, hV.output, hV.size, fun k hk _ => hV.block k hk⟩ (fun _ e => by cases e) (fun k hk => by
            by_cases e : k = W.heap.size
            · exact .inl e
            · exact .inr ⟨by omega, hk.2⟩)
          have hyV := boxed_below hyb hV
          have hVs := hV.size
          clear hd hw0 hw1 hJ1 hyb hyc hbo0 hbc0 hbb0 h1 h2 h3 hV hsZ hcat0 hcat1
          simp only [List.drop_succ_cons, List.drop_zero]
          gi_wp2
          clear e5 e11
          obtain ⟨f0, hf0⟩ : ∃ f, Value.func (Fn.func 51) #[] #[Value.pointer (some ⟨p0, 0, none⟩), Value.pointer (some ⟨q0, 0, none⟩), Value.pointer (some ⟨r0, 0, none⟩)] = f := ⟨_, rfl⟩
          obtain ⟨f1, hf1⟩ : ∃ f, Value.func (Fn.func 51) #[] #[Value.pointer (some ⟨p1, 0, none⟩), Value.pointer (some ⟨q1, 0, none⟩), Value.pointer (some ⟨r1, 0, none⟩)] = f := ⟨_, rfl⟩
          rw [hf0, hf1]
          obtain ⟨V1, hV1⟩ : ∃ V1, V.alloc (Obj.cells #[f0, f1] 47) = V1 := ⟨_, rfl⟩
          have hs0 : V1.cell? ⟨V.heap.size, 0, none⟩ = some f0 := by rw [← hV1]; rw [World.cell?_alloc_at _ _ _ _ rfl]; rfl
          have hs1 : V1.cell? ⟨V.heap.size, 1, none⟩ = some f1 := by rw [← hV1]; rw [World.cell?_alloc_at _ _ _ _ rfl]; rfl
          have hsl : V1.heap[V.heap.size]? = some (Obj.cells #[f0, f1] 47) := by rw [← hV1]; exact World.alloc_heap_new V _
          have hJ1 : J (fun k => W.heap.size ≤ k ∧ k < V1.heap.size) [] V1 := by
            rw [← hV1]
            exact hJ _ _ _ _ _ none hJV (World.grownBy_alloc V _ none) (fun _ e => by cases e) (fun k hk => by
              by_cases e : k < V.heap.size
              · exact .inl ⟨hk.1, e⟩
              · exact .inr ⟨by omega, hk.2⟩)
          have hV1s : V1.heap.size = V.heap.size + 1 := by rw [← hV1]; simp
          have hyV1 : Boxed V1 W.heap.size 24 (.func (.yield l) #[] #[]) := by rw [← hV1]; exact hyV.alloc _
          replace hbp0 : Boxed V1 p0 3 (.int .i64 ((o' : Int) - 1)) := by rw [← hV1]; exact hbp0.alloc _
          replace hbq0 : Boxed V1 q0 3 (.int .i64 c') := by rw [← hV1]; exact hbq0.alloc _
          replace hbr0 : Boxed V1 r0 9 (txt (b ++ [40])) := by rw [← hV1]; exact hbr0.alloc _
          replace hbp1 : Boxed V1 p1 3 (.int .i64 o') := by rw [← hV1]; exact hbp1.alloc _
          replace hbq1 : Boxed V1 q1 3 (.int .i64 ((c' : Int) - 1)) := by rw [← hV1]; exact hbq1.alloc _
          replace hbr1 : Boxed V1 r1 9 (txt (b ++ [41])) := by rw [← hV1]; exact hbr1.alloc _
          rw [hV1]
          clear hV1 hJV hyV
          have hf0' := hide hf0
          have hf1' := hide hf1
          clear hf0 hf1
          refine wpIn_loop_rounds 3 ?_
          rw [roundsIn_succ]
          gi_wp2
          obtain ⟨O1, hO1d⟩ : ∃ O1 : Nat → Prop, O1 = fun k => W.heap.size ≤ k ∧ k < V1.heap.size := ⟨_, rfl⟩
          have hO1 : ∀ k, O1 k → k < V1.heap.size := fun k hk => by rw [hO1d] at hk; exact hk.2
          have hI0 : InnerI J [] O1 V1.heap.size V1 (fun _ => False) [] V1 := by
            refine ⟨⟨_, hJ1, fun k hk h => ?_⟩, fun _ _ => rfl, Nat.le_refl _, fun _ h => h.elim⟩
            rw [hO1d] at h
            rcases h with h | h | h | h
            · exact h
            · omega
            · omega
            · exact h.elim
          have hK0 : ∀ k, (k = p0 ∨ k = q0 ∨ k = r0) → O1 k := fun k hk => by
            have := hbp0.lt
            have := hbq0.lt
            have := hbr0.lt
            rw [hO1d]
            show _ ∧ _
            rcases hk with hk | hk | hk <;> omega
          refine wpIn_rangeFunc_dyn (gf := 51) (lb := #[.pointer (some ⟨p0, 0, none⟩), .pointer (some ⟨q0, 0, none⟩), .pointer (some ⟨r0, 0, none⟩)]) hf0'.out.symm (enters_of Tryd.func51 (by kernel_rfl) rfl)
            (ih (N - 1) (by omega) (b ++ [40]) ((o' : Int) - 1) c' (n - 1) p0 q0 r0 V1 (by rw [List.length_append, List.length_singleton]; omega) (by omega) (by omega) (by omega) (by omega) (by omega) hbp0 hbq0 hbr0) (fun _ => rfl)
            (by have := hbp0.lt; have := hbq0.lt; have := hbr0.lt; omega)
            (InnerI J [] O1 V1.heap.size V1) (fun c U pre V' => c = .ret ∧ InnerI Jx [] O1 V1.heap.size V1 U pre V')
            (InnerI.abides hJ hO1) (fun _ U U' s A B row hs hg hr hu => ⟨hs.1, InnerI.abides hJx hO1 U U' s A B row hs.2 hg hr hu⟩) hI0
            (fun x => { tmps := #[.func (.yield l) #[] #[], .pointer (some ⟨Bo, 0, none⟩), .pointer (some ⟨Bc, 0, none⟩), .pointer (some ⟨Bb, 0, none⟩), .pointer (some ⟨W.heap.size, 0, none⟩), s 5, s 11, undef, f0, txt x,
                        .int .i64 o', .bool false, .bool false, .int .i64 c', .int .i64 o', .bool false, .bool false, .int .i64 c', .bool false, undef, undef, undef,
                        s 0, s 1, s 2, s 3, s 4, s 5, s 6, s 7, s 8, s 9, s 10, s 11, s 5, s 11, .slice (some ⟨V.heap.size, 0, none⟩) 2 2, .int .i64 2, .int .i64 0, .bool true, .pointer (some ⟨V.heap.size, 0, none⟩), f0, f0, txt x, undef, undef, undef, undef, undef], defers := [] }) ?assign0 ?body0 ?done0 ?stop0
          case assign0 =>
            intro l x W' Q hQ
            gi_wp2
            exact hQ
          case body0 =>
            rintro l' U pre x post V' hxs hlt hU hI
            obtain ⟨Uo, hJo, hcov⟩ := hI.word
            have hyc := (show Boxed V' W.heap.size 24 (.func (.yield l) #[] #[]) from (hI.same W.heap.size (by rw [hO1d]; show _ ∧ _; omega)).trans hyV1).cell
            obtain ⟨fn, tmps, assign, body, hy, hR⟩ := hY Uo ([] ++ pre) x (post ++ fromL (b ++ [41]) o' ((c' : Int) - 1)) V' (by rw [hx.out, hxs]; simp) hJo
            have hR' := roundIn_any (m := n - 1 - 1 - 1) hR
            clear hR
            have hcv := hide hcov
            clear hcov
            gi_wp2
            refine ⟨fun h => by simp [Fence.wide] at h, ?_⟩
            refine hR'.mono ?_
            rintro e W3 (⟨rfl, hJ3, hk3⟩ | ⟨rfl, hJx3, hk3⟩)
            · gi_wp2
              exact InnerI.next hO1 hI hcv.out hlt hk3 (by rw [← List.append_assoc]; exact hJ3) hK0
            · gi_wp2
              have := InnerI.next hO1 hI hcv.out hlt hk3 (pre' := pre ++ [x]) (J' := Jx) (by rw [← List.append_assoc]; exact hJx3) hK0
              exact ⟨this.1, rfl, this.2⟩
          case stop0 =>
            rintro cd U pre V' hpre ⟨rfl, hI⟩ hDf
            obtain ⟨Uo, hJo, hcov⟩ := hI.word
            have hDl := (Array.getElem?_eq_some_iff.1 hDf).1
            have hcv := hide hcov
            clear hcov
            gi_wp2
            refine ⟨by simp, .inl ⟨_, _, rfl, run_takeDeferred hDf, ?_⟩⟩
            exact ⟨_, results_none rfl _ _ _, ⟨_, rfl⟩, .inr ⟨Uo, [] ++ pre, by rw [hx.out]; exact hpre.trans (List.prefix_append _ _), hJx.put hJo (grownBy_putObj' V' _ _) (fun r e => by cases e; exact .inr (hcv.out _ hDl (.inr (.inl rfl))))⟩⟩
          case done0 =>
            rintro U V2 hI hD1
            have hD1l := (Array.getElem?_eq_some_iff.1 hD1).1
            obtain ⟨O2, hO2d⟩ : ∃ O2 : Nat → Prop, O2 = fun k => O1 k ∨ k = V1.heap.size := ⟨_, rfl⟩
            have hO2 : ∀ k, O2 k → k < V2.heap.size := fun k hk => by
              rw [hO2d] at hk
              rcases hk with hk | hk
              · have := hO1 k hk; omega
              · omega
            have hI1 : InnerI J (fromL (b ++ [40]) ((o' : Int) - 1) c') O2 V2.heap.size V2 (fun _ => False) [] V2 := by
              obtain ⟨Uo, h1, h2⟩ := hI.word
              refine ⟨⟨Uo, by rw [List.append_nil]; exact h1, fun k hk h => ?_⟩, fun _ _ => rfl, Nat.le_refl _, fun _ h => h.elim⟩
              rw [hO2d] at h
              rcases h with (h | h) | h | h | h
              · exact h2 k hk (.inl h)
              · exact h2 k hk (.inr (.inl h))
              · omega
              · omega
              · exact h.elim
            have hin : ∀ k, W.heap.size ≤ k → k < V1.heap.size → V2.heap[k]? = V1.heap[k]? := fun k h1 h2 => hI.same k (by rw [hO1d]; exact ⟨h1, h2⟩)
            have hs1 : V2.cell? ⟨V.heap.size, 1, none⟩ = some f1 := (World.cell?_of_block (a := ⟨V.heap.size, 1, none⟩) (hin V.heap.size (by omega) (by omega))).trans hs1
            have hyV2 : V2.heap[W.heap.size]? = V1.heap[W.heap.size]? := hin W.heap.size (by omega) (by omega)
            replace hyV2 : Boxed V2 W.heap.size 24 (.func (.yield l) #[] #[]) := hyV2.trans hyV1
            have hbl1 := And.intro hbp1.lt (And.intro hbq1.lt hbr1.lt)
            replace hbp1 : Boxed V2 p1 3 (.int .i64 o') := (hin p1 (by omega) hbp1.lt).trans hbp1
            replace hbq1 : Boxed V2 q1 3 (.int .i64 ((c' : Int) - 1)) := (hin q1 (by omega) hbq1.lt).trans hbq1
            replace hbr1 : Boxed V2 r1 9 (txt (b ++ [41])) := (hin r1 (by omega) hbr1.lt).trans hbr1
            have hK1 : ∀ k, (k = p1 ∨ k = q1 ∨ k = r1) → O2 k := fun k hk => by
              rw [hO2d, hO1d]
              refine .inl ?_
              have := hbl1
              show _ ∧ _
              rcases hk with hk | hk | hk <;> omega
            have hD1' := hide hD1
            clear hD1 hin
            gi_wp2
            rw [roundsIn_succ]
            gi_wp2
            refine wpIn_rangeFunc_dyn (gf := 51) (lb := #[.pointer (some ⟨p1, 0, none⟩), .pointer (some ⟨q1, 0, none⟩), .pointer (some ⟨r1, 0, none⟩)]) hf1'.out.symm (enters_of Tryd.func51 (by kernel_rfl) rfl)
              (ih (N - 1) (by omega) (b ++ [41]) o' ((c' : Int) - 1) (n - 1) p1 q1 r1 V2 (by rw [List.length_append, List.length_singleton]; omega) (by omega) (by omega) (by omega) (by omega) (by omega) hbp1 hbq1 hbr1) (fun _ => rfl)
              (by have := hbp1.lt; have := hbq1.lt; have := hbr1.lt; omega)
              (InnerI J (fromL (b ++ [40]) ((o' : Int) - 1) c') O2 V2.heap.size V2) (fun c U pre V' => c = .ret ∧ InnerI Jx (fromL (b ++ [40]) ((o' : Int) - 1) c') O2 V2.heap.size V2 U pre V')
              (InnerI.abides hJ hO2) (fun _ U U' s A B row hs hg hr hu => ⟨hs.1, InnerI.abides hJx hO2 U U' s A B row hs.2 hg hr hu⟩) hI1
              (fun x => { tmps := #[.func (.yield l) #[] #[], .pointer (some ⟨Bo, 0, none⟩), .pointer (some ⟨Bc, 0, none⟩), .pointer (some ⟨Bb, 0, none⟩), .pointer (some ⟨W.heap.size, 0, none⟩), s 5, s 11, undef, f1, txt x,
                          .int .i64 o', .bool false, .bool false, .int .i64 c', .int .i64 o', .bool false, .bool false, .int .i64 c', .bool false, undef, undef, undef,
                          s 0, s 1, s 2, s 3, s 4, s 5, s 6, s 7, s 8, s 9, s 10, s 11, s 5, s 11, .slice (some ⟨V.heap.size, 0, none⟩) 2 2, .int .i64 2, .int .i64 1, .bool true, .pointer (some ⟨V.heap.size, 1, none⟩), f1, f1, txt x, undef, undef, undef, undef, .int .i64 1], defers := [] }) ?assign1 ?body1 ?done1 ?stop1
            case assign1 =>
              intro l x W' Q hQ
              gi_wp2
              exact hQ
            case body1 =>
              rintro l' U pre x post V' hxs hlt hU hI
              obtain ⟨Uo, hJo, hcov⟩ := hI.word
              have hyc := (show Boxed V' W.heap.size 24 (.func (.yield l) #[] #[]) from (hI.same W.heap.size (by rw [hO2d, hO1d]; exact .inl (by show _ ∧ _; omega))).trans hyV2).cell
              obtain ⟨fn, tmps, assign, body, hy, hR⟩ := hY Uo ((fromL (b ++ [40]) ((o' : Int) - 1) c') ++ pre) x post V' (by rw [hx.out, hxs]; simp) hJo
              have hR' := roundIn_any (m := n - 1 - 1 - 1) hR
              clear hR
              have hcv := hide hcov
              clear hcov
              gi_wp2
              refine ⟨fun h => by simp [Fence.wide] at h, ?_⟩
              refine hR'.mono ?_
              rintro e W3 (⟨rfl, hJ3, hk3⟩ | ⟨rfl, hJx3, hk3⟩)
              · gi_wp2
                exact InnerI.next hO2 hI hcv.out hlt hk3 (by rw [← List.append_assoc]; exact hJ3) hK1
              · gi_wp2
                have := InnerI.next hO2 hI hcv.out hlt hk3 (pre' := pre ++ [x]) (J' := Jx) (by rw [← List.append_assoc]; exact hJx3) hK1
                exact ⟨this.1, rfl, this.2⟩
            case done1 =>
              rintro U2 V3 hI3 hD2
              have hD2l := (Array.getElem?_eq_some_iff.1 hD2).1
              have hD1 : V3.heap[V1.heap.size]? = some (.deferred (some [])) := (hI3.same V1.heap.size (by rw [hO2d]; exact .inr rfl)).trans hD1'.out
              have hD1b : (V3.putObj V2.heap.size (.deferred none)).heap[V1.heap.size]? = some (.deferred (some [])) := (World.putObj_heap_other (by omega)).trans hD1
              obtain ⟨Uo, hJo, hcov⟩ := hI3.word
              have hJ4 := hJ.put (hJ.put hJo (grownBy_putObj' V3 V2.heap.size (.deferred none)) (fun r e => by cases e; exact .inr (hcov _ hD2l (.inr (.inl rfl))))) (grownBy_putObj' _ V1.heap.size (.deferred none)) (fun r e => by cases e; exact .inr (hcov _ (by omega) (.inl (by rw [hO2d]; exact .inr rfl))))
              clear hcov hJo hY
              gi_wp2
              rw [roundsIn_succ]
              gi_wp2
              refine ⟨by simp, .inl ⟨_, _, rfl, run_takeDeferred hD2, ?_⟩⟩
              refine ⟨by simp, .inl ⟨_, _, rfl, run_takeDeferred hD1b, ?_⟩⟩
              exact ⟨_, results_none rfl _ _ _, ⟨_, rfl⟩, .inl ⟨Uo, by rw [hx.out]; exact hJ4⟩⟩
            case stop1 =>
              rintro cd U2 pre V3 hpre ⟨rfl, hI3⟩ hD2
              have hD2l := (Array.getElem?_eq_some_iff.1 hD2).1
              have hD1 : V3.heap[V1.heap.size]? = some (.deferred (some [])) := (hI3.same V1.heap.size (by rw [hO2d]; exact .inr rfl)).trans hD1'.out
              have hD1b : (V3.putObj V2.heap.size (.deferred none)).heap[V1.heap.size]? = some (.deferred (some [])) := (World.putObj_heap_other (by omega)).trans hD1
              obtain ⟨Uo, hJo, hcov⟩ := hI3.word
              have hJ4 := hJx.put (hJx.put hJo (grownBy_putObj' V3 V2.heap.size (.deferred none)) (fun r e => by cases e; exact .inr (hcov _ hD2l (.inr (.inl rfl))))) (grownBy_putObj' _ V1.heap.size (.deferred none)) (fun r e => by cases e; exact .inr (hcov _ (by omega) (.inl (by rw [hO2d]; exact .inr rfl))))
              clear hcov hJo hY
              gi_wp2
              refine ⟨by simp, .inl ⟨_, _, rfl, run_takeDeferred hD2, ?_⟩⟩
              refine ⟨by simp, .inl ⟨_, _, rfl, run_takeDeferred hD1b, ?_⟩⟩
              exact ⟨_, results_none rfl _ _ _, ⟨_, rfl⟩, .inr ⟨Uo, _, by rw [hx.out]; exact (List.prefix_append_right_inj _).2 hpre, hJ4⟩⟩
end Go.Proofs.YtghfmoanpgaijaaDoor
