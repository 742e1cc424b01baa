/-
  A region that draws its order, by predicates: each operation leaves a value of which something holds that no later operation undoes, whichever comes first. One obligation an operation. Nothing of the program.
-/
import Derived.Test.YtehmobcfbifocaaRegInv
import Derived.ControlIn
import Derived.Test.YtehmobcfbifocaaDrawZ
import Derived.Deep.DeepCutAuto
import Derived.Test.YtehmobcfbifocaaKit
namespace Go.Proofs.Ytehmobcfbifocaa
open Go

/-- How many of the first n have been carried out. -/
def cnt (L : Nat → Bool) : Nat → Nat
  | 0 => 0
  | n + 1 => cnt L n + (if L n = true then 1 else 0)
theorem cntL_le (L : Nat → Bool) : ∀ n, cnt L n ≤ n
  | 0 => Nat.le_refl _
  | n + 1 => by
    have := cntL_le L n
    unfold cnt; split <;> omega
theorem cnt_none : ∀ n, cnt (fun _ => false) n = 0
  | 0 => rfl
  | n + 1 => by unfold cnt; rw [cnt_none n]; rfl
theorem cnt_same (L : Nat → Bool) (i : Nat) : ∀ n, n ≤ i → cnt (fun j => if j = i then true else L j) n = cnt L n
  | 0, _ => rfl
  | n + 1, h => by unfold cnt; rw [cnt_same L i n (by omega), if_neg (show ¬ n = i by omega)]
theorem cnt_next (L : Nat → Bool) (i : Nat) (h : L i = false) : ∀ n, i < n → cnt (fun j => if j = i then true else L j) n = cnt L n + 1
  | 0, hi => by omega
  | n + 1, hi => by
    unfold cnt
    by_cases e : i = n
    · subst e; rw [cnt_same L i i (Nat.le_refl _), if_pos rfl, h]; simp
    · rw [cnt_next L i h n (by omega), if_neg (fun h : n = i => e h.symm)]; omega

theorem wp_region_pred {P : Program} {id : Nat} {ops : Array Oper} {Q : Exit → Act → World → Prop} {a : Act} {w : World} (hm : P.follows .mixedOrders = true) (hb : backB ops = true)
    (fr : (Nat → Value) → Act) (C : Nat → World → Prop) (G : World → World → Prop) (Φ : Nat → Value → World → Prop)
    (h0 : ∃ s, a = fr s) (hput : ∀ i o s v, ops[i]? = some o → (fr s).put o.dst v = fr (fun j => if j = i then v else s j))
    (hC : C 0 w.drew) (hG : ∀ k v W W', Φ k v W → G W W' → Φ k v W')
    (hstep : ∀ i o s W c, c < ops.size → ops[i]? = some o → C c W → (∀ k, (o.after.any fun e => Region.binds .any e && e.on == k) = true → Φ k (s k) W) → ∀ Q' : Exit → Act → World → Prop,
      (∀ v W', C (c + 1) W' → G W W' → Φ i v W' → Q' .normal ((fr s).put o.dst v) W') → wpListIn Fence.wide 9 P ops Q' [o] (fr s) W)
    (hfin : ∀ s W, (∃ c, C c W) → (∀ k, k < ops.size → Φ k (s k) W) → Q .normal (fr s) W) : (Code.region id ops true).wp P Q a w := by
  refine (wpIn_wide (n := 9)).1 (wpIn_region_inv hm hb (fun L b W => ∃ s, b = fr s ∧ C (cnt L ops.size) W ∧ ∀ k, L k = true → Φ k (s k) W) ?_ ?_ ?_)
  · obtain ⟨s, hs⟩ := h0
    exact ⟨s, hs, by rw [cnt_none]; exact hC, fun k h => by cases h⟩
  · rintro L b W i o ho hLi hde ⟨s, rfl, hCW, hΦ⟩ Q' hQ'
    have hi : i < ops.size := (Array.getElem?_eq_some_iff.1 ho).1
    have hc : cnt L ops.size < ops.size := by
      have h1 := cnt_next L i hLi ops.size hi
      have h2 := cntL_le (fun j => if j = i then true else L j) ops.size
      omega
    refine hstep i o s W _ hc ho hCW (fun k hk => ?_) Q' (fun v W' h1 h2 h3 => ?_)
    · rw [← Array.any_toList, List.any_eq_true] at hk
      obtain ⟨e, he, hek⟩ := hk
      rw [Array.mem_toList_iff] at he
      rw [Array.all_eq_true_iff_forall_mem] at hde
      have h1 := hde e he
      rw [Bool.and_eq_true] at hek
      rw [hek.1] at h1
      have h2 : e.on = k := by simpa using hek.2
      subst h2
      exact hΦ _ (by simpa using h1)
    · refine hQ' _ _ ⟨fun j => if j = i then v else s j, hput i o s v ho, by rw [cnt_next L i hLi ops.size hi]; exact h1, fun k hk => ?_⟩
      by_cases e : k = i
      · subst e; simpa using h3
      · simp only [if_neg e] at hk ⊢
        exact hG k _ W W' (hΦ k hk) h2
  · rintro L b W hall ⟨s, rfl, hCW, hΦ⟩
    exact hfin s W ⟨_, hCW⟩ (fun k hk => hΦ k (hall k hk))
end Go.Proofs.Ytehmobcfbifocaa
/-
  The one of four, of six numbers at a place. Nothing of the program but the type int.
-/
namespace Go.Proofs.Ytehmobcfbifocaa
open Go.RowKit

/-- The one of four, of six numbers at a place. -/
def sel4 (i : Nat) (a b c d : Int) : Int := if i = 0 then a else if i = 1 then b else if i = 2 then c else d
theorem sel4_at {i : Nat} (hi : i < 4) (a b c d : Int) : (#[.int .i64 a, .int .i64 b, .int .i64 c, .int .i64 d] : Array Value)[i]? = some (.int .i64 (sel4 i a b c d)) := by
  match i, hi with
  | 0, _ => rfl
  | 1, _ => rfl
  | 2, _ => rfl
  | 3, _ => rfl
theorem sel4_cell {i : Nat} (hi : i < 4) (W : World) (a b c d : Int) : (W.alloc (.cells #[.int .i64 a, .int .i64 b, .int .i64 c, .int .i64 d] 3)).cell? ⟨W.heap.size, i, none⟩ = some (.int .i64 (sel4 i a b c d)) := by
  rw [World.cell?_alloc_at _ _ _ _ rfl]; exact sel4_at hi a b c d
theorem sel4_fits {i : Nat} {a b c d : Int} (ha : Fits a) (hb : Fits b) (hc : Fits c) (hd : Fits d) : Fits (sel4 i a b c d) := by
  unfold sel4; split
  · exact ha
  · split
    · exact hb
    · split
      · exact hc
      · exact hd
def sel6 (i : Nat) (a b c d e f : Int) : Int := if i = 0 then a else if i = 1 then b else if i = 2 then c else if i = 3 then d else if i = 4 then e else f
theorem sel6_at {i : Nat} (hi : i < 6) (a b c d e f : Int) : (#[.int .i64 a, .int .i64 b, .int .i64 c, .int .i64 d, .int .i64 e, .int .i64 f] : Array Value)[i]? = some (.int .i64 (sel6 i a b c d e f)) := by
  match i, hi with
  | 0, _ => rfl
  | 1, _ => rfl
  | 2, _ => rfl
  | 3, _ => rfl
  | 4, _ => rfl
  | 5, _ => rfl
theorem sel6_cell {i : Nat} (hi : i < 6) (W : World) (a b c d e f : Int) : (W.alloc (.cells #[.int .i64 a, .int .i64 b, .int .i64 c, .int .i64 d, .int .i64 e, .int .i64 f] 3)).cell? ⟨W.heap.size, i, none⟩ = some (.int .i64 (sel6 i a b c d e f)) := by
  rw [World.cell?_alloc_at _ _ _ _ rfl]; exact sel6_at hi a b c d e f
end Go.Proofs.Ytehmobcfbifocaa
/-
  The one of two numbers at a place; 'append(s, x...)' of a row of numbers. Nothing of the program but the type int.
-/
namespace Go.Proofs.Ytehmobcfbifocaa
open Go.RowKit

def two (i : Nat) (a b : Int) : Int := if i = 0 then a else b
theorem two_at {i : Nat} (hi : i < 2) (a b : Int) : (#[.int .i64 a, .int .i64 b] : Array Value)[i]? = some (.int .i64 (two i a b)) := by
  match i, hi with
  | 0, _ => rfl
  | 1, _ => rfl
theorem two_cell {i : Nat} (hi : i < 2) (W : World) (a b : Int) : (W.alloc (.cells #[.int .i64 a, .int .i64 b] 3)).cell? ⟨W.heap.size, i, none⟩ = some (.int .i64 (two i a b)) := by
  rw [World.cell?_alloc_at _ _ _ _ rfl]; exact two_at hi a b
theorem two_fits {i : Nat} {a b : Int} (ha : Fits a) (hb : Fits b) : Fits (two i a b) := by
  unfold two; split
  · exact ha
  · exact hb

/-- 'append(s, x...)': m numbers that lie in block g from its first cell on. -/
theorem append_row {w : World} {ops : Array Oper} {rest : List Oper} {o : Oper} {a : Act} {Q : Exit → Act → World → Prop} (hgd : o.guard = none) (s x : Operand)
    (ho : o.op = .call { callee := .builtin .append, args := #[s, x], argTypes := #[37, 37] })
    (base : Nat) (v : Value) (n : Nat) (xs : List Value) (hs : a.eval s = v) (hown : w.ownsRow base 3 1 v n xs) (g m c : Nat) (zs : List Int) (hx : a.eval x = .slice (some ⟨g, 0, none⟩) m c) (hl : zs.length = m)
    (hz : ∀ i, i < m → w.cell? ⟨g, i, none⟩ = some (.int .i64 (zs.getD i 0))) (hn : n + m ≤ 1000000000) (hbase : base ≤ w.heap.size)
    (h : ∀ v' w', w'.ownsRow base 3 1 v' (n + m) (xs ++ zs.map (Value.int .i64)) → w.grownBy w' v.ownBlock → wpList Try.prog ops Q rest (a.put o.dst v') w') :
    wpList Try.prog ops Q (o :: rest) a w := by
  obtain ⟨i0, hi, hz0, hz1, hz2⟩ := info_parts Try.infoInt
  refine wpList_append_own _ hgd s x 37 ho base 3 i0 (.int .i64 0) 1 8 Try.underlying37 hi hz0 hz1 hz2 rfl (by decide) v n xs hs hown ⟨g, 0, none⟩ m c (zs.map (Value.int .i64)) hx (by simp [hl]) ?_ ?_ ?_ ?_ hbase ?_
  · intro j u hj
    rw [List.getElem?_map] at hj
    obtain ⟨z, hz3, rfl⟩ := Option.map_eq_some_iff.1 hj
    have hjl := (List.getElem?_eq_some_iff.1 hz3).1
    have h1 := hz j (by omega)
    have hadd : (⟨g, 0, none⟩ : Addr).add j = ⟨g, j, none⟩ := by unfold Addr.add; split <;> simp_all
    rw [hadd, h1, List.getD, hz3]; rfl
  · intro u hu
    obtain ⟨z, _, rfl⟩ := List.mem_map.1 hu
    rfl
  · unfold maxLen; omega
  · omega
  · intro v' w' h1 h2 _; exact h v' w' h1 h2
end Go.Proofs.Ytehmobcfbifocaa
/-
  Regions that draw their order and pick from a reader, a second time: more kinds of values, longer moves of the reader, and what was there stays.
-/
namespace Go.Proofs.Ytehmobcfbifocaa
open Go.RowKit

/-- What an operation leaves: the reader; a number; a number less than n; two numbers; a row of n numbers; the place of a number; just this value; anything. -/
inductive Kn where
  | rd | fit | rng (n : Nat) | pair | lit (n : Nat) | adr | val (v : Value) | any

def Kn.holds (R : Nat) (v : Value) (W : World) : Kn → Prop
  | .rd => v = .pointer (some ⟨R, 0, none⟩)
  | .fit => ∃ x : Int, Fits x ∧ v = .int .i64 x
  | .rng n => ∃ x : Nat, x < n ∧ v = .int .i64 x
  | .pair => ∃ x y : Int, Fits x ∧ Fits y ∧ v = .tuple #[.int .i64 x, .int .i64 y]
  | .lit n => ∃ g, v = .slice (some ⟨g, 0, none⟩) n n ∧ g ≠ R ∧ g < W.heap.size ∧ ∀ i, i < n → ∃ x : Int, Fits x ∧ W.cell? ⟨g, i, none⟩ = some (.int .i64 x)
  | .adr => ∃ g i, v = .pointer (some ⟨g, i, none⟩) ∧ g ≠ R ∧ g < W.heap.size ∧ ∃ x : Int, Fits x ∧ W.cell? ⟨g, i, none⟩ = some (.int .i64 x)
  | .val u => v = u
  | .any => True
theorem grown_cell2 {W W' : World} {R g : Nat} (h : W.grownBy W' (some R)) (h1 : g < W.heap.size) (h2 : g ≠ R) (i : Nat) : W'.cell? ⟨g, i, none⟩ = W.cell? ⟨g, i, none⟩ := by
  unfold World.cell?
  rw [h.block g h1 (fun e => h2 (by injection e))]
theorem Kn.mono {R : Nat} {v : Value} {W W' : World} (k : Kn) (h : k.holds R v W) (hg : W.grownBy W' (some R)) : k.holds R v W' := by
  cases k with
  | rd => exact h
  | fit => exact h
  | rng n => exact h
  | pair => exact h
  | lit n =>
    obtain ⟨g, h1, h2, h3, h4⟩ := h
    refine ⟨g, h1, h2, Nat.lt_of_lt_of_le h3 hg.size, fun i hi => ?_⟩
    obtain ⟨x, h5, h6⟩ := h4 i hi
    exact ⟨x, h5, (grown_cell2 hg h3 h2 i).trans h6⟩
  | adr =>
    obtain ⟨g, i, h1, h2, h3, x, h5, h6⟩ := h
    exact ⟨g, i, h1, h2, Nat.lt_of_lt_of_le h3 hg.size, x, h5, (grown_cell2 hg h3 h2 i).trans h6⟩
  | val u => exact h
  | any => trivial

def knAt (ks : List Kn) (k : Nat) : Kn := (ks[k]?).getD .any

/-- The law for a reader that no operation moves on by more than K. -/
theorem wp_region_reader2 {id : Nat} {ops : Array Oper} {Q : Exit → Act → World → Prop} {act : Act} {w : World} (W0 : World) (R len cap p : Nat) (a : Option Addr) (K : Nat) (hK : K ≤ 200) (hm : Try.prog.follows .mixedOrders = true) (hb : backB ops = true) (hsz : ops.size ≤ 100)
    (hR : Rd W0 R a len cap w p) (fr : (Nat → Value) → Act) (ks : List Kn)
    (h0 : ∃ s, act = fr s) (hput : ∀ i o s v, ops[i]? = some o → (fr s).put o.dst v = fr (fun j => if j = i then v else s j))
    (hstep : ∀ i o s W q, q ≤ p + 20000 → ops[i]? = some o → Rd W0 R a len cap W q → (∀ k, (o.after.any fun e => Region.binds .any e && e.on == k) = true → (knAt ks k).holds R (s k) W) → ∀ Q' : Exit → Act → World → Prop,
      (∀ v W' q', q' ≤ q + K → Rd W0 R a len cap W' q' → W.grownBy W' (some R) → (knAt ks i).holds R v W' → Q' .normal ((fr s).put o.dst v) W') → wpListIn Fence.wide 9 Try.prog ops Q' [o] (fr s) W)
    (hfin : ∀ s W q, q ≤ p + K * ops.size → Rd W0 R a len cap W q → w.grownBy W (some R) → (∀ k, k < ops.size → (knAt ks k).holds R (s k) W) → Q .normal (fr s) W) : (Code.region id ops true).wp Try.prog Q act w := by
  refine wp_region_pred hm hb fr (fun c W => c ≤ ops.size ∧ w.grownBy W (some R) ∧ ∃ q, q ≤ p + K * c ∧ Rd W0 R a len cap W q) (fun W W' => W.grownBy W' (some R)) (fun k v W => (knAt ks k).holds R v W) h0 hput ⟨Nat.zero_le _, grownBy_drew (grownBy_refl _ _), p, by omega, hR.drew⟩ (fun k v W W' h hg => Kn.mono _ h hg) ?_ ?_
  · rintro i o s W c hc ho ⟨_, hgw, q, hq, hRW⟩ hd Q' hQ'
    have h1 : K * c ≤ 200 * 100 := Nat.mul_le_mul hK (by omega)
    exact hstep i o s W q (by omega) ho hRW hd Q' (fun v W' q' hq' h1 h2 h3 => hQ' v W' ⟨by omega, hgw.trans h2, q', by rw [Nat.mul_succ]; omega, h1⟩ h2 h3)
  · rintro s W ⟨c, hc, hgw, q, hq, hRW⟩ hall
    have : K * c ≤ K * ops.size := Nat.mul_le_mul_left K hc
    exact hfin s W q (by omega) hRW hgw hall
end Go.Proofs.Ytehmobcfbifocaa
/-
  The draw of StretchedOk: it hands back three numbers, and nothing that was there is written.
-/
namespace Go.Proofs.Ytehmobcfbifocaa
open Go.RowKit

theorem lit_now {W : World} {xs : Array Value} {t : TypeId} {i : Nat} (hi : i < xs.size) (hall : ∀ v ∈ xs, ∃ z : Int, Fits z ∧ v = .int .i64 z) : ∃ z : Int, Fits z ∧ (W.alloc (.cells xs t)).cell? ⟨W.heap.size, i, none⟩ = some (.int .i64 z) := by
  obtain ⟨z, hz, he⟩ := hall xs[i] (Array.getElem_mem hi)
  refine ⟨z, hz, ?_⟩
  have hb : (W.alloc (.cells xs t)).heap[W.heap.size]? = some (.cells xs t) := heap_alloc_new W _
  unfold World.cell?
  rw [hb]
  simp [he, hi]
set_option maxHeartbeats 4000000 in
set_option maxRecDepth 100000 in
theorem drawStretched (w : World) (a : Option Addr) (len cap : Nat) (zs : List Int) (h : IsRow .u8 w a len cap zs) : Calls Try.prog 24 #[.slice a len cap] w fun e w' => Int3 e ∧ Below w.heap.size w w' := by
  go_enter Try.func24, Try.ntmps24
  go_wp2_with fail
  go_at_call 30
  refine (open_in w a len cap zs h).mono ?_
  rintro e w1 ⟨R, n, c, rfl, hb, hR⟩
  go_wp2_with fail
  go_at_call 31
  refine (pick_in w R n c _ a _ _ hb hR (by omega)).mono ?_
  rintro e w2 ⟨x, rfl, hx0, _, hx1, hR2, _⟩
  replace hx1 := hx1 (by omega)
  have hxf : Fits x := by unfold Fits; omega
  go_upto_region 3 with fail
  refine wp_region_reader2 w R n c 1 a 40 (by decide) (by kernel_rfl) (by kernel_rfl) (by decide) hR2
    (fun s => { tmps := #[.slice a len cap, undef, s 10, s 11, s 12, .pointer (some ⟨R, 0, none⟩), .int .i64 x, .slice a len cap, .pointer (some ⟨R, 0, none⟩), .pointer (some ⟨R, 0, none⟩), .int .i64 x, s 0, s 1, s 2, s 3, s 4, s 5, s 6, s 7, s 8, s 9], defers := [] })
    [.fit, .rd, .fit, .fit, .fit, .lit 9, .rd, .rng 9, .adr, .fit, .fit, .fit, .fit] ?h0 ?put ?step ?fin
  case h0 => exact ⟨fun k => if k = 10 then .int .i64 0 else if k = 11 then .int .i64 0 else if k = 12 then .int .i64 0 else undef, by simp⟩
  case put =>
    intro i o s v ho
    have hi : i < 13 := (Array.getElem?_eq_some_iff.1 ho).1
    rcases (show i = 0 ∨ i = 1 ∨ i = 2 ∨ i = 3 ∨ i = 4 ∨ i = 5 ∨ i = 6 ∨ i = 7 ∨ i = 8 ∨ i = 9 ∨ i = 10 ∨ i = 11 ∨ i = 12 by omega) with rfl | rfl | rfl | rfl | rfl | rfl | rfl | rfl | rfl | rfl | rfl | rfl | rfl
    all_goals
      simp at ho
      subst ho
      simp [Act.put]
  case step =>
    intro i o s W q hq ho hRW hd Q' hQ'
    have hi : i < 13 := (Array.getElem?_eq_some_iff.1 ho).1
    rcases (show i = 0 ∨ i = 1 ∨ i = 2 ∨ i = 3 ∨ i = 4 ∨ i = 5 ∨ i = 6 ∨ i = 7 ∨ i = 8 ∨ i = 9 ∨ i = 10 ∨ i = 11 ∨ i = 12 by omega) with rfl | rfl | rfl | rfl | rfl | rfl | rfl | rfl | rfl | rfl | rfl | rfl | rfl
    all_goals
      simp at ho
      subst ho
      simp [Act.put] at hQ'
      have hQ := hide hQ'
      clear hQ' 
    case inl =>
      gi_wp2
      exact hQ.out _ W q (by omega) hRW (grownBy_refl _ _) ⟨x, hxf, rfl⟩
    case inr.inl =>
      gi_wp2
      exact hQ.out _ W q (by omega) hRW (grownBy_refl _ _) rfl
    case inr.inr.inl =>
      gi_wp2
      exact hQ.out _ W q (by omega) hRW (grownBy_refl _ _) ⟨x, hxf, rfl⟩
    case inr.inr.inr.inl =>
      obtain ⟨x, hx, ex⟩ : ∃ x : Int, Fits x ∧ s 2 = .int .i64 x := hd 2 (by kernel_rfl)
      gi_wp2
      have hr := hQ.out
      try simp only [ex] at hr
      exact hr _ W q (by omega) hRW (grownBy_refl _ _) ⟨_, (by first | exact wrap_fits _ | exact wrap64_fits _ | exact bits_fits2 _ _ _ | (unfold Fits; omega)), rfl⟩
    case inr.inr.inr.inr.inl =>
      have e1 : s 1 = .pointer (some ⟨R, 0, none⟩) := hd 1 (by kernel_rfl)
      obtain ⟨N, hN, eN⟩ : ∃ x : Int, Fits x ∧ s 3 = .int .i64 x := hd 3 (by kernel_rfl)
      gi_wp2_with (refine ⟨trivial, ?_⟩; gi_at_call 31; refine (callsIn_wide.2 (pick_in w R n c _ a N _ hb hRW (by omega))).mono ?_; rintro e W' ⟨x, rfl, hx0, hx2, hx1, hrd, hgr, _⟩)
      have hr := hQ.out
      try simp only [e1, eN] at hr
      exact hr _ W' _ (by omega) hrd hgr ⟨x, (by have hN1 := hN; unfold Fits at hN1 ⊢; omega), rfl⟩
    case inr.inr.inr.inr.inr.inl =>
      have hne := hRW.ne
      gi_wp2
      exact hQ.out _ _ q (by omega) (hRW.alloc _) (World.grownBy_alloc _ _ _) ⟨W.heap.size, rfl, fun e => by rw [hne] at e; exact e, by simp, fun i hi => lit_now (by simpa using hi) (by
        intro v hv
        simp at hv
        rcases hv with rfl | rfl | rfl | rfl | rfl | rfl | rfl | rfl | rfl <;> exact ⟨_, by unfold Fits; omega, rfl⟩)⟩
    case inr.inr.inr.inr.inr.inr.inl =>
      gi_wp2
      exact hQ.out _ W q (by omega) hRW (grownBy_refl _ _) rfl
    case inr.inr.inr.inr.inr.inr.inr.inl =>
      have e1 : s 6 = .pointer (some ⟨R, 0, none⟩) := hd 6 (by kernel_rfl)
      gi_wp2_with (refine ⟨trivial, ?_⟩; gi_at_call 31; refine (callsIn_wide.2 (pick_in w R n c _ a (9) _ hb hRW (by omega))).mono ?_; rintro e W' ⟨x, rfl, hx0, hx2, hx1, hrd, hgr, _⟩)
      replace hx1 := hx1 (by omega)
      obtain ⟨y, rfl⟩ : ∃ y : Nat, x = y := ⟨x.toNat, by omega⟩
      have hr := hQ.out
      try simp only [e1] at hr
      exact hr _ W' _ (by omega) hrd hgr ⟨y, by omega, rfl⟩
    case inr.inr.inr.inr.inr.inr.inr.inr.inl =>
      obtain ⟨g, e1, g1, g2, g3⟩ : ∃ g, s 5 = .slice (some ⟨g, 0, none⟩) 9 9 ∧ g ≠ R ∧ g < W.heap.size ∧ ∀ i, i < 9 → ∃ x : Int, Fits x ∧ W.cell? ⟨g, i, none⟩ = some (.int .i64 x) := hd 5 (by kernel_rfl)
      obtain ⟨y, hy, e2⟩ : ∃ x : Nat, x < 9 ∧ s 7 = .int .i64 x := hd 7 (by kernel_rfl)
      have hg := g3 y (by omega)
      clear g3
      have hyi : (y : Int) < 9 := by omega
      gi_wp2
      have hr := hQ.out
      try simp only [e1, e2] at hr
      exact hr _ W q (by omega) hRW (grownBy_refl _ _) ⟨g, y, rfl, g1, g2, hg⟩
    case inr.inr.inr.inr.inr.inr.inr.inr.inr.inl =>
      obtain ⟨g, y, e1, _, _, x, hx, hc⟩ : ∃ g i, s 8 = .pointer (some ⟨g, i, none⟩) ∧ g ≠ R ∧ g < W.heap.size ∧ ∃ x : Int, Fits x ∧ W.cell? ⟨g, i, none⟩ = some (.int .i64 x) := hd 8 (by kernel_rfl)
      gi_wp2
      have hr := hQ.out
      try simp only [e1] at hr
      exact hr _ W q (by omega) hRW (grownBy_refl _ _) ⟨x, hx, rfl⟩
    case inr.inr.inr.inr.inr.inr.inr.inr.inr.inr.inl =>
      obtain ⟨x, hx, ex⟩ : ∃ x : Int, Fits x ∧ s 0 = .int .i64 x := hd 0 (by kernel_rfl)
      gi_wp2
      have hr := hQ.out
      try simp only [ex] at hr
      exact hr _ W q (by omega) hRW (grownBy_refl _ _) ⟨_, hx, rfl⟩
    case inr.inr.inr.inr.inr.inr.inr.inr.inr.inr.inr.inl =>
      obtain ⟨x, hx, ex⟩ : ∃ x : Int, Fits x ∧ s 4 = .int .i64 x := hd 4 (by kernel_rfl)
      gi_wp2
      have hr := hQ.out
      try simp only [ex] at hr
      exact hr _ W q (by omega) hRW (grownBy_refl _ _) ⟨_, hx, rfl⟩
    case inr.inr.inr.inr.inr.inr.inr.inr.inr.inr.inr.inr =>
      obtain ⟨x, hx, ex⟩ : ∃ x : Int, Fits x ∧ s 9 = .int .i64 x := hd 9 (by kernel_rfl)
      gi_wp2
      have hr := hQ.out
      try simp only [ex] at hr
      exact hr _ W q (by omega) hRW (grownBy_refl _ _) ⟨_, hx, rfl⟩
  case fin =>
    rintro s W q hq hRW hgW hall
    obtain ⟨x2, hx2, ex⟩ : ∃ x : Int, Fits x ∧ s 10 = .int .i64 x := hall 10 (by decide)
    obtain ⟨y, hy, ey⟩ : ∃ x : Int, Fits x ∧ s 11 = .int .i64 x := hall 11 (by decide)
    obtain ⟨z, hz, ez⟩ : ∃ x : Int, Fits x ∧ s 12 = .int .i64 x := hall 12 (by decide)
    clear hq
    rw [ex, ey, ez]
    go_wp2
    go_ret3
    exact ⟨⟨_, _, _, hx2, hy, hz, rfl⟩, hRW.1⟩
end Go.Proofs.Ytehmobcfbifocaa
/-
  The draws of CellLeft and MiddleLeft: each hands back numbers, and nothing that was there is written.
-/
namespace Go.Proofs.Ytehmobcfbifocaa
open Go.RowKit

set_option maxHeartbeats 4000000 in
set_option maxRecDepth 100000 in
theorem drawMiddle (w : World) (a : Option Addr) (len cap : Nat) (zs : List Int) (h : IsRow .u8 w a len cap zs) : Calls Try.prog 27 #[.slice a len cap] w fun e w' => Int1 e ∧ Below w.heap.size w w' := by
  go_enter Try.func27, Try.ntmps27
  go_wp2_with fail
  go_at_call 30
  refine (open_in w a len cap zs h).mono ?_
  rintro e w1 ⟨R, n, c, rfl, hb, hR⟩
  go_upto_region 2 with fail
  refine wp_region_reader2 w R n c 0 a 40 (by decide) (by kernel_rfl) (by kernel_rfl) (by decide) hR
    (fun s => { tmps := #[.slice a len cap, undef, s 12, .pointer (some ⟨R, 0, none⟩), .slice a len cap, .pointer (some ⟨R, 0, none⟩), s 0, s 1, s 2, s 3, s 4, s 5, s 6, s 7, s 8, s 9, s 10, s 11], defers := [] })
    [.rd, .fit, .rd, .fit, .rd, .rng 8, .fit, .lit 3, .rd, .rng 3, .adr, .fit, .fit] ?h0 ?put ?step ?fin
  case h0 => exact ⟨fun k => if k = 12 then .int .i64 0 else undef, by simp⟩
  case put =>
    intro i o s v ho
    have hi : i < 13 := (Array.getElem?_eq_some_iff.1 ho).1
    rcases (show i = 0 ∨ i = 1 ∨ i = 2 ∨ i = 3 ∨ i = 4 ∨ i = 5 ∨ i = 6 ∨ i = 7 ∨ i = 8 ∨ i = 9 ∨ i = 10 ∨ i = 11 ∨ i = 12 by omega) with rfl | rfl | rfl | rfl | rfl | rfl | rfl | rfl | rfl | rfl | rfl | rfl | rfl
    all_goals
      simp at ho
      subst ho
      simp [Act.put]
  case step =>
    intro i o s W q hq ho hRW hd Q' hQ'
    have hi : i < 13 := (Array.getElem?_eq_some_iff.1 ho).1
    rcases (show i = 0 ∨ i = 1 ∨ i = 2 ∨ i = 3 ∨ i = 4 ∨ i = 5 ∨ i = 6 ∨ i = 7 ∨ i = 8 ∨ i = 9 ∨ i = 10 ∨ i = 11 ∨ i = 12 by omega) with rfl | rfl | rfl | rfl | rfl | rfl | rfl | rfl | rfl | rfl | rfl | rfl | rfl
    all_goals
      simp at ho
      subst ho
      simp [Act.put] at hQ'
      have hQ := hide hQ'
      clear hQ' 
    case inl =>
      gi_wp2
      exact hQ.out _ W q (by omega) hRW (grownBy_refl _ _) rfl
    case inr.inl =>
      have e1 : s 0 = .pointer (some ⟨R, 0, none⟩) := hd 0 (by kernel_rfl)
      gi_wp2_with (refine ⟨trivial, ?_⟩; gi_at_call 31; refine (callsIn_wide.2 (pick_in w R n c _ a (40) _ hb hRW (by omega))).mono ?_; rintro e W' ⟨x, rfl, hx0, hx2, hx1, hrd, hgr, _⟩)
      have hr := hQ.out
      try simp only [e1] at hr
      exact hr _ W' _ (by omega) hrd hgr ⟨x, (by first | (unfold Fits; omega) | (have hN1 := hN; unfold Fits at hN1 ⊢; omega)), rfl⟩
    case inr.inr.inl =>
      gi_wp2
      exact hQ.out _ W q (by omega) hRW (grownBy_refl _ _) rfl
    case inr.inr.inr.inl =>
      have e1 : s 2 = .pointer (some ⟨R, 0, none⟩) := hd 2 (by kernel_rfl)
      gi_wp2_with (refine ⟨trivial, ?_⟩; gi_at_call 31; refine (callsIn_wide.2 (pick_in w R n c _ a (152) _ hb hRW (by omega))).mono ?_; rintro e W' ⟨x, rfl, hx0, hx2, hx1, hrd, hgr, _⟩)
      have hr := hQ.out
      try simp only [e1] at hr
      exact hr _ W' _ (by omega) hrd hgr ⟨x, (by first | (unfold Fits; omega) | (have hN1 := hN; unfold Fits at hN1 ⊢; omega)), rfl⟩
    case inr.inr.inr.inr.inl =>
      gi_wp2
      exact hQ.out _ W q (by omega) hRW (grownBy_refl _ _) rfl
    case inr.inr.inr.inr.inr.inl =>
      have e1 : s 4 = .pointer (some ⟨R, 0, none⟩) := hd 4 (by kernel_rfl)
      gi_wp2_with (refine ⟨trivial, ?_⟩; gi_at_call 31; refine (callsIn_wide.2 (pick_in w R n c _ a (8) _ hb hRW (by omega))).mono ?_; rintro e W' ⟨x, rfl, hx0, hx2, hx1, hrd, hgr, _⟩)
      replace hx1 := hx1 (by omega)
      obtain ⟨y, rfl⟩ : ∃ y : Nat, x = y := ⟨x.toNat, by omega⟩
      have hr := hQ.out
      try simp only [e1] at hr
      exact hr _ W' _ (by omega) hrd hgr ⟨y, by omega, rfl⟩
    case inr.inr.inr.inr.inr.inr.inl =>
      obtain ⟨y, hy, ey⟩ : ∃ x : Nat, x < 8 ∧ s 5 = .int .i64 x := hd 5 (by kernel_rfl)
      have hyi : (0 : Int) ≤ (y : Int) := by omega
      gi_wp2
      have hr := hQ.out
      try simp only [ey] at hr
      exact hr _ W q (by omega) hRW (grownBy_refl _ _) ⟨_, (by first | exact wrap_fits _ | exact wrap64_fits _ | exact bits_fits2 _ _ _ | (unfold Fits; omega)), rfl⟩
    case inr.inr.inr.inr.inr.inr.inr.inl =>
      obtain ⟨x0, hx0, ex0⟩ : ∃ x : Int, Fits x ∧ s 1 = .int .i64 x := hd 1 (by kernel_rfl)
      obtain ⟨x1, hx1, ex1⟩ : ∃ x : Int, Fits x ∧ s 3 = .int .i64 x := hd 3 (by kernel_rfl)
      obtain ⟨x2, hx2, ex2⟩ : ∃ x : Int, Fits x ∧ s 6 = .int .i64 x := hd 6 (by kernel_rfl)
      have hne := hRW.ne
      gi_wp2
      have hr := hQ.out
      try simp only [ex0, ex1, ex2] at hr
      exact hr _ _ q (by omega) (hRW.alloc _) (World.grownBy_alloc _ _ _) ⟨W.heap.size, rfl, fun e => by rw [hne] at e; exact e, by simp, fun i hi => lit_now (by simpa using hi) (by
        intro v hv
        simp at hv
        rcases hv with rfl | rfl | rfl <;> exact ⟨_, by first | assumption | (unfold Fits; omega), rfl⟩)⟩
    case inr.inr.inr.inr.inr.inr.inr.inr.inl =>
      gi_wp2
      exact hQ.out _ W q (by omega) hRW (grownBy_refl _ _) rfl
    case inr.inr.inr.inr.inr.inr.inr.inr.inr.inl =>
      have e1 : s 8 = .pointer (some ⟨R, 0, none⟩) := hd 8 (by kernel_rfl)
      gi_wp2_with (refine ⟨trivial, ?_⟩; gi_at_call 31; refine (callsIn_wide.2 (pick_in w R n c _ a (3) _ hb hRW (by omega))).mono ?_; rintro e W' ⟨x, rfl, hx0, hx2, hx1, hrd, hgr, _⟩)
      replace hx1 := hx1 (by omega)
      obtain ⟨y, rfl⟩ : ∃ y : Nat, x = y := ⟨x.toNat, by omega⟩
      have hr := hQ.out
      try simp only [e1] at hr
      exact hr _ W' _ (by omega) hrd hgr ⟨y, by omega, rfl⟩
    case inr.inr.inr.inr.inr.inr.inr.inr.inr.inr.inl =>
      obtain ⟨g, e1, g1, g2, g3⟩ : ∃ g, s 7 = .slice (some ⟨g, 0, none⟩) 3 3 ∧ g ≠ R ∧ g < W.heap.size ∧ ∀ i, i < 3 → ∃ x : Int, Fits x ∧ W.cell? ⟨g, i, none⟩ = some (.int .i64 x) := hd 7 (by kernel_rfl)
      obtain ⟨y, hy, e2⟩ : ∃ x : Nat, x < 3 ∧ s 9 = .int .i64 x := hd 9 (by kernel_rfl)
      have hg := g3 y (by omega)
      clear g3
      have hyi : (y : Int) < 3 := by omega
      gi_wp2
      have hr := hQ.out
      try simp only [e1, e2] at hr
      exact hr _ W q (by omega) hRW (grownBy_refl _ _) ⟨g, y, rfl, g1, g2, hg⟩
    case inr.inr.inr.inr.inr.inr.inr.inr.inr.inr.inr.inl =>
      obtain ⟨g, y, e1, _, _, x, hx, hc⟩ : ∃ g i, s 10 = .pointer (some ⟨g, i, none⟩) ∧ g ≠ R ∧ g < W.heap.size ∧ ∃ x : Int, Fits x ∧ W.cell? ⟨g, i, none⟩ = some (.int .i64 x) := hd 10 (by kernel_rfl)
      gi_wp2
      have hr := hQ.out
      try simp only [e1] at hr
      exact hr _ W q (by omega) hRW (grownBy_refl _ _) ⟨x, hx, rfl⟩
    case inr.inr.inr.inr.inr.inr.inr.inr.inr.inr.inr.inr =>
      obtain ⟨x, hx, ex⟩ : ∃ x : Int, Fits x ∧ s 11 = .int .i64 x := hd 11 (by kernel_rfl)
      gi_wp2
      have hr := hQ.out
      try simp only [ex] at hr
      exact hr _ W q (by omega) hRW (grownBy_refl _ _) ⟨_, hx, rfl⟩
  case fin =>
    rintro s W q hq hRW hgW hall
    obtain ⟨x2, hx2, ex⟩ : ∃ x : Int, Fits x ∧ s 12 = .int .i64 x := hall 12 (by decide)
    clear hq
    rw [ex]
    go_wp2
    go_ret
    exact ⟨⟨_, hx2, rfl⟩, hRW.1⟩
set_option maxHeartbeats 8000000 in
set_option maxRecDepth 100000 in
theorem drawCell (w : World) (a : Option Addr) (len cap : Nat) (zs : List Int) (h : IsRow .u8 w a len cap zs) : Calls Try.prog 13 #[.slice a len cap] w fun e w' => Int3 e ∧ Below w.heap.size w w' := by
  go_enter Try.func13, Try.ntmps13
  go_wp2_with fail
  go_at_call 30
  refine (open_in w a len cap zs h).mono ?_
  rintro e w1 ⟨R, n, c, rfl, hb, hR⟩
  go_wp2_with fail
  go_at_call 31
  refine (pick_in w R n c _ a _ _ hb hR (by omega)).mono ?_
  rintro e w2 ⟨k1, rfl, hk10, _, hk11, hR2, _⟩
  replace hk11 := hk11 (by omega)
  have hkf1 : Fits k1 := by unfold Fits; omega
  go_wp2_with fail
  go_at_call 31
  refine (pick_in w R n c _ a _ _ hb hR2 (by omega)).mono ?_
  rintro e w3 ⟨k2, rfl, hk20, _, hk21, hR3, _⟩
  replace hk21 := hk21 (by omega)
  have hkf2 : Fits k2 := by unfold Fits; omega
  go_wp2_with fail
  go_at_call 31
  refine (pick_in w R n c _ a _ _ hb hR3 (by omega)).mono ?_
  rintro e w4 ⟨k3, rfl, hk30, _, hk31, hR4, _⟩
  replace hk31 := hk31 (by omega)
  have hkf3 : Fits k3 := by unfold Fits; omega
  have hne := hR4.ne
  go_wp2_with fail
  go_at_call 31
  refine (pick_in w R n c _ a _ _ hb (hR4.alloc _) (by omega)).mono ?_
  rintro e w5 ⟨j, rfl, hj0, _, hj1, hR5, _, ho⟩
  replace hj1 := hj1 (by omega)
  obtain ⟨J, rfl⟩ : ∃ N : Nat, j = N := ⟨j.toNat, by omega⟩
  have hq : Int.tdiv (J : Int) 2 = ((J / 2 : Nat) : Int) := by rw [Int.tdiv_eq_ediv_of_nonneg (by omega)]; rfl
  have hq3 : J / 2 < 3 := by omega
  generalize J / 2 = M at *
  have hw1 : IntKind.i64.wrap (M : Int) = M := IntWalk.i64_in _ (by omega)
  obtain ⟨x, hxf, hcz⟩ := lit_cell (K := M) ho (by rw [ne_eq, hne]; exact id) (by simp; omega) (by
    intro v hv
    simp at hv
    rcases hv with rfl | rfl | rfl <;> exact ⟨_, by first | exact hkf1 | exact hkf2 | exact hkf3, rfl⟩)
  clear ho
  go_upto_region 3 with fail
  refine wp_region_reader2 w R n c 4 a 40 (by decide) (by kernel_rfl) (by kernel_rfl) (by decide) hR5
    (fun s => { tmps := #[.slice a len cap, undef, s 24, s 25, s 26, .pointer (some ⟨R, 0, none⟩), .int .i64 x, .slice a len cap, .pointer (some ⟨R, 0, none⟩), .pointer (some ⟨R, 0, none⟩), .int .i64 k1, .pointer (some ⟨R, 0, none⟩), .int .i64 k2, .pointer (some ⟨R, 0, none⟩), .int .i64 k3, .slice (some ⟨w4.heap.size, 0, none⟩) 3 3, .pointer (some ⟨R, 0, none⟩), .int .i64 (J : Nat), .int .i64 (M : Nat), .pointer (some ⟨w4.heap.size, M, none⟩), .int .i64 x, s 0, s 1, s 2, s 3, s 4, s 5, s 6, s 7, s 8, s 9, s 10, s 11, s 12, s 13, s 14, s 15, s 16, s 17, s 18, s 19, s 20, s 21, s 22, s 23], defers := [] })
    [.fit, .rd, .fit, .fit, .fit, .rd, .fit, .fit, .fit, .rd, .fit, .fit, .rd, .fit, .rd, .fit, .fit, .fit, .lit 3, .rd, .rng 9, .rng 3, .adr, .fit, .fit, .fit, .fit] ?h0 ?put ?step ?fin
  case h0 => exact ⟨fun k => if k = 24 then .int .i64 0 else if k = 25 then .int .i64 0 else if k = 26 then .int .i64 0 else undef, by simp⟩
  case put =>
    intro i o s v ho
    have hi : i < 27 := (Array.getElem?_eq_some_iff.1 ho).1
    rcases (show i = 0 ∨ i = 1 ∨ i = 2 ∨ i = 3 ∨ i = 4 ∨ i = 5 ∨ i = 6 ∨ i = 7 ∨ i = 8 ∨ i = 9 ∨ i = 10 ∨ i = 11 ∨ i = 12 ∨ i = 13 ∨ i = 14 ∨ i = 15 ∨ i = 16 ∨ i = 17 ∨ i = 18 ∨ i = 19 ∨ i = 20 ∨ i = 21 ∨ i = 22 ∨ i = 23 ∨ i = 24 ∨ i = 25 ∨ i = 26 by omega) with rfl | rfl | rfl | rfl | rfl | rfl | rfl | rfl | rfl | rfl | rfl | rfl | rfl | rfl | rfl | rfl | rfl | rfl | rfl | rfl | rfl | rfl | rfl | rfl | rfl | rfl | rfl
    all_goals
      simp at ho
      subst ho
      simp [Act.put]
  case step =>
    intro i o s W q hq ho hRW hd Q' hQ'
    have hi : i < 27 := (Array.getElem?_eq_some_iff.1 ho).1
    rcases (show i = 0 ∨ i = 1 ∨ i = 2 ∨ i = 3 ∨ i = 4 ∨ i = 5 ∨ i = 6 ∨ i = 7 ∨ i = 8 ∨ i = 9 ∨ i = 10 ∨ i = 11 ∨ i = 12 ∨ i = 13 ∨ i = 14 ∨ i = 15 ∨ i = 16 ∨ i = 17 ∨ i = 18 ∨ i = 19 ∨ i = 20 ∨ i = 21 ∨ i = 22 ∨ i = 23 ∨ i = 24 ∨ i = 25 ∨ i = 26 by omega) with rfl | rfl | rfl | rfl | rfl | rfl | rfl | rfl | rfl | rfl | rfl | rfl | rfl | rfl | rfl | rfl | rfl | rfl | rfl | rfl | rfl | rfl | rfl | rfl | rfl | rfl | rfl
    all_goals
      simp at ho
      subst ho
      simp [Act.put] at hQ'
      have hQ := hide hQ'
      clear hQ' 
    case inl =>
      gi_wp2
      exact hQ.out _ W q (by omega) hRW (grownBy_refl _ _) ⟨x, hxf, rfl⟩
    case inr.inl =>
      gi_wp2
      exact hQ.out _ W q (by omega) hRW (grownBy_refl _ _) rfl
    case inr.inr.inl =>
      gi_wp2
      exact hQ.out _ W q (by omega) hRW (grownBy_refl _ _) ⟨x, hxf, rfl⟩
    case inr.inr.inr.inl =>
      obtain ⟨x, hx, ex⟩ : ∃ x : Int, Fits x ∧ s 2 = .int .i64 x := hd 2 (by kernel_rfl)
      gi_wp2
      have hr := hQ.out
      try simp only [ex] at hr
      exact hr _ W q (by omega) hRW (grownBy_refl _ _) ⟨_, (by first | exact wrap_fits _ | exact wrap64_fits _ | exact bits_fits2 _ _ _ | (unfold Fits; omega)), rfl⟩
    case inr.inr.inr.inr.inl =>
      have e1 : s 1 = .pointer (some ⟨R, 0, none⟩) := hd 1 (by kernel_rfl)
      obtain ⟨N, hN, eN⟩ : ∃ x : Int, Fits x ∧ s 3 = .int .i64 x := hd 3 (by kernel_rfl)
      gi_wp2_with (refine ⟨trivial, ?_⟩; gi_at_call 31; refine (callsIn_wide.2 (pick_in w R n c _ a N _ hb hRW (by omega))).mono ?_; rintro e W' ⟨x, rfl, hx0, hx2, hx1, hrd, hgr, _⟩)
      have hr := hQ.out
      try simp only [e1, eN] at hr
      exact hr _ W' _ (by omega) hrd hgr ⟨x, (by first | (unfold Fits; omega) | (have hN1 := hN; unfold Fits at hN1 ⊢; omega)), rfl⟩
    case inr.inr.inr.inr.inr.inl =>
      gi_wp2
      exact hQ.out _ W q (by omega) hRW (grownBy_refl _ _) rfl
    case inr.inr.inr.inr.inr.inr.inl =>
      have e1 : s 5 = .pointer (some ⟨R, 0, none⟩) := hd 5 (by kernel_rfl)
      gi_wp2_with (refine ⟨trivial, ?_⟩; gi_at_call 31; refine (callsIn_wide.2 (pick_in w R n c _ a (30) _ hb hRW (by omega))).mono ?_; rintro e W' ⟨x, rfl, hx0, hx2, hx1, hrd, hgr, _⟩)
      have hr := hQ.out
      try simp only [e1] at hr
      exact hr _ W' _ (by omega) hrd hgr ⟨x, (by first | (unfold Fits; omega) | (have hN1 := hN; unfold Fits at hN1 ⊢; omega)), rfl⟩
    case inr.inr.inr.inr.inr.inr.inr.inl =>
      obtain ⟨x, hx, ex⟩ : ∃ x : Int, Fits x ∧ s 6 = .int .i64 x := hd 6 (by kernel_rfl)
      gi_wp2
      have hr := hQ.out
      try simp only [ex] at hr
      exact hr _ W q (by omega) hRW (grownBy_refl _ _) ⟨_, (by first | exact wrap_fits _ | exact wrap64_fits _ | exact bits_fits2 _ _ _ | (unfold Fits; omega)), rfl⟩
    case inr.inr.inr.inr.inr.inr.inr.inr.inl =>
      obtain ⟨x, hx, ex⟩ : ∃ x : Int, Fits x ∧ s 4 = .int .i64 x := hd 4 (by kernel_rfl)
      obtain ⟨y, hy, ey⟩ : ∃ x : Int, Fits x ∧ s 7 = .int .i64 x := hd 7 (by kernel_rfl)
      gi_wp2
      have hr := hQ.out
      try simp only [ex, ey] at hr
      exact hr _ W q (by omega) hRW (grownBy_refl _ _) ⟨_, (by first | exact wrap_fits _ | exact wrap64_fits _ | exact bits_fits2 _ _ _ | (unfold Fits; omega)), rfl⟩
    case inr.inr.inr.inr.inr.inr.inr.inr.inr.inl =>
      gi_wp2
      exact hQ.out _ W q (by omega) hRW (grownBy_refl _ _) rfl
    case inr.inr.inr.inr.inr.inr.inr.inr.inr.inr.inl =>
      have e1 : s 9 = .pointer (some ⟨R, 0, none⟩) := hd 9 (by kernel_rfl)
      gi_wp2_with (refine ⟨trivial, ?_⟩; gi_at_call 31; refine (callsIn_wide.2 (pick_in w R n c _ a (60) _ hb hRW (by omega))).mono ?_; rintro e W' ⟨x, rfl, hx0, hx2, hx1, hrd, hgr, _⟩)
      have hr := hQ.out
      try simp only [e1] at hr
      exact hr _ W' _ (by omega) hrd hgr ⟨x, (by first | (unfold Fits; omega) | (have hN1 := hN; unfold Fits at hN1 ⊢; omega)), rfl⟩
    case inr.inr.inr.inr.inr.inr.inr.inr.inr.inr.inr.inl =>
      obtain ⟨y, hy, ey⟩ : ∃ x : Int, Fits x ∧ s 10 = .int .i64 x := hd 10 (by kernel_rfl)
      gi_wp2
      have hr := hQ.out
      try simp only [ey] at hr
      exact hr _ W q (by omega) hRW (grownBy_refl _ _) ⟨_, (by first | exact wrap_fits _ | exact wrap64_fits _ | exact bits_fits2 _ _ _ | (unfold Fits; omega)), rfl⟩
    case inr.inr.inr.inr.inr.inr.inr.inr.inr.inr.inr.inr.inl =>
      gi_wp2
      exact hQ.out _ W q (by omega) hRW (grownBy_refl _ _) rfl
    case inr.inr.inr.inr.inr.inr.inr.inr.inr.inr.inr.inr.inr.inl =>
      have e1 : s 12 = .pointer (some ⟨R, 0, none⟩) := hd 12 (by kernel_rfl)
      gi_wp2_with (refine ⟨trivial, ?_⟩; gi_at_call 31; refine (callsIn_wide.2 (pick_in w R n c _ a (250) _ hb hRW (by omega))).mono ?_; rintro e W' ⟨x, rfl, hx0, hx2, hx1, hrd, hgr, _⟩)
      have hr := hQ.out
      try simp only [e1] at hr
      exact hr _ W' _ (by omega) hrd hgr ⟨x, (by first | (unfold Fits; omega) | (have hN1 := hN; unfold Fits at hN1 ⊢; omega)), rfl⟩
    case inr.inr.inr.inr.inr.inr.inr.inr.inr.inr.inr.inr.inr.inr.inl =>
      gi_wp2
      exact hQ.out _ W q (by omega) hRW (grownBy_refl _ _) rfl
    case inr.inr.inr.inr.inr.inr.inr.inr.inr.inr.inr.inr.inr.inr.inr.inl =>
      have e1 : s 14 = .pointer (some ⟨R, 0, none⟩) := hd 14 (by kernel_rfl)
      gi_wp2_with (refine ⟨trivial, ?_⟩; gi_at_call 31; refine (callsIn_wide.2 (pick_in w R n c _ a (250) _ hb hRW (by omega))).mono ?_; rintro e W' ⟨x, rfl, hx0, hx2, hx1, hrd, hgr, _⟩)
      have hr := hQ.out
      try simp only [e1] at hr
      exact hr _ W' _ (by omega) hrd hgr ⟨x, (by first | (unfold Fits; omega) | (have hN1 := hN; unfold Fits at hN1 ⊢; omega)), rfl⟩
    case inr.inr.inr.inr.inr.inr.inr.inr.inr.inr.inr.inr.inr.inr.inr.inr.inl =>
      obtain ⟨x, hx, ex⟩ : ∃ x : Int, Fits x ∧ s 13 = .int .i64 x := hd 13 (by kernel_rfl)
      obtain ⟨y, hy, ey⟩ : ∃ x : Int, Fits x ∧ s 15 = .int .i64 x := hd 15 (by kernel_rfl)
      gi_wp2
      have hr := hQ.out
      try simp only [ex, ey] at hr
      exact hr _ W q (by omega) hRW (grownBy_refl _ _) ⟨_, (by first | exact wrap_fits _ | exact wrap64_fits _ | exact bits_fits2 _ _ _ | (unfold Fits; omega)), rfl⟩
    case inr.inr.inr.inr.inr.inr.inr.inr.inr.inr.inr.inr.inr.inr.inr.inr.inr.inl =>
      obtain ⟨y, hy, ey⟩ : ∃ x : Int, Fits x ∧ s 16 = .int .i64 x := hd 16 (by kernel_rfl)
      gi_wp2
      have hr := hQ.out
      try simp only [ey] at hr
      exact hr _ W q (by omega) hRW (grownBy_refl _ _) ⟨_, (by first | exact wrap_fits _ | exact wrap64_fits _ | exact bits_fits2 _ _ _ | (unfold Fits; omega)), rfl⟩
    case inr.inr.inr.inr.inr.inr.inr.inr.inr.inr.inr.inr.inr.inr.inr.inr.inr.inr.inl =>
      obtain ⟨x0, hx0, ex0⟩ : ∃ x : Int, Fits x ∧ s 11 = .int .i64 x := hd 11 (by kernel_rfl)
      obtain ⟨x1, hx1, ex1⟩ : ∃ x : Int, Fits x ∧ s 17 = .int .i64 x := hd 17 (by kernel_rfl)
      have hne := hRW.ne
      gi_wp2
      have hr := hQ.out
      try simp only [ex0, ex1] at hr
      exact hr _ _ q (by omega) (hRW.alloc _) (World.grownBy_alloc _ _ _) ⟨W.heap.size, rfl, fun e => by rw [hne] at e; exact e, by simp, fun i hi => lit_now (by simpa using hi) (by
        intro v hv
        simp at hv
        rcases hv with rfl | rfl | rfl <;> exact ⟨_, by first | assumption | (unfold Fits; omega), rfl⟩)⟩
    case inr.inr.inr.inr.inr.inr.inr.inr.inr.inr.inr.inr.inr.inr.inr.inr.inr.inr.inr.inl =>
      gi_wp2
      exact hQ.out _ W q (by omega) hRW (grownBy_refl _ _) rfl
    case inr.inr.inr.inr.inr.inr.inr.inr.inr.inr.inr.inr.inr.inr.inr.inr.inr.inr.inr.inr.inl =>
      have e1 : s 19 = .pointer (some ⟨R, 0, none⟩) := hd 19 (by kernel_rfl)
      gi_wp2_with (refine ⟨trivial, ?_⟩; gi_at_call 31; refine (callsIn_wide.2 (pick_in w R n c _ a (9) _ hb hRW (by omega))).mono ?_; rintro e W' ⟨x, rfl, hx0, hx2, hx1, hrd, hgr, _⟩)
      replace hx1 := hx1 (by omega)
      obtain ⟨y, rfl⟩ : ∃ y : Nat, x = y := ⟨x.toNat, by omega⟩
      have hr := hQ.out
      try simp only [e1] at hr
      exact hr _ W' _ (by omega) hrd hgr ⟨y, by omega, rfl⟩
    case inr.inr.inr.inr.inr.inr.inr.inr.inr.inr.inr.inr.inr.inr.inr.inr.inr.inr.inr.inr.inr.inl =>
      obtain ⟨x, hx, ex⟩ : ∃ x : Nat, x < 9 ∧ s 20 = .int .i64 x := hd 20 (by kernel_rfl)
      gi_wp2
      have hr := hQ.out
      try simp only [ex] at hr
      exact hr (.int .i64 ((x : Int) / 4)) W q (by omega) hRW (grownBy_refl _ _) ⟨x / 4, by omega, by simp⟩
    case inr.inr.inr.inr.inr.inr.inr.inr.inr.inr.inr.inr.inr.inr.inr.inr.inr.inr.inr.inr.inr.inr.inl =>
      obtain ⟨g, e1, g1, g2, g3⟩ : ∃ g, s 18 = .slice (some ⟨g, 0, none⟩) 3 3 ∧ g ≠ R ∧ g < W.heap.size ∧ ∀ i, i < 3 → ∃ x : Int, Fits x ∧ W.cell? ⟨g, i, none⟩ = some (.int .i64 x) := hd 18 (by kernel_rfl)
      obtain ⟨y, hy, e2⟩ : ∃ x : Nat, x < 3 ∧ s 21 = .int .i64 x := hd 21 (by kernel_rfl)
      have hg := g3 y (by omega)
      clear g3
      have hyi : (y : Int) < 3 := by omega
      gi_wp2
      have hr := hQ.out
      try simp only [e1, e2] at hr
      exact hr _ W q (by omega) hRW (grownBy_refl _ _) ⟨g, y, rfl, g1, g2, hg⟩
    case inr.inr.inr.inr.inr.inr.inr.inr.inr.inr.inr.inr.inr.inr.inr.inr.inr.inr.inr.inr.inr.inr.inr.inl =>
      obtain ⟨g, y, e1, _, _, x, hx, hc⟩ : ∃ g i, s 22 = .pointer (some ⟨g, i, none⟩) ∧ g ≠ R ∧ g < W.heap.size ∧ ∃ x : Int, Fits x ∧ W.cell? ⟨g, i, none⟩ = some (.int .i64 x) := hd 22 (by kernel_rfl)
      gi_wp2
      have hr := hQ.out
      try simp only [e1] at hr
      exact hr _ W q (by omega) hRW (grownBy_refl _ _) ⟨x, hx, rfl⟩
    case inr.inr.inr.inr.inr.inr.inr.inr.inr.inr.inr.inr.inr.inr.inr.inr.inr.inr.inr.inr.inr.inr.inr.inr.inl =>
      obtain ⟨x, hx, ex⟩ : ∃ x : Int, Fits x ∧ s 0 = .int .i64 x := hd 0 (by kernel_rfl)
      gi_wp2
      have hr := hQ.out
      try simp only [ex] at hr
      exact hr _ W q (by omega) hRW (grownBy_refl _ _) ⟨_, hx, rfl⟩
    case inr.inr.inr.inr.inr.inr.inr.inr.inr.inr.inr.inr.inr.inr.inr.inr.inr.inr.inr.inr.inr.inr.inr.inr.inr.inl =>
      obtain ⟨x, hx, ex⟩ : ∃ x : Int, Fits x ∧ s 8 = .int .i64 x := hd 8 (by kernel_rfl)
      gi_wp2
      have hr := hQ.out
      try simp only [ex] at hr
      exact hr _ W q (by omega) hRW (grownBy_refl _ _) ⟨_, hx, rfl⟩
    case inr.inr.inr.inr.inr.inr.inr.inr.inr.inr.inr.inr.inr.inr.inr.inr.inr.inr.inr.inr.inr.inr.inr.inr.inr.inr =>
      obtain ⟨x, hx, ex⟩ : ∃ x : Int, Fits x ∧ s 23 = .int .i64 x := hd 23 (by kernel_rfl)
      gi_wp2
      have hr := hQ.out
      try simp only [ex] at hr
      exact hr _ W q (by omega) hRW (grownBy_refl _ _) ⟨_, hx, rfl⟩
  case fin =>
    rintro s W q hq hRW hgW hall
    obtain ⟨x2, hx2, ex⟩ : ∃ x : Int, Fits x ∧ s 24 = .int .i64 x := hall 24 (by decide)
    obtain ⟨y, hy, ey⟩ : ∃ x : Int, Fits x ∧ s 25 = .int .i64 x := hall 25 (by decide)
    obtain ⟨z, hz, ez⟩ : ∃ x : Int, Fits x ∧ s 26 = .int .i64 x := hall 26 (by decide)
    clear hq
    rw [ex, ey, ez]
    go_wp2
    go_ret3
    exact ⟨⟨_, _, _, hx2, hy, hz, rfl⟩, hRW.1⟩
end Go.Proofs.Ytehmobcfbifocaa
