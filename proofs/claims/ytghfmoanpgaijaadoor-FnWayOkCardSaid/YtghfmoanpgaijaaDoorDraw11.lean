/-
  The draws of chapter 11: numbers, and texts of at most forty bytes; nothing that was there is written.
-/
import Derived.Test.YtghfmoanpgaijaaDoorStrKit
import Derived.Test.YtghfmoanpgaijaaDoorFits
import Derived.Test.YtghfmoanpgaijaaDoorOpen
import Derived.Test.YtghfmoanpgaijaaDoorRegPred
import Derived.Laws.Strings3
import Derived.Deep.DeepCutAuto
namespace Go.Proofs.YtghfmoanpgaijaaDoor
open Go Go.RowKit

/-- A text's coin (25). -/
theorem odd_any' (W0 : World) (R len cap p : Nat) (a : Option Addr) (n : Int) (w : World) (hb : Bytes W0 a len) (h : Rd W0 R a len cap w p) (hp : p ≤ 900000) (hn : 0 < n) (hn2 : n ≤ 1000) :
    Calls Tryd.prog 40 #[.pointer (some ⟨R, 0, none⟩), .int .i64 n] w fun e w' => ∃ b, e = .returned (.bool b) ∧ Rd W0 R a len cap w' (p + 1) ∧ w.grownBy w' (some R) := by
  have hw1 : IntKind.i64.wrap (n - 1) = n - 1 := IntWalk.i64_in _ (by omega)
  go_enter Tryd.func40, Tryd.ntmps40
  go_wp2_with fail
  go_at_call 30
  refine (pick_in W0 R len cap _ a _ _ hb h (by omega)).mono ?_
  rintro e w2 ⟨k, rfl, _, _, _, hR2, hgr, _⟩
  go_wp2
  go_ret
  exact ⟨_, rfl, hR2, hgr⟩

/-- A text that was drawn. -/
def Way (e : Ending) : Prop := ∃ l : List Nat, (∀ x ∈ l, x < 256) ∧ l.length ≤ 40 ∧ e = .returned (.string (str l))
theorem snoc_lt {l : List Nat} {c : Nat} (h : ∀ x ∈ l, x < 256) (hc : c < 256) : ∀ x ∈ l ++ [c], x < 256 := fun x hx => by
  rcases List.mem_append.1 hx with h1 | h1
  · exact h x h1
  · simp at h1; omega

/-- What an operation leaves. -/
inductive Ks where
  | rd | rng | lit | adr | txt (n : Nat) | val (v : Value)
def Ks.holds (R : Nat) (v : Value) (W : World) : Ks → Prop
  | .rd => v = .pointer (some ⟨R, 0, none⟩)
  | .rng => ∃ x : Nat, x < 4 ∧ v = .int .i64 x
  | .lit => ∃ g, v = .slice (some ⟨g, 0, none⟩) 4 4 ∧ g ≠ R ∧ g < W.heap.size ∧ ∀ i, i < 4 → ∃ l : List Nat, (∀ x ∈ l, x < 256) ∧ l.length ≤ 1 ∧ W.cell? ⟨g, i, none⟩ = some (.string (str l))
  | .adr => ∃ g i, v = .pointer (some ⟨g, i, none⟩) ∧ g ≠ R ∧ g < W.heap.size ∧ ∃ l : List Nat, (∀ x ∈ l, x < 256) ∧ l.length ≤ 1 ∧ W.cell? ⟨g, i, none⟩ = some (.string (str l))
  | .txt n => ∃ l : List Nat, (∀ x ∈ l, x < 256) ∧ l.length ≤ n ∧ v = .string (str l)
  | .val u => v = u
theorem grown_cell11 {W W' : World} {R g : Nat} (h : W.grownBy W' (some R)) (h1 : g < W.heap.size) (h2 : g ≠ R) (i : Nat) : W'.cell? ⟨g, i, none⟩ = W.cell? ⟨g, i, none⟩ := by
  unfold World.cell?
  rw [h.block g h1 (fun e => h2 (by injection e))]
theorem Ks.mono {R : Nat} {v : Value} {W W' : World} (k : Ks) (h : k.holds R v W) (hg : W.grownBy W' (some R)) : k.holds R v W' := by
  cases k with
  | rd => exact h
  | rng => exact h
  | txt n => exact h
  | val u => exact h
  | lit =>
    obtain ⟨g, h1, h2, h3, h4⟩ := h
    refine ⟨g, h1, h2, Nat.lt_of_lt_of_le h3 hg.size, fun i hi => ?_⟩
    obtain ⟨l, h5, h6, h7⟩ := h4 i hi
    exact ⟨l, h5, h6, (grown_cell11 hg h3 h2 i).trans h7⟩
  | adr =>
    obtain ⟨g, i, h1, h2, h3, l, h5, h6, h7⟩ := h
    exact ⟨g, i, h1, h2, Nat.lt_of_lt_of_le h3 hg.size, l, h5, h6, (grown_cell11 hg h3 h2 i).trans h7⟩
theorem four_cell (W : World) : ∀ i, i < 4 → ∃ l : List Nat, (∀ x ∈ l, x < 256) ∧ l.length ≤ 1 ∧ (W.alloc (.cells #[.string ⟨#[]⟩, .string ⟨#[40]⟩, .string ⟨#[41]⟩, .string ⟨#[120]⟩] 9)).cell? ⟨W.heap.size, i, none⟩ = some (.string (str l)) := fun i hi => by
  have hd := World.alloc_heap_new W (.cells #[.string ⟨#[]⟩, .string ⟨#[40]⟩, .string ⟨#[41]⟩, .string ⟨#[120]⟩] 9)
  generalize W.alloc (.cells #[.string ⟨#[]⟩, .string ⟨#[40]⟩, .string ⟨#[41]⟩, .string ⟨#[120]⟩] 9) = V at hd ⊢
  generalize W.heap.size = b at hd ⊢
  rcases (show i = 0 ∨ i = 1 ∨ i = 2 ∨ i = 3 by omega) with rfl | rfl | rfl | rfl
  · exact ⟨[], by simp, by simp, by simp only [World.cell?, hd]; rfl⟩
  · exact ⟨[40], by simp, by simp, by simp only [World.cell?, hd]; rfl⟩
  · exact ⟨[41], by simp, by simp, by simp only [World.cell?, hd]; rfl⟩
  · exact ⟨[120], by simp, by simp, by simp only [World.cell?, hd]; rfl⟩
def ksAt (ks : List Ks) (k : Nat) : Ks := (ks[k]?).getD (.txt 100)
/-- The law for a reader that no operation moves on by more than one. -/
theorem wp_region_reader11 {id : Nat} {ops : Array Oper} {Q : Exit → Act → World → Prop} {act : Act} {w : World} (W0 : World) (R len cap p : Nat) (a : Option Addr) (hm : Tryd.prog.follows .mixedOrders = true) (hb : backB ops = true) (hsz : ops.size ≤ 100)
    (hR : Rd W0 R a len cap w p) (fr : (Nat → Value) → Act) (ks : List Ks)
    (h0 : ∃ s, act = fr s) (hput : ∀ i o s v, ops[i]? = some o → (fr s).put o.dst v = fr (fun j => if j = i then v else s j))
    (hstep : ∀ i o s W q, q ≤ p + 100 → ops[i]? = some o → Rd W0 R a len cap W q → (∀ k, (o.after.any fun e => Region.binds .any e && e.on == k) = true → (ksAt ks k).holds R (s k) W) → ∀ Q' : Exit → Act → World → Prop,
      (∀ v W' q', q' ≤ q + 1 → Rd W0 R a len cap W' q' → W.grownBy W' (some R) → (ksAt ks i).holds R v W' → Q' .normal ((fr s).put o.dst v) W') → wpListIn Fence.wide 9 Tryd.prog ops Q' [o] (fr s) W)
    (hfin : ∀ s W q, Rd W0 R a len cap W q → (∀ k, k < ops.size → (ksAt ks k).holds R (s k) W) → Q .normal (fr s) W) : (Code.region id ops true).wp Tryd.prog Q act w := by
  refine wp_region_pred hm hb fr (fun c W => c ≤ ops.size ∧ ∃ q, q ≤ p + c ∧ Rd W0 R a len cap W q) (fun W W' => W.grownBy W' (some R)) (fun k v W => (ksAt ks k).holds R v W) h0 hput ⟨Nat.zero_le _, p, by omega, hR.drew⟩ (fun k v W W' h hg => Ks.mono _ h hg) ?_ ?_
  · rintro i o s W c hc ho ⟨_, q, hq, hRW⟩ hd Q' hQ'
    exact hstep i o s W q (by omega) ho hRW hd Q' (fun v W' q' hq' h1 h2 h3 => hQ' v W' ⟨by omega, q', by omega, h1⟩ h2 h3)
  · rintro s W ⟨c, hc, q, hq, hRW⟩ hall
    exact hfin s W q hRW hall

set_option maxHeartbeats 2000000 in
theorem l20Way_in (W0 : World) (R len cap p : Nat) (a : Option Addr) (q : Int) (hq : 0 < q) (hq2 : q ≤ 1000) (w : World) (hb : Bytes W0 a len) (h : Rd W0 R a len cap w p) (hp : p ≤ 800000) :
    Calls Tryd.prog 25 #[.pointer (some ⟨R, 0, none⟩), .int .i64 q] w fun e w' => Way e ∧ ∃ p', Rd W0 R a len cap w' p' := by
  go_enter Tryd.func25, Tryd.ntmps25
  go_wp2_with fail
  go_at_call 30
  refine (pick_in W0 R len cap _ a _ _ hb h (by omega)).mono ?_
  rintro e w2 ⟨x, rfl, hx0, _, hx1, hR2, hgr2, _⟩
  replace hx1 := hx1 (by omega)
  obtain ⟨N, rfl⟩ : ∃ N : Nat, x = N := ⟨x.toNat, by omega⟩
  have hN : N ≤ 7 := by omega
  go_wp2
  go_loopw [5, 6, 7] (fun x y o wr => ∃ (u d p' : Nat) (l : List Nat), x = .int .i64 u ∧ y = .int .i64 d ∧ o = .string (str l) ∧ u ≤ d ∧ d ≤ 7 ∧ l.length + u + d ≤ 14 ∧ (∀ x ∈ l, x < 256) ∧ p' + u + d ≤ p + 20 ∧ Rd W0 R a len cap wr p') (fun x y _ _ => (intOf x).toNat + (intOf y).toNat)
  case atStart => exact ⟨N, N, p + 1, [], rfl, rfl, rfl, Nat.le_refl _, hN, by simp; omega, by simp, by omega, hR2⟩
  case round =>
    obtain ⟨u, d, p', l, rfl, rfl, rfl, hud, hd7, hln, hl, hp', hR⟩ := hrel
    have hsz := str_size l
    have hup : str l ++ (⟨#[40]⟩ : ByteArray) = str (l ++ [40]) := str_app l [40]
    have hdn : str l ++ (⟨#[41]⟩ : ByteArray) = str (l ++ [41]) := str_app l [41]
    have hl0 := snoc_lt hl (show 40 < 256 by decide)
    have hl1 := snoc_lt hl (show 41 < 256 by decide)
    obtain ⟨Z, hZ⟩ : ∃ Z, str l = Z := ⟨_, rfl⟩
    obtain ⟨A, hA⟩ : ∃ A, str (l ++ [40]) = A := ⟨_, rfl⟩
    obtain ⟨B, hBB⟩ : ∃ B, str (l ++ [41]) = B := ⟨_, rfl⟩
    have hZ' := hide hZ
    have hA' := hide hA
    have hBB' := hide hBB
    have hZs : Z.size ≤ 100 := by rw [← hZ, hsz]; omega
    have hlz : Z.size = l.length := by rw [← hZ, hsz]
    rw [hA] at hup
    rw [hBB] at hdn
    rw [hZ] at hup hdn ⊢
    by_cases hd0 : 0 < d
    · have hdi : (0 : Int) < (d : Int) := by omega
      clear hZ hA hBB hsz hlz
      by_cases hu0 : 0 < u
      · have hui : (0 : Int) < (u : Int) := by omega
        by_cases he : d = u
        · have hei : ((d : Int) == (u : Int)) = true := by simp; omega
          clear hBB' hdn
          go_wp2
          go_roundw
          case rel => exact ⟨u - 1, d, p', l ++ [40], by go_num, rfl, by rw [hA'.out], by omega, hd7, by simp; omega, hl0, by omega, hR⟩
          case measure => simp [intOf]; omega
        · have hei : ((d : Int) == (u : Int)) = false := by simp; omega
          go_wp2_with fail
          go_at_call 30
          refine (pick_in W0 R len cap _ a _ _ hb hR (by omega)).mono ?_
          rintro e w3 ⟨y, rfl, hy0, _, hy1, hR3, _, _⟩
          replace hy1 := hy1 (by omega)
          rcases (show y = 0 ∨ y = 1 by omega) with rfl | rfl
          · go_wp2
            go_roundw
            case rel => exact ⟨u - 1, d, p' + 1, l ++ [40], by go_num, rfl, by rw [hA'.out], by omega, hd7, by simp; omega, hl0, by omega, hR3⟩
            case measure => simp [intOf]; omega
          · go_wp2
            go_roundw
            case rel => exact ⟨u, d - 1, p' + 1, l ++ [41], rfl, by go_num, by rw [hBB'.out], by omega, by omega, by simp; omega, hl1, by omega, hR3⟩
            case measure => simp [intOf]; omega
      · obtain rfl : u = 0 := by omega
        clear hA' hup
        go_wp2
        go_roundw
        case rel => exact ⟨0, d - 1, p', l ++ [41], rfl, by go_num, by rw [hBB'.out], by omega, by omega, by simp; omega, hl1, by omega, hR⟩
        case measure => simp [intOf]; omega
    · obtain rfl : d = 0 := by omega
      obtain rfl : u = 0 := by omega
      clear hA hBB hA' hBB' hup hdn hl0 hl1 hsz
      go_wp2_with fail
      go_at_call 40
      refine (odd_any' W0 R len cap _ a q _ hb hR (by omega) hq hq2).mono ?_
      rintro e w3 ⟨b, rfl, hR3, _⟩
      have hres : Way (.returned (.string Z)) := ⟨l, hl, by omega, by rw [hZ]⟩
      cases b with
      | false =>
        go_wp2
        go_ret
        exact ⟨hres, _, hR3⟩
      | true =>
        by_cases hz0 : 0 < l.length
        · have hzi : (0 : Int) < (Z.size : Int) := by omega
          clear hres
          go_wp2_with fail
          go_at_call 30
          refine (pick_in W0 R len cap _ a _ _ hb hR3 (by omega)).mono ?_
          rintro e w4 ⟨y, rfl, hy0, _, hy1, hR4, _, _⟩
          replace hy1 := hy1 (by omega)
          obtain ⟨k, rfl⟩ : ∃ k : Nat, y = k := ⟨y.toNat, by omega⟩
          go_upto_region 12 with fail
          have hkl : k < l.length := by omega
          have hcutA : Hid (Z.extract 0 k = str (l.take k)) := hide (by rw [← hZ'.out, str_cut]; rfl)
          have hcutB : Hid (Z.extract (k + 1) Z.size = str (l.drop (k + 1))) := hide (by rw [← hZ'.out, str_cut, str_size]; congr 1; exact List.take_of_length_le (by rw [List.length_drop]; omega))
          have hkz : (k : Int) ≤ (Z.size : Int) := by omega
          have hkz1 : (k : Int) + 1 ≤ (Z.size : Int) := by omega
          have hkn : ((k : Int) + 1).toNat = k + 1 := by omega
          have hk0 : (0 : Int) ≤ (k : Int) + 1 := by omega
          clear hz0 hzi hlz hy0 hy1 hZ
          refine wp_region_reader11 W0 R len cap _ a (by kernel_rfl) (by kernel_rfl) (by decide) hR4
            (fun s => { tmps := #[.pointer (some ⟨R, 0, none⟩), .int .i64 q, undef, undef, s 14, .int .i64 0, .int .i64 0, .string Z, .int .i64 (k : Nat), .pointer (some ⟨R, 0, none⟩), .int .i64 (N : Nat), .int .i64 (N : Nat), .int .i64 0, .bool false, .bool false, .int .i64 0, .bool false, .bool false, u18, u19, u20, u21, u22, u23, u24, u25, u26, u27, u28, u29, u30, u31, u32, u33, u34, u35, u36, u37, .pointer (some ⟨R, 0, none⟩), .int .i64 q, .bool true, .bool true, .string Z, .int .i64 (l.length : Nat), .bool true, .bool true, .pointer (some ⟨R, 0, none⟩), .string Z, .int .i64 (l.length : Nat), .int .i64 (k : Nat), s 0, s 1, s 2, s 3, s 4, s 5, s 6, s 7, s 8, s 9, s 10, s 11, s 12, s 13, undef], defers := [] })
            [.val (.string Z), .val (.int .i64 (k : Nat)), .txt 14, .lit, .rd, .rng, .adr, .txt 1, .txt 15, .val (.string Z), .val (.int .i64 (k : Nat)), .val (.int .i64 ((k : Int) + 1)), .txt 14, .txt 29, .txt 29] ?h0 ?put ?step ?fin
          case h0 => exact ⟨fun k => if k = 14 then .string ⟨#[]⟩ else undef, by simp⟩
          case put =>
            intro i o s v ho
            have hi : i < 15 := (Array.getElem?_eq_some_iff.1 ho).1
            rcases (show i = 0 ∨ i = 1 ∨ i = 2 ∨ i = 3 ∨ i = 4 ∨ i = 5 ∨ i = 6 ∨ i = 7 ∨ i = 8 ∨ i = 9 ∨ i = 10 ∨ i = 11 ∨ i = 12 ∨ i = 13 ∨ i = 14 by omega) with rfl | rfl | rfl | rfl | rfl | rfl | rfl | rfl | rfl | rfl | rfl | rfl | rfl | rfl | rfl
            all_goals
              simp at ho
              subst ho
              simp [Act.put]
          case step =>
            intro i o s W q1 hq1 ho hRW hd Q' hQ'
            have hi : i < 15 := (Array.getElem?_eq_some_iff.1 ho).1
            rcases (show i = 0 ∨ i = 1 ∨ i = 2 ∨ i = 3 ∨ i = 4 ∨ i = 5 ∨ i = 6 ∨ i = 7 ∨ i = 8 ∨ i = 9 ∨ i = 10 ∨ i = 11 ∨ i = 12 ∨ i = 13 ∨ i = 14 by omega) with rfl | rfl | rfl | rfl | rfl | rfl | rfl | rfl | rfl | rfl | rfl | rfl | rfl | rfl | rfl
            all_goals
              simp at ho
              subst ho
              simp [Act.put] at hQ'
              have hQ := hide hQ'
              clear hQ' 
            case inl =>
              gi_wp2
              exact hQ.out _ W q1 (by omega) hRW (grownBy_refl _ _) rfl
            case inr.inl =>
              gi_wp2
              exact hQ.out _ W q1 (by omega) hRW (grownBy_refl _ _) rfl
            case inr.inr.inl =>
              have e1 : s 0 = .string Z := hd 0 (by kernel_rfl)
              have e2 : s 1 = .int .i64 (k : Nat) := hd 1 (by kernel_rfl)
              gi_wp2
              have hr := hQ.out
              try simp only [e1, e2] at hr
              exact hr _ W q1 (by omega) hRW (grownBy_refl _ _) ⟨l.take k, fun x hx => hl x (List.mem_of_mem_take hx), by rw [List.length_take]; omega, by rw [← hcutA.out]⟩
            case inr.inr.inr.inl =>
              have hne := hRW.ne
              gi_wp2
              have hr := hQ.out
              try simp only [] at hr
              exact hr _ _ q1 (by omega) (hRW.alloc _) (World.grownBy_alloc _ _ _) ⟨W.heap.size, rfl, fun e => by rw [hne] at e; exact e, by simp, four_cell W⟩
            case inr.inr.inr.inr.inl =>
              gi_wp2
              exact hQ.out _ W q1 (by omega) hRW (grownBy_refl _ _) rfl
            case inr.inr.inr.inr.inr.inl =>
              have e1 : s 4 = .pointer (some ⟨R, 0, none⟩) := hd 4 (by kernel_rfl)
              gi_wp2_with (refine ⟨trivial, ?_⟩; gi_at_call 30; refine (callsIn_wide.2 (pick_in W0 R len cap _ a (4) _ hb hRW (by omega))).mono ?_; rintro e W' ⟨x, rfl, hx0, hx2, hx1, hrd, hgr, _⟩)
              replace hx1 := hx1 (by omega)
              obtain ⟨y, rfl⟩ : ∃ y : Nat, x = y := ⟨x.toNat, by omega⟩
              have hr := hQ.out
              try simp only [e1] at hr
              exact hr _ W' _ (by omega) hrd hgr ⟨y, by omega, rfl⟩
            case inr.inr.inr.inr.inr.inr.inl =>
              obtain ⟨g, e1, g1, g2, g3⟩ : ∃ g, s 3 = .slice (some ⟨g, 0, none⟩) 4 4 ∧ g ≠ R ∧ g < W.heap.size ∧ ∀ i, i < 4 → ∃ l : List Nat, (∀ x ∈ l, x < 256) ∧ l.length ≤ 1 ∧ W.cell? ⟨g, i, none⟩ = some (.string (str l)) := hd 3 (by kernel_rfl)
              obtain ⟨y, hy, e2⟩ : ∃ x : Nat, x < 4 ∧ s 5 = .int .i64 x := hd 5 (by kernel_rfl)
              have hg := g3 y (by omega)
              clear g3
              have hyi : (y : Int) < 4 := by omega
              gi_wp2
              have hr := hQ.out
              try simp only [e1, e2] at hr
              exact hr _ W q1 (by omega) hRW (grownBy_refl _ _) ⟨g, y, rfl, g1, g2, hg⟩
            case inr.inr.inr.inr.inr.inr.inr.inl =>
              obtain ⟨g, y, e1, _, _, l1, h1, h2, hc⟩ : ∃ g i, s 6 = .pointer (some ⟨g, i, none⟩) ∧ g ≠ R ∧ g < W.heap.size ∧ ∃ l : List Nat, (∀ x ∈ l, x < 256) ∧ l.length ≤ 1 ∧ W.cell? ⟨g, i, none⟩ = some (.string (str l)) := hd 6 (by kernel_rfl)
              obtain ⟨X, hX⟩ : ∃ X, str l1 = X := ⟨_, rfl⟩
              rw [hX] at hc
              have hX' := hide hX
              clear hX
              gi_wp2
              have hr := hQ.out
              try simp only [e1] at hr
              exact hr _ W q1 (by omega) hRW (grownBy_refl _ _) ⟨l1, h1, h2, by rw [hX'.out]⟩
            case inr.inr.inr.inr.inr.inr.inr.inr.inl =>
              obtain ⟨l1, h1, h2, e1⟩ : ∃ l : List Nat, (∀ x ∈ l, x < 256) ∧ l.length ≤ 14 ∧ s 2 = .string (str l) := hd 2 (by kernel_rfl)
              obtain ⟨l2, h3, h4, e2⟩ : ∃ l : List Nat, (∀ x ∈ l, x < 256) ∧ l.length ≤ 1 ∧ s 7 = .string (str l) := hd 7 (by kernel_rfl)
              have hs1 := str_size l1
              have hs2 := str_size l2
              have happ := str_app l1 l2
              obtain ⟨X, hX⟩ : ∃ X, str l1 = X := ⟨_, rfl⟩
              obtain ⟨Y, hY⟩ : ∃ X, str l2 = X := ⟨_, rfl⟩
              obtain ⟨U, hU⟩ : ∃ X, str (l1 ++ l2) = X := ⟨_, rfl⟩
              rw [hX] at e1 hs1 happ
              rw [hY] at e2 hs2 happ
              rw [hU] at happ
              have hU' := hide hU
              have hXs : X.size ≤ 100 := by omega
              have hYs : Y.size ≤ 100 := by omega
              clear hX hY hU hs1 hs2
              gi_wp2
              have hr := hQ.out
              try simp only [e1, e2] at hr
              exact hr _ W q1 (by omega) hRW (grownBy_refl _ _) ⟨l1 ++ l2, fun x hx => (List.mem_append.1 hx).elim (h1 x) (h3 x), by rw [List.length_append]; omega, by rw [hU'.out]⟩
            case inr.inr.inr.inr.inr.inr.inr.inr.inr.inl =>
              gi_wp2
              exact hQ.out _ W q1 (by omega) hRW (grownBy_refl _ _) rfl
            case inr.inr.inr.inr.inr.inr.inr.inr.inr.inr.inl =>
              gi_wp2
              exact hQ.out _ W q1 (by omega) hRW (grownBy_refl _ _) rfl
            case inr.inr.inr.inr.inr.inr.inr.inr.inr.inr.inr.inl =>
              have e1 : s 10 = .int .i64 (k : Nat) := hd 10 (by kernel_rfl)
              gi_wp2
              have hr := hQ.out
              try simp only [e1] at hr
              exact hr _ W q1 (by omega) hRW (grownBy_refl _ _) rfl
            case inr.inr.inr.inr.inr.inr.inr.inr.inr.inr.inr.inr.inl =>
              have e1 : s 9 = .string Z := hd 9 (by kernel_rfl)
              have e2 : s 11 = .int .i64 ((k : Int) + 1) := hd 11 (by kernel_rfl)
              gi_wp2
              have hr := hQ.out
              try simp only [e1, e2] at hr
              exact hr _ W q1 (by omega) hRW (grownBy_refl _ _) ⟨l.drop (k + 1), fun x hx => hl x (List.mem_of_mem_drop hx), by rw [List.length_drop]; omega, by rw [← hcutB.out]⟩
            case inr.inr.inr.inr.inr.inr.inr.inr.inr.inr.inr.inr.inr.inl =>
              obtain ⟨l1, h1, h2, e1⟩ : ∃ l : List Nat, (∀ x ∈ l, x < 256) ∧ l.length ≤ 15 ∧ s 8 = .string (str l) := hd 8 (by kernel_rfl)
              obtain ⟨l2, h3, h4, e2⟩ : ∃ l : List Nat, (∀ x ∈ l, x < 256) ∧ l.length ≤ 14 ∧ s 12 = .string (str l) := hd 12 (by kernel_rfl)
              have hs1 := str_size l1
              have hs2 := str_size l2
              have happ := str_app l1 l2
              obtain ⟨X, hX⟩ : ∃ X, str l1 = X := ⟨_, rfl⟩
              obtain ⟨Y, hY⟩ : ∃ X, str l2 = X := ⟨_, rfl⟩
              obtain ⟨U, hU⟩ : ∃ X, str (l1 ++ l2) = X := ⟨_, rfl⟩
              rw [hX] at e1 hs1 happ
              rw [hY] at e2 hs2 happ
              rw [hU] at happ
              have hU' := hide hU
              have hXs : X.size ≤ 100 := by omega
              have hYs : Y.size ≤ 100 := by omega
              clear hX hY hU hs1 hs2
              gi_wp2
              have hr := hQ.out
              try simp only [e1, e2] at hr
              exact hr _ W q1 (by omega) hRW (grownBy_refl _ _) ⟨l1 ++ l2, fun x hx => (List.mem_append.1 hx).elim (h1 x) (h3 x), by rw [List.length_append]; omega, by rw [hU'.out]⟩
            case inr.inr.inr.inr.inr.inr.inr.inr.inr.inr.inr.inr.inr.inr =>
              obtain ⟨l1, h1, h2, e1⟩ : ∃ l : List Nat, (∀ x ∈ l, x < 256) ∧ l.length ≤ 29 ∧ s 13 = .string (str l) := hd 13 (by kernel_rfl)
              obtain ⟨X, hX⟩ : ∃ X, str l1 = X := ⟨_, rfl⟩
              rw [hX] at e1
              have hX' := hide hX
              clear hX
              gi_wp2
              have hr := hQ.out
              try simp only [e1] at hr
              exact hr _ W q1 (by omega) hRW (grownBy_refl _ _) ⟨l1, h1, h2, by rw [hX'.out]⟩
          case fin =>
            rintro s W q1 hRW hall
            obtain ⟨l1, h1, h2, e1⟩ : ∃ l : List Nat, (∀ x ∈ l, x < 256) ∧ l.length ≤ 29 ∧ s 14 = .string (str l) := hall 14 (by decide)
            rw [e1]
            go_wp2
            go_ret
            exact ⟨⟨l1, h1, by omega, rfl⟩, _, hRW⟩
        · have hzi : ¬ (0 : Int) < (Z.size : Int) := by omega
          go_wp2
          go_ret
          exact ⟨hres, _, hR3⟩

theorem drawTold (w : World) (a : Option Addr) (len cap : Nat) (zs : List Int) (h : IsRow .u8 w a len cap zs) : Calls Tryd.prog 14 #[.slice a len cap] w fun e w' => Int1 e ∧ Below w.heap.size w w' := by
  go_enter Tryd.func14, Tryd.ntmps14
  go_wp2_with fail
  go_at_call 26
  refine (open_in w a len cap zs h).mono ?_
  rintro e w1 ⟨R, n, c, rfl, hb, hR⟩
  go_wp2_with fail
  go_at_call 30
  refine (pick_in w R n c _ a _ _ hb hR (by omega)).mono ?_
  rintro e w2 ⟨k, rfl, hk0, _, hk1, hR2, _⟩
  replace hk1 := hk1 (by omega)
  go_wp2
  go_ret
  exact ⟨⟨_, by first | exact wrap_fits _ | exact wrap64_fits _ | (unfold Fits; omega), rfl⟩, hR2.1⟩

theorem drawWayOk (w : World) (a : Option Addr) (len cap : Nat) (zs : List Int) (h : IsRow .u8 w a len cap zs) : Calls Tryd.prog 10 #[.slice a len cap] w fun e w' => Way e ∧ Below w.heap.size w w' := by
  go_enter Tryd.func10, Tryd.ntmps10
  go_wp2_with fail
  go_at_call 26
  refine (open_in w a len cap zs h).mono ?_
  rintro e w1 ⟨R, n, c, rfl, hb, hR⟩
  go_wp2_with fail
  go_at_call 25
  refine (l20Way_in w R n c _ a 2 (by omega) (by omega) _ hb hR (by omega)).mono ?_
  rintro e w2 ⟨⟨l, hl, hlen, rfl⟩, p', hR2⟩
  go_wp2
  go_ret
  exact ⟨⟨l, hl, hlen, rfl⟩, hR2.1⟩

theorem drawPlace (w : World) (a : Option Addr) (len cap : Nat) (zs : List Int) (h : IsRow .u8 w a len cap zs) : Calls Tryd.prog 19 #[.slice a len cap] w fun e w' => Way e ∧ Below w.heap.size w w' := by
  go_enter Tryd.func19, Tryd.ntmps19
  go_wp2_with fail
  go_at_call 26
  refine (open_in w a len cap zs h).mono ?_
  rintro e w1 ⟨R, n, c, rfl, hb, hR⟩
  go_wp2_with fail
  go_at_call 25
  refine (l20Way_in w R n c _ a 9 (by omega) (by omega) _ hb hR (by omega)).mono ?_
  rintro e w2 ⟨⟨l, hl, hlen, rfl⟩, p', hR2⟩
  go_wp2
  go_ret
  exact ⟨⟨l, hl, hlen, rfl⟩, hR2.1⟩

theorem drawFront (w : World) (a : Option Addr) (len cap : Nat) (zs : List Int) (h : IsRow .u8 w a len cap zs) : Calls Tryd.prog 22 #[.slice a len cap] w fun e w' => Way e ∧ Below w.heap.size w w' := by
  go_enter Tryd.func22, Tryd.ntmps22
  go_wp2_with fail
  go_at_call 26
  refine (open_in w a len cap zs h).mono ?_
  rintro e w1 ⟨R, n, c, rfl, hb, hR⟩
  go_wp2_with fail
  go_at_call 25
  refine (l20Way_in w R n c _ a 9 (by omega) (by omega) _ hb hR (by omega)).mono ?_
  rintro e w2 ⟨⟨l, hl, hlen, rfl⟩, p', hR2⟩
  go_wp2
  go_ret
  exact ⟨⟨l, hl, hlen, rfl⟩, hR2.1⟩

end Go.Proofs.YtghfmoanpgaijaaDoor
