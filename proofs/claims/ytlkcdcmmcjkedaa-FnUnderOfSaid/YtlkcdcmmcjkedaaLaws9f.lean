/-
  The walk of the law on UnderOf.
-/
import Derived.Test.YtlkcdcmmcjkedaaLaws9
import Derived.Test.YtlkcdcmmcjkedaaKit3
namespace Go.Proofs.Ytlkcdcmmcjkedaa
open Go.RowKit Go.BigFrame

/-- A slice of bytes that came in. -/
def ByteArg (W0 : World) (a : Option Addr) (len : Nat) (m : Nat → Nat) : Prop :=
  0 < len → ∃ b off, a = some ⟨b, off, none⟩ ∧ b < W0.heap.size ∧ ∀ i, i < len → W0.cell? ⟨b, off + i, none⟩ = some (.int .u8 (m i)) ∧ m i < 256
theorem IsRow.byteArg {w : World} {a : Option Addr} {len cap : Nat} {zs : List Int} (h : IsRow .u8 w a len cap zs) : ByteArg w a len (fun i => (zs.getD i 0).toNat) := by
  intro h0
  rcases h with ⟨_, h1, _⟩ | ⟨⟨b, off, spot⟩, rfl, hl, hm, hz, hcell, hwf⟩
  · omega
  · have hc0 := hcell 0 (by omega)
    have hs : spot = none := by simpa [Addr.add] using World.cell?_spot hc0
    subst hs
    have hb : b < w.heap.size := by
      have := World.block_lt_of_cell? w _ hc0
      simpa [Addr.add] using this
    refine ⟨b, off, rfl, hb, fun i hi => ?_⟩
    have h1 := hcell i (by omega)
    have hadd : (⟨b, off, none⟩ : Addr).add i = ⟨b, off + i, none⟩ := by unfold Addr.add; split <;> simp_all
    rw [hadd] at h1
    have hw := hwf (zs.getD i 0) (by rw [List.getD, List.getElem?_eq_getElem (by omega)]; simp)
    have hw2 : 0 ≤ zs.getD i 0 ∧ zs.getD i 0 ≤ 255 := by simpa [Lit.wf, IntKind.min, IntKind.max, IntKind.signed, IntKind.bits] using hw
    have e : (((zs.getD i 0).toNat : Nat) : Int) = zs.getD i 0 := by omega
    simp only
    rw [e]
    exact ⟨h1, by omega⟩

theorem undrV_stL {f : Nat → Nat} (hf : ∀ k, f k ≤ 1) (m : Nat) (h : m ≤ 11) : undrV (stL f 0 (m + 1)) = stL f 1 m := by
  rw [undrV_yes (stL_side hf 0 (m + 1) (by omega) (by omega)), stL_len, Nat.add_sub_cancel, stL_next]

set_option maxRecDepth 100000 in
set_option maxHeartbeats 8000000 in
theorem lawUndr (a0 : Option Addr) (len0 cap0 : Nat) (z0 : List Int) (a1 : Option Addr) (len1 cap1 : Nat) (z1 : List Int) (w : World) (w0 : IsRow .u8 w a0 len0 cap0 z0) (w1 : IsRow .u8 w a1 len1 cap1 z1) :
    Calls Try.prog 5 #[.slice a0 len0 cap0, .slice a1 len1 cap1] w fun e w' => e = .returned (.bool true) ∧ Below w.heap.size w w' := by
  by_cases hbig : 1048576 < len0
  · go_enter Try.func5, Try.ntmps5
    go_wp2
    go_ret
    exact ⟨rfl, Below.refl _ _⟩
  · by_cases hbig2 : 1048576 < len1
    · have hb' : ¬ (1048576 : Int) < len0 := by omega
      go_enter Try.func5, Try.ntmps5
      go_wp2
      go_ret
      exact ⟨rfl, Below.refl _ _⟩
    · have hm := w1.byteArg
      obtain ⟨m, hm⟩ : ∃ m, ByteArg w a1 len1 m := ⟨_, hm⟩
      have hb1 : ¬ (1048576 : Int) < len0 := by omega
      have hb2 : ¬ (1048576 : Int) < len1 := by omega
      have hl1 : len1 ≤ 1048576 := by omega
      clear w1
      go_enter Try.func5, Try.ntmps5
      go_wp2_with fail
      go_at_call 26
      refine (drawUnder9 w a0 len0 cap0 z0 w0).mono ?_
      rintro e w2 ⟨⟨v, xs, rfl, hv, hlies, hxl⟩, hB2⟩
      have hI := implUndr v xs w2 hv hlies (by omega)
      have hS : ∀ W, Below w2.heap.size w2 W → Calls Try.prog 28 #[v] W fun e w' => ∃ r, e = .returned r ∧ w'.ownsRow W.heap.size 3 1 r (undrV xs).length ((undrV xs).map (Value.int .i64)) ∧ Below W.heap.size W w' := fun W h => specUnder9 v xs W (hv.below h) (by omega)
      have hO : ∀ W, Below w2.heap.size w2 W → Calls Try.prog 25 #[v] W fun e w' => e = .returned (.bool (sideB xs)) ∧ W = w' := fun W h => specSide v xs W (hv.below h) (by omega)
      have hul := undrV_len xs
      go_wp2_with fail
      go_at_call 27
      refine hI.mono ?_
      rintro e w3 ⟨r, rfl, hown3, b3⟩
      have hr3 := Ints.of_owns hown3
      clear hI hown3
      go_wp2_with fail
      go_at_call 28
      refine (hS _ b3).mono ?_
      rintro e w4 ⟨r', rfl, hown4, b4⟩
      have hD4 := b3.trans (b4.mono b3.size)
      have hr4 := hr3.below b4
      clear hS
      go_wp2_with fail
      go_at_call 19
      refine (sameInts_in r r' _ w4 (by omega) hr4 (Ints.of_owns hown4)).mono ?_
      rintro e w5 ⟨rfl, b5⟩
      have hD5 := hD4.trans (b5.mono hD4.size)
      have hr5 := hr4.below b5
      clear hown4 hr3 hr4 b3 b4 b5 hD4
      go_wp2_with fail
      go_at_call 25
      refine (hO _ hD5).mono ?_
      rintro e w6 ⟨rfl, rfl⟩
      clear hO
      cases hside : sideB xs with
      | false =>
        obtain ⟨a, c, rfl⟩ := hr5.shape
        rw [undrV_no hside]
        clear hv hlies hside hr5 hm
        go_wp2_with (go_at_call 21; refine (alive_in _).mono ?_; rintro e w6 ⟨rfl, b6⟩; have hD6 := hD5.trans (b6.mono hD5.size))
        go_ret
        exact ⟨rfl, hB2.trans (hD6.mono hB2.size)⟩
      | true =>
        have hlen := sideB_len hside
        have hf := side_bit hside
        obtain ⟨g, cap, rfl, hg, hc⟩ := hv.cells hlen.1
        have hcf : ∀ i, i < xs.length → w2.cell? ⟨g, i, none⟩ = some (.int .i64 (natL xs i : Nat)) := fun i hi => by rw [hc i hi, side_get hside hi]
        rw [undrV_yes hside] at hr5
        clear hv hlies hside hc hul hxl
        generalize natL xs = f at *
        obtain ⟨n, hn⟩ : ∃ n, xs.length = n + 1 := ⟨xs.length - 1, by omega⟩
        rw [hn] at hlen hcf hr5 ⊢
        rw [Nat.add_sub_cancel] at hr5
        clear hn
        have hn12 : n ≤ 11 := by omega
        obtain ⟨gb, hgb⟩ : ∃ gb : Nat → Nat, gb = fun k => if k < len1 then m k % 2 else 0 := ⟨_, rfl⟩
        have hgl : ∀ k, gb k ≤ 1 := fun k => by rw [hgb]; show (if k < len1 then m k % 2 else 0) ≤ 1; split <;> omega
        have hgy : ∀ k, k < len1 → gb k = m k % 2 := fun k hk => by rw [hgb]; exact if_pos hk
        have hgn : ∀ k, ¬ k < len1 → gb k = 0 := fun k hk => by rw [hgb]; exact if_neg hk
        clear hgb
        have htl : ∀ k, (fun k => 1 - f k) k ≤ 1 := fun k => by show 1 - f k ≤ 1; omega
        have hsl : ∀ k, (fun k => (f k + gb k) % 2) k ≤ 1 := fun k => by show (f k + gb k) % 2 ≤ 1; omega
        have ht1 : stL (fun k => 1 - f k) 1 n = stL f 1 n := by
          unfold stL
          refine List.map_congr_left fun k _ => ?_
          have h1 := hf k
          have h2 := hf (k + 1)
          have e : st (fun k => 1 - f k) 1 k = st f 1 k := by show (1 - f k + (1 - f (k + 1))) % 2 = (f k + f (k + 1)) % 2; omega
          rw [e]
        have hs1 : ∀ k, st (fun k => (f k + gb k) % 2) 1 k = (st f 1 k + st gb 1 k) % 2 := fun k => by
          show ((f k + gb k) % 2 + (f (k + 1) + gb (k + 1)) % 2) % 2 = ((f k + f (k + 1)) % 2 + (gb k + gb (k + 1)) % 2) % 2
          omega
        have u1 := undrV_stL htl n hn12
        have u2 := undrV_stL hgl n hn12
        have u3 := undrV_stL hsl n hn12
        rw [ht1] at u1
        obtain ⟨tf, htf⟩ : ∃ tf : Nat → Nat, tf = fun k => 1 - f k := ⟨_, rfl⟩
        obtain ⟨sf, hsf⟩ : ∃ sf : Nat → Nat, sf = fun k => (f k + gb k) % 2 := ⟨_, rfl⟩
        have htk : ∀ k, tf k = 1 - f k := fun k => by rw [htf]
        have hsk : ∀ k, sf k = (f k + gb k) % 2 := fun k => by rw [hsf]
        rw [← htf] at u1
        rw [← hsf] at u3 hs1
        clear htf hsf htl hsl ht1
        obtain ⟨ar, cr, rfl⟩ := hr5.shape
        rw [stL_len] at hr5 ⊢
        have hDw : Below w.heap.size w w5 := hB2.trans (hD5.mono hB2.size)
        have hA1 : Below w5.heap.size w5 (((w5.alloc (.cells #[] 3)).alloc (.cells #[] 3)).alloc (.cells #[] 3)) := (((Below.refl _ w5).alloc (Nat.le_refl _) _).alloc (by simp) _).alloc (by simp; omega) _
        have hM : Three (((w5.alloc (.cells #[] 3)).alloc (.cells #[] 3)).alloc (.cells #[] 3)) w5.heap.size (.slice (some ⟨w5.heap.size, 0, none⟩) 0 0) (.slice (some ⟨w5.heap.size + 1, 0, none⟩) 0 0) (.slice (some ⟨w5.heap.size + 2, 0, none⟩) 0 0) 0 0 0 (stL tf 0 0) (stL gb 0 0) (stL sf 0 0) := by
          refine ⟨((World.ownsRow_made w5 _ _ (Nat.le_refl _) (by decide) rfl).alloc _).alloc _, ?_, ?_, by simp [Value.ownBlock], by simp [Value.ownBlock], by simp [Value.ownBlock]⟩
          · have := (World.ownsRow_made (base := w5.heap.size) (e := 3) (size := 1) (w5.alloc (.cells #[] 3)) #[] 0 (by simp) (by decide) rfl).alloc (.cells #[] 3)
            rw [World.size_alloc] at this
            exact this
          · have := World.ownsRow_made (base := w5.heap.size) (e := 3) (size := 1) ((w5.alloc (.cells #[] 3)).alloc (.cells #[] 3)) #[] 0 (by simp; omega) (by decide) rfl
            rw [World.size_alloc, World.size_alloc] at this
            exact this
        go_wp2
        go_loopw [7, 8, 9, 10] (fun o1 o2 o3 i wr => ∃ k : Nat, k ≤ n + 1 ∧ i = .int .i64 k ∧ Three wr w5.heap.size o1 o2 o3 k k k (stL tf 0 k) (stL gb 0 k) (stL sf 0 k) ∧ Below w5.heap.size w5 wr) (fun _ _ _ i _ => n + 1 - (intOf i).toNat)
        case atStart => exact ⟨0, by omega, rfl, hM, hA1⟩
        case round =>
          clear hM hA1
          obtain ⟨k, hk, rfl, h3, hB⟩ := hrel
          by_cases hlt : k < n + 1
          · have hcell : wr.cell? ⟨g, k, none⟩ = some (.int .i64 (f k : Nat)) := (hB.cell (p := ⟨g, k, none⟩) (Nat.lt_of_lt_of_le hg hD5.size)).trans ((hD5.cell (p := ⟨g, k, none⟩) hg).trans (hcf k hlt))
            have hfk := hf k
            have hgk := hgl k
            have n1 := stL_snoc tf 0 k
            have n2 := stL_snoc gb 0 k
            have n3 := stL_snoc sf 0 k
            have e1 : st tf 0 k = tf k := rfl
            have e2 : st gb 0 k = gb k := rfl
            have e3 : st sf 0 k = sf k := rfl
            rw [e1] at n1
            rw [e2] at n2
            rw [e3] at n3
            have hti : (1 : Int) - (f k : Int) = ((tf k : Nat) : Int) := by rw [htk]; omega
            have hsi : Int.tmod ((f k : Int) + (gb k : Int)) 2 = ((sf k : Nat) : Int) := by rw [hsk]; have := tmod_nat' (f k + gb k) 2; rwa [Int.natCast_add] at this
            have hsl : sf k ≤ 1 := by rw [hsk]; omega
            have hsq := hide (hsk k)
            rw [← hti] at n1
            have n1' := hide n1
            have n2' := hide n2
            have n3' := hide n3
            have hg5 : g < w5.heap.size := Nat.lt_of_lt_of_le hg hD5.size
            have hki : (k : Int) < (n : Int) + 1 := by omega
            have hcr : ∀ W, Below w5.heap.size w5 W → W.cell? ⟨g, k, none⟩ = some (.int .i64 (f k : Nat)) := fun W h => (h.cell (p := ⟨g, k, none⟩) hg5).trans ((hD5.cell (p := ⟨g, k, none⟩) hg).trans (hcf k hlt))
            have hgyk := hgy k
            have hgnk := hgn k
            have hbyte : k < len1 → ∃ b off, a1 = some ⟨b, off, none⟩ ∧ m k < 256 ∧ ∀ W, Below w5.heap.size w5 W → W.cell? ⟨b, off + k, none⟩ = some (.int .u8 (m k)) := fun h1 => by
              obtain ⟨b, off, h2, h3, h4⟩ := hm (by omega)
              refine ⟨b, off, h2, (h4 k h1).2, fun W h => (h.cell (p := ⟨b, off + k, none⟩) (Nat.lt_of_lt_of_le h3 hDw.size)).trans ((hDw.cell (p := ⟨b, off + k, none⟩) h3).trans (h4 k h1).1)⟩
            clear hcf hf hgl hgy hgn htk hsk hs1 u1 u2 u3 hr5 n1 n2 n3 e1 e2 e3 hti hm
            generalize f k = x at *
            generalize gb k = y at *
            generalize sf k = q at *
            have j1 : IntKind.i64.wrap ((1 : Int) - (x : Int)) = (1 : Int) - (x : Int) := IntWalk.i64_in _ (by omega)
            have j2 : IntKind.i64.wrap ((x : Int) + (y : Int)) = (x : Int) + (y : Int) := IntWalk.i64_in _ (by omega)
            have j3 : IntKind.i64.wrap (q : Int) = (q : Int) := IntWalk.i64_in _ (by omega)
            have j4 : IntKind.i64.wrap (y : Int) = (y : Int) := IntWalk.i64_in _ (by omega)
            by_cases hkl : k < len1
            · have hkli : (k : Int) < (len1 : Int) := by omega
              obtain ⟨b, off, rfl, hmk, hbc⟩ := hbyte hkl
              have hbw := hbc wr hB
              have hy := hgyk hkl
              have hyi : Int.tmod ((m k : Nat) : Int) 2 = (y : Int) := by rw [hy]; exact tmod_nat' (m k) 2
              have j5 : IntKind.i64.wrap ((m k : Nat) : Int) = ((m k : Nat) : Int) := IntWalk.i64_in _ (by omega)
              clear hbc hbyte hgyk hgnk hy
              generalize m k = mk at *
              have hc6 := hcr wr hB
              go_wp2_with (first
                | (at_builtin; refine append_at rfl _ _ rfl w5.heap.size _ _ _ rfl h3.o1 rfl (by omega) hB.size ?_; intro v1 w7 ho7 hg7 hb7; have t1 := (h3.first ho7 hg7 hb7).turn; have hB7 := (hB.alloc hB.size (.cells #[.int .i64 ((1 : Int) - (x : Int))] 3)).grown hg7 (by have := hB.size; simp; omega) (fun b hb => (h3.o1.lt b hb).1))
                | (at_builtin; refine append_at rfl _ _ rfl w5.heap.size _ _ _ rfl t1.o1 rfl (by omega) hB7.size ?_; intro v2 w8 ho8 hg8 hb8; have t2 := (t1.first ho8 hg8 hb8).turn; have hB8 := (hB7.alloc hB7.size (.cells #[.int .i64 (y : Int)] 3)).grown hg8 (by have := hB7.size; simp; omega) (fun b hb => (t1.o1.lt b hb).1); have hc8 := hcr w8 hB8)
                | (at_builtin; refine append_at rfl _ _ rfl w5.heap.size _ _ _ rfl t2.o1 rfl (by omega) hB8.size ?_; intro v3 w9 ho9 hg9 hb9; have t3 := (t2.first ho9 hg9 hb9).turn; have hB9 := (hB8.alloc hB8.size (.cells #[.int .i64 (q : Int)] 3)).grown hg9 (by have := hB8.size; simp; omega) (fun b hb => (t2.o1.lt b hb).1)))
              go_roundw
              case rel => exact ⟨k + 1, by omega, by go_num, by rw [n1'.out, n2'.out, n3'.out]; exact t3, hB9⟩
              case measure => simp [intOf]; omega
            · have hkli : ¬ (k : Int) < (len1 : Int) := by omega
              have hc6 := hcr wr hB
              obtain rfl : y = 0 := hgnk hkl
              have hxm : (x : Int) % 2 = (q : Int) := by have := hsq.out; omega
              have hxt : Int.tmod (x : Int) 2 = (q : Int) := by simpa using hsi
              clear hbyte hgyk hgnk
              go_wp2_with (first
                | (at_builtin; refine append_at rfl _ _ rfl w5.heap.size _ _ _ rfl h3.o1 rfl (by omega) hB.size ?_; intro v1 w7 ho7 hg7 hb7; have t1 := (h3.first ho7 hg7 hb7).turn; have hB7 := (hB.alloc hB.size (.cells #[.int .i64 ((1 : Int) - (x : Int))] 3)).grown hg7 (by have := hB.size; simp; omega) (fun b hb => (h3.o1.lt b hb).1))
                | (at_builtin; refine append_at rfl _ _ rfl w5.heap.size _ _ _ rfl t1.o1 rfl (by omega) hB7.size ?_; intro v2 w8 ho8 hg8 hb8; have t2 := (t1.first ho8 hg8 hb8).turn; have hB8 := (hB7.alloc hB7.size (.cells #[.int .i64 0] 3)).grown hg8 (by have := hB7.size; simp; omega) (fun b hb => (t1.o1.lt b hb).1); have hc8 := hcr w8 hB8)
                | (at_builtin; refine append_at rfl _ _ rfl w5.heap.size _ _ _ rfl t2.o1 rfl (by omega) hB8.size ?_; intro v3 w9 ho9 hg9 hb9; have t3 := (t2.first ho9 hg9 hb9).turn; have hB9 := (hB8.alloc hB8.size (.cells #[.int .i64 (q : Int)] 3)).grown hg9 (by have := hB8.size; simp; omega) (fun b hb => (t2.o1.lt b hb).1)))
              go_roundw
              case rel => exact ⟨k + 1, by omega, by go_num, by rw [n1'.out, n2'.out, n3'.out]; exact t3, hB9⟩
              case measure => simp [intOf]; omega
          · obtain rfl : k = n + 1 := by omega
            have hki : ¬ (n : Int) + 1 < (n : Int) + 1 := by omega
            have i1 := Ints.of_owns h3.o1
            have i2 := Ints.of_owns h3.o2
            have i3 := Ints.of_owns h3.o3
            have l1 := Lies.of_owns h3.o1
            have l2 := Lies.of_owns h3.o2
            have l3 := Lies.of_owns h3.o3
            obtain ⟨p1, q1, e1⟩ := own_form h3.o1
            obtain ⟨p2, q2, e2⟩ := own_form h3.o2
            obtain ⟨p3, q3, e3⟩ := own_form h3.o3
            subst e1 e2 e3
            have hx5 := hr5.below hB
            have hst := fun k => hs1 k
            have hfb := fun k => st_le hf 1 k
            have hgb := fun k => st_le hgl 1 k
            have hU2 := implUndr _ _ wr i2 l2 (by rw [stL_len]; omega)
            rw [u2, stL_len] at hU2
            have hU3 : ∀ W, Below wr.heap.size wr W → Calls Try.prog 27 #[.slice p3 (n + 1) q3] W fun e w' => ∃ r, e = .returned r ∧ w'.ownsRow W.heap.size 3 1 r n ((stL sf 1 n).map (Value.int .i64)) ∧ Below W.heap.size W w' := fun W h => by
              have := implUndr _ _ W (i3.below h) l3 (by rw [stL_len]; omega)
              rwa [u3, stL_len] at this
            have hU1 : ∀ W, Below wr.heap.size wr W → Calls Try.prog 27 #[.slice p1 (n + 1) q1] W fun e w' => ∃ r, e = .returned r ∧ w'.ownsRow W.heap.size 3 1 r n ((stL f 1 n).map (Value.int .i64)) ∧ Below W.heap.size W w' := fun W h => by
              have := implUndr _ _ W (i1.below h) l1 (by rw [stL_len]; omega)
              rwa [u1, stL_len] at this
            clear h3 i1 i2 i3 l1 l2 l3 hcf hm hgy hgn htk hsk u1 u2 u3 hs1 hr5 hf hgl
            go_wp2_with fail
            go_at_call 27
            refine hU2.mono ?_
            rintro e w7 ⟨r7, rfl, ho7, b7⟩
            go_wp2_with fail
            go_at_call 27
            refine (hU3 _ b7).mono ?_
            rintro e w8 ⟨r8, rfl, ho8, b8⟩
            have hD8 := b7.trans (b8.mono b7.size)
            have y8 := (Ints.of_owns ho7).below b8
            have z8 := Ints.of_owns ho8
            have x8 := hx5.below hD8
            obtain ⟨p7, q7, e7⟩ := own_form ho7
            obtain ⟨p8, q8, e8⟩ := own_form ho8
            subst e7 e8
            clear hU2 hU3 ho7 ho8 b7 b8 hx5
            go_wp2
            go_loopw [14] (fun i wi => ∃ k : Nat, k ≤ n ∧ i = .int .i64 k ∧ Below w8.heap.size w8 wi) (fun i _ => n - (intOf i).toNat)
            case atStart => exact ⟨0, by omega, rfl, Below.refl _ _⟩
            case round =>
              obtain ⟨k, hk, rfl, hC⟩ := hrel
              by_cases hlt2 : k < n
              · obtain ⟨gx, cx, ex, hgx, hcx⟩ := x8.cells (by rw [stL_len]; omega)
                obtain ⟨gy, cy, ey, hgy, hcy⟩ := y8.cells (by rw [stL_len]; omega)
                obtain ⟨gz, cz, ez, hgz, hcz⟩ := z8.cells (by rw [stL_len]; omega)
                rw [stL_len] at ex ey ez hcx hcy hcz
                injection ex with ex1 _ ex2
                injection ey with ey1 _ ey2
                injection ez with ez1 _ ez2
                subst ex1 ex2 ey1 ey2 ez1 ez2
                have m1 : ∀ m : After w8, m.now.cell? ⟨gx, k, none⟩ = some (.int .i64 (st f 1 k : Nat)) := fun m => (m.ok.cell (p := ⟨gx, k, none⟩) hgx).trans (by rw [hcx k hlt2, stL_getD _ _ _ _ hlt2])
                have m2 : ∀ m : After w8, m.now.cell? ⟨gy, k, none⟩ = some (.int .i64 (st gb 1 k : Nat)) := fun m => (m.ok.cell (p := ⟨gy, k, none⟩) hgy).trans (by rw [hcy k hlt2, stL_getD _ _ _ _ hlt2])
                have m3 : ∀ m : After w8, m.now.cell? ⟨gz, k, none⟩ = some (.int .i64 (st sf 1 k : Nat)) := fun m => (m.ok.cell (p := ⟨gz, k, none⟩) hgz).trans (by rw [hcz k hlt2, stL_getD _ _ _ _ hlt2])
                have hq := tmod_nat' (st f 1 k + st gb 1 k) 2
                rw [← hst k, Int.natCast_add] at hq
                have hfk := hfb k
                have hgk := hgb k
                have hzk : st sf 1 k ≤ 1 := by rw [hst k]; omega
                have hki2 : (k : Int) < (n : Int) := by omega
                clear x8 y8 z8 hcx hcy hcz hst hfb hgb hU1
                generalize st f 1 k = x at *
                generalize st gb 1 k = y at *
                generalize st sf 1 k = q at *
                have hq' : Int.tmod ((x : Int) + (y : Int)) 2 = (q : Int) := hq
                have j2 : IntKind.i64.wrap ((x : Int) + (y : Int)) = (x : Int) + (y : Int) := IntWalk.i64_in _ (by omega)
                have j3 : IntKind.i64.wrap (q : Int) = (q : Int) := IntWalk.i64_in _ (by omega)
                clear hq
                go_wp2
                refine wp_region_below w8 (by kernel_rfl) (by kernel_rfl) hC ?_
                repeat (go_big_quiet_step (fail))
                refine wpQuiet_nil ?_
                rintro _ ⟨nq, rfl⟩
                clear m1 m2 m3
                go_wp2
                go_roundw
                case rel => exact ⟨k + 1, by omega, by go_num, nq.ok⟩
                case measure => simp [intOf]; omega
              · obtain rfl : k = n := by omega
                have hDr := hD8.trans (hC.mono hD8.size)
                have hU := hU1 _ hDr
                have xr := x8.below hC
                have hkk : ¬ (k : Int) < (k : Int) := by omega
                have hkw : IntKind.i64.wrap ((k : Int) + 1 - 1) = (k : Int) := by rw [show (k : Int) + 1 - 1 = (k : Int) by omega]; exact IntWalk.i64_in _ (by omega)
                have hke : (k : Int) + 1 - 1 = (k : Int) := by omega
                have hBr := hB.trans (hDr.mono hB.size)
                clear x8 y8 z8 hst hfb hgb hU1 hC hD8 hDr
                go_wp2_with fail
                go_at_call 27
                refine hU.mono ?_
                rintro e w9 ⟨r9, rfl, ho9, b9⟩
                have hB9 := hBr.trans (b9.mono hBr.size)
                obtain ⟨p9, q9, e9⟩ := own_form ho9
                subst e9
                clear hU
                go_wp2_with fail
                go_at_call 19
                refine (sameInts_in _ _ (stL f 1 k) w9 (by rw [stL_len]; omega) (Ints.of_owns ho9) (xr.below b9)).mono ?_
                rintro e w10 ⟨rfl, b10⟩
                have hB10 := hB9.trans (b10.mono hB9.size)
                clear ho9 b9 b10 xr
                go_wp2_with fail
                go_at_call 21
                refine (alive_in _).mono ?_
                rintro e w11 ⟨rfl, b11⟩
                have hB11 := hB10.trans (b11.mono hB10.size)
                go_wp2
                go_ret
                exact ⟨rfl, hDw.trans (hB11.mono hDw.size)⟩
end Go.Proofs.Ytlkcdcmmcjkedaa
