/-
  The program's PictureOf at every argument.
-/
import Derived.Test.YtjghhmgnbcabdaaImpl6
import Derived.Test.YtjghhmgnbcabdaaBuild6
import Derived.Test.YtjghhmgnbcabdaaLay6
namespace Go.Proofs.Ytjghhmgnbcabdaa
open Go.RowKit Go.Shelf

theorem bldExtra : Builder.Extra Try.prog Try.stringA_ren := {
  sizeBuilder := by kernel_rfl
  liesBuilder := by kernel_rfl
  t5 := Try.underlying5
  a5 := Try.isAgg5
  z5 := Try.sizeOf5
  v5 := Try.zeroValue5
  infoByte := by kernel_rfl
  cellsByte := by kernel_rfl
  sizeByte := by kernel_rfl
  neB5 := by decide }

/-- The builder in block b holds these bytes. -/
def Bld (w : World) (b : Nat) (l : List Nat) : Prop := Lib.IsBuilderF 68 5 b b (Lib.byteCells (l.map UInt8.ofNat)) w
theorem Bld.kept {w w' : World} {b R : Nat} {l : List Nat} (h : Bld w b l) (hg : w.grownBy w' (some R)) (hr : R < b) : Bld w' b l := by
  have go : ∀ p, Lib.BuilderAtF 68 5 b b p (Lib.byteCells (l.map UInt8.ofNat)) w → Lib.BuilderAtF 68 5 b b p (Lib.byteCells (l.map UInt8.ofNat)) w' := by
    rintro p ⟨h1, v, hb, hown, hne⟩
    refine ⟨h1, v, (hg.block b (Array.getElem?_eq_some_iff.1 hb).1 (fun e => by cases e; omega)).trans hb, hown.kept hg (.inr fun e => ?_), hne⟩
    have := (hown.lt R e).1
    omega
  exact h.imp (go _) (go _)
theorem Bld.write {w : World} {b : Nat} {l : List Nat} (h : Bld w b l) {c : Nat} (hc : c < 256) (hl : l.length ≤ 100000) (hb : b ≤ w.heap.size) :
    Calls Try.prog 40 #[.pointer (some ⟨b, 0, none⟩), .int .u8 c] w fun e w' => e = .returned .nilIface ∧ Bld w' b (l ++ [c]) ∧ Below b w w' ∧ Lib.OthersKept 5 (some b) w w' := by
  refine (writeByte_in b b _ c w h (by rw [Lib.byteCells_length, List.length_map]; omega) hb).mono ?_
  rintro e w' ⟨h1, h2, h3⟩
  refine ⟨h1, .inr ?_, h3⟩
  rw [List.map_append, Lib.byteCells_append]
  have e : Lib.byteCells ([c].map UInt8.ofNat) = [.int .u8 (c : Int)] := by
    simp only [List.map_cons, List.map_nil, Lib.byteCells, UInt8.toNat_ofNat_of_lt' hc]
  rw [e]
  exact h2
theorem Bld.text {w : World} {b : Nat} {l : List Nat} (h : Bld w b l) (hb : b ≤ w.heap.size) :
    Calls Try.prog 42 #[.pointer (some ⟨b, 0, none⟩)] w fun e w' => e = .returned (.string (str l)) ∧ Below b w w' :=
  (Any.Builder_String_any_k Try.stringA bldExtra b b _ w h hb).mono fun _ _ ⟨h1, _, h3, _⟩ => ⟨h1, h3⟩
theorem Bld.size {w : World} {b : Nat} {l : List Nat} (h : Bld w b l) : b < w.heap.size := by
  rcases h with h | h
  · exact h.lt
  · exact h.lt
theorem blk_others {w w' : World} {g N b : Nat} {V : Nat → Option Value} (h : BlkAt w g 65 N V) (hk : Lib.OthersKept 5 (some b) w w') (hgb : g ≠ b) : BlkAt w' g 65 N V := by
  obtain ⟨cur, h1, h2⟩ := h
  exact ⟨cur, hk g _ h1 (fun e => hgb (Option.some.inj e)) (fun c fz e => by cases e), h2⟩
theorem Sm.others {w w' : World} {R p b : Nat} (h : Sm w R p) (hk : Lib.OthersKept 5 (some b) w w') (hgb : R ≠ b) : Sm w' R p := by
  rcases h with h | h
  · exact .inl (blk_others h hk hgb)
  · exact .inr (blk_others h hk hgb)

theorem mark_byte {l : Nat} (h : l < 13) (h' : l < ({ data := #[46, 49, 50, 51, 52, 53, 54, 55, 56, 57, 97, 98, 99] } : ByteArray).size) : (({ data := #[46, 49, 50, 51, 52, 53, 54, 55, 56, 57, 97, 98, 99] } : ByteArray)[l]'h').toNat = markB l := by
  rcases (show l = 0 ∨ l = 1 ∨ l = 2 ∨ l = 3 ∨ l = 4 ∨ l = 5 ∨ l = 6 ∨ l = 7 ∨ l = 8 ∨ l = 9 ∨ l = 10 ∨ l = 11 ∨ l = 12 by omega) with rfl | rfl | rfl | rfl | rfl | rfl | rfl | rfl | rfl | rfl | rfl | rfl | rfl
  all_goals rfl

set_option maxRecDepth 100000 in
set_option maxHeartbeats 2000000 in
theorem implPicture_ok (N P : Nat) (hN1 : 1 ≤ N) (hN : N ≤ 64) (hp : prm P) (w : World) : Calls Try.prog 17 #[.int .i64 N, .int .i64 P] w fun e w' => e = .returned (.string (str (picP P N))) ∧ Below w.heap.size w w' := by
  have hp2 := prm_two hp
  have hP := fun w => implPrime_is (p := (P : Int)) (by unfold Fits; omega) (prmI_ok hp) w
  go_enter Try.func17, Try.ntmps17
  go_wp2_with (first
    | (go_at_call 39; refine (drawn_t _ _ (by omega) (by omega)).mono ?_; rintro e w' ⟨rfl, rfl⟩)
    | (go_at_call 32; (with_reducible refine (hP _).mono ?_); rintro e w1 ⟨rfl, hB1⟩)
    | (refine build_sm rfl _ rfl P rfl ?_)
    | (refine alloc_sm rfl rfl ?_)
    | (refine store_sm rfl _ _ rfl w1.heap.size P rfl rfl (heap_alloc_new _ _) ?_; intro w2 hS2 hg2))
  clear hP
  have hsz1 : w.heap.size ≤ w1.heap.size := hB1.size
  have hsz2 : w1.heap.size + 1 ≤ w2.heap.size := by have := hg2.size; simp at this; omega
  have hB2 : Below w.heap.size w w2 := (hB1.alloc (by omega) _).grown hg2 (by simp; omega) (fun k e => by cases e; omega)
  obtain ⟨b, hb⟩ : ∃ b, w2.heap.size = b := ⟨_, rfl⟩
  have hbl : Bld (w2.alloc (.cells #[.pointer none, .slice none 0 0] 68)) b [] := hb ▸ Lib.IsBuilderF.of (Lib.fresh_isBuilder _ _ w2)
  have hS3 : Sm (w2.alloc (.cells #[.pointer none, .slice none 0 0] 68)) w1.heap.size P := Sm.kept (.inl hS2) (World.grownBy_alloc _ _ none) (by simp)
  have hB3 : Below w.heap.size w (w2.alloc (.cells #[.pointer none, .slice none 0 0] 68)) := hB2.alloc (by omega) _
  rw [hb]
  obtain ⟨R, hR⟩ : ∃ R, w1.heap.size = R := ⟨_, rfl⟩
  rw [hR] at hS3 hsz1 hsz2 ⊢
  rw [hb] at hsz2
  clear hS2 hg2 hB2 hB1 hR
  go_loopw [20] (fun i wr => ∃ n : Nat, n ≤ N ∧ i = .int .i64 n ∧ Sm wr R P ∧ Bld wr b (picP P n) ∧ Below w.heap.size w wr) (fun i _ => N - (intOf i).toNat)
  case atStart => exact ⟨0, Nat.zero_le _, rfl, hS3, hbl, hB3⟩
  case round =>
    clear hS3 hbl hB3
    obtain ⟨n, hn, rfl, hS, hbl, hB⟩ := hrel
    by_cases hlt : n < N
    · have hni : (n : Int) < (N : Int) := by omega
      have hbl0 : Bld wr b (picP P n ++ marksP P n 0) := by simpa [marksP] using hbl
      clear hbl
      go_wp2
      go_loopw [25] (fun i wi => ∃ k : Nat, k ≤ n + 1 ∧ i = .int .i64 k ∧ Sm wi R P ∧ Bld wi b (picP P n ++ marksP P n k) ∧ Below w.heap.size w wi) (fun i _ => n + 1 - (intOf i).toNat)
      case atStart => exact ⟨0, Nat.zero_le _, rfl, hS, hbl0, hB⟩
      case round =>
        clear hS hbl0 hB
        obtain ⟨k, hk, rfl, hS, hbl, hB⟩ := hrel
        have hlen : (picP P n ++ marksP P n k).length ≤ 2300 := picP_row (by omega) hk
        by_cases hkn : k < n + 1
        · have hki : (k : Int) < (n : Int) + 1 := by omega
          have hL := leftIn_in R n k P hp (by omega) (by omega) wr hS
          have e : bin n k % P = leftN P n k := rfl
          rw [e] at hL
          clear e
          have hl13 := leftN_prime hp n k
          have hmk := markB_ne (l := leftN P n k) (by omega)
          have hsn := marksP_snoc P n k
          obtain ⟨l, hl⟩ : ∃ l, leftN P n k = l := ⟨_, rfl⟩
          rw [hl] at hL hl13 hmk hsn
          have hl2 : l < 13 := by omega
          clear hl
          go_wp2_with (go_at_call 41; (with_reducible refine hL.mono ?_); clear hL; rintro e w4 ⟨rfl, hS4, hg4⟩)
          go_at_call 40
          rw [mark_byte hl2]
          have hbl4 := hbl.kept hg4 (by omega)
          have hW := hbl4.write (c := markB l) (by omega) (by omega) (by have := hbl4.size; omega)
          rw [List.append_assoc, ← hsn] at hW
          have hB4 := hB.grown hg4 hB.size (fun k e => by cases e; omega)
          clear hsn hmk hg4 hbl hS hlen
          (with_reducible refine hW.mono ?_); clear hW; rintro e w5 ⟨rfl, hbl5, hB5, hk5⟩
          go_wp2
          go_roundw
          case rel => exact ⟨k + 1, by omega, by go_num, hS4.others hk5 (by omega), hbl5, hB4.trans (hB5.mono (by omega))⟩
          case measure => simp [intOf]; omega
        · obtain rfl : k = n + 1 := by omega
          have hki : ¬ (n : Int) + 1 < (n : Int) + 1 := by omega
          have e : picP P n ++ marksP P n (n + 1) ++ [10] = picP P (n + 1) := by rw [List.append_assoc]; rfl
          have hW : Calls Try.prog 40 #[.pointer (some ⟨b, 0, none⟩), .int .u8 10] wr fun e w' => e = .returned .nilIface ∧ Bld w' b (picP P (n + 1)) ∧ Below b wr w' ∧ Lib.OthersKept 5 (some b) wr w' := e ▸ hbl.write (c := 10) (by omega) (by omega) (by have := hbl.size; omega)
          clear e
          go_wp2_with (go_at_call 40; (with_reducible refine hW.mono ?_); clear hW; rintro e w4 ⟨rfl, hbl4, hB4, hk4⟩)
          go_roundw
          case rel => exact ⟨n + 1, by omega, by go_num, hS.others hk4 (by omega), hbl4, hB.trans (hB4.mono (by omega))⟩
          case measure => simp [intOf]; omega
    · obtain rfl : n = N := by omega
      have hT := hbl.text (by have := hbl.size; omega)
      go_wp2_with (go_at_call 42; (with_reducible refine hT.mono ?_); clear hT; rintro e w4 ⟨rfl, hB4⟩)
      go_ret
      exact ⟨rfl, hB.trans (hB4.mono (by omega))⟩

theorem implPicture (rows p : Int) (hf : Fits p) (w : World) : Calls Try.prog 17 #[.int .i64 rows, .int .i64 p] w fun e w' => e = .returned (.string (str (picL rows p))) ∧ Below w.heap.size w w' := by
  by_cases hbad : badP rows p
  · rw [picL_bad hbad, str_nil]
    unfold badP at hbad
    by_cases h1 : rows < 1 ∨ 64 < rows
    · clear hbad
      go_enter Try.func17, Try.ntmps17
      go_wp2_with (go_at_call 39; refine (drawn_f _ _ h1).mono ?_; rintro e w' ⟨rfl, rfl⟩)
      go_ret
      exact ⟨rfl, Below.refl _ _⟩
    · have hpr : prmI p = false := by
        rcases hbad with h | h | h
        · exact absurd (.inl h) h1
        · exact absurd (.inr h) h1
        · exact h
      have hP := fun w => implPrime_is hf hpr w
      clear hbad hpr
      go_enter Try.func17, Try.ntmps17
      go_wp2_with (first | (go_at_call 39; refine (drawn_t _ _ (by omega) (by omega)).mono ?_; rintro e w' ⟨rfl, rfl⟩) | (go_at_call 32; (with_reducible refine (hP _).mono ?_); rintro e w1 ⟨rfl, hB1⟩))
      go_ret
      exact ⟨rfl, hB1⟩
  · obtain ⟨N, P, rfl, rfl, hN1, hN, hp⟩ := badP_nat hbad
    rw [picL_nat hN1 hN hp]
    exact implPicture_ok N P hN1 hN hp w
end Go.Proofs.Ytjghhmgnbcabdaa
