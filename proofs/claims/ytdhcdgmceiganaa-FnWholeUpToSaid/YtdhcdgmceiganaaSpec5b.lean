/-
  The model's WholeUpTo: for every argument what it hands back.
-/
import Derived.Test.YtdhcdgmceiganaaSpec3
import Derived.Test.YtdhcdgmceiganaaSel2
import Derived.Test.YtdhcdgmceiganaaVals5
namespace Go.Proofs.Ytdhcdgmceiganaa
open Go.RowKit

def wholeRL (p row m : Nat) : List Int := (wholeR p row m).map fun (k : Nat) => (k : Int)
theorem wholeRL_in {p j d row : Nat} (hp : 2 ≤ p) (h1 : 1 ≤ d) (h2 : d < p) (h : d * p ^ j + p ^ j - 1 ≤ row) : wholeRL p row (d * p ^ j + p ^ j) = wholeRL p row (d * p ^ j) ++ [((d * p ^ j + p ^ j - 1 : Nat) : Int)] := by
  unfold wholeRL; rw [wholeR_in hp h1 h2 h, List.map_append]; rfl
theorem wholeRL_out {p j d row : Nat} (hp : 2 ≤ p) (h1 : 1 ≤ d) (h2 : d < p) (h : ¬ d * p ^ j + p ^ j - 1 ≤ row) : wholeRL p row (d * p ^ j + p ^ j) = wholeRL p row (d * p ^ j) := by
  unfold wholeRL; rw [wholeR_out hp h1 h2 h]
theorem wholeRL_end {p row m : Nat} (h : row + 1 ≤ m) : wholeRL p row m = wholeL p (row + 1) := by unfold wholeRL wholeL; rw [wholeR_end p row m h]
theorem wholeRL_one {p row : Nat} (hp : 2 ≤ p) : wholeRL p row 1 = [0] := by
  unfold wholeRL wholeR; rw [Nat.min_eq_left (by omega), wholeU_one p hp]; rfl
theorem wholeRL_len (p row m : Nat) : (wholeRL p row m).length ≤ row + 1 := by
  unfold wholeRL wholeR; rw [List.length_map]; have := wholeU_len p (min m (row + 1)); omega

/-- An own row that has a block, be it empty. -/
def OwnB (w : World) (base : Nat) (v : Value) (xs : List Int) : Prop :=
  ∃ g c, v = .slice (some ⟨g, 0, none⟩) xs.length c ∧ w.ownsRow base 3 1 v xs.length (xs.map (Value.int .i64))
theorem OwnB.of_owns {w : World} {base : Nat} {v : Value} {xs : List Int} (h : w.ownsRow base 3 1 v xs.length (xs.map (Value.int .i64))) (h0 : 0 < xs.length) : OwnB w base v xs := by
  obtain ⟨g, cap, rfl, _, _, _, _⟩ := owns_open h h0
  exact ⟨g, cap, rfl, h⟩

set_option maxHeartbeats 1000000 in
theorem specWholeUp_ok (N P : Nat) (hN : N ≤ 999999999) (hp : prm P) (w : World) : Calls Try.prog 26 #[.int .i64 N, .int .i64 P] w fun e w' =>
    ∃ v, e = .returned v ∧ w'.ownsRow w.heap.size 3 1 v (wholeL P (N + 1)).length ((wholeL P (N + 1)).map (Value.int .i64)) ∧ Below w.heap.size w w' := by
  have hp2 := (prm_two hp).1
  have hp13 := (prm_two hp).2
  have hP := fun w => specPrime_is (prmI_ok hp) w
  go_enter Try.func26, Try.ntmps26
  go_wp2_with (first | (go_at_call 37; refine (hP _).mono ?_; rintro e w' ⟨rfl, rfl⟩) | (go_at_call 38; refine (l1In_t _ _ _ _ (by omega) (by omega)).mono ?_; rintro e w' ⟨rfl, rfl⟩))
  clear hP
  go_loopw [5, 6] (fun rows pw wr => ∃ (j Q : Nat) (xs : List Int), Q = P ^ j ∧ Q ≤ 13 * (N + 1) ∧ pw = .int .i64 Q ∧ 0 :: xs = wholeRL P N Q ∧ OwnB wr w.heap.size rows xs ∧ Below w.heap.size w wr)
    (fun _ pw _ => N + 2 - (intOf pw).toNat)
  case atStart =>
    refine ⟨0, 1, [], rfl, by omega, rfl, (wholeRL_one hp2).symm, ⟨w.heap.size, 0, rfl, World.ownsRow_made _ _ _ (Nat.le_refl _) (by decide) rfl⟩, (Below.refl _ _).alloc (Nat.le_refl _) _⟩
  case round =>
    obtain ⟨j, Q, xs, hQ, hQN, rfl, hxs, hown, hB⟩ := hrel
    have hQ0 : 0 < Q := by rw [hQ]; exact Nat.pow_pos (by omega)
    have hQ' := hide hQ
    have hxl := wholeRL_len P N Q
    rw [← hxs, List.length_cons] at hxl
    clear hQ
    by_cases hle : Q ≤ N + 1
    · have hlei : (Q : Int) ≤ (N : Int) + 1 := by omega
      clear hxl
      go_wp2
      go_loopw [5, 7] (fun rows tm wi => ∃ (d T : Nat) (xs : List Int), Hid (T = d * Q) ∧ 1 ≤ d ∧ d ≤ P ∧ T ≤ 13 * (N + 1) ∧ tm = .int .i64 (d : Int) ∧ 0 :: xs = wholeRL P N T ∧ OwnB wi w.heap.size rows xs ∧ Below w.heap.size w wi)
        (fun _ tm _ => P + 2 - (intOf tm).toNat)
      case atStart => exact ⟨1, Q, xs, hide (by omega), Nat.le_refl _, by omega, hQN, rfl, hxs, hown, hB⟩
      case round =>
        clear hown hB hxs xs
        obtain ⟨d, T, xs, hT, hd1, hdP, hTN, rfl, hxs, ⟨g, c, rfl, hown⟩, hB⟩ := hrel
        have hxl := wholeRL_len P N T
        rw [← hxs, List.length_cons] at hxl
        by_cases hlt : d < P
        · have hin := wholeRL_in (j := j) (row := N) hp2 hd1 hlt
          have hout := wholeRL_out (j := j) (row := N) hp2 hd1 hlt
          rw [← hQ'.out, ← hT.out] at hin hout
          have hmul : (d : Int) * (Q : Int) = (T : Int) := by rw [hT.out]; simp
          have hTU : Hid (T + Q = (d + 1) * Q) := hide (by rw [hT.out, Nat.add_mul, Nat.one_mul])
          have hUb : T + Q ≤ 13 * (N + 1) := by
            rw [hTU.out]
            exact Nat.mul_le_mul (by omega) hle
          have hw1 : IntKind.i64.wrap (T : Int) = T := IntWalk.i64_in _ (by omega)
          have hdi : (d : Int) < (P : Int) := by omega
          clear hT
          by_cases hgt : T + Q - 1 ≤ N
          · have hgi : (T : Int) + (Q : Int) - 1 ≤ (N : Int) := by omega
            have hcast : ((T + Q - 1 : Nat) : Int) = (T : Int) + (Q : Int) - 1 := by omega
            have hin' := hide (hin hgt)
            clear hin hout hgt
            go_wp2_with (at_builtin; refine append_one rfl _ _ rfl w.heap.size _ _ _ rfl hown rfl (by omega) (by have := hB.size; omega) ?_; intro v' w2 hown' hgrow)
            go_roundw
            case rel =>
              refine ⟨d + 1, T + Q, xs ++ [(T : Int) + (Q : Int) - 1], hTU, by omega, by omega, hUb, by go_num, ?_, OwnB.of_owns ?_ (by simp), ?_⟩
              · rw [hin'.out, hcast, ← hxs]; rfl
              · rw [List.length_append, List.map_append]; exact hown'
              · exact (hB.alloc hB.size _).grown hgrow (by have := hB.size; simp; omega) (fun k hk => (hown.lt k hk).1)
            case measure => simp [intOf]; omega
          · have hgi : ¬ (T : Int) + (Q : Int) - 1 ≤ (N : Int) := by omega
            have hout' := hide (hout hgt)
            clear hin hout hgt
            go_wp2
            go_roundw
            case rel => exact ⟨d + 1, T + Q, xs, hTU, by omega, by omega, hUb, by go_num, by rw [hout'.out, hxs], ⟨_, _, rfl, hown⟩, hB⟩
            case measure => simp [intOf]; omega
        · obtain rfl : d = P := by omega
          have hdi : ¬ (d : Int) < (d : Int) := by omega
          have hmul : (Q : Int) * (d : Int) = (T : Int) := by rw [hT.out, Int.mul_comm]; simp
          have hT2 : T = d ^ (j + 1) := by rw [Nat.pow_succ, ← hQ'.out, Nat.mul_comm, hT.out]
          have hT3 : Q < T := by rw [hT.out]; have := Nat.mul_le_mul_right Q hp2; omega
          have hT2' := hide hT2
          have hw1 : IntKind.i64.wrap (T : Int) = T := IntWalk.i64_in _ (by omega)
          clear hT hT2 hlt
          go_wp2
          go_roundw
          case rel => exact ⟨j + 1, T, xs, hT2'.out, hTN, rfl, hxs, ⟨_, _, rfl, hown⟩, hB⟩
          case measure => simp [intOf]; omega
    · have hlei : ¬ (Q : Int) ≤ (N : Int) + 1 := by omega
      have hend := wholeRL_end (p := P) (show N + 1 ≤ Q by omega)
      obtain ⟨g, c, rfl, hown⟩ := hown
      rw [hend] at hxs
      have hxs' := hide hxs
      have hlg : ∀ i, i < xs.length → wr.cell? ⟨g, i, none⟩ = some (.int .i64 (xs.getD i 0)) := fun i hi => by
        rw [hown.cellAt i (by omega), List.getElem?_map, List.getElem?_eq_getElem hi, List.getD, List.getElem?_eq_getElem hi]; rfl
      have hglt := (hown.lt g rfl).2
      clear hend hxs
      go_wp2_with (at_builtin; go_loud (refine append_row rfl _ _ rfl w.heap.size _ 1 [.int .i64 0] rfl (World.ownsRow_lit wr #[.int .i64 0] 1 hB.size (by decide) rfl) g xs.length c xs rfl rfl (fun i hi => by rw [World.cell?_alloc_past _ g i hglt]; exact hlg i hi) (by omega) (by have := hB.size; simp; omega) ?_; intro v' w2 hown' hgrow))
      go_ret
      refine ⟨_, rfl, ?_, (hB.alloc hB.size _).grown hgrow (by have := hB.size; simp; omega) (fun k hk => by cases hk; exact hB.size)⟩
      rw [← hxs'.out, List.length_cons, Nat.add_comm]
      exact hown'

theorem specWholeUp (row p : Int) (w : World) : Calls Try.prog 26 #[.int .i64 row, .int .i64 p] w fun e w' =>
    ∃ v, e = .returned v ∧ w'.ownsRow w.heap.size 3 1 v (wholeUV row p).length ((wholeUV row p).map (Value.int .i64)) ∧ Below w.heap.size w w' := by
  by_cases hbad : badK row p
  · rw [wholeUV_bad hbad]
    unfold badK at hbad
    cases hpr : prmI p with
    | false =>
      have hP := fun w => specPrime_is hpr w
      clear hpr hbad
      go_enter Try.func26, Try.ntmps26
      go_wp2_with (go_at_call 37; refine (hP _).mono ?_; rintro e w' ⟨rfl, rfl⟩)
      go_ret
      exact ⟨_, rfl, World.ownsRow_made _ _ _ (Nat.le_refl _) (by decide) rfl, (Below.refl _ _).alloc (Nat.le_refl _) _⟩
    | true =>
      have hP := fun w => specPrime_is hpr w
      have hr : row < 0 ∨ 999999999 < row := by
        rcases hbad with h | h | h
        · exact .inl h
        · exact .inr h
        · rw [hpr] at h; cases h
      clear hpr hbad
      go_enter Try.func26, Try.ntmps26
      go_wp2_with (first | (go_at_call 37; refine (hP _).mono ?_; rintro e w' ⟨rfl, rfl⟩) | (go_at_call 38; refine (l1In_f _ _ _ _ (by omega)).mono ?_; rintro e w' ⟨rfl, rfl⟩))
      go_ret
      exact ⟨_, rfl, World.ownsRow_made _ _ _ (Nat.le_refl _) (by decide) rfl, (Below.refl _ _).alloc (Nat.le_refl _) _⟩
  · obtain ⟨N, P, rfl, rfl, hN, hp⟩ := badK_nat hbad
    rw [wholeUV_nat hN hp]
    exact specWholeUp_ok N P hN hp w
end Go.Proofs.Ytdhcdgmceiganaa
