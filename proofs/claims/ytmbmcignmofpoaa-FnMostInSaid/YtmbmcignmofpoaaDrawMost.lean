/-
  The draw of the law on MostIn: two numbers, and nothing that was there is written.
-/
import Derived.Test.YtmbmcignmofpoaaDrawPrime
import Derived.Test.YtmbmcignmofpoaaOpen
namespace Go.Proofs.Ytmbmcignmofpoaa
open Go.RowKit

/-- The one of five numbers at a place. -/
def sel5 (i : Nat) (a b c d e : Int) : Int := if i = 0 then a else if i = 1 then b else if i = 2 then c else if i = 3 then d else e
theorem sel5_at {i : Nat} (hi : i < 5) (a b c d e : Int) : (#[.int .i64 a, .int .i64 b, .int .i64 c, .int .i64 d, .int .i64 e] : Array Value)[i]? = some (.int .i64 (sel5 i a b c d e)) := by
  match i, hi with
  | 0, _ => rfl
  | 1, _ => rfl
  | 2, _ => rfl
  | 3, _ => rfl
  | 4, _ => rfl
theorem sel5_cell {i : Nat} (hi : i < 5) (W : World) (a b c d e : Int) : (W.alloc (.cells #[.int .i64 a, .int .i64 b, .int .i64 c, .int .i64 d, .int .i64 e] 3)).cell? ⟨W.heap.size, i, none⟩ = some (.int .i64 (sel5 i a b c d e)) := by
  rw [World.cell?_alloc_at _ _ _ _ rfl]; exact sel5_at hi a b c d e
theorem sel5_fits {i : Nat} {a b c d e : Int} (ha : Fits a) (hb : Fits b) (hc : Fits c) (hd : Fits d) (he : Fits e) : Fits (sel5 i a b c d e) := by
  unfold sel5; split
  · exact ha
  · split
    · exact hb
    · split
      · exact hc
      · split
        · exact hd
        · exact he
/-- What lies outside of the reader's block, and was there, is as it was. -/
theorem old_cells {W w : World} {R : Nat} (h : W.grownBy w (some R)) : ∀ b o, b < W.heap.size → b ≠ R → w.cell? ⟨b, o, none⟩ = W.cell? ⟨b, o, none⟩ := fun b o hb hne => by
  unfold World.cell?
  rw [h.block b hb (fun e => hne (by injection e))]

/-- The block that was laid last lies below what has grown since. -/
theorem below_size {W w : World} {R : Nat} (h : W.grownBy w (some R)) : ∀ k, k < W.heap.size → k < w.heap.size := fun _ hk => Nat.lt_of_lt_of_le hk h.size

set_option maxHeartbeats 8000000 in
set_option maxRecDepth 100000 in
theorem drawMost (w : World) (a : Option Addr) (len cap : Nat) (zs : List Int) (h : IsRow .u8 w a len cap zs) : Calls Try.prog 30 #[.slice a len cap] w fun e w' => Int2 e ∧ Below w.heap.size w w' := by
  go_enter Try.func30, Try.ntmps30
  go_wp2_with fail
  go_at_call 33
  refine (open_in w a len cap zs h).mono ?_
  rintro e w1 ⟨R, n, c, rfl, hb, hR⟩
  have h' := hR.drew
  have hne0 := hR.ne
  go_upto_region 2 with fail
  go_region_with (first
      | (go_at_call 34; (with_reducible refine (pick_in w R n c _ a 80 _ hb (by first | assumption | exact Rd.alloc (by assumption) _) (by omega)).mono ?_); rintro e w' ⟨x, rfl, hx0, _, hx1, hrd, hgr, hon⟩; replace hx1 := hx1 (by omega); have hkc := only_cells hon; have hne := hrd.ne; have hf1 : Fits x := (by unfold Fits; omega); clear hx0 hx1 hgr hon)
      | (go_at_call 34; (with_reducible refine (pick_in w R n c _ a 302 _ hb (by first | assumption | exact Rd.alloc (by assumption) _) (by omega)).mono ?_); rintro e w' ⟨x, rfl, hx0, _, hx1, hrd, hgr, hon⟩; replace hx1 := hx1 (by omega); have hkc := only_cells hon; have hne := hrd.ne; have hf2 : Fits x := (by unfold Fits; omega); clear hx0 hx1 hgr hon)
      | (go_at_call 34; (with_reducible refine (pick_in w R n c _ a 9 _ hb (by first | assumption | exact Rd.alloc (by assumption) _) (by omega)).mono ?_); rintro e w' ⟨x, rfl, hx0, _, hx1, hrd, hgr, hon⟩; have hkc := only_cells hon; have hne := hrd.ne; replace hx1 := hx1 (by omega); obtain ⟨i, hi3, hxi⟩ : ∃ i : Nat, i < 5 ∧ IntKind.i64.wrap (x.tdiv 2) = i := ⟨(x / 2).toNat, by omega, by rw [Int.tdiv_eq_ediv_of_nonneg hx0, IntWalk.i64_in _ (by omega)]; omega⟩; have hs1 := sel5_at hi3; have hs2 := sel5_cell hi3; have hi4 : (i : Int) < 5 := (by omega); have hsz := below_size hgr; clear hx1 hgr hon)
      | (go_at_call 37; (with_reducible refine (l20Prime_in w R n c _ a _ hb (by first | assumption | exact Rd.alloc (by assumption) _) (by omega)).mono ?_); rintro e w' ⟨⟨y, hy, rfl⟩, hrd, hgr⟩; have hkc := old_cells hgr; have hne := hrd.ne; clear hgr))
  all_goals
    go_wp2
    go_ret2
    exact ⟨⟨_, _, sel5_fits (by assumption) (by assumption) (by first | exact wrap_fits _ | exact wrap64_fits _) (by unfold Fits; omega) (by unfold Fits; omega), by assumption, rfl⟩, by first | exact hrd.1 | exact (Rd.alloc hrd _).1⟩
end Go.Proofs.Ytmbmcignmofpoaa
