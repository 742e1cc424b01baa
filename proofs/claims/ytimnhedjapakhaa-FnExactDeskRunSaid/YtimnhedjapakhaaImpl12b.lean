/-
  The program's DeskDo where no row of before is put back.
-/
import Derived.Test.YtimnhedjapakhaaImpl12a
import Derived.Test.YtimnhedjapakhaaSpec12l
namespace Go.Proofs.Ytimnhedjapakhaa
open Go.RowKit Go.Shelf
attribute [local go_sem] Oper.semAt_some

/-- The last rows of before, out of rows that lie. -/
theorem deskOf_last (u : Value) (row : List Int) (past : List (List Int)) (G cp : Nat) (w : World) (hu : Ints w u row) (h1 : 1 ≤ row.length) (h2 : row.length ≤ 12) (hl : past.length ≤ 9) (hcp : past.length ≤ cp) (hG : G < w.heap.size) (hc : ∀ k, k < past.length → ∃ u, w.cell? ⟨G, 0 + k, none⟩ = some u ∧ Ints w u (past.getD k []))
    (hr : ∀ j, j < past.length → 1 ≤ (past.getD j []).length ∧ (past.getD j []).length ≤ 12) :
    Calls Try.prog 37 #[u, .slice (some ⟨G, 0, none⟩) past.length cp] w fun e w' => ∃ x, e = .returned x ∧ OwnDk w' w.heap.size x (row, lastR past) ∧ Below w.heap.size w w' := by
  by_cases h9 : past.length = 9
  · have h := deskOf_full u row past G 0 cp w hu h1 h2 h9 (by omega) hG (fun k hk => hc k (by omega)) hr
    have ht : past.tail = lastR past := by unfold lastR; rw [h9, show 9 - 8 = 1 from rfl, List.drop_one]
    rw [h9, ← ht]
    exact h
  · rw [lastR_le (by omega)]
    exact deskOf_in u _ row past w hu h1 h2 ⟨_, cp, rfl, fun _ => ⟨G, 0, rfl, hG, hc⟩⟩ (by omega) hr
theorem build_two (W : World) (x p : Value) : ((W.alloc (.cells #[x] 23)).alloc (.cells #[p, .slice (some ⟨W.heap.size, 0, none⟩) 1 1] 24)).cell? ⟨W.heap.size + 1, 0, none⟩ = some p ∧
    ((W.alloc (.cells #[x] 23)).alloc (.cells #[p, .slice (some ⟨W.heap.size, 0, none⟩) 1 1] 24)).cell? ⟨W.heap.size + 1, 1, none⟩ = some (.slice (some ⟨W.heap.size, 0, none⟩) 1 1) ∧
    ((W.alloc (.cells #[x] 23)).alloc (.cells #[p, .slice (some ⟨W.heap.size, 0, none⟩) 1 1] 24)).cell? ⟨W.heap.size, 0, none⟩ = some x := by
  have h1 := World.alloc_heap_new (W.alloc (.cells #[x] 23)) (.cells #[p, .slice (some ⟨W.heap.size, 0, none⟩) 1 1] 24)
  rw [World.size_alloc] at h1
  have h2 : ((W.alloc (.cells #[x] 23)).alloc (.cells #[p, .slice (some ⟨W.heap.size, 0, none⟩) 1 1] 24)).heap[W.heap.size]? = some (.cells #[x] 23 (0, 0)) := (Below.heap_alloc _ _ _ (by rw [World.size_alloc]; omega)).trans (World.alloc_heap_new W _)
  exact ⟨by unfold World.cell?; rw [h1]; rfl, by unfold World.cell?; rw [h1]; rfl, by unfold World.cell?; rw [h2]; rfl⟩

/-- What the walks of DeskDo know of the desk, and of the calls. -/
structure Dx (w : World) (x p : Value) (d : Dk) (k n : Int) : Prop where
  now : Ints w x d.1
  past : PastI w p d.2
  desk : deskB d = true
  after : ∀ V, Do1 w x p k n V → Calls Try.prog 38 #[x, dV k n] V fun e w' => ∃ r, e = .returned r ∧ Ints w' r (madeV d.1 k n) ∧ Below V.heap.size V w'
  keep : ∀ V, Do1 w x p k n V → Calls Try.prog 37 #[x, p] V fun e w' => ∃ y, e = .returned y ∧ OwnDk w' V.heap.size y d ∧ Below V.heap.size V w'
theorem Dx.new {w : World} {x p : Value} {d : Dk} (k n : Int) (hx : Ints w x d.1) (hp : PastI w p d.2) (hb : deskB d = true) : Dx w x p d k n := by
  obtain ⟨h1, h2, h3⟩ := deskB_is.1 hb
  have hl := sideB_len h2
  refine ⟨hx, hp, hb, fun V hV => rowAfter_in x d.1 k n V (hx.below hV.below) h2, fun V hV => ?_⟩
  exact deskOf_in x p d.1 d.2 V (hx.below hV.below) hl.1 hl.2 (hp.below hV.below) h3 (fun j hj => sideB_len (h1 _ (by rw [List.getD, List.getElem?_eq_getElem hj]; exact List.getElem_mem hj)))
/-- The result is laid into its block, and handed back. -/
theorem Do1.result {w : World} {x p y1 y2 : Value} {k n : Int} {d : Dk} {V W : World} (hD : Do1 w x p k n V) (h : OwnDk W V.heap.size (.agg #[y1, y2]) d) (hB : Below V.heap.size V W) :
    W.heap[w.heap.size + 2]? = some (.cells #[.slice .none 0 0, .slice .none 0 0] 26 (0, 0)) ∧ OwnDk ((W.setCell ⟨w.heap.size + 2, 0, .none⟩ y1).setCell ⟨w.heap.size + 2, 1, .none⟩ y2) w.heap.size (.agg #[y1, y2]) d ∧ Below w.heap.size w ((W.setCell ⟨w.heap.size + 2, 0, .none⟩ y1).setCell ⟨w.heap.size + 2, 1, .none⟩ y2) := by
  have hs := hD.size
  refine ⟨(hB.block _ (by omega)).trans hD.res, h.result (by omega) (by omega), ?_⟩
  exact ((hD.below.trans (hB.mono hD.below.size)).setCell (p := ⟨w.heap.size + 2, 0, .none⟩) (by show w.heap.size ≤ w.heap.size + 2; omega) _).setCell (p := ⟨w.heap.size + 2, 1, .none⟩) (by show w.heap.size ≤ w.heap.size + 2; omega) _

set_option maxRecDepth 100000 in
set_option maxHeartbeats 2000000 in
theorem implDo_no (v : Value) (d : Dk) (k n : Int) (w : World) (hv : DeskI w v d) (hs : DkS d) (hb : deskB d = false) : Calls Try.prog 13 #[v, dV k n] w fun e w' =>
    ∃ x, e = .returned (.tuple #[x, .bool (doV d k n).2]) ∧ OwnDk w' w.heap.size x (doV d k n).1 ∧ Below w.heap.size w w' := by
  obtain ⟨x, p, rfl, hx, hp⟩ := hv
  have hD := Do1.new w x p k n
  obtain ⟨W1, hW1⟩ : ∃ W1, ((w.alloc (.cells #[x, p] 26)).alloc (.cells #[.int .i64 k, .int .i64 n] 32)).alloc (.cells #[.slice none 0 0, .slice none 0 0] 26) = W1 := ⟨_, rfl⟩
  rw [hW1] at hD
  have hOK := implDeskOk (.agg #[x, p]) d W1 ⟨x, p, rfl, hx.below hD.below, hp.below hD.below⟩ hs
  rw [hb] at hOK
  rw [doV_no hb]
  obtain ⟨a0, a1, _, _⟩ := row_at hD.desk
  unfold dV
  clear hx hp hs hb
  go_enter Try.func13, Try.ntmps13
  go_wp2_with (go_at_call 9; go_loud (refine hOK.mono ?_; clear hOK; rintro e W2 ⟨rfl, hB2⟩; have hD2 := hD.more hB2; obtain ⟨r0, r1, g0, g1⟩ := row_at hD2.res))
  have hs2 := hD2.size
  obtain ⟨h1, h2, h3⟩ := hD2.result (OwnDk.none W2 W2.heap.size (Nat.le_refl _)) (Below.refl _ _)
  exact bodyPost_ret (results_desk2 rfl _ _ (w.heap.size + 2) _ _ rfl (desk_set h1 _ _)) rfl ⟨_, rfl, h2, h3⟩
end Go.Proofs.Ytimnhedjapakhaa
