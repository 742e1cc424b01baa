/-
  The starter of sumInLots: its whole script, from the making of the first lot's variable.
-/
import Derived.Test.YtehmobcfbifocaaStart6
namespace Go.Proofs.Ytehmobcfbifocaa
open Go Go.Conc Go.ConcN Go.RowKit Go.Conc.Lib Go.ConcR.Gen Go.ConcN.Gen
open Go.ConcR (KK wgBlock WgAt stA smA rd wr mk Payload Aside2 DC0 ofEvent_cell)

/-- The group is made, no lot's variable yet. -/
structure SFp (S : StP) (W : World) (w : World) : Prop where
  tape : w.tape = W.tape
  os : w.os = W.os
  output : w.output = W.output
  size : w.heap.size = S.N0 + 4
  low : ∀ b, b < S.N0 → b ≠ S.C → w.heap[b]? = W.heap[b]?
  c : w.heap[S.N0]? = some (.cells #[.slice (some ⟨S.C, 0, none⟩) S.n S.capC] 37)
  b : w.heap[S.N0 + 1]? = some (.cells #[.slice (some ⟨S.Bb, 0, none⟩) S.n S.capB] 37)
  d : w.heap[S.N0 + 2]? = some (.cells #[.int .i64 S.by'] 3)
  row : ∀ o, o < S.n → w.cell? ⟨S.Bb, o, none⟩ = some (.int .i64 (S.row o))

section
variable {S : StP} {W w w₁ : World} {k : Nat} {cs : List Frame} {v : Int}
theorem SFp.aside2 (F : S.Fit) (h : SFp S W w) (ha : Aside2 S.C (S.N0 + 3) w w₁) : SFp S W w₁ := by
  have hC := F.C
  have hB := F.Bb
  have hne := F.ne
  exact ⟨ha.tape.trans h.tape, ha.os.trans h.os, ha.output.trans h.output, by rw [ha.size]; exact h.size, fun b hb hc => (ha.block b hc (by omega)).trans (h.low b hb hc),
    (ha.block _ (by omega) (by omega)).trans h.c, (ha.block _ (by omega) (by omega)).trans h.b, (ha.block _ (by omega) (by omega)).trans h.d,
    fun o ho => (cell_of_block (ha.block _ (by omega) (by omega)) o).trans (h.row o ho)⟩
theorem rl39p (F : S.Fit) (h : SFp S W w ∧ WgLive wgl.tWg (S.N0 + 3) w) (r : RC wgl.tWg (S.N0 + 3) S.C w w₁) : SFp S W w₁ ∧ WgLive wgl.tWg (S.N0 + 3) w₁ := ⟨h.1.aside2 F r.aside, r.live h.2⟩
theorem SFp.alloc (F : S.Fit) (h : SFp S W w) : SF S W 0 (w.alloc (.cells #[.int .i64 0] 3)) := by
  have hs := h.size
  have hl := low_alloc' (w := w) (B := S.N0 + 4) (by omega) (.cells #[.int .i64 0] 3)
  have hn := heap_new w (.cells #[.int .i64 0] 3)
  rw [hs] at hn
  have hB := F.Bb
  refine ⟨h.tape, h.os, h.output, by show (w.heap.push _).size = _; simp [hs], fun b hb hc => (hl b (by omega)).trans (h.low b hb hc), (hl _ (by omega)).trans h.c, (hl _ (by omega)).trans h.b, (hl _ (by omega)).trans h.d,
    fun j hj => ?_, fun o ho => (cell_of_block (hl _ (by omega)) o).trans (h.row o ho)⟩
  obtain rfl : j = 0 := by omega
  exact hn
theorem SF.set0 (F : S.Fit) (h : SF S W 0 w) : SF S W 0 (w.setCell ⟨S.N0 + 4, 0, none⟩ (.int .i64 0)) := by
  have hA := aside_setCell w ⟨S.N0 + 4, 0, none⟩ (.int .i64 0)
  have hB := F.Bb
  have hl : ∀ b, b ≠ S.N0 + 4 → (w.setCell ⟨S.N0 + 4, 0, none⟩ (.int .i64 0)).heap[b]? = w.heap[b]? := fun b hb => hA.block b hb
  refine ⟨hA.tape.trans h.tape, hA.os.trans h.os, hA.output.trans h.output, by rw [hA.size]; exact h.size, fun b hb hc => (hl b (by omega)).trans (h.low b hb hc), (hl _ (by omega)).trans h.c, (hl _ (by omega)).trans h.b, (hl _ (by omega)).trans h.d,
    fun j hj => ?_, fun o ho => (cell_of_block (hl _ (by omega)) o).trans (h.row o ho)⟩
  obtain rfl : j = 0 := by omega
  exact cell_set_one (h.f 0 (Nat.le_refl 0))

theorem SF.z1 (h : SF S W 0 w) : w.cell? ⟨S.N0 + 4, 0, none⟩ = some (.int .i64 ((64 * 0 : Nat) : Int)) := cell_one (h.f 0 (Nat.le_refl 0))
theorem SF.z2 (h : SF S W 0 w) : w.frozen? ⟨S.N0 + 4, 0, none⟩ = false := by
  have := h.f 0 (Nat.le_refl 0)
  simp only [Nat.add_zero] at this
  simp [World.frozen?, this]

theorem starts (F : S.Fit) : ∀ (r k : Nat), k + r = S.lots → ∃ f, ∀ (t8 t9 t10 t11 t12 t13 t14 t15 t16 t17 : Value) (w : World), SF S W k w ∧ WgLive wgl.tWg (S.N0 + 3) w →
    GP S.ph (S.ph.N - r) (stopS S W cs r) f (G ((base 39).at ⟨T39 S k t8 t9 t10 t11 t12 t13 t14 t15 t16 t17, []⟩ [.code L39, .inLoop L39, .inBlock 0, .code R39]) cs) w := by
  intro r
  induction r with
  | zero =>
    intro k hk
    obtain rfl : k = S.lots := by omega
    exact ⟨20, start_end F⟩
  | succ r ih => exact fun k hk => ⟨40, start_turn F r k hk (ih (k + 1) (by omega))⟩

noncomputable def C39 : Code := match Try.f39.body.getD .skip with
  | .seq _ (.seq _ c) => c
  | _ => .skip
abbrev T39p (S : StP) : Array Value :=
  #[.slice (some ⟨S.C, 0, none⟩) S.n S.capC, .slice (some ⟨S.Bb, 0, none⟩) S.n S.capB, .int .i64 S.by', pp S.N0, pp (S.N0 + 1), pp (S.N0 + 2), pp (S.N0 + 3), undef, undef, undef, undef, undef, undef, undef, undef, undef, undef, undef]
set_option maxRecDepth 100000 in
set_option maxHeartbeats 8000000 in
/-- Its whole script. -/
theorem starts39 (F : S.Fit) (w : World) (hF : SFp S W w ∧ WgLive wgl.tWg (S.N0 + 3) w) :
    script S.ph (Anch39 S W cs) S.ph.n (G ((base 39).at ⟨T39p S, []⟩ [.code C39]) cs) w := by
  have hl := S.lots_spec F
  have hB : S.N0 + 4 < S.B := by unfold StP.B; omega
  obtain ⟨f, hf⟩ := starts (S := S) (W := W) (cs := cs) F S.lots 0 (by omega)
  have eN : S.ph.N = S.j0 + S.lots := rfl
  have eJ : S.ph.N - S.lots = S.j0 + 0 := by omega
  refine (script_iff (S := S) (W := W) (cs := cs) S.lots _ _).2 ⟨f + 20, ?_⟩
  rw [eJ] at hf ⊢
  refine gp_of (k := 0) ?_
  simp only [L39, R39, C39, lastPart, firstLoop, Try.f39, Option.getD_some] at hf ⊢
  u_c stepG_seq (rl39p F) hF
  u_c stepG_seq (rl39p F) hF
  u_reg (rl39p F) hF
  u_in (rl39p F) hF
  refine goes_oper_k rfl rfl (by decide) (fun Kx hKx => ?_)
  have hsz := hF.1.size
  go_simp
  refine hKx _ _ ⟨⟨fun b hb => low_alloc' (by omega) _ b hb, fun e he => ?_⟩, ?_⟩
  · have hm := mem_listed he
    simp [go_sem, *] at hm
  clear hKx Kx
  replace hF := And.intro (hF.1.alloc F) (live_low' hF.2 (low_alloc' (B := S.N0 + 4) (by omega) (.cells #[.int .i64 0] 3)) (by omega))
  clear hsz
  u_in (rl39 F) hF
  refine goes_oper_k rfl rfl (by decide) (fun Kx hKx => ?_)
  have hu1 := hF.1.z1
  have hu2 := hF.1.z2
  go_simp
  refine hKx _ _ ⟨⟨fun b hb => low_set' _ _ (Nat.le_refl _) b hb, fun e he => ?_⟩, ?_⟩
  · have hm := mem_listed he
    simp [go_sem, storedEv, *] at hm
    subst hm
    exact StP.ev0_wr (k := 0) F (Nat.zero_le _) rfl
  clear hKx Kx hu1 hu2
  replace hF := And.intro (hF.1.set0 F) (live_low' hF.2 (low_set' (B := S.N0 + 4) ⟨S.N0 + 4, 0, none⟩ (.int .i64 0) (Nat.le_refl _)) (by omega))
  u_c stepG_region_end (rl39 F) hF
  u_c stepG_block (rl39 F) hF
  u_c stepG_loop (rl39 F) hF
  exact (of_gp (k := 0) (hf _ _ _ _ _ _ _ _ _ _ _ hF)).mono (by omega)
end
end Go.Proofs.Ytehmobcfbifocaa
