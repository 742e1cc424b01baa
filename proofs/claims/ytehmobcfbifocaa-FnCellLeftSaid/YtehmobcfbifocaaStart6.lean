/-
  The starter of sumInLots: one turn of the loop that starts the workers; the loop.
-/
import Derived.Test.YtehmobcfbifocaaStart5
namespace Go.Proofs.Ytehmobcfbifocaa
open Go Go.Conc Go.ConcN Go.RowKit Go.Conc.Lib Go.ConcR.Gen Go.ConcN.Gen
open Go.ConcR (KK wgBlock WgAt stA smA rd wr mk Payload Aside2 DC0 ofEvent_cell)

/-- The next lot's variable is made and holds v. -/
structure SG (S : StP) (W : World) (k : Nat) (v : Int) (w : World) : Prop where
  tape : w.tape = W.tape
  os : w.os = W.os
  output : w.output = W.output
  size : w.heap.size = S.N0 + 4 + (k + 1) + 1
  low : ∀ b, b < S.N0 → b ≠ S.C → w.heap[b]? = W.heap[b]?
  c : w.heap[S.N0]? = some (.cells #[.slice (some ⟨S.C, 0, none⟩) S.n S.capC] 37)
  b : w.heap[S.N0 + 1]? = some (.cells #[.slice (some ⟨S.Bb, 0, none⟩) S.n S.capB] 37)
  d : w.heap[S.N0 + 2]? = some (.cells #[.int .i64 S.by'] 3)
  f : ∀ j, j ≤ k → w.heap[S.N0 + 4 + j]? = some (.cells #[.int .i64 (64 * j : Nat)] 3)
  row : ∀ o, o < S.n → w.cell? ⟨S.Bb, o, none⟩ = some (.int .i64 (S.row o))
  new : w.heap[S.N0 + 4 + (k + 1)]? = some (.cells #[.int .i64 v] 3)

section
variable {S : StP} {W w w₁ : World} {k : Nat} {cs : List Frame} {v : Int}
theorem low_set' {B : Nat} (a : Addr) (v : Value) (ha : B ≤ a.block) : ∀ b, b < B → (w.setCell a v).heap[b]? = w.heap[b]? := fun b hb => (aside_setCell w a v).block b (by omega)
theorem low_alloc' {B : Nat} (h : B ≤ w.heap.size) (o : Obj) : ∀ b, b < B → (w.alloc o).heap[b]? = w.heap[b]? := fun b hb => Below.heap_alloc _ _ _ (by omega)
theorem live_low' {Wg Low : Nat} (h : WgLive wgl.tWg Wg w) (hl : ∀ b, b < Low → w₁.heap[b]? = w.heap[b]?) (hL : Wg < Low) : WgLive wgl.tWg Wg w₁ := let ⟨st, sm, x⟩ := h; ⟨st, sm, x.of_block (hl _ hL)⟩
theorem heap_new (w : World) (o : Obj) : (w.alloc o).heap[w.heap.size]? = some o := by
  show (w.heap.push o)[w.heap.size]? = some o
  simp
theorem cell_set_one {b : Nat} {u v : Value} {t : TypeId} (h : w.heap[b]? = some (.cells #[u] t)) : (w.setCell ⟨b, 0, none⟩ v).heap[b]? = some (.cells #[v] t) := by
  rw [setCell_eq_setRow w b 0 #[u] t (0, 0) v h, setRow_heap w b _ _ _ _ h]
  rfl
theorem SG.aside2 (F : S.Fit) (h : SG S W k v w) (ha : Aside2 S.C (S.N0 + 3) w w₁) : SG S W k v w₁ := by
  have hC := F.C
  have hB := F.Bb
  have hne := F.ne
  exact ⟨ha.tape.trans h.tape, ha.os.trans h.os, ha.output.trans h.output, by rw [ha.size]; exact h.size, fun b hb hc => (ha.block b hc (by omega)).trans (h.low b hb hc),
    (ha.block _ (by omega) (by omega)).trans h.c, (ha.block _ (by omega) (by omega)).trans h.b, (ha.block _ (by omega) (by omega)).trans h.d,
    fun j hj => (ha.block _ (by omega) (by omega)).trans (h.f j hj), fun o ho => (cell_of_block (ha.block _ (by omega) (by omega)) o).trans (h.row o ho), (ha.block _ (by omega) (by omega)).trans h.new⟩
theorem rl39g (F : S.Fit) (h : SG S W k v w ∧ WgLive wgl.tWg (S.N0 + 3) w) (r : RC wgl.tWg (S.N0 + 3) S.C w w₁) : SG S W k v w₁ ∧ WgLive wgl.tWg (S.N0 + 3) w₁ := ⟨h.1.aside2 F r.aside, r.live h.2⟩
theorem SF.size' (h : SF S W k w) : w.heap.size = S.N0 + 4 + (k + 1) := by
  rw [h.size]
  omega
theorem SF.alloc (F : S.Fit) (h : SF S W k w) : SG S W k 0 (w.alloc (.cells #[.int .i64 0] 3)) := by
  have hs := h.size'
  have hl := low_alloc' (w := w) (B := S.N0 + 4 + (k + 1)) (by omega) (.cells #[.int .i64 0] 3)
  have hn := heap_new w (.cells #[.int .i64 0] 3)
  rw [hs] at hn
  have hB := F.Bb
  exact ⟨h.tape, h.os, h.output, by show (w.heap.push _).size = _; simp [hs], fun b hb hc => (hl b (by omega)).trans (h.low b hb hc), (hl _ (by omega)).trans h.c, (hl _ (by omega)).trans h.b, (hl _ (by omega)).trans h.d,
    fun j hj => (hl _ (by omega)).trans (h.f j hj), fun o ho => (cell_of_block (hl _ (by omega)) o).trans (h.row o ho), hn⟩
theorem SG.set (F : S.Fit) (h : SG S W k v w) (v' : Int) : SG S W k v' (w.setCell ⟨S.N0 + 4 + (k + 1), 0, none⟩ (.int .i64 v')) := by
  have hA := aside_setCell w ⟨S.N0 + 4 + (k + 1), 0, none⟩ (.int .i64 v')
  have hB := F.Bb
  have hl : ∀ b, b ≠ S.N0 + 4 + (k + 1) → (w.setCell ⟨S.N0 + 4 + (k + 1), 0, none⟩ (.int .i64 v')).heap[b]? = w.heap[b]? := fun b hb => hA.block b hb
  exact ⟨hA.tape.trans h.tape, hA.os.trans h.os, hA.output.trans h.output, by rw [hA.size]; exact h.size, fun b hb hc => (hl b (by omega)).trans (h.low b hb hc), (hl _ (by omega)).trans h.c, (hl _ (by omega)).trans h.b, (hl _ (by omega)).trans h.d,
    fun j hj => (hl _ (by omega)).trans (h.f j hj), fun o ho => (cell_of_block (hl _ (by omega)) o).trans (h.row o ho), cell_set_one h.new⟩
theorem SG.sf (h : SG S W k ((64 * (k + 1) : Nat) : Int) w) : SF S W (k + 1) w :=
  ⟨h.tape, h.os, h.output, by rw [h.size]; omega, h.low, h.c, h.b, h.d, fun j hj => by
    rcases Nat.lt_or_ge k j with hlt | hge
    · obtain rfl : j = k + 1 := by omega
      exact h.new
    · exact h.f j hge, h.row⟩
theorem SG.cn (h : SG S W k v w) : w.cell? ⟨S.N0 + 4 + (k + 1), 0, none⟩ = some (.int .i64 v) := cell_one h.new
theorem SG.cn2 (h : SG S W k v w) : w.frozen? ⟨S.N0 + 4 + (k + 1), 0, none⟩ = false := by simp [World.frozen?, h.new]

/-- The starter's next stop, r lots being still to be started. -/
def stopS (S : StP) (W : World) (cs : List Frame) : Nat → Goroutine → World → Prop
  | 0 => kdK S.ph (Anch39 S W cs)
  | r + 1 => sayK S.ph (mk .disable) (thenJ S.ph (S.ph.N - (r + 1)) (addK S.ph (thenJ S.ph (S.ph.N - (r + 1)) (sayK S.ph (mk .enable) (thenJ S.ph (S.ph.N - (r + 1)) (goK S.ph (S.ph.N - (r + 1)) (script S.ph (Anch39 S W cs) r)))))))
theorem script_iff (r : Nat) (g : Goroutine) (w : World) : script S.ph (Anch39 S W cs) r g w ↔ ∃ m, GP S.ph (S.ph.N - r) (stopS S W cs r) m g w := by cases r <;> exact Iff.rfl

set_option maxRecDepth 100000 in
set_option maxHeartbeats 16000000 in
/-- One turn. -/
theorem start_turn (F : S.Fit) (r k : Nat) (hkr : k + (r + 1) = S.lots)
    (ih : ∃ f, ∀ (t8 t9 t10 t11 t12 t13 t14 t15 t16 t17 : Value) (w : World), SF S W (k + 1) w ∧ WgLive wgl.tWg (S.N0 + 3) w →
      GP S.ph (S.ph.N - r) (stopS S W cs r) f (G ((base 39).at ⟨T39 S (k + 1) t8 t9 t10 t11 t12 t13 t14 t15 t16 t17, []⟩ [.code L39, .inLoop L39, .inBlock 0, .code R39]) cs) w)
    (t8 t9 t10 t11 t12 t13 t14 t15 t16 t17 : Value) (w : World) (hF : SF S W k w ∧ WgLive wgl.tWg (S.N0 + 3) w) :
    GP S.ph (S.ph.N - (r + 1)) (stopS S W cs (r + 1)) 40 (G ((base 39).at ⟨T39 S k t8 t9 t10 t11 t12 t13 t14 t15 t16 t17, []⟩ [.code L39, .inLoop L39, .inBlock 0, .code R39]) cs) w := by
  have hl := S.lots_spec F
  have hn := F.n
  have hB : S.N0 + 4 + k < S.B := by unfold StP.B; omega
  have hB1 : S.N0 + 4 + (k + 1) < S.B := by unfold StP.B; omega
  have hlt : (((64 * k : Nat) : Int) < (S.n : Int)) := by omega
  obtain ⟨f, ih⟩ := ih
  have eN : S.ph.N = S.j0 + S.lots := rfl
  have eJ : S.ph.N - (r + 1) = S.j0 + k := by omega
  have eJ' : S.ph.N - r = S.j0 + (k + 1) := by omega
  have hsc := fun g w => (script_iff (S := S) (W := W) (cs := cs) r g w).2
  rw [eJ'] at ih hsc
  have hA := fun (a₀ : Act) (ops₀ : Array Oper) (i₀ : Nat) (rest₀ : List Nat) (k₀ : List Item) => add_one (X := S.ph) (L := wgl) (F := SF S W k) (b₀ := base 39) (a₀ := a₀) (ops₀ := ops₀) (i₀ := i₀) (rest₀ := rest₀) (k₀ := k₀) (cs := cs) (J := S.j0 + k) wgLib rfl (sf2 F) (K := goK S.ph (S.j0 + k) (script S.ph (Anch39 S W cs) r))
  simp only [stopS, eJ]
  refine gp_of (k := k) ?_
  simp only [L39, R39, lastPart, firstLoop, body_add, Try.f39, addFn, Option.getD_some] at hA ih ⊢
  u_c stepG_seq (rl39 F) hF
  u_c stepG_seq (rl39 F) hF
  u_reg (rl39 F) hF
  u_in (rl39 F) hF
  refine goes_oper_k rfl rfl (by decide) (fun Kx hKx => ?_)
  have hz := hF.1.cf
  go_simp
  refine hKx _ _ ⟨⟨fun _ _ => rfl, fun e he => ?_⟩, ?_⟩
  · have hm := mem_listed he
    simp [go_sem, *] at hm
    subst hm
    exact S.ev0_rd F (by omega) hB (by omega) _
  clear hKx Kx hz
  u_in (rl39 F) hF
  refine goes_oper_k rfl rfl (by decide) (fun Kx hKx => ?_)
  have hz := hF.1.cc
  go_simp
  refine hKx _ _ ⟨⟨fun _ _ => rfl, fun e he => ?_⟩, ?_⟩
  · have hm := mem_listed he
    simp [go_sem, *] at hm
    subst hm
    exact S.ev0_rd F (by omega) (by omega) (by omega) _
  clear hKx Kx hz
  u_op (rl39 F) hF
  u_op (rl39 F) hF
  u_c stepG_region_end (rl39 F) hF
  u_cnd true (rl39 F) hF
  u_c stepG_skip (rl39 F) hF
  u_c stepG_seq (rl39 F) hF
  u_c stepG_block (rl39 F) hF
  u_c stepG_seq (rl39 F) hF
  u_reg (rl39 F) hF
  u_in (rl39 F) hF
  refine goes_call rfl rfl (by decide) rfl Try.func42 (nm_add wgl) rfl ⟨by u_nil, ?_⟩
  walk_nrmf Try.f42
  refine (of_gp (k := k) (hA _ _ _ _ _ ?_ _ hF)).mono (by omega)
  clear hA hF
  intro w h1 h2
  have hF := And.intro h1 h2
  clear h1 h2
  refine ⟨10, gp_of (k := k) ?_⟩
  walk_nrm
  u_c stepG_region_end (rl39 F) hF
  u_reg (rl39 F) hF
  u_in (rl39 F) hF
  refine goes_oper_k rfl rfl (by decide) (fun Kx hKx => ?_)
  go_simp
  refine hKx _ _ ⟨⟨fun _ _ => rfl, fun e he => ?_⟩, ?_⟩
  · have hm := mem_listed he
    simp [Instr.makeFunc, go_sem] at hm
  clear hKx Kx
  refine Goes.stop (fun w₂ r₂ => ?_)
  replace hF := rl39 F hF r₂
  clear r₂
  refine ⟨rfl, ?_⟩
  rw [stepG_spawn (d := call7 S.ph (S.work (S.j0 + k))) (w' := w₂) (f := .func 43) (c := #[pp (S.N0 + 3), pp (S.N0 + 4 + (S.j0 + k - S.j0)), pp S.N0, pp (S.N0 + 1), pp (S.N0 + 2)]) rfl rfl (by decide) (by simp [go_sem, call7, Deferred.ofValue, StP.work, StP.ph]) rfl]
  generalize hL : listed _ _ _ _ _ = Lx
  have hLx : Lx = #[] := by
    rw [← hL]
    simp [listed, go_sem, seen, Deferred.ofValue]
    rfl
  subst hLx
  clear hL
  refine ⟨_, _, rfl, fun hpay => hF.1.works F (by omega) hF.2 hpay, ?_⟩
  refine hsc _ _ ⟨f + 20, gp_of (k := k + 1) ?_⟩
  clear hsc
  walk_nrm
  u_c stepG_region_end (rl39 F) hF
  u_c stepG_inBlock (rl39 F) hF
  u_c stepG_seq (rl39 F) hF
  u_c stepG_seq (rl39 F) hF
  u_reg (rl39 F) hF
  u_in (rl39 F) hF
  refine goes_oper_k rfl rfl (by decide) (fun Kx hKx => ?_)
  have hz := hF.1.cf
  go_simp
  refine hKx _ _ ⟨⟨fun _ _ => rfl, fun e he => ?_⟩, ?_⟩
  · have hm := mem_listed he
    simp [go_sem, *] at hm
    subst hm
    exact S.ev0_rd F (by omega) hB (by omega) _
  clear hKx Kx hz
  u_c stepG_region_end (rl39 F) hF
  u_reg (rl39 F) hF
  u_in (rl39 F) hF
  refine goes_oper_k rfl rfl (by decide) (fun Kx hKx => ?_)
  have hsz := hF.1.size'
  go_simp
  refine hKx _ _ ⟨⟨fun b hb => low_alloc' (by omega) _ b hb, fun e he => ?_⟩, ?_⟩
  · have hm := mem_listed he
    simp [go_sem, *] at hm
  clear hKx Kx
  replace hF := And.intro (hF.1.alloc F) (live_low' hF.2 (low_alloc' (B := S.N0 + 4 + (k + 1)) (by omega) (.cells #[.int .i64 0] 3)) (by omega))
  clear hsz
  u_in (rl39g F) hF
  refine goes_oper_k rfl rfl (by decide) (fun Kx hKx => ?_)
  have hu1 := hF.1.cn
  have hu2 := hF.1.cn2
  go_simp
  refine hKx _ _ ⟨⟨fun b hb => low_set' _ _ (Nat.le_refl _) b hb, fun e he => ?_⟩, ?_⟩
  · have hm := mem_listed he
    simp [go_sem, storedEv, *] at hm
    subst hm
    exact S.ev0_wr F (by omega) rfl
  clear hKx Kx hu1 hu2
  replace hF := And.intro (hF.1.set F ((64 * k : Nat) : Int)) (live_low' hF.2 (low_set' (B := S.N0 + 4 + (k + 1)) ⟨S.N0 + 4 + (k + 1), 0, none⟩ (.int .i64 ((64 * k : Nat) : Int)) (Nat.le_refl _)) (by omega))
  u_c stepG_region_end (rl39g F) hF
  u_reg (rl39g F) hF
  u_in (rl39g F) hF
  refine goes_oper_k rfl rfl (by decide) (fun Kx hKx => ?_)
  have hz := hF.1.cn
  go_simp
  refine hKx _ _ ⟨⟨fun _ _ => rfl, fun e he => ?_⟩, ?_⟩
  · have hm := mem_listed he
    simp [go_sem, *] at hm
    subst hm
    exact S.ev0_rd F (by omega) hB1 (by omega) _
  clear hKx Kx hz
  u_op (rl39g F) hF
  u_in (rl39g F) hF
  refine goes_oper_k rfl rfl (by decide) (fun Kx hKx => ?_)
  have hu1 := hF.1.cn
  have hu2 := hF.1.cn2
  go_simp
  refine hKx _ _ ⟨⟨fun b hb => low_set' _ _ (Nat.le_refl _) b hb, fun e he => ?_⟩, ?_⟩
  · have hm := mem_listed he
    simp [go_sem, storedEv, *] at hm
    subst hm
    exact S.ev0_wr F (by omega) rfl
  clear hKx Kx hu1 hu2
  replace hF := And.intro (hF.1.set F (IntKind.wrap .i64 (64 * (k : Int) + 64))) (live_low' hF.2 (low_set' (B := S.N0 + 4 + (k + 1)) ⟨S.N0 + 4 + (k + 1), 0, none⟩ (.int .i64 (IntKind.wrap .i64 (64 * (k : Int) + 64))) (Nat.le_refl _)) (by omega))
  u_c stepG_region_end (rl39g F) hF
  u_c stepG_inLoop (rl39g F) hF
  have hwr : IntKind.wrap .i64 (64 * (k : Int) + 64) = ((64 * (k + 1) : Nat) : Int) := by
    rw [byw (by omega) (by omega)]
    omega
  rw [hwr] at hF
  exact (of_gp (k := k + 1) (ih _ _ _ _ _ _ _ _ _ _ _ ⟨hF.1.sf, hF.2⟩)).mono (by omega)
end
end Go.Proofs.Ytehmobcfbifocaa
