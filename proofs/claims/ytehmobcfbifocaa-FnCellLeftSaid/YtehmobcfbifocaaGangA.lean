/-
  Workers that a function starts under one sync.WaitGroup, each of which writes a lot of cells of one block, beside goroutines of before that only leave: what is asked of each, and where each stands. Nothing of a program.
-/
import Derived.Conc.WgGenN2
import Derived.Conc.Beside
namespace Go.Proofs.Ytehmobcfbifocaa
open Go Go.Conc Go.ConcN
open Go.ConcR (KK wgBlock WgAt stA smA rd wr mk Payload Aside2 DC0 Bk g_of_ofEvents loc_of_ofEvent)

/-- What stays fixed in a phase: j0 goroutines (but goroutine 0) of before, n workers to start; worker i (goroutine i + 1) writes the cells of its lot in block C. -/
structure Ph where
  P : Program
  ty : TypeId
  Wg : Nat
  C : Nat
  nC : Nat
  j0 : Nat
  n : Nat
  B : Nat
  t0 : Nat
  Low : Nat → Nat
  lot : Nat → Nat → Prop
  rep : Nat → Nat
  val : Nat → Value
  Own : Nat → Loc → Prop
  Rd : Nat → Loc → Prop
  ShA : Loc → Prop
  Bad : Loc → Prop
/-- How many goroutines there are in the end, but goroutine 0. -/
def Ph.N (X : Ph) : Nat := X.j0 + X.n

structure Ph.Ok (X : Ph) : Prop where
  rep : ∀ i, X.j0 ≤ i → i < X.N → X.lot i (X.rep i)
  disj : ∀ i i' o, X.j0 ≤ i → X.j0 ≤ i' → X.lot i o → X.lot i' o → i = i'
  apart : Apart X.ShA X.Own X.Rd
  old : ∀ k, k ≤ X.j0 → ∀ l, ¬ X.Own k l ∧ ¬ X.Rd k l
  sh : ∀ l, ShN X.Wg l → X.ShA l
  bad : ∀ l, X.ShA l → ¬ ShN X.Wg l → X.Bad l
  lowO : ∀ k l, X.Own k l → l.low X.B
  lowR : ∀ k l, X.Rd k l → l.low X.B
  lowW : X.Wg < X.B
  lowB : ∀ l, ¬ X.Bad l → l.low X.B
  mono : ∀ a b, a ≤ b → X.Low a ≤ X.Low b
  hW : X.Wg < X.Low X.j0
  hC : X.C < X.Low X.j0
  hCW : X.C ≠ X.Wg
  hN : X.N < 2147483648

variable [Payload]

/-! ### a worker -/
/-- What worker i suffers. -/
structure RL (X : Ph) (i : Nat) (w w₁ : World) : Prop where
  low : ∀ b, b < X.Low (i + 1) → b ≠ X.Wg → b ≠ X.C → w₁.heap[b]? = w.heap[b]?
  live : WgLive X.ty X.Wg w → WgLive X.ty X.Wg w₁
  pay : PayAt X.C X.nC w → PayAt X.C X.nC w₁
  cells : ∀ o, X.lot i o → w₁.cell? ⟨X.C, o, none⟩ = w.cell? ⟨X.C, o, none⟩
/-- What worker i does while it works: the cells of its lot alone turn. -/
structure AL (X : Ph) (i : Nat) (w w' : World) : Prop where
  tape : w'.tape = w.tape
  os : w'.os = w.os
  output : w'.output = w.output
  size : w'.heap.size = w.heap.size
  block : ∀ b, b ≠ X.C → w'.heap[b]? = w.heap[b]?
  pay : PayAt X.C X.nC w → PayAt X.C X.nC w'
  cells : ∀ o, ¬ X.lot i o → w'.cell? ⟨X.C, o, none⟩ = w.cell? ⟨X.C, o, none⟩
/-- It touches memory plainly, but for the group. -/
def plainE (Wg : Nat) (e : Event) : Prop := ∀ x, (MemAct.ofEvent e).touch? = some x → ¬ ShN Wg x.loc → x.kind = .plain ∧ x.loc.isMemory = true
def DL (X : Ph) (i : Nat) (w w' : World) (es : Array Event) : Prop := AL X i w w' ∧ ∀ e ∈ es, EvW X.Wg X.Own X.Rd (i + 1) e ∧ plainE X.Wg e
/-- It is about to say that it is done, its lot being written. -/
def atRel (X : Ph) (i : Nat) (g : Goroutine) (w : World) : Prop :=
  AtR0 X.P X.ty X.Wg X.C X.nC (X.Low (i + 1)) (X.rep i + 1) (X.val (X.rep i)) g w ∧ ∀ o, X.lot i o → Has X.C o (X.val o) w
/-- Its whole way. -/
def worksG (X : Ph) (i : Nat) (g : Goroutine) (w : World) : Prop := ∃ m, Goes X.P false (RL X i) (DL X i) (atRel X i) m g w
/-- Where it stands: stage, fuel, deafness. -/
inductive GS (X : Ph) (i : Nat) : Nat → Nat → Nat → Goroutine → World → Prop
  | work {m : Nat} {g : Goroutine} {w : World} : X.j0 ≤ i → Goes X.P false (RL X i) (DL X i) (atRel X i) m g w → GS X i 7 m 0 g w
  | sync {s m d : Nat} {g : Goroutine} {w : World} : X.j0 ≤ i → 2 ≤ s → s ≤ 6 → WSit X.P X.ty X.Wg X.C X.nC X.Own X.Rd (X.Low (i + 1)) (X.rep i + 1) (X.val (X.rep i)) s m d g w → GS X i s m d g w
  | quit {q d : Nat} {g : Goroutine} {w : World} : QuitsD X.P q d g → GS X i 1 q d g w

/-- The payload's block, and its cells that are nobody's: as ever. -/
def PayF (X : Ph) (w : World) : Prop := PayAt X.C X.nC w ∧ ∀ o, o < X.nC → (∀ i, X.j0 ≤ i → ¬ X.lot i o) → Has X.C o (X.val o) w
theorem PayF.block {X : Ph} {w w' : World} (h : PayF X w) (hb : w'.heap[X.C]? = w.heap[X.C]?) : PayF X w' :=
  let ⟨⟨cs, h1, h2⟩, h3⟩ := h
  ⟨⟨cs, hb.trans h1, h2⟩, fun o a b => (cell_of_block hb o).trans (h3 o a b)⟩
theorem PayF.work {X : Ph} {i : Nat} {w w' : World} (h : PayF X w) (hi : X.j0 ≤ i) (ha : AL X i w w') : PayF X w' := ⟨ha.pay h.1, fun o a b => (ha.cells o (b i hi)).trans (h.2 o a b)⟩

section
variable {X : Ph} {i : Nat} {w w₁ w₂ : World}
theorem RL.refl (w : World) : RL X i w w := ⟨fun _ _ _ _ => rfl, id, id, fun _ _ => rfl⟩
theorem RL.trans (h : RL X i w w₁) (h' : RL X i w₁ w₂) : RL X i w w₂ :=
  ⟨fun b a c d => (h'.low b a c d).trans (h.low b a c d), h'.live ∘ h.live, h'.pay ∘ h.pay, fun o ho => (h'.cells o ho).trans (h.cells o ho)⟩
theorem RL.at (w : World) (d : Nat) : RL X i w (w.at d) := ⟨fun _ _ _ _ => rfl, id, id, fun _ _ => rfl⟩
theorem RL.rw (O : X.Ok) (hi : X.j0 ≤ i) (hi' : i < X.N) (h : RL X i w w₁) : RW X.ty X.Wg X.C X.nC (X.Low (i + 1)) (X.rep i) w w₁ := ⟨h.low, h.live, h.pay, h.cells _ (O.rep i hi hi')⟩
/-- Another worker's writes. -/
theorem RL.of_other (O : X.Ok) {i' : Nat} (hi : X.j0 ≤ i) (hi' : X.j0 ≤ i') (h : AL X i' w w₁) (hne : i ≠ i') : RL X i w w₁ :=
  ⟨fun b _ _ hb => h.block b hb, fun ⟨st, sm, hl⟩ => ⟨st, sm, hl.of_block (h.block X.Wg (Ne.symm O.hCW))⟩, h.pay, fun o ho => h.cells o fun ho' => hne (O.disj i i' o hi hi' ho ho')⟩
/-- A turn of the group's block. -/
theorem RL.of_wg (O : X.Ok) (h : Aside X.Wg w w₁) (hl : WgLive X.ty X.Wg w₁) : RL X i w w₁ :=
  ⟨fun b _ hb _ => h.block b hb, fun _ => hl, fun ⟨cs, hc, hn⟩ => ⟨cs, (h.block X.C O.hCW).trans hc, hn⟩, fun o _ => cell_of_block (h.block X.C O.hCW) o⟩
/-- A step that leaves the low blocks. -/
theorem RL.of_low {L : Nat} (h : ∀ b, b < L → w₁.heap[b]? = w.heap[b]?) (hL : X.Low (i + 1) ≤ L) (hW : X.Wg < L) (hC : X.C < L) : RL X i w w₁ :=
  ⟨fun b hb _ _ => h b (by omega), fun ⟨st, sm, hl⟩ => ⟨st, sm, hl.of_block (h X.Wg hW)⟩, fun ⟨cs, hc, hn⟩ => ⟨cs, (h X.C hC).trans hc, hn⟩, fun o _ => cell_of_block (h X.C hC) o⟩
theorem AL.refl (w : World) : AL X i w w := ⟨rfl, rfl, rfl, rfl, fun _ _ => rfl, id, fun _ _ => rfl⟩
theorem rc_of_AL (O : X.Ok) (h : AL X i w w₁) : RC X.ty X.Wg X.C w w₁ := ⟨⟨h.tape, h.os, h.output, h.size, fun k a _ => h.block k a⟩, fun ⟨st, sm, hl⟩ => ⟨st, sm, hl.of_block (h.block X.Wg (Ne.symm O.hCW))⟩⟩

variable {s m d : Nat} {g : Goroutine}
theorem GS.rely (O : X.Ok) (hi' : i < X.N) (h : GS X i s m d g w) (hr : RL X i w w₁) : GS X i s m d g w₁ := by
  cases h with
  | work hi h => exact .work hi (Goes.rely (fun _ _ _ h1 h2 => h1.trans h2) h hr)
  | sync hi h2 h6 h => exact .sync hi h2 h6 (h.rely (by simpa using hr.rw O hi hi'))
  | quit h => exact .quit h
/-- What is asked of the world is nothing where it only leaves. -/
theorem GS.quits (h : GS X i 1 m d g w) : QuitsD X.P m d g := by
  cases h with
  | sync _ h2 _ _ => omega
  | quit h => exact h
theorem GS.status (h : GS X i s m d g w) : g.status = .running ∨ g.status = .finished := by
  cases h with
  | work _ h => exact .inl (Goes.running (fun _ _ x => x.1.1) w (RL.refl w) h)
  | sync _ _ _ h => exact h.status
  | quit h => exact h.status
theorem GS.running (h : GS X i s m d g w) (hs : s ≠ 1) : g.status = .running := by
  cases h with
  | work _ h => exact Goes.running (fun _ _ x => x.1.1) w (RL.refl w) h
  | sync _ _ _ h => exact h.running_of hs
  | quit _ => exact absurd rfl hs
theorem GS.woken (h : GS X i s m d g w) (a a' : Goroutine) (w' : World) : woken X.P a a' w' g = g := by
  unfold Go.Conc.woken
  split
  · exact again_running _ h.status
  · rfl
end

/-! ### the starter -/
section
variable (X : Ph)
def ownX : Nat → Loc → Prop
  | 0, _ => False
  | 1, l => X.Bad l
  | k + 2, l => X.Own (k + 1) l
def rdX : Nat → Loc → Prop
  | 0, _ => False
  | 1, _ => False
  | k + 2, l => X.Rd (k + 1) l
/-- Its way on, J goroutines being started, to a stop. -/
def GP (J : Nat) (K : Goroutine → World → Prop) (m : Nat) (g : Goroutine) (w : World) : Prop :=
  Goes X.P true (RC X.ty X.Wg X.C) (DP X.Wg (ownX X) (rdX X) (J + 1) (X.Low J)) K m g w
def thenJ (J : Nat) (K : Goroutine → World → Prop) (g : Goroutine) (w : World) : Prop := ∃ m, GP X J K m g w
/-- It says something, and the world stands. -/
def sayK (e : Event) (K : Goroutine → World → Prop) (g : Goroutine) (w : World) : Prop :=
  g.status = .running ∧ ∃ g', stepG X.P true g w = .go g' w #[e] ∧ K g' w
/-- The group's count is raised by one, whatever it is. -/
def addK (K : Goroutine → World → Prop) (g : Goroutine) (w : World) : Prop :=
  g.status = .running ∧ ∀ v : Nat, v < 2147483647 → WgAt X.ty X.Wg w (v * KK) 0 →
    ∃ g', stepG X.P true g w = .go g' (w.setCell (stA X.Wg) (.int .u64 ((v + 1) * KK))) #[rd (stA X.Wg), wr (stA X.Wg)] ∧ K g' (w.setCell (stA X.Wg) (.int .u64 ((v + 1) * KK)))
/-- Worker i is started. -/
def goK (i : Nat) (K : Goroutine → World → Prop) (g : Goroutine) (w : World) : Prop :=
  g.status = .running ∧ ∃ g' child, stepG X.P true g w = .spawn g' child w #[] ∧ (PayAt X.C X.nC w → worksG X i child w) ∧ K g' w
variable (Fin Anch : Goroutine → World → Prop)
def acqK : Goroutine → World → Prop := sayK X (mk (.acquire (stA X.Wg))) Fin
def enK : Goroutine → World → Prop := sayK X (mk .enable) (thenJ X X.N (acqK X Fin))
def w4K (g : Goroutine) (w : World) : Prop :=
  g.status = .running ∧ (WgAt X.ty X.Wg w 0 0 → ∃ g', stepG X.P true g w = .go g' w #[rd (stA X.Wg)] ∧ thenJ X X.N (enK X Fin) g' w)
def w3K (g : Goroutine) (w : World) : Prop :=
  g.status = .running ∧ g.offers = none ∧ ((∃ st, WgAt X.ty X.Wg w st 0) → stepG X.P true g w = .go { g with status := .blocked } w #[]) ∧
    (WgAt X.ty X.Wg w 0 1 → ∃ g', stepG X.P true g w = .go g' (w.setCell (smA X.Wg) (.int .u32 0)) (semEvents (smA X.Wg)) ∧ thenJ X X.N (w4K X Fin) g' (w.setCell (smA X.Wg) (.int .u32 0)))
def w2K (vs : Nat) (g : Goroutine) (w : World) : Prop :=
  g.status = .running ∧ ∀ v : Nat, v < 2147483648 → WgAt X.ty X.Wg w (v * KK) 0 →
    (v = vs → ∃ g', stepG X.P true g w = .go g' (w.setCell (stA X.Wg) (.int .u64 (v * KK + 1))) #[rd (stA X.Wg), wr (stA X.Wg)] ∧ thenJ X X.N (w3K X Fin) g' (w.setCell (stA X.Wg) (.int .u64 (v * KK + 1)))) ∧
    (v ≠ vs → ∃ g', stepG X.P true g w = .go g' w #[rd (stA X.Wg)] ∧ thenJ X X.N Anch g' w)
def w1K (g : Goroutine) (w : World) : Prop :=
  g.status = .running ∧ ∀ v : Nat, v < 2147483648 → WgAt X.ty X.Wg w (v * KK) 0 →
    ∃ g', stepG X.P true g w = .go g' w #[rd (stA X.Wg)] ∧ (v = 0 → thenJ X X.N (enK X Fin) g' w) ∧ (v ≠ 0 → thenJ X X.N (w2K X Fin Anch v) g' w)
def kdK : Goroutine → World → Prop := sayK X (mk .disable) (thenJ X X.N Anch)
/-- The starter's whole way: r workers are still to be started. -/
def script : Nat → Goroutine → World → Prop
  | 0 => thenJ X X.N (kdK X Anch)
  | r + 1 => thenJ X (X.N - (r + 1)) (sayK X (mk .disable) (thenJ X (X.N - (r + 1)) (addK X (thenJ X (X.N - (r + 1)) (sayK X (mk .enable) (thenJ X (X.N - (r + 1)) (goK X (X.N - (r + 1)) (script r))))))))
/-- What it is on its way to. -/
def stopOf : CTag → Goroutine → World → Prop
  | .sp r 5 => sayK X (mk .disable) (thenJ X (X.N - (r + 1)) (addK X (thenJ X (X.N - (r + 1)) (sayK X (mk .enable) (thenJ X (X.N - (r + 1)) (goK X (X.N - (r + 1)) (script X Anch r)))))))
  | .sp r 4 => addK X (thenJ X (X.N - (r + 1)) (sayK X (mk .enable) (thenJ X (X.N - (r + 1)) (goK X (X.N - (r + 1)) (script X Anch r)))))
  | .sp r 3 => sayK X (mk .enable) (thenJ X (X.N - (r + 1)) (goK X (X.N - (r + 1)) (script X Anch r)))
  | .sp r 2 => goK X (X.N - (r + 1)) (script X Anch r)
  | .kd => kdK X Anch
  | .anch => Anch
  | .w1 => w1K X Fin Anch
  | .w2 vs => w2K X Fin Anch vs
  | .w3 => w3K X Fin
  | .w4 => w4K X Fin
  | .ke => enK X Fin
  | .acq => acqK X Fin
  | _ => fun _ _ => False
def cntOf : CTag → Nat
  | .sp r _ => X.N - (r + 1)
  | _ => X.N
def deafOf : CTag → Nat
  | .sp _ s => if s = 4 ∨ s = 3 then 1 else 0
  | .kd | .acq | .ret => 0
  | _ => 1
def tagOk : CTag → Prop
  | .sp r s => r < X.n ∧ (s = 5 ∨ s = 4 ∨ s = 3 ∨ s = 2)
  | .blk | .ret => False
  | _ => True
def extra : CTag → Nat
  | .w3 => 1
  | _ => 0
inductive CS : CTag → Nat → Goroutine → World → Prop
  | on {tag : CTag} {m : Nat} {g : Goroutine} {w : World} : tagOk X tag → GP X (cntOf X tag) (stopOf X Fin Anch tag) m g w → CS tag (m + extra tag) g w
  | blk {g : Goroutine} {w : World} : (∀ w₁, RC X.ty X.Wg X.C w w₁ → w3K X Fin g w₁) → CS .blk 0 { g with status := .blocked } w
end

section
variable {X : Ph} {Fin Anch : Goroutine → World → Prop} {tag : CTag} {f : Nat} {a : Goroutine} {w w' : World}
omit [Payload] in
theorem rc_trans (x y z : World) (h : RC X.ty X.Wg X.C x y) (h' : RC X.ty X.Wg X.C y z) : RC X.ty X.Wg X.C x z := h.trans h'
theorem stop_running (hAr : ∀ g w, Anch g w → g.status = .running) : ∀ g w, stopOf X Fin Anch tag g w → g.status = .running := by
  intro g w h
  unfold stopOf at h
  split at h <;> first | exact h.1 | exact hAr _ _ h | exact h.elim
theorem CS.rely (h : CS X Fin Anch tag f a w) (hr : RC X.ty X.Wg X.C w w') : CS X Fin Anch tag f a w' := by
  cases h with
  | on ho h => exact .on ho (Goes.rely rc_trans h hr)
  | blk h => exact .blk fun w₂ h₂ => h w₂ (hr.trans h₂)
theorem CS.status (hAr : ∀ g w, Anch g w → g.status = .running) (h : CS X Fin Anch tag f a w) : (a.status = .running ∧ tag ≠ .blk) ∨ (a.status = .blocked ∧ tag = .blk) := by
  cases h with
  | on ho h => exact .inl ⟨Goes.running (stop_running hAr) w (.refl w) h, fun e => by subst e; exact ho⟩
  | blk _ => exact .inr ⟨rfl, rfl⟩
/-- Under another's step: as it stood; or, blocked, it is let try again. -/
theorem CS.woken (hAr : ∀ g w, Anch g w → g.status = .running) (h : CS X Fin Anch tag f a w) (hr : RC X.ty X.Wg X.C w w') (g g' : Goroutine) :
    ∃ tag' f', CS X Fin Anch tag' f' (woken X.P g g' w' a) w' ∧ f' ≤ f + 1 ∧ (tag' = tag ∨ (tag = .blk ∧ tag' = .w3)) ∧ (mayWake X.P g = true → g'.status = .running → tag' ≠ .blk) := by
  have h' := h.rely hr
  by_cases hc : (mayWake X.P g && g'.status != .blocked && g'.status != .waiting) = true
  · have hw : Go.Conc.woken X.P g g' w' a = a.again w' := by simp [Go.Conc.woken, hc]
    rw [hw]
    rcases h'.status hAr with ⟨hs, hne⟩ | ⟨_, rfl⟩
    · exact ⟨tag, f, by rw [again_running _ (.inl hs)]; exact h', by omega, .inl rfl, fun _ _ => hne⟩
    · cases h' with
      | on ho _ => exact ho.elim
      | blk hb =>
        have h3 := hb w' (.refl w')
        exact ⟨.w3, 0 + extra .w3, by rw [Go.ConcR.again_blocked h3.1 h3.2.1]; exact .on trivial (Goes.stop hb), by simp [extra], .inr ⟨rfl, rfl⟩, fun _ _ => by simp⟩
  · have hw : Go.Conc.woken X.P g g' w' a = a := by simp [Go.Conc.woken, hc]
    rw [hw]
    exact ⟨tag, f, h', by omega, .inl rfl, fun h1 h2 => absurd (by simp [h1, h2]) hc⟩
omit [Payload] in
theorem cnt_le : cntOf X tag ≤ X.N := by
  cases tag <;> simp only [cntOf] <;> omega
end
end Go.Proofs.Ytehmobcfbifocaa
/-
  Workers under one group, beside goroutines that only leave: what holds of the machine and the trace at every moment, and how a step of a worker's, of the starter's, and a go statement keep it. Nothing of a program.
-/
namespace Go.Proofs.Ytehmobcfbifocaa
open Go Go.Conc Go.ConcN
open Go.ConcR (KK wgBlock WgAt stA smA rd wr mk Payload Aside2 DC0 Bk g_of_ofEvents loc_of_ofEvent)
variable [Payload]

/-- What goroutines of before have done is handed over. -/
def overOld (j0 : Nat) (t : Trace) : Prop := ∀ i g, t.g? i = some g → g ≠ 0 → g ≤ j0 → t.counts i → ∃ q, t.g? q = some 0 ∧ HappensBefore t i q
def lowT (B : Nat) (t : Trace) : Prop := ∀ i a, touchAt t i = some a → a.loc.low B
def noRel (a : Addr) (t0 : Nat) (t : Trace) : Prop := ∀ q, t0 ≤ q → t.act? q ≠ some (.mark (.release a))

/-- Every touch of an ordinary place is known to goroutine 0, or was made plainly by a worker. -/
def srcT (Sh : Loc → Prop) (j0 : Nat) (t : Trace) : Prop := ∀ (i : Nat) (op : MemOp) (x : Touch), t[i]? = some op → op.act.touch? = some x → ¬ Sh x.loc → Knows t 0 i ∨ (j0 < op.g ∧ x.kind = .plain ∧ x.loc.isMemory = true)

structure Cm (X : Ph) (J : Nat) (gs : Array Goroutine) (w : World) (t : Trace) (D : Nat → WD) (d0 : Nat) : Prop where
  size : gs.size = J + 1
  ge : X.j0 ≤ J
  le : J ≤ X.N
  wk : ∀ i, i < J → ∃ g, gs[i + 1]? = some g ∧ GS X i (D i).stage (D i).fuel (D i).deaf g w
  old : ∀ i, i < X.j0 → (D i).stage = 1
  ct : CT X.ShA X.Own X.Rd t J
  norel : noRel (stA X.Wg) X.t0 t
  t0 : X.t0 ≤ t.size
  deaf0 : Deaf t 0 = d0
  deafW : ∀ i, i < J → Deaf t (i + 1) = (D i).deaf
  rel : ∀ i, X.j0 ≤ i → i < J → (D i).stage ≤ 6 → ∃ r, X.t0 ≤ r ∧ RelBy (stA X.Wg) t (i + 1) r
  has : ∀ i, X.j0 ≤ i → i < J → (D i).stage ≤ 6 → ∀ o, X.lot i o → Has X.C o (X.val o) w
  pay : PayF X w
  over : overOld X.j0 t
  low : lowT X.B t
  src : srcT X.ShA X.j0 t

section
omit [Payload]
theorem noRel.app {a : Addr} {t0 : Nat} {t u : Trace} (h : noRel a t0 t) (hu : ∀ op ∈ u, op.act ≠ .mark (.release a)) : noRel a t0 (t ++ u) := by
  intro q hq hi
  obtain ⟨op, ho, hoa⟩ := Option.map_eq_some_iff.1 hi
  rcases getElem?_append_cases ho with ⟨_, ho'⟩ | ⟨_, hou⟩
  · exact h q hq (by rw [act?_of ho', hoa])
  · exact hu op hou hoa
theorem lowT.app {B : Nat} {t u : Trace} (h : lowT B t) (hu : ∀ op ∈ u, ∀ a, op.act.touch? = some a → a.loc.low B) : lowT B (t ++ u) := by
  intro i a ha
  obtain ⟨x, hx, hxa⟩ := touch_of ha
  rcases getElem?_append_cases hx with ⟨_, hx'⟩ | ⟨_, hxu⟩
  · exact h i a (by rw [touchAt_of hx']; exact hxa)
  · exact hu x hxu a hxa
theorem srcT.app {Sh : Loc → Prop} {j0 : Nat} {t u : Trace} (h : srcT Sh j0 t) (hu : ∀ op ∈ u, ∀ x, op.act.touch? = some x → ¬ Sh x.loc → op.g = 0 ∨ (j0 < op.g ∧ x.kind = .plain ∧ x.loc.isMemory = true)) : srcT Sh j0 (t ++ u) := by
  intro i op x hi hx hs
  rcases getElem?_append_cases hi with ⟨_, hi'⟩ | ⟨_, hiu⟩
  · exact (h i op x hi' hx hs).imp (·.app u) id
  · rcases hu op hiu x hx hs with h0 | h0
    · have := knows_own hi
      rw [h0] at this
      exact .inl this
    · exact .inr h0
theorem lowT.mono {B B' : Nat} {t : Trace} (h : lowT B t) (hB : B ≤ B') : lowT B' t := fun i a ha => Loc.low_mono hB (h i a ha)
theorem overOld.app {j0 : Nat} {t u : Trace} (h : overOld j0 t) (hu : ∀ op ∈ u, op.g = 0 ∨ j0 < op.g ∨ op.act.touch? = none) : overOld j0 (t ++ u) := by
  intro i g hg hne hle hc
  obtain ⟨x, hx, hxk⟩ := hc
  obtain ⟨op, hop, hox⟩ := touch_of hx
  rcases getElem?_append_cases hop with ⟨hi, hop'⟩ | ⟨_, hopu⟩
  · obtain ⟨j, hj, hb⟩ := h i g (by simpa [Trace.g?, getElem?_append_old hi] using hg) hne hle ((counts_old hi).1 ⟨x, hx, hxk⟩)
    have hjl : j < t.size := by
      unfold Trace.g? at hj
      obtain ⟨z, hz, _⟩ := Option.map_eq_some_iff.1 hj
      exact lt_size_of_getElem? hz
    exact ⟨j, by simpa [Trace.g?, getElem?_append_old hjl] using hj, hb_app u hb⟩
  · have hog : op.g = g := by simpa [Trace.g?, hop] using hg
    rcases hu op hopu with h0 | h0 | h0
    · omega
    · omega
    · rw [h0] at hox; cases hox
/-- The library's bookkeeping touches the group's cells alone. -/
theorem low_of_Bk {Wg B g : Nat} {fn : FuncId} {pos : String} {es : Array Event} (hW : Wg < B) (h : ∀ e ∈ es, Bk Wg e) : ∀ op ∈ MemOp.ofEvents g fn pos es, ∀ a, op.act.touch? = some a → a.loc.low B := by
  intro op hop x hx
  rw [ofEvents_eq] at hop
  obtain ⟨e, he, rfl⟩ := Array.mem_map.1 hop
  rcases h e he with h1 | h1 | ⟨a, wr, rfl, ha⟩
  · simp only [Go.ConcR.ofEvent_loc_mark h1] at hx; cases hx
  · simp only [Go.ConcR.ofEvent_loc_mark h1] at hx; cases hx
  · simp only [Go.ConcR.ofEvent_cell, MemAct.touch?, Option.some.injEq] at hx
    subst hx
    show a.block < B
    omega
theorem low_none {B g : Nat} {fn : FuncId} {pos : String} {es : Array Event} (h : ∀ e ∈ es, (MemAct.ofEvent e).touch? = none) : ∀ op ∈ MemOp.ofEvents g fn pos es, ∀ a, op.act.touch? = some a → a.loc.low B := by
  intro op hop x hx
  rw [ofEvents_eq] at hop
  obtain ⟨e, he, rfl⟩ := Array.mem_map.1 hop
  rw [h e he] at hx
  cases hx
end

section
variable {X : Ph} {J : Nat} {gs : Array Goroutine} {w w' : World} {t : Trace} {D : Nat → WD} {d0 : Nat}
omit [Payload] in
theorem okW_sub (O : X.Ok) {k : Nat} {op : MemOp} (h : OkW (ShN X.Wg) X.Own X.Rd k op) : OkW X.ShA X.Own X.Rd k op :=
  ⟨h.1, fun x hx => (h.2 x hx).imp (fun y => ⟨O.sh _ y.1, y.2⟩) id⟩
omit [Payload] in
/-- What the starter's idle steps list. -/
theorem ok0_sub (O : X.Ok) {op : MemOp} (h : Ok0 (ShN X.Wg) (ownX X) (rdX X) (J + 1) op) : Ok0 X.ShA X.Own X.Rd J op ∧ ∀ x, op.act.touch? = some x → x.loc.low X.B := by
  refine ⟨⟨h.1, fun x hx => ?_⟩, fun x hx => ?_⟩
  · rcases h.2 x hx with ⟨hs, hk⟩ | ⟨hn, ho, hr⟩
    · exact .inl ⟨O.sh _ hs, hk⟩
    · have hb : ¬ X.Bad x.loc := ho 1 (Nat.le_refl _) (by omega)
      refine .inr ⟨fun hA => hb (O.bad _ hA hn), fun k k1 kJ hk => ?_, fun hw k k1 kJ hk => ?_⟩
      · obtain ⟨k', rfl⟩ : ∃ k', k = k' + 1 := ⟨k - 1, by omega⟩
        exact ho (k' + 2) (by omega) (by omega) hk
      · obtain ⟨k', rfl⟩ : ∃ k', k = k' + 1 := ⟨k - 1, by omega⟩
        exact hr hw (k' + 2) (by omega) (by omega) hk
  · rcases h.2 x hx with ⟨⟨a, ha, hb⟩, _⟩ | ⟨_, ho, _⟩
    · rw [ha]
      show a.block < X.B
      have := O.lowW
      omega
    · exact O.lowB _ (ho 1 (Nat.le_refl _) (by omega))
omit [Payload] in
theorem lowW_of (O : X.Ok) {k : Nat} {op : MemOp} (h : OkW (ShN X.Wg) X.Own X.Rd k op) : ∀ x, op.act.touch? = some x → x.loc.low X.B := by
  intro x hx
  rcases h.2 x hx with ⟨⟨a, ha, hb⟩, _⟩ | ho | ⟨hr, _⟩
  · rw [ha]
    show a.block < X.B
    have := O.lowW
    omega
  · exact O.lowO _ _ ho
  · exact O.lowR _ _ hr

theorem Cm.at (O : X.Ok) (h : Cm X J gs w t D d0) (d : Nat) : Cm X J gs (w.at d) t D d0 :=
  { h with wk := fun i hi => let ⟨g, hg, hs⟩ := h.wk i hi; ⟨g, hg, hs.rely O (by have := h.le; omega) (RL.at w d)⟩ }

/-- A step of worker i. -/
theorem Cm.stepW (O : X.Ok) (h : Cm X J gs w t D d0) {i : Nat} (hi : i < J) {g g' : Goroutine} {fn : FuncId} {pos : String} {es : Array Event} {s' m' dd' : Nat}
    (hrl : ∀ i', X.j0 ≤ i' → i' < J → i' ≠ i → RL X i' w w')
    (hs' : GS X i s' m' dd' g' w')
    (hok : ∀ op ∈ MemOp.ofEvents (i + 1) fn pos es, OkW (ShN X.Wg) X.Own X.Rd (i + 1) op) (hnr : ∀ e ∈ es, e.loc ≠ .mark (.release (stA X.Wg)))
    (hdeaf : deafBehind (D i).deaf es = dd')
    (hold : i < X.j0 → s' = 1 ∧ ∀ e ∈ es, (MemAct.ofEvent e).touch? = none)
    (hpl : ∀ e ∈ es, ∀ x, (MemAct.ofEvent e).touch? = some x → ¬ X.ShA x.loc → x.kind = .plain ∧ x.loc.isMemory = true)
    (hrel : X.j0 ≤ i → s' ≤ 6 → ∃ r, X.t0 ≤ r ∧ RelBy (stA X.Wg) (t ++ MemOp.ofEvents (i + 1) fn pos es) (i + 1) r)
    (hhas : X.j0 ≤ i → s' ≤ 6 → ∀ o, X.lot i o → Has X.C o (X.val o) w') (hpay : PayF X w') :
    Cm X J ((gs.map (woken X.P g g' w')).setIfInBounds (i + 1) g') w' (t ++ MemOp.ofEvents (i + 1) fn pos es) (upd D i ⟨s', m', dd'⟩) d0 := by
  have hJN := h.le
  refine ⟨by simp [h.size], h.ge, h.le, fun i' hi' => ?_, fun i' hi' => ?_, h.ct.appW O.apart (by omega) (by omega) (fun op hop => okW_sub O (hok op hop)), h.norel.app (norel_of hnr), by have := h.t0; simp; omega,
    by rw [Deaf_other t (by omega) _ g_of_ofEvents, h.deaf0], fun i' hi' => ?_, fun i' hj hi' hst => ?_, fun i' hj hi' hst => ?_, hpay, h.over.app fun op hop => ?_, h.low.app fun op hop => lowW_of O (hok op hop), h.src.app fun op hop x hx hs => ?_⟩
  · by_cases e : i' = i
    · subst e
      exact ⟨g', get_map_set_same _ _ _ (by rw [h.size]; omega), by rw [upd_same]; exact hs'⟩
    · obtain ⟨x, hx, hsx⟩ := h.wk i' hi'
      refine ⟨x, by rw [get_map_set _ _ _ _ (by omega), hx, Option.map_some, hsx.woken], ?_⟩
      rw [upd_ne D _ e]
      by_cases hj : X.j0 ≤ i'
      · exact hsx.rely O (by omega) (hrl i' hj hi' e)
      · have h1 := h.old i' (by omega)
        rw [h1] at hsx ⊢
        exact .quit hsx.quits
  · by_cases e : i' = i
    · subst e; rw [upd_same]; exact (hold hi').1
    · rw [upd_ne D _ e]; exact h.old i' hi'
  · by_cases e : i' = i
    · subst e; rw [Deaf_own, h.deafW i' hi', upd_same]; exact hdeaf
    · rw [Deaf_other t (by omega) _ g_of_ofEvents, h.deafW i' hi', upd_ne D _ e]
  · by_cases e : i' = i
    · subst e; rw [upd_same] at hst; exact hrel hj hst
    · rw [upd_ne D _ e] at hst
      obtain ⟨r, hr0, hr⟩ := h.rel i' hj hi' hst
      exact ⟨r, hr0, hr.appOther g_of_ofEvents (by omega)⟩
  · by_cases e : i' = i
    · subst e; rw [upd_same] at hst; exact hhas hj hst
    · rw [upd_ne D _ e] at hst
      exact fun o ho => ((hrl i' hj hi' e).cells o ho).trans (h.has i' hj hi' hst o ho)
  · have hg := g_of_ofEvents op hop
    by_cases hj : i < X.j0
    · rw [ofEvents_eq] at hop
      obtain ⟨e, he, rfl⟩ := Array.mem_map.1 hop
      exact .inr (.inr ((hold hj).2 e he))
    · exact .inr (.inl (by omega))
  · have hg := g_of_ofEvents op hop
    rw [ofEvents_eq] at hop
    obtain ⟨e, he, rfl⟩ := Array.mem_map.1 hop
    by_cases hj : i < X.j0
    · rw [(hold hj).2 e he] at hx; cases hx
    · exact .inr ⟨by simp only; omega, hpl e he x hx hs⟩

/-- A step of the starter's. -/
theorem Cm.step0 (O : X.Ok) (h : Cm X J gs w t D d0) {a a' : Goroutine} {fn : FuncId} {pos : String} {es : Array Event}
    (hrl : ∀ i, X.j0 ≤ i → i < J → RL X i w w')
    (hok : ∀ op ∈ MemOp.ofEvents 0 fn pos es, Ok0 X.ShA X.Own X.Rd J op) (hlow : ∀ op ∈ MemOp.ofEvents 0 fn pos es, ∀ x, op.act.touch? = some x → x.loc.low X.B) (hnr : ∀ e ∈ es, e.loc ≠ .mark (.release (stA X.Wg))) (hpay : PayF X w') :
    Cm X J ((gs.map (woken X.P a a' w')).setIfInBounds 0 a') w' (t ++ MemOp.ofEvents 0 fn pos es) D (deafBehind d0 es) := by
  have hJN := h.le
  refine ⟨by simp [h.size], h.ge, h.le, fun i hi => ?_, h.old, h.ct.app0 O.apart hok, h.norel.app (norel_of hnr), by have := h.t0; simp; omega, by rw [Deaf_own, h.deaf0], fun i hi => by rw [Deaf_other t (by omega) _ g_of_ofEvents, h.deafW i hi],
    fun i hj hi hst => ?_, fun i hj hi hst o ho => ((hrl i hj hi).cells o ho).trans (h.has i hj hi hst o ho), hpay, h.over.app fun op hop => .inl (g_of_ofEvents op hop), h.low.app hlow, h.src.app fun op hop _ _ _ => .inl (g_of_ofEvents op hop)⟩
  · obtain ⟨x, hx, hsx⟩ := h.wk i hi
    refine ⟨x, by rw [get_map_set _ _ _ _ (by omega), hx, Option.map_some, hsx.woken], ?_⟩
    by_cases hj : X.j0 ≤ i
    · exact hsx.rely O (by omega) (hrl i hj hi)
    · have h1 := h.old i (by omega)
      rw [h1] at hsx ⊢
      exact .quit hsx.quits
  · obtain ⟨r, hr0, hr⟩ := h.rel i hj hi hst
    exact ⟨r, hr0, hr.appOther g_of_ofEvents (by omega)⟩

/-- The go statement. -/
theorem Cm.spawn (O : X.Ok) (h : Cm X J gs w t D 0) (hJ : J < X.N) {a' child : Goroutine} {x y : MemOp} {m : Nat} (hx : x.g = 0 ∧ x.act = .go (J + 1)) (hy : y.g = J + 1 ∧ y.act = .start)
    (hc : Goes X.P false (RL X J) (DL X J) (atRel X J) m child w) :
    Cm X (J + 1) ((gs.setIfInBounds 0 a').push child) w (t ++ #[x, y]) (upd D J ⟨7, m, 0⟩) 0 := by
  have hm : ∀ op ∈ #[x, y], op = x ∨ op = y := by intro op hop; simpa using hop
  have hnt : ∀ op ∈ #[x, y], op.act.touch? = none := by
    intro op hop
    rcases hm op hop with rfl | rfl
    · rw [hx.2]; rfl
    · rw [hy.2]; rfl
  have hst : ∀ op ∈ #[x, y], op.act ≠ .mark .disable ∧ op.act ≠ .mark .enable := by
    intro op hop
    rcases hm op hop with rfl | rfl
    · rw [hx.2]; exact ⟨by simp, by simp⟩
    · rw [hy.2]; exact ⟨by simp, by simp⟩
  have hge := h.ge
  refine ⟨by simp [h.size], by omega, by omega, fun i hi => ?_, fun i hi => by rw [upd_ne D _ (by omega)]; exact h.old i hi, h.ct.fork O.apart hx hy h.deaf0, h.norel.app fun op hop => ?_, by have := h.t0; simp; omega,
    by rw [Deaf_still t 0 _ hst, h.deaf0], fun i hi => ?_, fun i hj hi hs => ?_, fun i hj hi hs => ?_, h.pay, h.over.app fun op hop => .inr (.inr (hnt op hop)), h.low.app (fun op hop a ha => by rw [hnt op hop] at ha; cases ha), h.src.app fun op hop a ha => by rw [hnt op hop] at ha; cases ha⟩
  · rcases Nat.lt_or_ge i J with hlt | hge'
    · obtain ⟨g, hg, hsg⟩ := h.wk i hlt
      refine ⟨g, ?_, by rw [upd_ne D _ (by omega)]; exact hsg⟩
      rw [Array.getElem?_push_lt (by simp [h.size]; omega), ← Array.getElem?_eq_getElem, Array.getElem?_setIfInBounds_ne (by omega)]
      exact hg
    · obtain rfl : i = J := by omega
      refine ⟨child, ?_, by rw [upd_same]; exact .work hge hc⟩
      rw [show i + 1 = (gs.setIfInBounds 0 a').size by simp [h.size], Array.getElem?_push_size]
  · rcases hm op hop with rfl | rfl
    · rw [hx.2]; simp
    · rw [hy.2]; simp
  · rw [Deaf_still t _ _ hst]
    rcases Nat.lt_or_ge i J with hlt | hge'
    · rw [h.deafW i hlt, upd_ne D _ (by omega)]
    · obtain rfl : i = J := by omega
      rw [upd_same]
      exact Deaf_absent fun a op ha e => by have := h.ct.gs a op ha; omega
  · rcases Nat.lt_or_ge i J with hlt | hge'
    · rw [upd_ne D _ (by omega)] at hs
      obtain ⟨r, hr0, hr⟩ := h.rel i hj hlt hs
      refine ⟨r, hr0, hr.appNot fun op hop => ?_⟩
      rcases hm op hop with rfl | rfl
      · rw [hx.1]; omega
      · rw [hy.1]; omega
    · obtain rfl : i = J := by omega
      rw [upd_same] at hs
      simp at hs
  · rcases Nat.lt_or_ge i J with hlt | hge'
    · rw [upd_ne D _ (by omega)] at hs
      exact h.has i hj hlt hs
    · obtain rfl : i = J := by omega
      rw [upd_same] at hs
      simp at hs
end
end Go.Proofs.Ytehmobcfbifocaa
/-
  Workers under one group, beside goroutines that only leave: the invariant, and a step of a worker's. Nothing of a program.
-/
namespace Go.Proofs.Ytehmobcfbifocaa
open Go Go.Conc Go.ConcN
open Go.ConcR (KK wgBlock WgAt stA smA rd wr mk Payload Aside2 DC0 Bk g_of_ofEvents loc_of_ofEvent bk_of_mute ofEvent_loc_mark)
variable [Payload]

def InvG (X : Ph) (Fin Anch : Goroutine → World → Prop) (μ : Nat × Nat) (m : Machine) (t : Trace) : Prop :=
  ∃ (gs : Array Goroutine) (w : World) (sl : Option (Nat × Nat)) (D : Nat → WD) (tag : CTag) (f0 : Nat) (a : Goroutine) (st sm : Int),
    m = crowd gs w sl ∧ gs[0]? = some a ∧ CS X Fin Anch tag f0 a w ∧ Cm X (cntOf X tag) gs w t D (deafOf tag) ∧ WgAt X.ty X.Wg w st sm ∧ ConcN.Mode (cntOf X tag) D tag st sm ∧
      μ = (phi X.N (Vc (cntOf X tag) D) tag + Ssum (cntOf X tag) D, f0 + 2 * Fsum (cntOf X tag) D)

/-- Goroutine 0 knows that all have done. -/
def acqAll (X : Ph) (t : Trace) : Prop :=
  ∃ q, t.act? q = some (.mark (.acquire (stA X.Wg))) ∧ t.g? q = some 0 ∧ t.heard q ∧ ∀ i, X.j0 ≤ i → i < X.N → ∃ r, X.t0 ≤ r ∧ RelBy (stA X.Wg) t (i + 1) r ∧ r < q
/-- All are joined. -/
def joined (X : Ph) (Fin : Goroutine → World → Prop) (m : Machine) (t : Trace) : Prop :=
  ∃ (gs : Array Goroutine) (w : World) (sl : Option (Nat × Nat)) (D : Nat → WD) (a : Goroutine),
    m = crowd gs w sl ∧ gs[0]? = some a ∧ Fin a w ∧ Cm X X.N gs w t D 0 ∧ AllQuit X.N D ∧ acqAll X t ∧ WgLive X.ty X.Wg w

section
variable {X : Ph} {Fin Anch : Goroutine → World → Prop} {gs : Array Goroutine} {w w' : World} {sl : Option (Nat × Nat)} {D : Nat → WD} {tag : CTag} {f0 : Nat} {a : Goroutine} {t : Trace} {st sm : Int}

omit [Payload] in
theorem cnt_retag {tag' : CTag} (e : tag' = tag ∨ (tag = .blk ∧ tag' = .w3)) : cntOf X tag' = cntOf X tag ∧ deafOf tag' = deafOf tag := by
  rcases e with rfl | ⟨rfl, rfl⟩ <;> exact ⟨rfl, rfl⟩
theorem CS.bound (h : CS X Fin Anch tag f0 a w) : cntOf X tag + pend tag ≤ X.N := by
  cases h with
  | on ho _ =>
    cases tag <;> simp only [cntOf, pend] <;> try omega
    have := ho.1
    unfold Ph.N
    split <;> omega
  | blk _ => simp only [cntOf, pend]; omega

omit [Payload] in
theorem plain_of_Bk (O : X.Ok) {es : Array Event} (h : ∀ e ∈ es, Bk X.Wg e) : ∀ e ∈ es, ∀ x, (MemAct.ofEvent e).touch? = some x → ¬ X.ShA x.loc → x.kind = .plain ∧ x.loc.isMemory = true := by
  intro e he x hx hs
  exfalso
  rcases h e he with h1 | h1 | ⟨b, wr, rfl, hb⟩
  · simp only [ofEvent_loc_mark h1] at hx; cases hx
  · simp only [ofEvent_loc_mark h1] at hx; cases hx
  · simp only [Go.ConcR.ofEvent_cell, MemAct.touch?, Option.some.injEq] at hx
    subst hx
    exact hs (O.sh _ ⟨b, rfl, hb⟩)
/-- Whatever step of worker i. -/
theorem gW (O : X.Ok) (hAr : ∀ g w, Anch g w → g.status = .running) (ha : gs[0]? = some a) (hcs : CS X Fin Anch tag f0 a w) (hcom : Cm X (cntOf X tag) gs w t D (deafOf tag))
    {i : Nat} (hi : i < cntOf X tag) {g g' : Goroutine} {es : Array Event} {s' m' dd' : Nat} {st' sm' : Int} (hg : gs[i + 1]? = some g) (hgo : stepG X.P false g w = .go g' w' es)
    (hA2 : RC X.ty X.Wg X.C w w') (hrl : ∀ i', X.j0 ≤ i' → i' < cntOf X tag → i' ≠ i → RL X i' w w')
    (hs' : GS X i s' m' dd' g' w')
    (hok : ∀ op ∈ MemOp.ofEvents (i + 1) g.frame.fn g.frame.place es, OkW (ShN X.Wg) X.Own X.Rd (i + 1) op) (hnr : ∀ e ∈ es, e.loc ≠ .mark (.release (stA X.Wg)))
    (hdeaf : deafBehind (D i).deaf es = dd')
    (hold : i < X.j0 → s' = 1 ∧ ∀ e ∈ es, (MemAct.ofEvent e).touch? = none)
    (hpl : ∀ e ∈ es, ∀ x, (MemAct.ofEvent e).touch? = some x → ¬ X.ShA x.loc → x.kind = .plain ∧ x.loc.isMemory = true)
    (hrel : X.j0 ≤ i → s' ≤ 6 → ∃ r, X.t0 ≤ r ∧ RelBy (stA X.Wg) (t ++ MemOp.ofEvents (i + 1) g.frame.fn g.frame.place es) (i + 1) r)
    (hhas : X.j0 ≤ i → s' ≤ 6 → ∀ o, X.lot i o → Has X.C o (X.val o) w') (hpay : PayF X w') (hwg : WgAt X.ty X.Wg w' st' sm')
    (hmode : ∀ tag', (tag' = tag ∨ (tag = .blk ∧ tag' = .w3)) → (mayWake X.P g = true → g'.status = .running → tag' ≠ .blk) → ConcN.Mode (cntOf X tag) (upd D i ⟨s', m', dd'⟩) tag' st' sm')
    (hlt : (s' < (D i).stage ∧ cnt ⟨s', m', dd'⟩ ≤ cnt (D i)) ∨ (s' = (D i).stage ∧ m' + 1 = (D i).fuel)) :
    ∃ m₁ ops μ', runT X.P (crowd gs w sl) (i + 1) = (.next m₁, ops) ∧ Lt2 μ' (phi X.N (Vc (cntOf X tag) D) tag + Ssum (cntOf X tag) D, f0 + 2 * Fsum (cntOf X tag) D) ∧ InvG X Fin Anch μ' m₁ (t ++ ops) := by
  obtain ⟨tag', f', hcs', hf', htag, hwk⟩ := hcs.woken hAr hA2 g g'
  obtain ⟨hc1, hc2⟩ := cnt_retag (X := X) htag
  have hrun := runT_crowd_go (P := X.P) (sl := sl) (i := i + 1) hg (by simpa using hgo)
  have e1 := sumTo_upd D (⟨s', m', dd'⟩ : WD) cnt hi
  have e2 := sumTo_upd D (⟨s', m', dd'⟩ : WD) WD.stage hi
  have e3 := sumTo_upd D (⟨s', m', dd'⟩ : WD) WD.fuel hi
  refine ⟨_, _, (phi X.N (Vc (cntOf X tag') (upd D i ⟨s', m', dd'⟩)) tag' + Ssum (cntOf X tag') (upd D i ⟨s', m', dd'⟩), f' + 2 * Fsum (cntOf X tag') (upd D i ⟨s', m', dd'⟩)), hrun, ?_,
    _, w', sl, upd D i ⟨s', m', dd'⟩, tag', f', woken X.P g g' w' a, st', sm', rfl, by rw [get_map_set _ _ _ _ (by omega), ha]; rfl, hcs', by rw [hc1, hc2]; exact hcom.stepW O hi hrl hs' hok hnr hdeaf hold hpl hrel hhas hpay, hwg, by rw [hc1]; exact hmode tag' htag hwk, rfl⟩
  rw [hc1, phi_retag X.N _ htag]
  simp only [Vc, Ssum, Fsum] at *
  rcases hlt with ⟨h1, h2⟩ | ⟨h1, h2⟩
  · refine Prod.Lex.left _ _ ?_
    have := phi_mono X.N (v' := sumTo (cntOf X tag) fun a => cnt (upd D i ⟨s', m', dd'⟩ a)) (v := sumTo (cntOf X tag) fun a => cnt (D a)) (by omega) tag
    omega
  · have ec : cnt (⟨s', m', dd'⟩ : WD) = cnt (D i) := by simp only [cnt, h1]
    have ev : (sumTo (cntOf X tag) fun a => cnt (upd D i ⟨s', m', dd'⟩ a)) = sumTo (cntOf X tag) fun a => cnt (D a) := by omega
    have es' : (sumTo (cntOf X tag) fun a => (upd D i ⟨s', m', dd'⟩ a).stage) = sumTo (cntOf X tag) fun a => (D a).stage := by omega
    rw [ev, es']
    exact Prod.Lex.right _ (by omega)

omit [Payload] in
/-- Where a worker that is not yet leaving stands, the starter is not through. -/
theorem mode_pend {j i : Nat} (hm : ConcN.Mode j D tag st sm) (hi : i < j) (h : (D i).stage ≠ 1) : tag ≠ .acq := by
  rintro rfl
  cases hm with
  | opn h1 _ _ => exact h1
  | reg h1 _ _ => exact h1
  | last L h1 _ _ _ => exact h1
  | fin _ h2 => exact h (h2 i hi)

set_option maxHeartbeats 1600000 in
theorem stepW (O : X.Ok) (hAr : ∀ g w, Anch g w → g.status = .running) (ha : gs[0]? = some a) (hcs : CS X Fin Anch tag f0 a w) (hcom : Cm X (cntOf X tag) gs w t D (deafOf tag)) (hwg : WgAt X.ty X.Wg w st sm) (hmode : ConcN.Mode (cntOf X tag) D tag st sm)
    {i : Nat} (hi : i < cntOf X tag) {g : Goroutine} (hg : gs[i + 1]? = some g) (hrun : g.status = .running) :
    ∃ m₁ ops μ', runT X.P (crowd gs w sl) (i + 1) = (.next m₁, ops) ∧ Lt2 μ' (phi X.N (Vc (cntOf X tag) D) tag + Ssum (cntOf X tag) D, f0 + 2 * Fsum (cntOf X tag) D) ∧ InvG X Fin Anch μ' m₁ (t ++ ops) := by
  obtain ⟨g₁, hg₁, hs⟩ := hcom.wk i hi
  obtain rfl : g = g₁ := by rw [hg] at hg₁; exact Option.some.inj hg₁
  generalize hst : (D i).stage = s at hs
  generalize hfu : (D i).fuel = m at hs
  generalize hde : (D i).deaf = dd at hs
  have hb := hcs.bound
  have hVj := Vc_le (cntOf X tag) D
  have hN := O.hN
  have hdk : Deaf t (i + 1) = dd := by rw [hcom.deafW i hi, hde]
  have hnew : s ≠ 1 → X.j0 ≤ i := fun h => by
    rcases Nat.lt_or_ge i X.j0 with h' | h'
    · exact absurd (hst.symm.trans (hcom.old i h')) h
    · exact h'
  -- a step of the library's bookkeeping: at most the group's block turns
  have bookG : ∀ {g' : Goroutine} {w' : World} {es : Array Event} {s' m' dd' : Nat} {st' sm' : Int}, stepG X.P false g w = .go g' w' es → Aside X.Wg w w' → WgAt X.ty X.Wg w' st' sm' → (∀ e ∈ es, Bk X.Wg e) →
      (∀ jx e, es[jx]? = some e → (MemAct.ofEvent e).touch? = none ∨ 0 < deafBehind dd (es.extract 0 jx)) → (s ≠ 1 ∨ ∀ e ∈ es, (MemAct.ofEvent e).touch? = none) → GS X i s' m' dd' g' w' → deafBehind dd es = dd' → s ≤ 6 → (s = 1 → s' = 1) →
      (∀ tag', (tag' = tag ∨ (tag = .blk ∧ tag' = .w3)) → (mayWake X.P g = true → g'.status = .running → tag' ≠ .blk) → ConcN.Mode (cntOf X tag) (upd D i ⟨s', m', dd'⟩) tag' st' sm') → ((s' < s ∧ cnt ⟨s', m', dd'⟩ ≤ cnt (D i)) ∨ (s' = s ∧ m' + 1 = m)) →
      ∃ m₁ ops μ', runT X.P (crowd gs w sl) (i + 1) = (.next m₁, ops) ∧ Lt2 μ' (phi X.N (Vc (cntOf X tag) D) tag + Ssum (cntOf X tag) D, f0 + 2 * Fsum (cntOf X tag) D) ∧ InvG X Fin Anch μ' m₁ (t ++ ops) := by
    intro g' w' es s' m' dd' st' sm' hgo hAs hwg' hbk hd hmu hs' hdd h6 h1 hmode' hlt
    exact gW O hAr ha hcs hcom hi hg hgo (RC.of_wg hAs ⟨_, _, hwg'⟩) (fun i' _ _ _ => RL.of_wg O hAs ⟨_, _, hwg'⟩) hs' (okW_of_Bk hbk) (norel_of_Bk hbk) (by rw [hde]; exact hdd)
      (fun hj => by
        have h1' : s = 1 := by rw [← hst]; exact hcom.old i hj
        exact ⟨h1 h1', hmu.resolve_left fun h => h h1'⟩)
      (plain_of_Bk O hbk)
      (fun hj _ => let ⟨r, hr0, hr⟩ := hcom.rel i hj hi (by omega); ⟨r, hr0, hr.book hdk _ _ hbk hd⟩) (fun hj _ o ho => (cell_of_block (hAs.block X.C O.hCW) o).trans (hcom.has i hj hi (by omega) o ho)) (hcom.pay.block (hAs.block X.C O.hCW)) hwg' hmode'
      (by rw [hst, hfu]; exact hlt)
  have book : ∀ {g' : Goroutine} {w' : World} {es : Array Event} {s' m' dd' : Nat} {st' sm' : Int}, stepG X.P false g w = .go g' w' es → Aside X.Wg w w' → WgAt X.ty X.Wg w' st' sm' → (∀ e ∈ es, Bk X.Wg e) →
      (∀ jx e, es[jx]? = some e → (MemAct.ofEvent e).touch? = none ∨ 0 < deafBehind dd (es.extract 0 jx)) → (s ≠ 1 ∨ ∀ e ∈ es, (MemAct.ofEvent e).touch? = none) → GS X i s' m' dd' g' w' → deafBehind dd es = dd' → s ≤ 6 → (s = 1 → s' = 1) →
      ConcN.Mode (cntOf X tag) (upd D i ⟨s', m', dd'⟩) tag st' sm' → ((s' < s ∧ cnt ⟨s', m', dd'⟩ ≤ cnt (D i)) ∨ (s' = s ∧ m' + 1 = m)) →
      ∃ m₁ ops μ', runT X.P (crowd gs w sl) (i + 1) = (.next m₁, ops) ∧ Lt2 μ' (phi X.N (Vc (cntOf X tag) D) tag + Ssum (cntOf X tag) D, f0 + 2 * Fsum (cntOf X tag) D) ∧ InvG X Fin Anch μ' m₁ (t ++ ops) :=
    fun hgo hAs hwg' hbk hd hmu hs' hdd h6 h1 hmode' hlt => bookG hgo hAs hwg' hbk hd hmu hs' hdd h6 h1 (fun _ ht _ => hmode'.retag ht) hlt
  -- an idle step behind the release
  have idle : ∀ {g' : Goroutine} {m' : Nat}, stepG X.P false g w = .go g' w #[] → GS X i s m' dd g' w → m' + 1 = m → s ≤ 6 → s ≠ 1 →
      ∃ m₁ ops μ', runT X.P (crowd gs w sl) (i + 1) = (.next m₁, ops) ∧ Lt2 μ' (phi X.N (Vc (cntOf X tag) D) tag + Ssum (cntOf X tag) D, f0 + 2 * Fsum (cntOf X tag) D) ∧ InvG X Fin Anch μ' m₁ (t ++ ops) := by
    intro g' m' hgo hs' hm h6 h1
    exact book hgo (.refl X.Wg w) hwg (by simp) (by simp) (.inl h1) hs' rfl h6 (fun h => absurd h h1) (by have := hmode.same (i := i) m' dd; rwa [hst] at this) (.inr ⟨rfl, hm⟩)
  cases hs with
  | work hj h =>
    rcases Goes.cases h with hstop | ⟨m', rfl, hstep⟩
    · obtain ⟨⟨_, hhas, g', hgo, m₂, hk⟩, hall⟩ := hstop w (RL.refl w)
      exact gW O hAr ha hcs hcom hi hg hgo (.refl w) (fun _ _ _ _ => RL.refl w) (.sync hj (by omega) (by omega) (.k1 hk)) (okW_none (by intro e he; simp at he; subst he; rfl)) (by intro e he; simp at he; subst he; simp [mk]) (by rw [hde]; rfl)
        (fun h => by omega) (by intro e he; simp at he; subst he; intro x hx; cases hx) (fun _ _ => ⟨t.size, hcom.t0, RelBy.new hdk _ _⟩) (fun _ _ => hall) hcom.pay hwg (fun _ ht _ => (hmode.counted hi (by omega) (.inl rfl) _ _).retag ht) (.inl ⟨by omega, by simp [cnt, hst]⟩)
    · obtain ⟨g', w', es, hgo, ⟨hac, hev⟩, hg'⟩ := hstep w (RL.refl w)
      exact gW O hAr ha hcs hcom hi hg hgo (rc_of_AL O hac) (fun i' hj' _ e => RL.of_other O hj' hj hac e) (.work hj hg') (okW_of_EvW fun e he => (hev e he).1) (fun e he => (hev e he).1.2.2.2)
        (by rw [hde]; exact deafBehind_idle (fun e he => ⟨(hev e he).1.2.1, (hev e he).1.2.2.1⟩) 0) (fun h => by omega) (fun e he x hx hs => (hev e he).2 x hx fun h => hs (O.sh _ h)) (fun _ h => by omega) (fun _ h => by omega) (hcom.pay.work hj hac) (hwg.of_block (hac.block X.Wg (Ne.symm O.hCW)))
        (fun _ ht _ => ConcN.Mode.retag (by have := hmode.same (i := i) m' 0; rwa [hst] at this) ht) (.inr ⟨hst.symm, by omega⟩)
  | sync hj h2 h6 h =>
    have rw0 : RW X.ty X.Wg X.C X.nC (X.Low (i + 1)) (X.rep i + 1 - 1) w w := RW.refl w
    cases h with
    | r0 _ => omega
    | quit _ => omega
    | k1 h =>
      rcases Goes.cases h with hstop | ⟨m', rfl, hstep⟩
      · obtain ⟨_, g', hgo, m₂, hk⟩ := hstop w rw0
        exact book hgo (.refl X.Wg w) hwg (by intro e he; simp at he; subst he; exact .inl rfl) (by intro jx e he; exact .inl (by have := Array.mem_of_getElem? he; simp at this; subst this; rfl)) (.inl (by omega)) (.sync hj (by omega) (by omega) (.d1 hk)) rfl (by omega) (by omega)
          (hmode.counted hi (by omega) (.inr rfl) _ _) (.inl ⟨by omega, by simp [cnt, hst]⟩)
      · obtain ⟨g', w', es, hgo, ⟨rfl, rfl⟩, hg'⟩ := hstep w rw0
        exact idle hgo (.sync hj (by omega) (by omega) (.k1 hg')) rfl (by omega) (by omega)
    | d1 h =>
      rcases Goes.cases h with hstop | ⟨m', rfl, hstep⟩
      · obtain ⟨_, hall⟩ := hstop w rw0
        have hc1 : cnt (D i) = 1 := by simp [cnt, hst]
        have hV1 : 1 ≤ Vc (cntOf X tag) D := by have := le_sumTo (f := fun x => cnt (D x)) hi; simp only [Vc]; omega
        have bk2 : ∀ e ∈ #[rd (stA X.Wg), wr (stA X.Wg)], Bk X.Wg e := by intro e he; simp at he; rcases he with rfl | rfl <;> exact bk_cell _ _ rfl
        have df2 : ∀ jx e, (#[rd (stA X.Wg), wr (stA X.Wg)] : Array Event)[jx]? = some e → (MemAct.ofEvent e).touch? = none ∨ 0 < deafBehind 1 ((#[rd (stA X.Wg), wr (stA X.Wg)] : Array Event).extract 0 jx) := by
          intro jx e he
          match jx, he with
          | 0, _ => exact .inr (by simp [deafBehind])
          | 1, _ => exact .inr (by simp [deafBehind, rd])
          | jx + 2, he => simp at he
        have hq0 : ∀ q, cnt (⟨1, q, 1⟩ : WD) = 0 := fun _ => rfl
        have opq : ∀ q, OpenSt (cntOf X tag) D → OpenSt (cntOf X tag) (upd D i ⟨1, q, 1⟩) := fun q h a ha => by
          by_cases e : a = i
          · subst e; rw [upd_same]; simp
          · rw [upd_ne D _ e]; exact h a ha
        cases hmode with
        | opn h1 h2 h3 =>
          obtain ⟨v, hv⟩ : ∃ v, Vc (cntOf X tag) D + pend tag = v + 1 := ⟨Vc (cntOf X tag) D + pend tag - 1, by omega⟩
          rw [hv] at hwg
          have hw1 : WgAt X.ty X.Wg w (((v : Nat) + 1) * KK + ((0 : Nat) : Int)) 0 := by simpa using hwg
          obtain ⟨g', hgo, _, hq⟩ := hall v 0 (by omega) (by omega) hw1
          obtain ⟨q, hq⟩ := hq (by omega)
          have hv' : Vc (cntOf X tag) (upd D i ⟨1, q, 1⟩) + pend tag = v := by have := Vc_upd D (⟨1, q, 1⟩ : WD) hi; have := hq0 q; omega
          refine book hgo (aside_setCell w (stA X.Wg) _) (hwg.setSt _) bk2 df2 (.inl (by omega)) (.quit hq) rfl (by omega) (fun _ => rfl) ?_ (.inl ⟨by omega, by simp [cnt]⟩)
          have e : ((v : Nat) : Int) * KK + ((0 : Nat) : Int) = ((Vc (cntOf X tag) (upd D i ⟨1, q, 1⟩) + pend tag : Nat) : Int) * KK := by rw [hv']; simp
          rw [e]
          exact .opn h1 (opq q h2) (fun vs ev => by have := h3 vs ev; omega)
        | reg h1 h2 h3 =>
          obtain ⟨v, hv⟩ : ∃ v, Vc (cntOf X tag) D = v + 1 := ⟨Vc (cntOf X tag) D - 1, by omega⟩
          rw [hv] at hwg
          have hw1 : WgAt X.ty X.Wg w (((v : Nat) + 1) * KK + ((1 : Nat) : Int)) 0 := by simpa using hwg
          obtain ⟨g', hgo, hl, hq⟩ := hall v 1 (by omega) (by omega) hw1
          by_cases hv0 : v = 0
          · subst hv0
            obtain ⟨m₂, hk⟩ := hl ⟨rfl, rfl⟩
            refine book hgo (aside_setCell w (stA X.Wg) _) (hwg.setSt _) bk2 df2 (.inl (by omega)) (.sync hj (by omega) (by omega) (.d2 hk)) rfl (by omega) (by omega) ?_ (.inl ⟨by omega, by simp [cnt]⟩)
            have hoth : ∀ a, a < cntOf X tag → a ≠ i → (D a).stage = 1 := fun a ha e => by
              have c0 := others_uncounted hi hv hc1 a ha e
              have := h2 a ha
              simp only [cnt] at c0
              split at c0 <;> omega
            have := ConcN.Mode.last (j := cntOf X tag) (D := upd D i ⟨4, m₂, 1⟩) (tag := tag) i h1 hi (by rw [upd_same]; simp) (fun a ha e => by rw [upd_ne D _ e]; exact hoth a ha e)
            rw [upd_same] at this
            simpa using this
          · obtain ⟨q, hq⟩ := hq (by omega)
            have hv' : Vc (cntOf X tag) (upd D i ⟨1, q, 1⟩) = v := by have := Vc_upd D (⟨1, q, 1⟩ : WD) hi; have := hq0 q; omega
            refine book hgo (aside_setCell w (stA X.Wg) _) (hwg.setSt _) bk2 df2 (.inl (by omega)) (.quit hq) rfl (by omega) (fun _ => rfl) ?_ (.inl ⟨by omega, by simp [cnt]⟩)
            have e : ((v : Nat) : Int) * KK + ((1 : Nat) : Int) = ((Vc (cntOf X tag) (upd D i ⟨1, q, 1⟩) : Nat) : Int) * KK + 1 := by rw [hv']; simp
            rw [e]
            exact .reg h1 (opq q h2) (by omega)
        | last L _ h2 h3 h4 =>
          by_cases e : i = L
          · subst e; omega
          · have := h4 i hi e; omega
        | sema h2 => have := h2 i hi; omega
        | fin _ h2 => have := h2 i hi; omega
      · obtain ⟨g', w', es, hgo, ⟨rfl, rfl⟩, hg'⟩ := hstep w rw0
        exact idle hgo (.sync hj (by omega) (by omega) (.d1 hg')) rfl (by omega) (by omega)
    | d2 h =>
      rcases Goes.cases h with hstop | ⟨m', rfl, hstep⟩
      · obtain ⟨_, hx⟩ := hstop w rw0
        obtain ⟨hW3, hoth, rfl, rfl⟩ := hmode.isLast hi (by omega)
        simp only [hst] at hwg
        obtain ⟨g', hgo, m₂, hk⟩ := hx (by simpa using hwg)
        refine book hgo (.refl X.Wg w) hwg (by intro e he; simp at he; subst he; exact bk_cell _ _ rfl) (by intro jx e he; match jx, he with | 0, _ => exact .inr (by simp [deafBehind]) | jx + 1, he => simp at he) (.inl (by omega)) (.sync hj (by omega) (by omega) (.d3 hk)) rfl (by omega) (by omega) ?_ (.inl ⟨by omega, by simp [cnt]⟩)
        have := ConcN.Mode.last (j := cntOf X tag) (D := upd D i ⟨3, m₂, 1⟩) (tag := tag) i hW3 hi (by rw [upd_same]; simp) (fun a ha e => by rw [upd_ne D _ e]; exact hoth a ha e)
        rw [upd_same] at this
        simpa using this
      · obtain ⟨g', w', es, hgo, ⟨rfl, rfl⟩, hg'⟩ := hstep w rw0
        exact idle hgo (.sync hj (by omega) (by omega) (.d2 hg')) rfl (by omega) (by omega)
    | d3 h =>
      rcases Goes.cases h with hstop | ⟨m', rfl, hstep⟩
      · obtain ⟨_, hx⟩ := hstop w rw0
        obtain ⟨hW3, hoth, rfl, rfl⟩ := hmode.isLast hi (by omega)
        simp only [hst] at hwg
        obtain ⟨g', hgo, m₂, hk⟩ := hx (by simpa using hwg)
        refine book hgo (aside_setCell w (stA X.Wg) _) (hwg.setSt 0) (by intro e he; simp at he; subst he; exact bk_cell _ _ rfl) (by intro jx e he; match jx, he with | 0, _ => exact .inr (by simp [deafBehind]) | jx + 1, he => simp at he) (.inl (by omega)) (.sync hj (by omega) (by omega) (.d4 hk)) rfl (by omega) (by omega) ?_ (.inl ⟨by omega, by simp [cnt]⟩)
        have := ConcN.Mode.last (j := cntOf X tag) (D := upd D i ⟨2, m₂, 1⟩) (tag := tag) i hW3 hi (by rw [upd_same]; simp) (fun a ha e => by rw [upd_ne D _ e]; exact hoth a ha e)
        rw [upd_same] at this
        simpa using this
      · obtain ⟨g', w', es, hgo, ⟨rfl, rfl⟩, hg'⟩ := hstep w rw0
        exact idle hgo (.sync hj (by omega) (by omega) (.d3 hg')) rfl (by omega) (by omega)
    | d4 h =>
      rcases Goes.cases h with hstop | ⟨m', rfl, hstep⟩
      · obtain ⟨_, hmw, hx⟩ := hstop w rw0
        obtain ⟨hW3, hoth, rfl, rfl⟩ := hmode.isLast hi (by omega)
        simp only [hst] at hwg
        obtain ⟨g', hgo, q, hq⟩ := hx (by simpa using hwg)
        have hrun' : g'.status = .running := by
          cases q with
          | zero => exact absurd hq.2 (by decide)
          | succ q => exact hq.elim (fun x => absurd x.2 (by decide)) (fun x => x.1)
        refine bookG hgo (aside_setCell w (smA X.Wg) _) (hwg.setSm 1) (es := semEvents (smA X.Wg)) ?_ ?_ (.inl (by omega)) (.quit hq) (by simp [deafBehind, semEvents]) (by omega) (fun _ => rfl) ?_ (.inl ⟨by omega, by simp [cnt]⟩)
        · intro e he
          simp [semEvents] at he
          rcases he with rfl | rfl | rfl | rfl
          · exact .inl rfl
          · exact bk_cell _ _ rfl
          · exact bk_cell _ _ rfl
          · exact .inr (.inl rfl)
        · intro jx e he
          match jx, he with
          | 0, he => simp [semEvents] at he; subst he; exact .inl rfl
          | 1, _ => exact .inr (by simp [deafBehind, semEvents])
          | 2, _ => exact .inr (by simp [deafBehind, semEvents])
          | 3, he => simp [semEvents] at he; subst he; exact .inl rfl
          | jx + 4, he => simp [semEvents] at he
        · intro tag' ht hw
          have hnb := hw hmw hrun'
          have e3 : tag' = .w3 := by
            rcases ht with rfl | ⟨_, rfl⟩
            · cases tag' <;> first | rfl | exact hW3.elim | exact absurd rfl hnb
            · rfl
          subst e3
          simp only [if_true]
          exact .sema fun a ha => by
            by_cases e : a = i
            · subst e; rw [upd_same]
            · rw [upd_ne D _ e]; exact hoth a ha e
      · obtain ⟨g', w', es, hgo, ⟨rfl, rfl⟩, hg'⟩ := hstep w rw0
        exact idle hgo (.sync hj (by omega) (by omega) (.d4 hg')) rfl (by omega) (by omega)
  | quit h =>
    cases m with
    | zero => rw [h.1] at hrun; cases hrun
    | succ q =>
      rcases h with ⟨hf, _⟩ | ⟨_, g', es, hmute, hstep, hq⟩
      · rw [hf] at hrun; cases hrun
      · have hbk : ∀ e ∈ es, Bk X.Wg e := fun e he => bk_of_mute (hmute e he)
        have hno : ∀ e ∈ es, (MemAct.ofEvent e).touch? = none := fun e he => touch_mute (hmute e he)
        exact book (hstep w) (.refl X.Wg w) hwg hbk (fun jx e he => .inl (hno e (Array.mem_of_getElem? he))) (.inr hno) (.quit hq) rfl (by omega) (fun _ => rfl) (by have := hmode.same (i := i) q (deafBehind dd es); rwa [hst] at this) (.inr ⟨rfl, rfl⟩)
end
end Go.Proofs.Ytehmobcfbifocaa
/-
  Workers under one group, beside goroutines that only leave: a step of the starter's; and the run to the place behind the join, on every tape. Nothing of a program.
-/
namespace Go.Proofs.Ytehmobcfbifocaa
open Go Go.Conc Go.ConcN
open Go.ConcR (KK wgBlock WgAt stA smA rd wr mk Payload Aside2 DC0 Bk g_of_ofEvents loc_of_ofEvent bk_of_mute ofEvent_loc_mark ofEvent_mk)
variable [Payload]

section
variable {X : Ph} {Fin Anch : Goroutine → World → Prop} {gs : Array Goroutine} {w w' : World} {sl : Option (Nat × Nat)} {D : Nat → WD} {tag : CTag} {f0 : Nat} {a : Goroutine} {t : Trace} {st sm : Int}

/-- Whatever step of the starter's, but a go statement and the last one. -/
theorem gC (O : X.Ok) (ha : gs[0]? = some a) (hcom : Cm X (cntOf X tag) gs w t D (deafOf tag))
    {a' : Goroutine} {es : Array Event} {tag' : CTag} {f' : Nat} {st' sm' : Int} (hgo : stepG X.P true a w = .go a' w' es)
    (hrl : ∀ i, X.j0 ≤ i → i < cntOf X tag → RL X i w w')
    (hok : ∀ op ∈ MemOp.ofEvents 0 a.frame.fn a.frame.place es, Ok0 X.ShA X.Own X.Rd (cntOf X tag) op) (hlow : ∀ op ∈ MemOp.ofEvents 0 a.frame.fn a.frame.place es, ∀ x, op.act.touch? = some x → x.loc.low X.B)
    (hnr : ∀ e ∈ es, e.loc ≠ .mark (.release (stA X.Wg))) (hpay : PayF X w')
    (hcs' : CS X Fin Anch tag' f' a' w') (hcnt : cntOf X tag' = cntOf X tag) (hdf : deafBehind (deafOf tag) es = deafOf tag') (hwg : WgAt X.ty X.Wg w' st' sm') (hmode : ConcN.Mode (cntOf X tag) D tag' st' sm')
    (hlt : phi X.N (Vc (cntOf X tag) D) tag' < phi X.N (Vc (cntOf X tag) D) tag ∨ (phi X.N (Vc (cntOf X tag) D) tag' = phi X.N (Vc (cntOf X tag) D) tag ∧ f' < f0)) :
    ∃ m₁ ops μ', runT X.P (crowd gs w sl) 0 = (.next m₁, ops) ∧ Lt2 μ' (phi X.N (Vc (cntOf X tag) D) tag + Ssum (cntOf X tag) D, f0 + 2 * Fsum (cntOf X tag) D) ∧ InvG X Fin Anch μ' m₁ (t ++ ops) := by
  have hrun := runT_crowd_go (P := X.P) (sl := sl) (i := 0) ha (by simpa using hgo)
  refine ⟨_, _, (phi X.N (Vc (cntOf X tag') D) tag' + Ssum (cntOf X tag') D, f' + 2 * Fsum (cntOf X tag') D), hrun, ?_,
    _, w', sl, D, tag', f', a', st', sm', rfl, get_map_set_same _ _ _ (by rw [hcom.size]; omega), hcs', by rw [hcnt, ← hdf]; exact hcom.step0 O hrl hok hlow hnr hpay, hwg, by rw [hcnt]; exact hmode, rfl⟩
  rw [hcnt]
  rcases hlt with h | ⟨h1, h2⟩
  · exact Prod.Lex.left _ _ (by omega)
  · rw [h1]; exact Prod.Lex.right _ (by omega)

/-- An idle step. -/
theorem idleG (O : X.Ok) (ha : gs[0]? = some a) (hcom : Cm X (cntOf X tag) gs w t D (deafOf tag)) (hwg : WgAt X.ty X.Wg w st sm) (hmode : ConcN.Mode (cntOf X tag) D tag st sm)
    {a' : Goroutine} {es : Array Event} {m' : Nat} (hgo : stepG X.P true a w = .go a' w' es) (hD : DP X.Wg (ownX X) (rdX X) (cntOf X tag + 1) (X.Low (cntOf X tag)) w w' es) (ho : tagOk X tag) (hg : GP X (cntOf X tag) (stopOf X Fin Anch tag) m' a' w') (hf : m' + extra tag < f0) :
    ∃ m₁ ops μ', runT X.P (crowd gs w sl) 0 = (.next m₁, ops) ∧ Lt2 μ' (phi X.N (Vc (cntOf X tag) D) tag + Ssum (cntOf X tag) D, f0 + 2 * Fsum (cntOf X tag) D) ∧ InvG X Fin Anch μ' m₁ (t ++ ops) := by
  obtain ⟨hlo, hev⟩ := hD
  have hWj : X.Wg < X.Low (cntOf X tag) := Nat.lt_of_lt_of_le O.hW (O.mono _ _ hcom.ge)
  have hCj : X.C < X.Low (cntOf X tag) := Nat.lt_of_lt_of_le O.hC (O.mono _ _ hcom.ge)
  have hdf : deafBehind (deafOf tag) es = deafOf tag := deafBehind_idle (fun e he => ⟨(hev e he).2.1, (hev e he).2.2.1⟩) _
  have hop : ∀ op ∈ MemOp.ofEvents 0 a.frame.fn a.frame.place es, Ok0 X.ShA X.Own X.Rd (cntOf X tag) op ∧ ∀ x, op.act.touch? = some x → x.loc.low X.B := fun op h => ok0_sub O (ok0_of_Ev0 hev op h)
  exact gC O ha hcom hgo (fun i _ hi => RL.of_low hlo (O.mono _ _ (by omega)) hWj hCj) (fun op h => (hop op h).1) (fun op h => (hop op h).2) (fun e he => (hev e he).2.2.2) (hcom.pay.block (hlo X.C hCj)) (.on ho hg) rfl hdf (hwg.of_block (hlo X.Wg hWj)) hmode (.inr ⟨rfl, hf⟩)

/-- A step of the library's bookkeeping. -/
theorem bookC' (O : X.Ok) (ha : gs[0]? = some a) (hcom : Cm X (cntOf X tag) gs w t D (deafOf tag))
    {a' : Goroutine} {es : Array Event} {tag' : CTag} {f' : Nat} {st' sm' : Int} (hgo : stepG X.P true a w = .go a' w' es) (hAs : Aside X.Wg w w') (hwg' : WgAt X.ty X.Wg w' st' sm') (hbk : ∀ e ∈ es, Bk X.Wg e)
    (hcs' : CS X Fin Anch tag' f' a' w') (hcnt : cntOf X tag' = cntOf X tag) (hdf : deafBehind (deafOf tag) es = deafOf tag') (hmode' : ConcN.Mode (cntOf X tag) D tag' st' sm')
    (hlt : phi X.N (Vc (cntOf X tag) D) tag' < phi X.N (Vc (cntOf X tag) D) tag ∨ (phi X.N (Vc (cntOf X tag) D) tag' = phi X.N (Vc (cntOf X tag) D) tag ∧ f' < f0)) :
    ∃ m₁ ops μ', runT X.P (crowd gs w sl) 0 = (.next m₁, ops) ∧ Lt2 μ' (phi X.N (Vc (cntOf X tag) D) tag + Ssum (cntOf X tag) D, f0 + 2 * Fsum (cntOf X tag) D) ∧ InvG X Fin Anch μ' m₁ (t ++ ops) := by
  refine gC O ha hcom hgo (fun i _ _ => RL.of_wg O hAs ⟨_, _, hwg'⟩) (fun op hop => ?_) (low_of_Bk O.lowW hbk) (norel_of_Bk hbk) (hcom.pay.block (hAs.block X.C O.hCW)) hcs' hcnt hdf hwg' hmode' hlt
  have h := ok0_of_Bk (Own := fun _ _ => False) (Rd := fun _ _ => False) (j := 0) hbk op hop
  refine ⟨h.1, fun x hx => ?_⟩
  rcases h.2 x hx with ⟨hs, hk⟩ | ⟨hs, _, _⟩
  · exact .inl ⟨O.sh _ hs, hk⟩
  · -- bookkeeping touches the group's cells alone
    exfalso
    rw [ofEvents_eq] at hop
    obtain ⟨e, he, rfl⟩ := Array.mem_map.1 hop
    rcases hbk e he with h1 | h1 | ⟨b, wr, rfl, hb⟩
    · simp only [ofEvent_loc_mark h1] at hx; cases hx
    · simp only [ofEvent_loc_mark h1] at hx; cases hx
    · simp only [Go.ConcR.ofEvent_cell, MemAct.touch?, Option.some.injEq] at hx
      subst hx
      exact hs ⟨b, rfl, hb⟩

omit [Payload] in
theorem bk_one {m : Mark} {Wg : Nat} (h : m = .disable ∨ m = .enable) : ∀ e ∈ #[mk m], Bk Wg e := by
  intro e he
  simp at he
  subst he
  rcases h with rfl | rfl
  · exact .inl rfl
  · exact .inr (.inl rfl)

/-- The load in Wait. -/
theorem w1G (O : X.Ok) {f0 : Nat} (ha : gs[0]? = some a) (hcom : Cm X X.N gs w t D 1) (hwg : WgAt X.ty X.Wg w st sm) (hmode : ConcN.Mode X.N D .w1 st sm) (h : GP X X.N (w1K X Fin Anch) f0 a w) :
    ∃ m₁ ops μ', runT X.P (crowd gs w sl) 0 = (.next m₁, ops) ∧ Lt2 μ' (phi X.N (Vc X.N D) .w1 + Ssum X.N D, f0 + 2 * Fsum X.N D) ∧ InvG X Fin Anch μ' m₁ (t ++ ops) := by
  have hN := O.hN
  rcases Goes.cases h with hstop | ⟨m', rfl, hstep⟩
  · obtain ⟨_, hall⟩ := hstop w (.refl w)
    obtain ⟨ho, rfl, rfl, _⟩ := hmode.open_inv trivial
    have hV := Vc_le X.N D
    obtain ⟨a', hgo, h0, hne⟩ := hall (Vc X.N D) (by omega) (by simpa [pend] using hwg)
    by_cases hv : Vc X.N D = 0
    · obtain ⟨m₂, hk⟩ := h0 hv
      refine bookC' (tag := .w1) O ha hcom hgo (.refl X.Wg w) hwg bk_rd (tag' := .ke) (.on trivial hk) rfl rfl ?_ (.inl (by simp only [phi]; omega))
      have e : ((Vc X.N D + pend .w1 : Nat) : Int) * KK = 0 := by rw [hv]; simp [pend]
      rw [e]
      exact .fin trivial (allQuit_of ho hv)
    · obtain ⟨m₂, hk⟩ := hne hv
      exact bookC' (tag := .w1) O ha hcom hgo (.refl X.Wg w) hwg bk_rd (tag' := .w2 (Vc X.N D)) (.on trivial hk) rfl rfl (hmode.reopen trivial trivial rfl (fun vs e => by cases e; omega)) (.inl (by simp only [phi, cntOf]; omega))
  · obtain ⟨a', w', es, hgo, hD, hg'⟩ := hstep w (.refl w)
    exact idleG (tag := .w1) O ha hcom hwg hmode hgo hD trivial hg' (by simp [extra])

set_option maxHeartbeats 1600000 in
theorem stepC (O : X.Ok) (hAn : ∀ g w, Anch g w → thenJ X X.N (w1K X Fin Anch) g w)
    (ha : gs[0]? = some a) (hcs : CS X Fin Anch tag f0 a w) (hcom : Cm X (cntOf X tag) gs w t D (deafOf tag)) (hwg : WgAt X.ty X.Wg w st sm) (hmode : ConcN.Mode (cntOf X tag) D tag st sm) (hrun : a.status = .running) :
    (∃ m₁ ops, runT X.P (crowd gs w sl) 0 = (.next m₁, ops) ∧ joined X Fin m₁ (t ++ ops)) ∨
    (∃ m₁ ops μ', runT X.P (crowd gs w sl) 0 = (.next m₁, ops) ∧ Lt2 μ' (phi X.N (Vc (cntOf X tag) D) tag + Ssum (cntOf X tag) D, f0 + 2 * Fsum (cntOf X tag) D) ∧ InvG X Fin Anch μ' m₁ (t ++ ops)) := by
  have hN := O.hN
  have hVj := Vc_le (cntOf X tag) D
  cases hcs with
  | blk _ => cases hrun
  | on ho h =>
    rename_i m
    rcases Goes.cases h with hstop | ⟨m', rfl, hstep⟩
    case inr =>
      obtain ⟨a', w', es, hgo, hD, hg'⟩ := hstep w (.refl w)
      exact .inr (idleG O ha hcom hwg hmode hgo hD ho hg' (by omega))
    have hs := hstop w (.refl w)
    cases tag with
    | blk => exact ho.elim
    | ret => exact ho.elim
    | sp r s =>
      obtain ⟨hr, hs4⟩ := ho
      have hNe : X.N = X.j0 + X.n := rfl
      have hJ : cntOf X (.sp r s) = X.N - (r + 1) := rfl
      rcases hs4 with rfl | rfl | rfl | rfl
      · obtain ⟨_, a', hgo, m₂, hk⟩ := hs
        exact .inr (bookC' O ha hcom hgo (.refl X.Wg w) hwg (bk_one (.inl rfl)) (tag' := .sp r 4) (.on ⟨hr, by omega⟩ hk) rfl rfl (hmode.reopen trivial trivial rfl (by simp)) (.inl (by simp only [phi]; omega)))
      · obtain ⟨_, hall⟩ := hs
        obtain ⟨ho', rfl, rfl, _⟩ := hmode.open_inv trivial
        rw [hJ] at hVj
        obtain ⟨a', hgo, m₂, hk⟩ := hall (Vc (X.N - (r + 1)) D) (by omega) (by simpa [pend, hJ] using hwg)
        refine .inr (bookC' O ha hcom hgo (aside_setCell w (stA X.Wg) _) (hwg.setSt _) bk_rw (tag' := .sp r 3) (.on ⟨hr, by omega⟩ hk) rfl rfl ?_ (.inl (by simp only [phi]; omega)))
        have e : (((Vc (X.N - (r + 1)) D : Nat) : Int) + 1) * KK = ((Vc (X.N - (r + 1)) D + pend (.sp r 3) : Nat) : Int) * KK := by simp [pend]
        rw [e]
        exact .opn trivial ho' (by simp)
      · obtain ⟨_, a', hgo, m₂, hk⟩ := hs
        exact .inr (bookC' O ha hcom hgo (.refl X.Wg w) hwg (bk_one (.inr rfl)) (tag' := .sp r 2) (.on ⟨hr, by omega⟩ hk) rfl rfl (hmode.reopen trivial trivial rfl (by simp)) (.inl (by simp only [phi]; omega)))
      · obtain ⟨_, a', child, hsp, hwk0, hnext⟩ := hs
        obtain ⟨m₂, hwk⟩ := hwk0 hcom.pay.1
        obtain ⟨ho', rfl, rfl, _⟩ := hmode.open_inv trivial
        have hrun' := runT_crowd_spawn (P := X.P) (sl := sl) (i := 0) ha (by simpa using hsp)
        rw [hcom.size, hJ] at hrun'
        have hcom' := hcom.spawn O (by omega) (a' := a') (x := { g := 0, fn := a.frame.fn, pos := a.frame.place, act := .go (X.N - (r + 1) + 1) }) (y := { g := X.N - (r + 1) + 1, fn := child.frame.fn, pos := a.frame.place, act := .start }) ⟨rfl, rfl⟩ ⟨rfl, rfl⟩ hwk
        have eV : Vc (X.N - (r + 1) + 1) (upd D (X.N - (r + 1)) ⟨7, m₂, 0⟩) = Vc (X.N - (r + 1)) D + 1 := by
          simp only [Vc, sumTo, upd_same]
          rw [sumTo_upd_out D _ cnt (Nat.le_refl _)]; rfl
        have eS : Ssum (X.N - (r + 1) + 1) (upd D (X.N - (r + 1)) ⟨7, m₂, 0⟩) = Ssum (X.N - (r + 1)) D + 7 := by
          simp only [Ssum, sumTo, upd_same]
          rw [sumTo_upd_out D _ WD.stage (Nat.le_refl _)]
        have ho2 : OpenSt (X.N - (r + 1) + 1) (upd D (X.N - (r + 1)) ⟨7, m₂, 0⟩) := fun i hi => by
          by_cases e : i = X.N - (r + 1)
          · subst e; rw [upd_same]; simp
          · rw [upd_ne D _ e]; exact ho' i (by rw [hJ]; omega)
        have ha' : ((gs.setIfInBounds 0 a').push child)[0]? = some a' := by
          rw [Array.getElem?_push_lt (by simp [hcom.size]), ← Array.getElem?_eq_getElem]
          simp [hcom.size]
        have ej : X.N - (r + 1) + 1 = X.N - r := by omega
        rw [hJ] at hcom' hwg
        rw [ej] at hrun' hcom' eV eS ho2
        have est : ∀ tag', pend tag' = 0 → ((Vc (X.N - (r + 1)) D + pend (.sp r 2) : Nat) : Int) * KK = ((Vc (X.N - r) (upd D (X.N - (r + 1)) ⟨7, m₂, 0⟩) + pend tag' : Nat) : Int) * KK := fun tag' hp => by rw [eV, hp]; simp [pend]
        cases r with
        | zero =>
          obtain ⟨m₃, hk⟩ := hnext
          simp only [Nat.sub_zero] at hrun' hcom' eV eS ho2 est
          refine .inr ⟨_, _, (phi X.N (Vc X.N (upd D (X.N - (0 + 1)) ⟨7, m₂, 0⟩)) .kd + Ssum X.N (upd D (X.N - (0 + 1)) ⟨7, m₂, 0⟩), m₃ + 2 * Fsum X.N (upd D (X.N - (0 + 1)) ⟨7, m₂, 0⟩)), hrun', Prod.Lex.left _ _ (by simp only [phi, hJ]; omega),
            _, w, sl, _, .kd, m₃, a', _, _, rfl, ha', .on (tag := .kd) trivial hk, hcom', hwg, ?_, rfl⟩
          rw [est .kd rfl]
          exact .opn trivial ho2 (by simp)
        | succ r' =>
          obtain ⟨m₃, hk⟩ := hnext
          refine .inr ⟨_, _, (phi X.N (Vc (X.N - (r' + 1)) (upd D (X.N - (r' + 1 + 1)) ⟨7, m₂, 0⟩)) (.sp r' 5) + Ssum (X.N - (r' + 1)) (upd D (X.N - (r' + 1 + 1)) ⟨7, m₂, 0⟩), m₃ + 2 * Fsum (X.N - (r' + 1)) (upd D (X.N - (r' + 1 + 1)) ⟨7, m₂, 0⟩)), hrun', Prod.Lex.left _ _ (by simp only [phi, hJ]; omega),
            _, w, sl, _, .sp r' 5, m₃, a', _, _, rfl, ha', .on (tag := .sp r' 5) ⟨by omega, by omega⟩ hk, hcom', hwg, ?_, rfl⟩
          rw [est (.sp r' 5) rfl]
          exact .opn trivial ho2 (by simp)
    | kd =>
      obtain ⟨_, a', hgo, m₂, hk⟩ := hs
      exact .inr (bookC' O ha hcom hgo (.refl X.Wg w) hwg (bk_one (.inl rfl)) (tag' := .anch) (.on trivial hk) rfl rfl (hmode.reopen trivial trivial rfl (by simp)) (.inl (by simp only [phi, cntOf] at *; omega)))
    | anch =>
      obtain ⟨m₂, hk⟩ := hAn a w hs
      obtain ⟨m₁, ops, μ', h1, h2, h3⟩ := w1G (sl := sl) O ha hcom hwg (hmode.reopen trivial trivial rfl (by simp)) hk
      exact .inr ⟨m₁, ops, μ', h1, lt2_trans h2 (Prod.Lex.left _ _ (by simp only [phi, cntOf]; omega)), h3⟩
    | w1 => exact .inr (w1G O ha hcom hwg hmode h)
    | w2 vs =>
      obtain ⟨_, hall⟩ := hs
      obtain ⟨ho', rfl, rfl, hw2⟩ := hmode.open_inv trivial
      obtain ⟨hle, h1⟩ := hw2 vs rfl
      simp only [cntOf] at hle hVj hwg
      obtain ⟨hhit, hmiss⟩ := hall (Vc X.N D) (by omega) (by simpa [pend] using hwg)
      by_cases e : Vc X.N D = vs
      · obtain ⟨a', hgo, m₂, hk⟩ := hhit e
        exact .inr (bookC' (tag := .w2 vs) O ha hcom hgo (aside_setCell w (stA X.Wg) _) (hwg.setSt _) bk_rw (tag' := .w3) (.on trivial hk) rfl rfl (.reg trivial ho' (by simp only [cntOf]; omega)) (.inl (by simp only [phi]; omega)))
      · obtain ⟨a', hgo, m₂, hk⟩ := hmiss e
        exact .inr (bookC' (tag := .w2 vs) O ha hcom hgo (.refl X.Wg w) hwg bk_rd (tag' := .anch) (.on trivial hk) rfl rfl (hmode.reopen trivial trivial rfl (by simp)) (.inl (by simp only [phi, cntOf]; omega)))
    | w3 =>
      obtain ⟨_, hoff, hblk, htake⟩ := hs
      cases hmode with
      | opn h1 _ _ => exact h1.elim
      | reg h1 h2 h3 => exact .inr (bookC' (tag := .w3) O ha hcom (hblk ⟨_, hwg⟩) (.refl X.Wg w) hwg (by simp) (tag' := .blk) (.blk hstop) rfl rfl (.reg trivial h2 h3) (.inr ⟨rfl, by simp [extra]⟩))
      | last L h1 h2 h3 h4 => exact .inr (bookC' (tag := .w3) O ha hcom (hblk ⟨_, hwg⟩) (.refl X.Wg w) hwg (by simp) (tag' := .blk) (.blk hstop) rfl rfl (.last L trivial h2 h3 h4) (.inr ⟨rfl, by simp [extra]⟩))
      | sema h2 =>
        obtain ⟨a', hgo, m₂, hk⟩ := htake hwg
        exact .inr (bookC' (tag := .w3) O ha hcom hgo (aside_setCell w (smA X.Wg) _) (hwg.setSm 0) bk_sem (tag' := .w4) (.on trivial hk) rfl (by simp [deafOf, deafBehind, semEvents]) (.fin trivial h2) (.inl (by simp only [phi]; omega)))
      | fin h1 _ => exact h1.elim
    | w4 =>
      obtain ⟨_, hx⟩ := hs
      obtain ⟨hq, rfl, rfl⟩ := hmode.fin_inv trivial
      obtain ⟨a', hgo, m₂, hk⟩ := hx hwg
      exact .inr (bookC' (tag := .w4) O ha hcom hgo (.refl X.Wg w) hwg bk_rd (tag' := .ke) (.on trivial hk) rfl rfl (.fin trivial hq) (.inl (by simp only [phi]; omega)))
    | ke =>
      obtain ⟨_, a', hgo, m₂, hk⟩ := hs
      obtain ⟨hq, rfl, rfl⟩ := hmode.fin_inv trivial
      exact .inr (bookC' (tag := .ke) O ha hcom hgo (.refl X.Wg w) hwg (bk_one (.inr rfl)) (tag' := .acq) (.on trivial hk) rfl rfl (.fin trivial hq) (.inl (by simp only [phi]; omega)))
    | acq =>
      obtain ⟨_, a', hgo, hfin⟩ := hs
      obtain ⟨hq, rfl, rfl⟩ := hmode.fin_inv trivial
      have hrun' := runT_crowd_go (P := X.P) (sl := sl) (i := 0) ha (by simpa using hgo)
      have hcom0 : Cm X X.N gs w t D 0 := hcom
      have hne : ∀ e ∈ #[mk (.acquire (stA X.Wg))], (MemAct.ofEvent e).touch? = none := by intro e he; simp at he; subst he; rfl
      have hcom' := hcom0.step0 O (w' := w) (a := a) (a' := a') (fn := a.frame.fn) (pos := a.frame.place) (es := #[mk (.acquire (stA X.Wg))]) (fun _ _ _ => RL.refl w)
        (fun op hop => by
          rw [ofEvents_eq] at hop
          obtain ⟨e, he, rfl⟩ := Array.mem_map.1 hop
          exact ⟨rfl, fun x hx => by rw [hne e he] at hx; cases hx⟩) (low_none hne) (by intro e he; simp at he; subst he; simp [mk]) hcom.pay
      have e1 : MemOp.ofEvents 0 a.frame.fn a.frame.place #[mk (.acquire (stA X.Wg))] = #[{ g := 0, fn := a.frame.fn, pos := a.frame.place, act := .mark (.acquire (stA X.Wg)) }] := by rw [ofEvents_eq]; simp [ofEvent_mk]
      have hy : (t ++ #[({ g := 0, fn := a.frame.fn, pos := a.frame.place, act := .mark (.acquire (stA X.Wg)) } : MemOp)])[t.size]? = some { g := 0, fn := a.frame.fn, pos := a.frame.place, act := .mark (.acquire (stA X.Wg)) } := by simp
      refine .inl ⟨_, _, hrun', _, w, sl, D, a', rfl, get_map_set_same _ _ _ (by rw [hcom.size]; omega), hfin, hcom', hq, ⟨t.size, by rw [e1, act?_of hy], by rw [e1]; simp [Trace.g?], by rw [e1]; exact ⟨0, by simp [Trace.g?], by rw [deaf_old (Nat.le_refl _)]; exact hcom0.deaf0⟩, fun i hj hi => ?_⟩, ⟨_, _, hwg⟩⟩
      obtain ⟨r, hr0, hr⟩ := hcom.rel i hj hi (by rw [hq i hi]; omega)
      exact ⟨r, hr0, hr.appOther g_of_ofEvents (by omega), lt_of_act? hr.act⟩

/-- No deadlock. -/
theorem someG (hAr : ∀ g w, Anch g w → g.status = .running) (ha : gs[0]? = some a) (hcs : CS X Fin Anch tag f0 a w) (hcom : Cm X (cntOf X tag) gs w t D (deafOf tag)) (hmode : ConcN.Mode (cntOf X tag) D tag st sm) :
    ∃ (i : Nat) (g : Goroutine), gs[i]? = some g ∧ g.status = .running := by
  rcases hcs.status hAr with ⟨hs, _⟩ | ⟨_, rfl⟩
  · exact ⟨0, a, ha, hs⟩
  · cases hmode with
    | opn h1 _ _ => exact h1.elim
    | reg _ _ h3 =>
      obtain ⟨i, hi, h5⟩ := exists_counted h3
      obtain ⟨g, hg, hs⟩ := hcom.wk i hi
      exact ⟨i + 1, g, hg, hs.running (by omega)⟩
    | last L _ h2 h3 _ =>
      obtain ⟨g, hg, hs⟩ := hcom.wk L h2
      exact ⟨L + 1, g, hg, hs.running (by omega)⟩
    | fin h1 _ => exact h1.elim
theorem awakeG (hAr : ∀ g w, Anch g w → g.status = .running) (ha : gs[0]? = some a) (hcs : CS X Fin Anch tag f0 a w) (hcom : Cm X (cntOf X tag) gs w t D (deafOf tag)) : ∀ g ∈ gs, awake g := by
  intro g hg tm
  obtain ⟨i, hi⟩ := Array.mem_iff_getElem?.1 hg
  cases i with
  | zero =>
    rw [ha] at hi; cases hi
    rcases hcs.status hAr with ⟨hs, _⟩ | ⟨hs, _⟩ <;> rw [hs] <;> simp
  | succ i =>
    have hlt : i < cntOf X tag := by have := (Array.getElem?_eq_some_iff.1 hi).1; rw [hcom.size] at this; omega
    obtain ⟨g', hg', hs⟩ := hcom.wk i hlt
    rw [hi] at hg'; cases hg'
    rcases hs.status with h | h <;> rw [h] <;> simp
end

theorem gStep {X : Ph} {Fin Anch : Goroutine → World → Prop} (O : X.Ok) (hAr : ∀ g w, Anch g w → g.status = .running) (hAn : ∀ g w, Anch g w → thenJ X X.N (w1K X Fin Anch) g w) :
    ∀ μ m t, InvG X Fin Anch μ m t → (∃ m' ops, stepT X.P m = (.next m', ops) ∧ joined X Fin m' (t ++ ops)) ∨ (∃ m' ops μ', stepT X.P m = (.next m', ops) ∧ Lt2 μ' μ ∧ InvG X Fin Anch μ' m' (t ++ ops)) := by
  rintro μ m t ⟨gs, w, sl, D, tag, f0, a, st, sm, rfl, ha, hcs, hcom, hwg, hmode, rfl⟩
  obtain ⟨i, g, d, sl', hg, hrun, hstep⟩ := crowd_pick (P := X.P) (w := w) (sl := sl) (awakeG hAr ha hcs hcom) (someG hAr ha hcs hcom hmode)
  rw [hstep]
  have hcs' := hcs.rely (RC.at w d)
  have hcom' := hcom.at O d
  have hwg' : WgAt X.ty X.Wg (w.at d) st sm := hwg
  cases i with
  | zero =>
    rw [ha] at hg; cases hg
    exact stepC (sl := sl') O hAn ha hcs' hcom' hwg' hmode hrun
  | succ i =>
    have hi : i < cntOf X tag := by have := (Array.getElem?_eq_some_iff.1 hg).1; rw [hcom.size] at this; omega
    exact .inr (stepW O hAr ha hcs' hcom' hwg' hmode hi hg hrun)

/-- To the place behind the join, on every tape. -/
theorem gRun {X : Ph} {Fin Anch : Goroutine → World → Prop} (O : X.Ok) (hAr : ∀ g w, Anch g w → g.status = .running) (hAn : ∀ g w, Anch g w → thenJ X X.N (w1K X Fin Anch) g w) :
    ∀ (μ : Nat × Nat) (m : Machine) (t : Trace), InvG X Fin Anch μ m t → ∃ K m' t', runNT X.P K m t = (.next m', t') ∧ joined X Fin m' t' := by
  intro μ
  induction μ using (Prod.lex Nat.lt_wfRel Nat.lt_wfRel).wf.induction with
  | _ μ ih =>
    intro m t h
    rcases gStep O hAr hAn μ m t h with ⟨m', ops, hs, hj⟩ | ⟨m', ops, μ', hs, hlt, hi⟩
    · exact ⟨1, m', t ++ ops, by simp [runNT, hs], hj⟩
    · obtain ⟨K, m'', t'', hr, hj⟩ := ih μ' hlt m' _ hi
      exact ⟨K + 1, m'', t'', by rw [runNT_succ_next hs]; exact hr, hj⟩
end Go.Proofs.Ytehmobcfbifocaa
