/-
  Workers that a function starts under one sync.WaitGroup, each of which writes a lot of cells of one block, beside goroutines of before that only leave: what is asked of each, and where each stands. Nothing of a program.
-/
import Derived.Conc.WgGenN2
import Derived.Conc.Beside
namespace Go.Proofs.Ytehmobcfbifocaa
open Go Go.Conc Go.ConcN
open Go.ConcR (KK wgBlock WgAt stA smA rd wr mk Payload Aside2 DC0 Bk g_of_ofEvents loc_of_ofEvent)

/-- What stays fixed in a phase: j0 goroutines (but goroutine 0) of before, n workers to start; worker i (goroutine i + 1) writes the cells of its lot in block C. -/
structure Ph where
  P : Program
  ty : TypeId
  Wg : Nat
  C : Nat
  nC : Nat
  j0 : Nat
  n : Nat
  B : Nat
  t0 : Nat
  Low : Nat → Nat
  lot : Nat → Nat → Prop
  rep : Nat → Nat
  val : Nat → Value
  Own : Nat → Loc → Prop
  Rd : Nat → Loc → Prop
  ShA : Loc → Prop
  Bad : Loc → Prop
/-- How many goroutines there are in the end, but goroutine 0. -/
def Ph.N (X : Ph) : Nat := X.j0 + X.n

structure Ph.Ok (X : Ph) : Prop where
  rep : ∀ i, X.j0 ≤ i → i < X.N → X.lot i (X.rep i)
  disj : ∀ i i' o, X.j0 ≤ i → X.j0 ≤ i' → X.lot i o → X.lot i' o → i = i'
  apart : Apart X.ShA X.Own X.Rd
  old : ∀ k, k ≤ X.j0 → ∀ l, ¬ X.Own k l ∧ ¬ X.Rd k l
  sh : ∀ l, ShN X.Wg l → X.ShA l
  bad : ∀ l, X.ShA l → ¬ ShN X.Wg l → X.Bad l
  lowO : ∀ k l, X.Own k l → l.low X.B
  lowR : ∀ k l, X.Rd k l → l.low X.B
  lowW : X.Wg < X.B
  lowB : ∀ l, ¬ X.Bad l → l.low X.B
  mono : ∀ a b, a ≤ b → X.Low a ≤ X.Low b
  hW : X.Wg < X.Low X.j0
  hC : X.C < X.Low X.j0
  hCW : X.C ≠ X.Wg
  hN : X.N < 2147483648

variable [Payload]

/-! ### a worker -/
/-- What worker i suffers. -/
structure RL (X : Ph) (i : Nat) (w w₁ : World) : Prop where
  low : ∀ b, b < X.Low (i + 1) → b ≠ X.Wg → b ≠ X.C → w₁.heap[b]? = w.heap[b]?
  live : WgLive X.ty X.Wg w → WgLive X.ty X.Wg w₁
  pay : PayAt X.C X.nC w → PayAt X.C X.nC w₁
  cells : ∀ o, X.lot i o → w₁.cell? ⟨X.C, o, none⟩ = w.cell? ⟨X.C, o, none⟩
/-- What worker i does while it works: the cells of its lot alone turn. -/
structure AL (X : Ph) (i : Nat) (w w' : World) : Prop where
  tape : w'.tape = w.tape
  os : w'.os = w.os
  output : w'.output = w.output
  size : w'.heap.size = w.heap.size
  block : ∀ b, b ≠ X.C → w'.heap[b]? = w.heap[b]?
  pay : PayAt X.C X.nC w → PayAt X.C X.nC w'
  cells : ∀ o, ¬ X.lot i o → w'.cell? ⟨X.C, o, none⟩ = w.cell? ⟨X.C, o, none⟩
/-- It touches memory plainly, but for the group. -/
def plainE (Wg : Nat) (e : Event) : Prop := ∀ x, (MemAct.ofEvent e).touch? = some x → ¬ ShN Wg x.loc → x.kind = .plain ∧ x.loc.isMemory = true
def DL (X : Ph) (i : Nat) (w w' : World) (es : Array Event) : Prop := AL X i w w' ∧ ∀ e ∈ es, EvW X.Wg X.Own X.Rd (i + 1) e ∧ plainE X.Wg e
/-- It is about to say that it is done, its lot being written. -/
def atRel (X : Ph) (i : Nat) (g : Goroutine) (w : World) : Prop :=
  AtR0 X.P X.ty X.Wg X.C X.nC (X.Low (i + 1)) (X.rep i + 1) (X.val (X.rep i)) g w ∧ ∀ o, X.lot i o → Has X.C o (X.val o) w
/-- Its whole way. -/
def worksG (X : Ph) (i : Nat) (g : Goroutine) (w : World) : Prop := ∃ m, Goes X.P false (RL X i) (DL X i) (atRel X i) m g w
/-- Where it stands: stage, fuel, deafness. -/
inductive GS (X : Ph) (i : Nat) : Nat → Nat → Nat → Goroutine → World → Prop
  | work {m : Nat} {g : Goroutine} {w : World} : X.j0 ≤ i → Goes X.P false (RL X i) (DL X i) (atRel X i) m g w → GS X i 7 m 0 g w
  | sync {s m d : Nat} {g : Goroutine} {w : World} : X.j0 ≤ i → 2 ≤ s → s ≤ 6 → WSit X.P X.ty X.Wg X.C X.nC X.Own X.Rd (X.Low (i + 1)) (X.rep i + 1) (X.val (X.rep i)) s m d g w → GS X i s m d g w
  | quit {q d : Nat} {g : Goroutine} {w : World} : QuitsD X.P q d g → GS X i 1 q d g w

/-- The payload's block, and its cells that are nobody's: as ever. -/
def PayF (X : Ph) (w : World) : Prop := PayAt X.C X.nC w ∧ ∀ o, o < X.nC → (∀ i, X.j0 ≤ i → ¬ X.lot i o) → Has X.C o (X.val o) w
theorem PayF.block {X : Ph} {w w' : World} (h : PayF X w) (hb : w'.heap[X.C]? = w.heap[X.C]?) : PayF X w' :=
  let ⟨⟨cs, h1, h2⟩, h3⟩ := h
  ⟨⟨cs, hb.trans h1, h2⟩, fun o a b => (cell_of_block hb o).trans (h3 o a b)⟩
theorem PayF.work {X : Ph} {i : Nat} {w w' : World} (h : PayF X w) (hi : X.j0 ≤ i) (ha : AL X i w w') : PayF X w' := ⟨ha.pay h.1, fun o a b => (ha.cells o (b i hi)).trans (h.2 o a b)⟩

section
variable {X : Ph} {i : Nat} {w w₁ w₂ : World}
theorem RL.refl (w : World) : RL X i w w := ⟨fun _ _ _ _ => rfl, id, id, fun _ _ => rfl⟩
theorem RL.trans (h : RL X i w w₁) (h' : RL X i w₁ w₂) : RL X i w w₂ :=
  ⟨fun b a c d => (h'.low b a c d).trans (h.low b a c d), h'.live ∘ h.live, h'.pay ∘ h.pay, fun o ho => (h'.cells o ho).trans (h.cells o ho)⟩
theorem RL.at (w : World) (d : Nat) : RL X i w (w.at d) := ⟨fun _ _ _ _ => rfl, id, id, fun _ _ => rfl⟩
theorem RL.rw (O : X.Ok) (hi : X.j0 ≤ i) (hi' : i < X.N) (h : RL X i w w₁) : RW X.ty X.Wg X.C X.nC (X.Low (i + 1)) (X.rep i) w w₁ := ⟨h.low, h.live, h.pay, h.cells _ (O.rep i hi hi')⟩
/-- Another worker's writes. -/
theorem RL.of_other (O : X.Ok) {i' : Nat} (hi : X.j0 ≤ i) (hi' : X.j0 ≤ i') (h : AL X i' w w₁) (hne : i ≠ i') : RL X i w w₁ :=
  ⟨fun b _ _ hb => h.block b hb, fun ⟨st, sm, hl⟩ => ⟨st, sm, hl.of_block (h.block X.Wg (Ne.symm O.hCW))⟩, h.pay, fun o ho => h.cells o fun ho' => hne (O.disj i i' o hi hi' ho ho')⟩
/-- A turn of the group's block. -/
theorem RL.of_wg (O : X.Ok) (h : Aside X.Wg w w₁) (hl : WgLive X.ty X.Wg w₁) : RL X i w w₁ :=
  ⟨fun b _ hb _ => h.block b hb, fun _ => hl, fun ⟨cs, hc, hn⟩ => ⟨cs, (h.block X.C O.hCW).trans hc, hn⟩, fun o _ => cell_of_block (h.block X.C O.hCW) o⟩
/-- A step that leaves the low blocks. -/
theorem RL.of_low {L : Nat} (h : ∀ b, b < L → w₁.heap[b]? = w.heap[b]?) (hL : X.Low (i + 1) ≤ L) (hW : X.Wg < L) (hC : X.C < L) : RL X i w w₁ :=
  ⟨fun b hb _ _ => h b (by omega), fun ⟨st, sm, hl⟩ => ⟨st, sm, hl.of_block (h X.Wg hW)⟩, fun ⟨cs, hc, hn⟩ => ⟨cs, (h X.C hC).trans hc, hn⟩, fun o _ => cell_of_block (h X.C hC) o⟩
theorem AL.refl (w : World) : AL X i w w := ⟨rfl, rfl, rfl, rfl, fun _ _ => rfl, id, fun _ _ => rfl⟩
theorem rc_of_AL (O : X.Ok) (h : AL X i w w₁) : RC X.ty X.Wg X.C w w₁ := ⟨⟨h.tape, h.os, h.output, h.size, fun k a _ => h.block k a⟩, fun ⟨st, sm, hl⟩ => ⟨st, sm, hl.of_block (h.block X.Wg (Ne.symm O.hCW))⟩⟩

variable {s m d : Nat} {g : Goroutine}
theorem GS.rely (O : X.Ok) (hi' : i < X.N) (h : GS X i s m d g w) (hr : RL X i w w₁) : GS X i s m d g w₁ := by
  cases h with
  | work hi h => exact .work hi (Goes.rely (fun _ _ _ h1 h2 => h1.trans h2) h hr)
  | sync hi h2 h6 h => exact .sync hi h2 h6 (h.rely (by simpa using hr.rw O hi hi'))
  | quit h => exact .quit h
/-- What is asked of the world is nothing where it only leaves. -/
theorem GS.quits (h : GS X i 1 m d g w) : QuitsD X.P m d g := by
  cases h with
  | sync _ h2 _ _ => omega
  | quit h => exact h
theorem GS.status (h : GS X i s m d g w) : g.status = .running ∨ g.status = .finished := by
  cases h with
  | work _ h => exact .inl (Goes.running (fun _ _ x => x.1.1) w (RL.refl w) h)
  | sync _ _ _ h => exact h.status
  | quit h => exact h.status
theorem GS.running (h : GS X i s m d g w) (hs : s ≠ 1) : g.status = .running := by
  cases h with
  | work _ h => exact Goes.running (fun _ _ x => x.1.1) w (RL.refl w) h
  | sync _ _ _ h => exact h.running_of hs
  | quit _ => exact absurd rfl hs
theorem GS.woken (h : GS X i s m d g w) (a a' : Goroutine) (w' : World) : woken X.P a a' w' g = g := by
  unfold Go.Conc.woken
  split
  · exact again_running _ h.status
  · rfl
end

/-! ### the starter -/
section
variable (X : Ph)
def ownX : Nat → Loc → Prop
  | 0, _ => False
  | 1, l => X.Bad l
  | k + 2, l => X.Own (k + 1) l
def rdX : Nat → Loc → Prop
  | 0, _ => False
  | 1, _ => False
  | k + 2, l => X.Rd (k + 1) l
/-- Its way on, J goroutines being started, to a stop. -/
def GP (J : Nat) (K : Goroutine → World → Prop) (m : Nat) (g : Goroutine) (w : World) : Prop :=
  Goes X.P true (RC X.ty X.Wg X.C) (DP X.Wg (ownX X) (rdX X) (J + 1) (X.Low J)) K m g w
def thenJ (J : Nat) (K : Goroutine → World → Prop) (g : Goroutine) (w : World) : Prop := ∃ m, GP X J K m g w
/-- It says something, and the world stands. -/
def sayK (e : Event) (K : Goroutine → World → Prop) (g : Goroutine) (w : World) : Prop :=
  g.status = .running ∧ ∃ g', stepG X.P true g w = .go g' w #[e] ∧ K g' w
/-- The group's count is raised by one, whatever it is. -/
def addK (K : Goroutine → World → Prop) (g : Goroutine) (w : World) : Prop :=
  g.status = .running ∧ ∀ v : Nat, v < 2147483647 → WgAt X.ty X.Wg w (v * KK) 0 →
    ∃ g', stepG X.P true g w = .go g' (w.setCell (stA X.Wg) (.int .u64 ((v + 1) * KK))) #[rd (stA X.Wg), wr (stA X.Wg)] ∧ K g' (w.setCell (stA X.Wg) (.int .u64 ((v + 1) * KK)))
/-- Worker i is started. -/
def goK (i : Nat) (K : Goroutine → World → Prop) (g : Goroutine) (w : World) : Prop :=
  g.status = .running ∧ ∃ g' child, stepG X.P true g w = .spawn g' child w #[] ∧ (PayAt X.C X.nC w → worksG X i child w) ∧ K g' w
variable (Fin Anch : Goroutine → World → Prop)
def acqK : Goroutine → World → Prop := sayK X (mk (.acquire (stA X.Wg))) Fin
def enK : Goroutine → World → Prop := sayK X (mk .enable) (thenJ X X.N (acqK X Fin))
def w4K (g : Goroutine) (w : World) : Prop :=
  g.status = .running ∧ (WgAt X.ty X.Wg w 0 0 → ∃ g', stepG X.P true g w = .go g' w #[rd (stA X.Wg)] ∧ thenJ X X.N (enK X Fin) g' w)
def w3K (g : Goroutine) (w : World) : Prop :=
  g.status = .running ∧ g.offers = none ∧ ((∃ st, WgAt X.ty X.Wg w st 0) → stepG X.P true g w = .go { g with status := .blocked } w #[]) ∧
    (WgAt X.ty X.Wg w 0 1 → ∃ g', stepG X.P true g w = .go g' (w.setCell (smA X.Wg) (.int .u32 0)) (semEvents (smA X.Wg)) ∧ thenJ X X.N (w4K X Fin) g' (w.setCell (smA X.Wg) (.int .u32 0)))
def w2K (vs : Nat) (g : Goroutine) (w : World) : Prop :=
  g.status = .running ∧ ∀ v : Nat, v < 2147483648 → WgAt X.ty X.Wg w (v * KK) 0 →
    (v = vs → ∃ g', stepG X.P true g w = .go g' (w.setCell (stA X.Wg) (.int .u64 (v * KK + 1))) #[rd (stA X.Wg), wr (stA X.Wg)] ∧ thenJ X X.N (w3K X Fin) g' (w.setCell (stA X.Wg) (.int .u64 (v * KK + 1)))) ∧
    (v ≠ vs → ∃ g', stepG X.P true g w = .go g' w #[rd (stA X.Wg)] ∧ thenJ X X.N Anch g' w)
def w1K (g : Goroutine) (w : World) : Prop :=
  g.status = .running ∧ ∀ v : Nat, v < 2147483648 → WgAt X.ty X.Wg w (v * KK) 0 →
    ∃ g', stepG X.P true g w = .go g' w #[rd (stA X.Wg)] ∧ (v = 0 → thenJ X X.N (enK X Fin) g' w) ∧ (v ≠ 0 → thenJ X X.N (w2K X Fin Anch v) g' w)
def kdK : Goroutine → World → Prop := sayK X (mk .disable) (thenJ X X.N Anch)
/-- The starter's whole way: r workers are still to be started. -/
def script : Nat → Goroutine → World → Prop
  | 0 => thenJ X X.N (kdK X Anch)
  | r + 1 => thenJ X (X.N - (r + 1)) (sayK X (mk .disable) (thenJ X (X.N - (r + 1)) (addK X (thenJ X (X.N - (r + 1)) (sayK X (mk .enable) (thenJ X (X.N - (r + 1)) (goK X (X.N - (r + 1)) (script r))))))))
/-- What it is on its way to. -/
def stopOf : CTag → Goroutine → World → Prop
  | .sp r 5 => sayK X (mk .disable) (thenJ X (X.N - (r + 1)) (addK X (thenJ X (X.N - (r + 1)) (sayK X (mk .enable) (thenJ X (X.N - (r + 1)) (goK X (X.N - (r + 1)) (script X Anch r)))))))
  | .sp r 4 => addK X (thenJ X (X.N - (r + 1)) (sayK X (mk .enable) (thenJ X (X.N - (r + 1)) (goK X (X.N - (r + 1)) (script X Anch r)))))
  | .sp r 3 => sayK X (mk .enable) (thenJ X (X.N - (r + 1)) (goK X (X.N - (r + 1)) (script X Anch r)))
  | .sp r 2 => goK X (X.N - (r + 1)) (script X Anch r)
  | .kd => kdK X Anch
  | .anch => Anch
  | .w1 => w1K X Fin Anch
  | .w2 vs => w2K X Fin Anch vs
  | .w3 => w3K X Fin
  | .w4 => w4K X Fin
  | .ke => enK X Fin
  | .acq => acqK X Fin
  | _ => fun _ _ => False
def cntOf : CTag → Nat
  | .sp r _ => X.N - (r + 1)
  | _ => X.N
def deafOf : CTag → Nat
  | .sp _ s => if s = 4 ∨ s = 3 then 1 else 0
  | .kd | .acq | .ret => 0
  | _ => 1
def tagOk : CTag → Prop
  | .sp r s => r < X.n ∧ (s = 5 ∨ s = 4 ∨ s = 3 ∨ s = 2)
  | .blk | .ret => False
  | _ => True
def extra : CTag → Nat
  | .w3 => 1
  | _ => 0
inductive CS : CTag → Nat → Goroutine → World → Prop
  | on {tag : CTag} {m : Nat} {g : Goroutine} {w : World} : tagOk X tag → GP X (cntOf X tag) (stopOf X Fin Anch tag) m g w → CS tag (m + extra tag) g w
  | blk {g : Goroutine} {w : World} : (∀ w₁, RC X.ty X.Wg X.C w w₁ → w3K X Fin g w₁) → CS .blk 0 { g with status := .blocked } w
end

section
variable {X : Ph} {Fin Anch : Goroutine → World → Prop} {tag : CTag} {f : Nat} {a : Goroutine} {w w' : World}
omit [Payload] in
theorem rc_trans (x y z : World) (h : RC X.ty X.Wg X.C x y) (h' : RC X.ty X.Wg X.C y z) : RC X.ty X.Wg X.C x z := h.trans h'
theorem stop_running (hAr : ∀ g w, Anch g w → g.status = .running) : ∀ g w, stopOf X Fin Anch tag g w → g.status = .running := by
  intro g w h
  unfold stopOf at h
  split at h <;> first | exact h.1 | exact hAr _ _ h | exact h.elim
theorem CS.rely (h : CS X Fin Anch tag f a w) (hr : RC X.ty X.Wg X.C w w') : CS X Fin Anch tag f a w' := by
  cases h with
  | on ho h => exact .on ho (Goes.rely rc_trans h hr)
  | blk h => exact .blk fun w₂ h₂ => h w₂ (hr.trans h₂)
theorem CS.status (hAr : ∀ g w, Anch g w → g.status = .running) (h : CS X Fin Anch tag f a w) : (a.status = .running ∧ tag ≠ .blk) ∨ (a.status = .blocked ∧ tag = .blk) := by
  cases h with
  | on ho h => exact .inl ⟨Goes.running (stop_running hAr) w (.refl w) h, fun e => by subst e; exact ho⟩
  | blk _ => exact .inr ⟨rfl, rfl⟩
/-- Under another's step: as it stood; or, blocked, it is let try again. -/
theorem CS.woken (hAr : ∀ g w, Anch g w → g.status = .running) (h : CS X Fin Anch tag f a w) (hr : RC X.ty X.Wg X.C w w') (g g' : Goroutine) :
    ∃ tag' f', CS X Fin Anch tag' f' (woken X.P g g' w' a) w' ∧ f' ≤ f + 1 ∧ (tag' = tag ∨ (tag = .blk ∧ tag' = .w3)) ∧ (mayWake X.P g = true → g'.status = .running → tag' ≠ .blk) := by
  have h' := h.rely hr
  by_cases hc : (mayWake X.P g && g'.status != .blocked && g'.status != .waiting) = true
  · have hw : Go.Conc.woken X.P g g' w' a = a.again w' := by simp [Go.Conc.woken, hc]
    rw [hw]
    rcases h'.status hAr with ⟨hs, hne⟩ | ⟨_, rfl⟩
    · exact ⟨tag, f, by rw [again_running _ (.inl hs)]; exact h', by omega, .inl rfl, fun _ _ => hne⟩
    · cases h' with
      | on ho _ => exact ho.elim
      | blk hb =>
        have h3 := hb w' (.refl w')
        exact ⟨.w3, 0 + extra .w3, by rw [Go.ConcR.again_blocked h3.1 h3.2.1]; exact .on trivial (Goes.stop hb), by simp [extra], .inr ⟨rfl, rfl⟩, fun _ _ => by simp⟩
  · have hw : Go.Conc.woken X.P g g' w' a = a := by simp [Go.Conc.woken, hc]
    rw [hw]
    exact ⟨tag, f, h', by omega, .inl rfl, fun h1 h2 => absurd (by simp [h1, h2]) hc⟩
omit [Payload] in
theorem cnt_le : cntOf X tag ≤ X.N := by
  cases tag <;> simp only [cntOf] <;> omega
end
end Go.Proofs.Ytehmobcfbifocaa
