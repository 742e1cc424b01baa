/-
  The starter of sumInLots: the loop that starts the workers, and the way into Wait.
-/
import Derived.Test.YtehmobcfbifocaaStartZ
import Derived.Test.YtehmobcfbifocaaGang8
import Derived.Test.YtehmobcfbifocaaGang7
import Derived.Conc.CrowdMono
namespace Go.Proofs.Ytehmobcfbifocaa
open Go Go.Conc Go.ConcN Go.RowKit Go.Conc.Lib Go.ConcR.Gen Go.ConcN.Gen
open Go.ConcR (KK wgBlock WgAt stA smA rd wr mk Payload Aside2 DC0 ofEvent_cell)

/-! ### the script under weaker stops -/
section
variable [Payload] {X : Ph} {Fin Fin' Anch Anch' : Goroutine → World → Prop} {g : Goroutine} {w : World} {J : Nat}
omit [Payload] in
theorem thenJ_mono {K K' : Goroutine → World → Prop} (h : ∀ g w, K g w → K' g w) (hk : thenJ X J K g w) : thenJ X J K' g w := let ⟨m, x⟩ := hk; ⟨m, goes_mono h x⟩
omit [Payload] in
theorem sayK_mono {e : Event} {K K' : Goroutine → World → Prop} (h : ∀ g w, K g w → K' g w) (hk : sayK X e K g w) : sayK X e K' g w := let ⟨a, g', b, c⟩ := hk; ⟨a, g', b, h _ _ c⟩
omit [Payload] in
theorem enK_mono (hF : ∀ g w, Fin g w → Fin' g w) (hk : enK X Fin g w) : enK X Fin' g w := sayK_mono (fun _ _ h => thenJ_mono (fun _ _ h => sayK_mono hF h) h) hk
omit [Payload] in
theorem w4K_mono (hF : ∀ g w, Fin g w → Fin' g w) (hk : w4K X Fin g w) : w4K X Fin' g w := ⟨hk.1, fun h => let ⟨g', a, b⟩ := hk.2 h; ⟨g', a, thenJ_mono (fun _ _ h => enK_mono hF h) b⟩⟩
omit [Payload] in
theorem w3K_mono (hF : ∀ g w, Fin g w → Fin' g w) (hk : w3K X Fin g w) : w3K X Fin' g w :=
  ⟨hk.1, hk.2.1, hk.2.2.1, fun h => let ⟨g', a, b⟩ := hk.2.2.2 h; ⟨g', a, thenJ_mono (fun _ _ h => w4K_mono hF h) b⟩⟩
omit [Payload] in
theorem w2K_mono (hF : ∀ g w, Fin g w → Fin' g w) (hA : ∀ g w, Anch g w → Anch' g w) {vs : Nat} (hk : w2K X Fin Anch vs g w) : w2K X Fin' Anch' vs g w :=
  ⟨hk.1, fun v hv h => ⟨fun e => let ⟨g', a, b⟩ := (hk.2 v hv h).1 e; ⟨g', a, thenJ_mono (fun _ _ h => w3K_mono hF h) b⟩, fun e => let ⟨g', a, b⟩ := (hk.2 v hv h).2 e; ⟨g', a, thenJ_mono hA b⟩⟩⟩
omit [Payload] in
theorem w1K_mono (hF : ∀ g w, Fin g w → Fin' g w) (hA : ∀ g w, Anch g w → Anch' g w) (hk : w1K X Fin Anch g w) : w1K X Fin' Anch' g w :=
  ⟨hk.1, fun v hv h => let ⟨g', a, b, c⟩ := hk.2 v hv h; ⟨g', a, fun e => thenJ_mono (fun _ _ h => enK_mono hF h) (b e), fun e => thenJ_mono (fun _ _ h => w2K_mono hF hA h) (c e)⟩⟩
end

/-! ### the code -/
noncomputable def L39 : Code := firstLoop (Try.f39.body.getD .skip)
def lastPart : Code → Code
  | .seq _ (.seq _ (.seq _ c)) => c
  | _ => .skip
noncomputable def R39 : Code := lastPart (Try.f39.body.getD .skip)
def opsOf : Code → Array Oper
  | .region _ ops _ => ops
  | _ => #[]
noncomputable def ops39 : Array Oper := opsOf R39

section
variable (S : StP) (W : World) (cs : List Frame)
abbrev pp (b : Nat) : Value := .pointer (some ⟨b, 0, none⟩)
/-- The temporaries, k lots being started. -/
abbrev T39 (k : Nat) (t8 t9 t10 t11 t12 t13 t14 t15 t16 t17 : Value) : Array Value :=
  #[.slice (some ⟨S.C, 0, none⟩) S.n S.capC, .slice (some ⟨S.Bb, 0, none⟩) S.n S.capB, .int .i64 S.by', pp S.N0, pp (S.N0 + 1), pp (S.N0 + 2), pp (S.N0 + 3), pp (S.N0 + 4 + k), t8, t9, t10, t11, t12, t13, t14, t15, t16, t17]
/-- The frame that waits. -/
noncomputable abbrev fr39 (t8 t9 t10 t11 t12 t13 t14 t15 t16 t17 : Value) : Frame := (base 39).at ⟨T39 S S.lots t8 t9 t10 t11 t12 t13 t14 t15 t16 t17, []⟩ (.inRegion ops39 (0 :: []) :: [])
def Anch39 (g : Goroutine) (w : World) : Prop := ∃ t8 t9 t10 t11 t12 t13 t14 t15 t16 t17, AnchWN wgl (SF S W S.lots) (S.N0 + 3) (fr39 S t8 t9 t10 t11 t12 t13 t14 t15 t16 t17) cs g w
def Fin39 (g : Goroutine) (w : World) : Prop := ∃ t8 t9 t10 t11 t12 t13 t14 t15 t16 t17,
  finW Try.prog (SF S W S.lots) (G ((base 39).at ((⟨T39 S S.lots t8 t9 t10 t11 t12 t13 t14 t15 t16 t17, []⟩ : Act).put ((ops39[0]?).bind (·.dst)) (.tuple #[])) (.inRegion ops39 [] :: [])) cs) g w
end

section
variable {S : StP} {W w w₁ : World} {k : Nat} {cs : List Frame}
theorem sf2 (F : S.Fit) : ∀ w w', Aside2 S.ph.C S.ph.Wg w w' → SF S W k w → SF S W k w' := fun _ _ ha h => h.aside2 F ha
theorem anch_round (F : S.Fit) (g : Goroutine) (w : World) (h : Anch39 S W cs g w) : thenJ S.ph S.ph.N (w1K S.ph (Fin39 S W cs) (Anch39 S W cs)) g w := by
  obtain ⟨t8, t9, t10, t11, t12, t13, t14, t15, t16, t17, h⟩ := h
  exact thenJ_mono (fun _ _ h => w1K_mono (fun _ _ h => ⟨t8, t9, t10, t11, t12, t13, t14, t15, t16, t17, h⟩) (fun _ _ h => ⟨t8, t9, t10, t11, t12, t13, t14, t15, t16, t17, h⟩) h)
    (wait_round (X := S.ph) (L := wgl) (F := SF S W S.lots) wgLib rfl (sf2 F) g w h)
theorem anch_run (g : Goroutine) (w : World) (h : Anch39 S W cs g w) : g.status = .running := by
  obtain ⟨t8, t9, t10, t11, t12, t13, t14, t15, t16, t17, T, rfl, _⟩ := h
  rfl
end
end Go.Proofs.Ytehmobcfbifocaa
