/-
  A region that draws its order, whose own operations only read slots and whose callees hand back one value each and write nothing that lay before: one walk, in the order of the text. The class of worlds: those in which what lay in w lies as it lay. Nothing of the program.
-/
import Derived.Deep.QuietTactic
import Derived.BigQuiet
import Derived.Below
import Derived.OwnWalkIn
namespace Go.Proofs.YtghfmoanpgaijaaDoor
open Go Go.RowKit

/-- A world that has come of w with nothing of w written. -/
structure After (w : World) where
  now : World
  ok : Below w.heap.size w now
instance (w : World) : Nonempty (After w) := ⟨⟨w, Below.refl _ _⟩⟩

theorem wp_region_below {P : Program} {id : Nat} {Q : Exit → Act → World → Prop} {a : Act} {W : World} {l : List Oper} (w : World) (hm : P.follows .mixedOrders = true) (hB : Region.lexB .any l.toArray = true) (hW : Below w.heap.size w W)
    (h : wpQuiet P l.toArray (fun w' => ∃ n : After w, w' = n.now) (fun a' => ∀ w', (∃ n : After w, w' = n.now) → Q .normal a' w') l a) : (Code.region id l.toArray true).wp P Q a W :=
  wp_region_quiet (C := fun w' => ∃ n : After w, w' = n.now) hm hB ⟨⟨_, hW.drew⟩, rfl⟩ (by simpa using h)
theorem after_of {P : Program} {f : FuncId} {args : Array Value} {w : World} {n : After w} {v : Value}
    (h : Calls P f args n.now fun e w' => e = .returned v ∧ Below n.now.heap.size n.now w') : Calls P f args n.now fun e w'' => e = .returned v ∧ ∃ m : After w, w'' = m.now :=
  h.mono fun _ w' ⟨he, hb⟩ => ⟨he, ⟨w', n.ok.trans (hb.mono n.ok.size)⟩, rfl⟩
theorem after_of_same {P : Program} {f : FuncId} {args : Array Value} {w : World} {n : After w} {v : Value}
    (h : Calls P f args n.now fun e w' => e = .returned v ∧ n.now = w') : Calls P f args n.now fun e w'' => e = .returned v ∧ ∃ m : After w, w'' = m.now :=
  h.mono fun _ _ ⟨he, hb⟩ => ⟨he, n, hb.symm⟩
end Go.Proofs.YtghfmoanpgaijaaDoor
