/-
  No cell of these rows narrows 'for every input' (looked for: loops, veiled, ifaces, maps, wideKeys, modest, calm, conditions, laid).
  DERIVED. THE GIVEN ROWS OF THIS SEAT. 10 by the template 'for every input the law returns true; each argument reads behind the call as it read before'; 0 by the template 'total and deterministic' (their statements: YtncaddoflbdlpaaTotals.lean).
  GIVEN WITH THE SEED: the statements are not yours to turn. If you find one false, say at which input.
  Laid BY PROGRAM, IN A SANDBOX (cutbox-rows.mjs): the forced cells as the released guide's own fill.sh prints them over the translation 518dc5f362f8c0ca… (all of the seat's roots in one cut). By AI agents, Wed Nov 11 2026. No macro, syntax, notation, axiom, sorry.
-/
import Derived.Test.YtncaddoflbdlpaaChecked
import GoSem.Claim
import GoSem.ClaimJoined
import GoSem.ClaimMapViews
import Derived.JoinedTies
import Derived.KernelRfl
namespace Go.Proofs.Ytncaddoflbdlpaa
/- THE CELL 'sum', in the pinned program and in every row, IS THE sha256 OF THE DUMP (.gsa) THAT YtncaddoflbdlpaaProg.lean LOADS. Nothing in Lean hashes anything: it is a label: what it is worth is what the hold of that sum in a sandbox is worth. -/
noncomputable def Try.pinned : Pinned := { name := "ytncaddoflbdlpaa", sum := "518dc5f362f8c0ca5cf14fbdb7d55f68a308a0de6bd0f4228c8e1490b597c6af", checked := Try.checked }
namespace Rows
def none {H : Type} : Left H := { results := [], args := [] }

/-- 'laws.FnRowOf': WHATEVER THE INPUT: true; the input reads as it did. -/
def fnRowOfSpec : ChangeSpec := { name := "fnRowOf", fn := fun _ => fun
  | [d] => { results := [.lit (.bool true)], args := [d] }
  | _ => none }
def fnRowOfRow : OpenClaim := { program := "ytncaddoflbdlpaa", sum := "518dc5f362f8c0ca5cf14fbdb7d55f68a308a0de6bd0f4228c8e1490b597c6af", func := "loop.example/carrytriangles/laws.FnRowOf", spec := "fnRowOf", unfollowed := true, recurses := true, apart := false }
def FnRowOfSaid : Prop := fnRowOfRow.holds Try.pinned (OpenSpec.ofChange fnRowOfSpec)

/-- ITS FALSE NEIGHBOUR: 'it returns false'. Refute it at one input. -/
def fnRowOfWrong : ChangeSpec := { name := "fnRowOf", fn := fun _ => fun
  | [d] => { results := [.lit (.bool false)], args := [d] }
  | _ => none }
def FnRowOfWrongFalsely : Prop := fnRowOfRow.holds Try.pinned (OpenSpec.ofChange fnRowOfWrong)

/-- 'laws.FnCellOf': WHATEVER THE INPUT: true; the input reads as it did. -/
def fnCellOfSpec : ChangeSpec := { name := "fnCellOf", fn := fun _ => fun
  | [d] => { results := [.lit (.bool true)], args := [d] }
  | _ => none }
def fnCellOfRow : OpenClaim := { program := "ytncaddoflbdlpaa", sum := "518dc5f362f8c0ca5cf14fbdb7d55f68a308a0de6bd0f4228c8e1490b597c6af", func := "loop.example/carrytriangles/laws.FnCellOf", spec := "fnCellOf", unfollowed := true, recurses := true, apart := false }
def FnCellOfSaid : Prop := fnCellOfRow.holds Try.pinned (OpenSpec.ofChange fnCellOfSpec)

/-- ITS FALSE NEIGHBOUR: 'it returns false'. Refute it at one input. -/
def fnCellOfWrong : ChangeSpec := { name := "fnCellOf", fn := fun _ => fun
  | [d] => { results := [.lit (.bool false)], args := [d] }
  | _ => none }
def FnCellOfWrongFalsely : Prop := fnCellOfRow.holds Try.pinned (OpenSpec.ofChange fnCellOfWrong)

/-- 'laws.FnSlopeOf': WHATEVER THE INPUT: true; the input reads as it did. -/
def fnSlopeOfSpec : ChangeSpec := { name := "fnSlopeOf", fn := fun _ => fun
  | [d] => { results := [.lit (.bool true)], args := [d] }
  | _ => none }
def fnSlopeOfRow : OpenClaim := { program := "ytncaddoflbdlpaa", sum := "518dc5f362f8c0ca5cf14fbdb7d55f68a308a0de6bd0f4228c8e1490b597c6af", func := "loop.example/carrytriangles/laws.FnSlopeOf", spec := "fnSlopeOf", unfollowed := true, recurses := true, apart := false }
def FnSlopeOfSaid : Prop := fnSlopeOfRow.holds Try.pinned (OpenSpec.ofChange fnSlopeOfSpec)

/-- ITS FALSE NEIGHBOUR: 'it returns false'. Refute it at one input. -/
def fnSlopeOfWrong : ChangeSpec := { name := "fnSlopeOf", fn := fun _ => fun
  | [d] => { results := [.lit (.bool false)], args := [d] }
  | _ => none }
def FnSlopeOfWrongFalsely : Prop := fnSlopeOfRow.holds Try.pinned (OpenSpec.ofChange fnSlopeOfWrong)

/-- 'laws.FnHeapsOf': WHATEVER THE INPUT: true; the input reads as it did. -/
def fnHeapsOfSpec : ChangeSpec := { name := "fnHeapsOf", fn := fun _ => fun
  | [d] => { results := [.lit (.bool true)], args := [d] }
  | _ => none }
def fnHeapsOfRow : OpenClaim := { program := "ytncaddoflbdlpaa", sum := "518dc5f362f8c0ca5cf14fbdb7d55f68a308a0de6bd0f4228c8e1490b597c6af", func := "loop.example/carrytriangles/laws.FnHeapsOf", spec := "fnHeapsOf", unfollowed := true, recurses := true, apart := false }
def FnHeapsOfSaid : Prop := fnHeapsOfRow.holds Try.pinned (OpenSpec.ofChange fnHeapsOfSpec)

/-- ITS FALSE NEIGHBOUR: 'it returns false'. Refute it at one input. -/
def fnHeapsOfWrong : ChangeSpec := { name := "fnHeapsOf", fn := fun _ => fun
  | [d] => { results := [.lit (.bool false)], args := [d] }
  | _ => none }
def FnHeapsOfWrongFalsely : Prop := fnHeapsOfRow.holds Try.pinned (OpenSpec.ofChange fnHeapsOfWrong)

/-- 'laws.FnTurnsOf': WHATEVER THE INPUT: true; the input reads as it did. -/
def fnTurnsOfSpec : ChangeSpec := { name := "fnTurnsOf", fn := fun _ => fun
  | [d] => { results := [.lit (.bool true)], args := [d] }
  | _ => none }
def fnTurnsOfRow : OpenClaim := { program := "ytncaddoflbdlpaa", sum := "518dc5f362f8c0ca5cf14fbdb7d55f68a308a0de6bd0f4228c8e1490b597c6af", func := "loop.example/carrytriangles/laws.FnTurnsOf", spec := "fnTurnsOf", unfollowed := true, recurses := true, apart := false }
def FnTurnsOfSaid : Prop := fnTurnsOfRow.holds Try.pinned (OpenSpec.ofChange fnTurnsOfSpec)

/-- ITS FALSE NEIGHBOUR: 'it returns false'. Refute it at one input. -/
def fnTurnsOfWrong : ChangeSpec := { name := "fnTurnsOf", fn := fun _ => fun
  | [d] => { results := [.lit (.bool false)], args := [d] }
  | _ => none }
def FnTurnsOfWrongFalsely : Prop := fnTurnsOfRow.holds Try.pinned (OpenSpec.ofChange fnTurnsOfWrong)

/-- 'laws.FnExactRowOf': WHATEVER THE INPUT: true; the input reads as it did. -/
def fnExactRowOfSpec : ChangeSpec := { name := "fnExactRowOf", fn := fun _ => fun
  | [d] => { results := [.lit (.bool true)], args := [d] }
  | _ => none }
def fnExactRowOfRow : OpenClaim := { program := "ytncaddoflbdlpaa", sum := "518dc5f362f8c0ca5cf14fbdb7d55f68a308a0de6bd0f4228c8e1490b597c6af", func := "loop.example/carrytriangles/laws.FnExactRowOf", spec := "fnExactRowOf", unfollowed := true, recurses := true, apart := false }
def FnExactRowOfSaid : Prop := fnExactRowOfRow.holds Try.pinned (OpenSpec.ofChange fnExactRowOfSpec)

/-- ITS FALSE NEIGHBOUR: 'it returns false'. Refute it at one input. -/
def fnExactRowOfWrong : ChangeSpec := { name := "fnExactRowOf", fn := fun _ => fun
  | [d] => { results := [.lit (.bool false)], args := [d] }
  | _ => none }
def FnExactRowOfWrongFalsely : Prop := fnExactRowOfRow.holds Try.pinned (OpenSpec.ofChange fnExactRowOfWrong)

/-- 'laws.FnExactCellOf': WHATEVER THE INPUT: true; the input reads as it did. -/
def fnExactCellOfSpec : ChangeSpec := { name := "fnExactCellOf", fn := fun _ => fun
  | [d1, d2] => { results := [.lit (.bool true)], args := [d1, d2] }
  | _ => none }
def fnExactCellOfRow : OpenClaim := { program := "ytncaddoflbdlpaa", sum := "518dc5f362f8c0ca5cf14fbdb7d55f68a308a0de6bd0f4228c8e1490b597c6af", func := "loop.example/carrytriangles/laws.FnExactCellOf", spec := "fnExactCellOf", unfollowed := true, recurses := true, apart := false }
def FnExactCellOfSaid : Prop := fnExactCellOfRow.holds Try.pinned (OpenSpec.ofChange fnExactCellOfSpec)

/-- ITS FALSE NEIGHBOUR: 'it returns false'. Refute it at one input. -/
def fnExactCellOfWrong : ChangeSpec := { name := "fnExactCellOf", fn := fun _ => fun
  | [d1, d2] => { results := [.lit (.bool false)], args := [d1, d2] }
  | _ => none }
def FnExactCellOfWrongFalsely : Prop := fnExactCellOfRow.holds Try.pinned (OpenSpec.ofChange fnExactCellOfWrong)

/-- 'laws.FnExactSlopeOf': WHATEVER THE INPUT: true; the input reads as it did. -/
def fnExactSlopeOfSpec : ChangeSpec := { name := "fnExactSlopeOf", fn := fun _ => fun
  | [d1, d2] => { results := [.lit (.bool true)], args := [d1, d2] }
  | _ => none }
def fnExactSlopeOfRow : OpenClaim := { program := "ytncaddoflbdlpaa", sum := "518dc5f362f8c0ca5cf14fbdb7d55f68a308a0de6bd0f4228c8e1490b597c6af", func := "loop.example/carrytriangles/laws.FnExactSlopeOf", spec := "fnExactSlopeOf", unfollowed := true, recurses := true, apart := false }
def FnExactSlopeOfSaid : Prop := fnExactSlopeOfRow.holds Try.pinned (OpenSpec.ofChange fnExactSlopeOfSpec)

/-- ITS FALSE NEIGHBOUR: 'it returns false'. Refute it at one input. -/
def fnExactSlopeOfWrong : ChangeSpec := { name := "fnExactSlopeOf", fn := fun _ => fun
  | [d1, d2] => { results := [.lit (.bool false)], args := [d1, d2] }
  | _ => none }
def FnExactSlopeOfWrongFalsely : Prop := fnExactSlopeOfRow.holds Try.pinned (OpenSpec.ofChange fnExactSlopeOfWrong)

/-- 'laws.FnExactHeapsOf': WHATEVER THE INPUT: true; the input reads as it did. -/
def fnExactHeapsOfSpec : ChangeSpec := { name := "fnExactHeapsOf", fn := fun _ => fun
  | [d1, d2, d3] => { results := [.lit (.bool true)], args := [d1, d2, d3] }
  | _ => none }
def fnExactHeapsOfRow : OpenClaim := { program := "ytncaddoflbdlpaa", sum := "518dc5f362f8c0ca5cf14fbdb7d55f68a308a0de6bd0f4228c8e1490b597c6af", func := "loop.example/carrytriangles/laws.FnExactHeapsOf", spec := "fnExactHeapsOf", unfollowed := true, recurses := true, apart := false }
def FnExactHeapsOfSaid : Prop := fnExactHeapsOfRow.holds Try.pinned (OpenSpec.ofChange fnExactHeapsOfSpec)

/-- ITS FALSE NEIGHBOUR: 'it returns false'. Refute it at one input. -/
def fnExactHeapsOfWrong : ChangeSpec := { name := "fnExactHeapsOf", fn := fun _ => fun
  | [d1, d2, d3] => { results := [.lit (.bool false)], args := [d1, d2, d3] }
  | _ => none }
def FnExactHeapsOfWrongFalsely : Prop := fnExactHeapsOfRow.holds Try.pinned (OpenSpec.ofChange fnExactHeapsOfWrong)

/-- 'laws.FnExactTurnsOf': WHATEVER THE INPUT: true; the input reads as it did. -/
def fnExactTurnsOfSpec : ChangeSpec := { name := "fnExactTurnsOf", fn := fun _ => fun
  | [d1, d2] => { results := [.lit (.bool true)], args := [d1, d2] }
  | _ => none }
def fnExactTurnsOfRow : OpenClaim := { program := "ytncaddoflbdlpaa", sum := "518dc5f362f8c0ca5cf14fbdb7d55f68a308a0de6bd0f4228c8e1490b597c6af", func := "loop.example/carrytriangles/laws.FnExactTurnsOf", spec := "fnExactTurnsOf", unfollowed := true, recurses := true, apart := false }
def FnExactTurnsOfSaid : Prop := fnExactTurnsOfRow.holds Try.pinned (OpenSpec.ofChange fnExactTurnsOfSpec)

/-- ITS FALSE NEIGHBOUR: 'it returns false'. Refute it at one input. -/
def fnExactTurnsOfWrong : ChangeSpec := { name := "fnExactTurnsOf", fn := fun _ => fun
  | [d1, d2] => { results := [.lit (.bool false)], args := [d1, d2] }
  | _ => none }
def FnExactTurnsOfWrongFalsely : Prop := fnExactTurnsOfRow.holds Try.pinned (OpenSpec.ofChange fnExactTurnsOfWrong)

/- THE SECOND FORM. 'bulk': how many values and letters a reading holds, each counted each time it is reached (what is shared counts as often as it is met; a slice's spare places count too). A statement '..UptoSaid' is the law's where the arguments, and the package variables that the reading takes, are together of bulk at most 1048576: NARROWER than '..Said'. Prove '..Said' where nothing that the law and all that it calls make is longer than what came in: it says more and counts as full. Else prove '..UptoSaid'. A law counts once. -/
mutual
def uptoBulk {H : Type} : DataW H → Nat
  | .lit (.string bytes) => bytes.length + 1
  | .lit _ => 1
  | .nil => 1
  | .ptr d => uptoBulk d + 1
  | .slice elems spare => uptoBulkAll elems + uptoBulkAll spare + 1
  | .agg parts => uptoBulkAll parts + 1
  | .iface _ d => uptoBulk d + 1
  | .map entries => uptoBulkEntries entries + 1
  | .held _ => 1
def uptoBulkAll {H : Type} : List (DataW H) → Nat
  | [] => 0
  | d :: r => uptoBulk d + uptoBulkAll r
def uptoBulkEntries {H : Type} : List (Lit × DataW H) → Nat
  | [] => 0
  | x :: r => uptoBulkEntry x + uptoBulkEntries r
def uptoBulkEntry {H : Type} : Lit × DataW H → Nat
  | (.string bytes, d) => bytes.length + uptoBulk d + 1
  | (_, d) => uptoBulk d + 1
 end
def uptoSmall : (H : Type) → List (DataW H) → Bool := fun _ ds => decide (uptoBulkAll ds ≤ 1048576)
def OpenSpec.upto (s : _root_.Go.ChangeSpec) : _root_.Go.OpenSpec := { _root_.Go.OpenSpec.ofChange s with cond := some uptoSmall }

/-- 'laws.FnRowOf', WHERE WHAT IT READS IS OF BULK AT MOST 1048576: true; the input reads as it did. -/
def fnRowOfUptoRow : OpenClaim := { program := "ytncaddoflbdlpaa", sum := "518dc5f362f8c0ca5cf14fbdb7d55f68a308a0de6bd0f4228c8e1490b597c6af", func := "loop.example/carrytriangles/laws.FnRowOf", spec := "fnRowOf", unfollowed := true, recurses := true, apart := false, narrowed := true }
def FnRowOfUptoSaid : Prop := fnRowOfUptoRow.holds Try.pinned (OpenSpec.upto fnRowOfSpec)

/-- 'laws.FnCellOf', WHERE WHAT IT READS IS OF BULK AT MOST 1048576: true; the input reads as it did. -/
def fnCellOfUptoRow : OpenClaim := { program := "ytncaddoflbdlpaa", sum := "518dc5f362f8c0ca5cf14fbdb7d55f68a308a0de6bd0f4228c8e1490b597c6af", func := "loop.example/carrytriangles/laws.FnCellOf", spec := "fnCellOf", unfollowed := true, recurses := true, apart := false, narrowed := true }
def FnCellOfUptoSaid : Prop := fnCellOfUptoRow.holds Try.pinned (OpenSpec.upto fnCellOfSpec)

/-- 'laws.FnSlopeOf', WHERE WHAT IT READS IS OF BULK AT MOST 1048576: true; the input reads as it did. -/
def fnSlopeOfUptoRow : OpenClaim := { program := "ytncaddoflbdlpaa", sum := "518dc5f362f8c0ca5cf14fbdb7d55f68a308a0de6bd0f4228c8e1490b597c6af", func := "loop.example/carrytriangles/laws.FnSlopeOf", spec := "fnSlopeOf", unfollowed := true, recurses := true, apart := false, narrowed := true }
def FnSlopeOfUptoSaid : Prop := fnSlopeOfUptoRow.holds Try.pinned (OpenSpec.upto fnSlopeOfSpec)

/-- 'laws.FnHeapsOf', WHERE WHAT IT READS IS OF BULK AT MOST 1048576: true; the input reads as it did. -/
def fnHeapsOfUptoRow : OpenClaim := { program := "ytncaddoflbdlpaa", sum := "518dc5f362f8c0ca5cf14fbdb7d55f68a308a0de6bd0f4228c8e1490b597c6af", func := "loop.example/carrytriangles/laws.FnHeapsOf", spec := "fnHeapsOf", unfollowed := true, recurses := true, apart := false, narrowed := true }
def FnHeapsOfUptoSaid : Prop := fnHeapsOfUptoRow.holds Try.pinned (OpenSpec.upto fnHeapsOfSpec)

/-- 'laws.FnTurnsOf', WHERE WHAT IT READS IS OF BULK AT MOST 1048576: true; the input reads as it did. -/
def fnTurnsOfUptoRow : OpenClaim := { program := "ytncaddoflbdlpaa", sum := "518dc5f362f8c0ca5cf14fbdb7d55f68a308a0de6bd0f4228c8e1490b597c6af", func := "loop.example/carrytriangles/laws.FnTurnsOf", spec := "fnTurnsOf", unfollowed := true, recurses := true, apart := false, narrowed := true }
def FnTurnsOfUptoSaid : Prop := fnTurnsOfUptoRow.holds Try.pinned (OpenSpec.upto fnTurnsOfSpec)

/-- 'laws.FnExactRowOf', WHERE WHAT IT READS IS OF BULK AT MOST 1048576: true; the input reads as it did. -/
def fnExactRowOfUptoRow : OpenClaim := { program := "ytncaddoflbdlpaa", sum := "518dc5f362f8c0ca5cf14fbdb7d55f68a308a0de6bd0f4228c8e1490b597c6af", func := "loop.example/carrytriangles/laws.FnExactRowOf", spec := "fnExactRowOf", unfollowed := true, recurses := true, apart := false, narrowed := true }
def FnExactRowOfUptoSaid : Prop := fnExactRowOfUptoRow.holds Try.pinned (OpenSpec.upto fnExactRowOfSpec)

/-- 'laws.FnExactCellOf', WHERE WHAT IT READS IS OF BULK AT MOST 1048576: true; the input reads as it did. -/
def fnExactCellOfUptoRow : OpenClaim := { program := "ytncaddoflbdlpaa", sum := "518dc5f362f8c0ca5cf14fbdb7d55f68a308a0de6bd0f4228c8e1490b597c6af", func := "loop.example/carrytriangles/laws.FnExactCellOf", spec := "fnExactCellOf", unfollowed := true, recurses := true, apart := false, narrowed := true }
def FnExactCellOfUptoSaid : Prop := fnExactCellOfUptoRow.holds Try.pinned (OpenSpec.upto fnExactCellOfSpec)

/-- 'laws.FnExactSlopeOf', WHERE WHAT IT READS IS OF BULK AT MOST 1048576: true; the input reads as it did. -/
def fnExactSlopeOfUptoRow : OpenClaim := { program := "ytncaddoflbdlpaa", sum := "518dc5f362f8c0ca5cf14fbdb7d55f68a308a0de6bd0f4228c8e1490b597c6af", func := "loop.example/carrytriangles/laws.FnExactSlopeOf", spec := "fnExactSlopeOf", unfollowed := true, recurses := true, apart := false, narrowed := true }
def FnExactSlopeOfUptoSaid : Prop := fnExactSlopeOfUptoRow.holds Try.pinned (OpenSpec.upto fnExactSlopeOfSpec)

/-- 'laws.FnExactHeapsOf', WHERE WHAT IT READS IS OF BULK AT MOST 1048576: true; the input reads as it did. -/
def fnExactHeapsOfUptoRow : OpenClaim := { program := "ytncaddoflbdlpaa", sum := "518dc5f362f8c0ca5cf14fbdb7d55f68a308a0de6bd0f4228c8e1490b597c6af", func := "loop.example/carrytriangles/laws.FnExactHeapsOf", spec := "fnExactHeapsOf", unfollowed := true, recurses := true, apart := false, narrowed := true }
def FnExactHeapsOfUptoSaid : Prop := fnExactHeapsOfUptoRow.holds Try.pinned (OpenSpec.upto fnExactHeapsOfSpec)

/-- 'laws.FnExactTurnsOf', WHERE WHAT IT READS IS OF BULK AT MOST 1048576: true; the input reads as it did. -/
def fnExactTurnsOfUptoRow : OpenClaim := { program := "ytncaddoflbdlpaa", sum := "518dc5f362f8c0ca5cf14fbdb7d55f68a308a0de6bd0f4228c8e1490b597c6af", func := "loop.example/carrytriangles/laws.FnExactTurnsOf", spec := "fnExactTurnsOf", unfollowed := true, recurses := true, apart := false, narrowed := true }
def FnExactTurnsOfUptoSaid : Prop := fnExactTurnsOfUptoRow.holds Try.pinned (OpenSpec.upto fnExactTurnsOfSpec)

end Rows
end Go.Proofs.Ytncaddoflbdlpaa
