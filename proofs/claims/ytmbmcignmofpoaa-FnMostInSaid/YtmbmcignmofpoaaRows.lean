/-
  No cell of these rows narrows 'for every input' (looked for: loops, veiled, ifaces, maps, wideKeys, modest, calm, conditions, laid).
  DERIVED. THE GIVEN ROWS OF THIS SEAT. 10 by the template 'for every input the law returns true; each argument reads behind the call as it read before'; 0 by the template 'total and deterministic' (their statements: YtmbmcignmofpoaaTotals.lean).
  GIVEN WITH THE SEED: the statements are not yours to turn. If you find one false, say at which input.
  Laid BY PROGRAM, IN A SANDBOX (cutbox-rows.mjs): the forced cells as the released guide's own fill.sh prints them over the translation a43942b13375eb12… (all of the seat's roots in one cut). By AI agents, Wed Nov 11 2026. No macro, syntax, notation, axiom, sorry.
-/
import Derived.Test.YtmbmcignmofpoaaChecked
import GoSem.Claim
import GoSem.ClaimJoined
import GoSem.ClaimMapViews
import Derived.JoinedTies
import Derived.KernelRfl
namespace Go.Proofs.Ytmbmcignmofpoaa
/- THE CELL 'sum', in the pinned program and in every row, IS THE sha256 OF THE DUMP (.gsa) THAT YtmbmcignmofpoaaProg.lean LOADS. Nothing in Lean hashes anything: it is a label: what it is worth is what the hold of that sum in a sandbox is worth. -/
noncomputable def Try.pinned : Pinned := { name := "ytmbmcignmofpoaa", sum := "a43942b13375eb123dc95c1febc18145fcd931144ca4cd3304c9f183964881d1", checked := Try.checked }
namespace Rows
def none {H : Type} : Left H := { results := [], args := [] }

/-- 'laws.FnPrimeOk': WHATEVER THE INPUT: true; the input reads as it did. -/
def fnPrimeOkSpec : ChangeSpec := { name := "fnPrimeOk", fn := fun _ => fun
  | [d] => { results := [.lit (.bool true)], args := [d] }
  | _ => none }
def fnPrimeOkRow : OpenClaim := { program := "ytmbmcignmofpoaa", sum := "a43942b13375eb123dc95c1febc18145fcd931144ca4cd3304c9f183964881d1", func := "loop.example/carrytriangles/laws.FnPrimeOk", spec := "fnPrimeOk", apart := false }
def FnPrimeOkSaid : Prop := fnPrimeOkRow.holds Try.pinned (OpenSpec.ofChange fnPrimeOkSpec)

/-- ITS FALSE NEIGHBOUR: 'it returns false'. Refute it at one input. -/
def fnPrimeOkWrong : ChangeSpec := { name := "fnPrimeOk", fn := fun _ => fun
  | [d] => { results := [.lit (.bool false)], args := [d] }
  | _ => none }
def FnPrimeOkWrongFalsely : Prop := fnPrimeOkRow.holds Try.pinned (OpenSpec.ofChange fnPrimeOkWrong)

/-- 'laws.FnTimesIn': WHATEVER THE INPUT: true; the input reads as it did. -/
def fnTimesInSpec : ChangeSpec := { name := "fnTimesIn", fn := fun _ => fun
  | [d] => { results := [.lit (.bool true)], args := [d] }
  | _ => none }
def fnTimesInRow : OpenClaim := { program := "ytmbmcignmofpoaa", sum := "a43942b13375eb123dc95c1febc18145fcd931144ca4cd3304c9f183964881d1", func := "loop.example/carrytriangles/laws.FnTimesIn", spec := "fnTimesIn", unfollowed := true, recurses := true, apart := false }
def FnTimesInSaid : Prop := fnTimesInRow.holds Try.pinned (OpenSpec.ofChange fnTimesInSpec)

/-- ITS FALSE NEIGHBOUR: 'it returns false'. Refute it at one input. -/
def fnTimesInWrong : ChangeSpec := { name := "fnTimesIn", fn := fun _ => fun
  | [d] => { results := [.lit (.bool false)], args := [d] }
  | _ => none }
def FnTimesInWrongFalsely : Prop := fnTimesInRow.holds Try.pinned (OpenSpec.ofChange fnTimesInWrong)

/-- 'laws.FnTimesInAll': WHATEVER THE INPUT: true; the input reads as it did. -/
def fnTimesInAllSpec : ChangeSpec := { name := "fnTimesInAll", fn := fun _ => fun
  | [d] => { results := [.lit (.bool true)], args := [d] }
  | _ => none }
def fnTimesInAllRow : OpenClaim := { program := "ytmbmcignmofpoaa", sum := "a43942b13375eb123dc95c1febc18145fcd931144ca4cd3304c9f183964881d1", func := "loop.example/carrytriangles/laws.FnTimesInAll", spec := "fnTimesInAll", unfollowed := true, recurses := true, apart := false }
def FnTimesInAllSaid : Prop := fnTimesInAllRow.holds Try.pinned (OpenSpec.ofChange fnTimesInAllSpec)

/-- ITS FALSE NEIGHBOUR: 'it returns false'. Refute it at one input. -/
def fnTimesInAllWrong : ChangeSpec := { name := "fnTimesInAll", fn := fun _ => fun
  | [d] => { results := [.lit (.bool false)], args := [d] }
  | _ => none }
def FnTimesInAllWrongFalsely : Prop := fnTimesInAllRow.holds Try.pinned (OpenSpec.ofChange fnTimesInAllWrong)

/-- 'laws.FnTimesInCell': WHATEVER THE INPUT: true; the input reads as it did. -/
def fnTimesInCellSpec : ChangeSpec := { name := "fnTimesInCell", fn := fun _ => fun
  | [d] => { results := [.lit (.bool true)], args := [d] }
  | _ => none }
def fnTimesInCellRow : OpenClaim := { program := "ytmbmcignmofpoaa", sum := "a43942b13375eb123dc95c1febc18145fcd931144ca4cd3304c9f183964881d1", func := "loop.example/carrytriangles/laws.FnTimesInCell", spec := "fnTimesInCell", unfollowed := true, recurses := true, apart := false }
def FnTimesInCellSaid : Prop := fnTimesInCellRow.holds Try.pinned (OpenSpec.ofChange fnTimesInCellSpec)

/-- ITS FALSE NEIGHBOUR: 'it returns false'. Refute it at one input. -/
def fnTimesInCellWrong : ChangeSpec := { name := "fnTimesInCell", fn := fun _ => fun
  | [d] => { results := [.lit (.bool false)], args := [d] }
  | _ => none }
def FnTimesInCellWrongFalsely : Prop := fnTimesInCellRow.holds Try.pinned (OpenSpec.ofChange fnTimesInCellWrong)

/-- 'laws.FnMostIn': WHATEVER THE INPUT: true; the input reads as it did. -/
def fnMostInSpec : ChangeSpec := { name := "fnMostIn", fn := fun _ => fun
  | [d] => { results := [.lit (.bool true)], args := [d] }
  | _ => none }
def fnMostInRow : OpenClaim := { program := "ytmbmcignmofpoaa", sum := "a43942b13375eb123dc95c1febc18145fcd931144ca4cd3304c9f183964881d1", func := "loop.example/carrytriangles/laws.FnMostIn", spec := "fnMostIn", unfollowed := true, recurses := true, apart := false }
def FnMostInSaid : Prop := fnMostInRow.holds Try.pinned (OpenSpec.ofChange fnMostInSpec)

/-- ITS FALSE NEIGHBOUR: 'it returns false'. Refute it at one input. -/
def fnMostInWrong : ChangeSpec := { name := "fnMostIn", fn := fun _ => fun
  | [d] => { results := [.lit (.bool false)], args := [d] }
  | _ => none }
def FnMostInWrongFalsely : Prop := fnMostInRow.holds Try.pinned (OpenSpec.ofChange fnMostInWrong)

/-- 'laws.FnExactPrimeOk': WHATEVER THE INPUT: true; the input reads as it did. -/
def fnExactPrimeOkSpec : ChangeSpec := { name := "fnExactPrimeOk", fn := fun _ => fun
  | [d] => { results := [.lit (.bool true)], args := [d] }
  | _ => none }
def fnExactPrimeOkRow : OpenClaim := { program := "ytmbmcignmofpoaa", sum := "a43942b13375eb123dc95c1febc18145fcd931144ca4cd3304c9f183964881d1", func := "loop.example/carrytriangles/laws.FnExactPrimeOk", spec := "fnExactPrimeOk", apart := false }
def FnExactPrimeOkSaid : Prop := fnExactPrimeOkRow.holds Try.pinned (OpenSpec.ofChange fnExactPrimeOkSpec)

/-- ITS FALSE NEIGHBOUR: 'it returns false'. Refute it at one input. -/
def fnExactPrimeOkWrong : ChangeSpec := { name := "fnExactPrimeOk", fn := fun _ => fun
  | [d] => { results := [.lit (.bool false)], args := [d] }
  | _ => none }
def FnExactPrimeOkWrongFalsely : Prop := fnExactPrimeOkRow.holds Try.pinned (OpenSpec.ofChange fnExactPrimeOkWrong)

/-- 'laws.FnExactTimesIn': WHATEVER THE INPUT: true; the input reads as it did. -/
def fnExactTimesInSpec : ChangeSpec := { name := "fnExactTimesIn", fn := fun _ => fun
  | [d1, d2] => { results := [.lit (.bool true)], args := [d1, d2] }
  | _ => none }
def fnExactTimesInRow : OpenClaim := { program := "ytmbmcignmofpoaa", sum := "a43942b13375eb123dc95c1febc18145fcd931144ca4cd3304c9f183964881d1", func := "loop.example/carrytriangles/laws.FnExactTimesIn", spec := "fnExactTimesIn", unfollowed := true, recurses := true, apart := false }
def FnExactTimesInSaid : Prop := fnExactTimesInRow.holds Try.pinned (OpenSpec.ofChange fnExactTimesInSpec)

/-- ITS FALSE NEIGHBOUR: 'it returns false'. Refute it at one input. -/
def fnExactTimesInWrong : ChangeSpec := { name := "fnExactTimesIn", fn := fun _ => fun
  | [d1, d2] => { results := [.lit (.bool false)], args := [d1, d2] }
  | _ => none }
def FnExactTimesInWrongFalsely : Prop := fnExactTimesInRow.holds Try.pinned (OpenSpec.ofChange fnExactTimesInWrong)

/-- 'laws.FnExactTimesInAll': WHATEVER THE INPUT: true; the input reads as it did. -/
def fnExactTimesInAllSpec : ChangeSpec := { name := "fnExactTimesInAll", fn := fun _ => fun
  | [d1, d2] => { results := [.lit (.bool true)], args := [d1, d2] }
  | _ => none }
def fnExactTimesInAllRow : OpenClaim := { program := "ytmbmcignmofpoaa", sum := "a43942b13375eb123dc95c1febc18145fcd931144ca4cd3304c9f183964881d1", func := "loop.example/carrytriangles/laws.FnExactTimesInAll", spec := "fnExactTimesInAll", apart := false }
def FnExactTimesInAllSaid : Prop := fnExactTimesInAllRow.holds Try.pinned (OpenSpec.ofChange fnExactTimesInAllSpec)

/-- ITS FALSE NEIGHBOUR: 'it returns false'. Refute it at one input. -/
def fnExactTimesInAllWrong : ChangeSpec := { name := "fnExactTimesInAll", fn := fun _ => fun
  | [d1, d2] => { results := [.lit (.bool false)], args := [d1, d2] }
  | _ => none }
def FnExactTimesInAllWrongFalsely : Prop := fnExactTimesInAllRow.holds Try.pinned (OpenSpec.ofChange fnExactTimesInAllWrong)

/-- 'laws.FnExactTimesInCell': WHATEVER THE INPUT: true; the input reads as it did. -/
def fnExactTimesInCellSpec : ChangeSpec := { name := "fnExactTimesInCell", fn := fun _ => fun
  | [d1, d2, d3] => { results := [.lit (.bool true)], args := [d1, d2, d3] }
  | _ => none }
def fnExactTimesInCellRow : OpenClaim := { program := "ytmbmcignmofpoaa", sum := "a43942b13375eb123dc95c1febc18145fcd931144ca4cd3304c9f183964881d1", func := "loop.example/carrytriangles/laws.FnExactTimesInCell", spec := "fnExactTimesInCell", apart := false }
def FnExactTimesInCellSaid : Prop := fnExactTimesInCellRow.holds Try.pinned (OpenSpec.ofChange fnExactTimesInCellSpec)

/-- ITS FALSE NEIGHBOUR: 'it returns false'. Refute it at one input. -/
def fnExactTimesInCellWrong : ChangeSpec := { name := "fnExactTimesInCell", fn := fun _ => fun
  | [d1, d2, d3] => { results := [.lit (.bool false)], args := [d1, d2, d3] }
  | _ => none }
def FnExactTimesInCellWrongFalsely : Prop := fnExactTimesInCellRow.holds Try.pinned (OpenSpec.ofChange fnExactTimesInCellWrong)

/-- 'laws.FnExactMostIn': WHATEVER THE INPUT: true; the input reads as it did. -/
def fnExactMostInSpec : ChangeSpec := { name := "fnExactMostIn", fn := fun _ => fun
  | [d1, d2] => { results := [.lit (.bool true)], args := [d1, d2] }
  | _ => none }
def fnExactMostInRow : OpenClaim := { program := "ytmbmcignmofpoaa", sum := "a43942b13375eb123dc95c1febc18145fcd931144ca4cd3304c9f183964881d1", func := "loop.example/carrytriangles/laws.FnExactMostIn", spec := "fnExactMostIn", apart := false }
def FnExactMostInSaid : Prop := fnExactMostInRow.holds Try.pinned (OpenSpec.ofChange fnExactMostInSpec)

/-- ITS FALSE NEIGHBOUR: 'it returns false'. Refute it at one input. -/
def fnExactMostInWrong : ChangeSpec := { name := "fnExactMostIn", fn := fun _ => fun
  | [d1, d2] => { results := [.lit (.bool false)], args := [d1, d2] }
  | _ => none }
def FnExactMostInWrongFalsely : Prop := fnExactMostInRow.holds Try.pinned (OpenSpec.ofChange fnExactMostInWrong)

/- THE SECOND FORM. 'bulk': how many values and letters a reading holds, each counted each time it is reached (what is shared counts as often as it is met; a slice's spare places count too). A statement '..UptoSaid' is the law's where the arguments, and the package variables that the reading takes, are together of bulk at most 1048576: NARROWER than '..Said'. Prove '..Said' where nothing that the law and all that it calls make is longer than what came in: it says more and counts as full. Else prove '..UptoSaid'. A law counts once. -/
mutual
def uptoBulk {H : Type} : DataW H → Nat
  | .lit (.string bytes) => bytes.length + 1
  | .lit _ => 1
  | .nil => 1
  | .ptr d => uptoBulk d + 1
  | .slice elems spare => uptoBulkAll elems + uptoBulkAll spare + 1
  | .agg parts => uptoBulkAll parts + 1
  | .iface _ d => uptoBulk d + 1
  | .map entries => uptoBulkEntries entries + 1
  | .held _ => 1
def uptoBulkAll {H : Type} : List (DataW H) → Nat
  | [] => 0
  | d :: r => uptoBulk d + uptoBulkAll r
def uptoBulkEntries {H : Type} : List (Lit × DataW H) → Nat
  | [] => 0
  | x :: r => uptoBulkEntry x + uptoBulkEntries r
def uptoBulkEntry {H : Type} : Lit × DataW H → Nat
  | (.string bytes, d) => bytes.length + uptoBulk d + 1
  | (_, d) => uptoBulk d + 1
 end
def uptoSmall : (H : Type) → List (DataW H) → Bool := fun _ ds => decide (uptoBulkAll ds ≤ 1048576)
def OpenSpec.upto (s : _root_.Go.ChangeSpec) : _root_.Go.OpenSpec := { _root_.Go.OpenSpec.ofChange s with cond := some uptoSmall }

/-- 'laws.FnPrimeOk', WHERE WHAT IT READS IS OF BULK AT MOST 1048576: true; the input reads as it did. -/
def fnPrimeOkUptoRow : OpenClaim := { program := "ytmbmcignmofpoaa", sum := "a43942b13375eb123dc95c1febc18145fcd931144ca4cd3304c9f183964881d1", func := "loop.example/carrytriangles/laws.FnPrimeOk", spec := "fnPrimeOk", apart := false, narrowed := true }
def FnPrimeOkUptoSaid : Prop := fnPrimeOkUptoRow.holds Try.pinned (OpenSpec.upto fnPrimeOkSpec)

/-- 'laws.FnTimesIn', WHERE WHAT IT READS IS OF BULK AT MOST 1048576: true; the input reads as it did. -/
def fnTimesInUptoRow : OpenClaim := { program := "ytmbmcignmofpoaa", sum := "a43942b13375eb123dc95c1febc18145fcd931144ca4cd3304c9f183964881d1", func := "loop.example/carrytriangles/laws.FnTimesIn", spec := "fnTimesIn", unfollowed := true, recurses := true, apart := false, narrowed := true }
def FnTimesInUptoSaid : Prop := fnTimesInUptoRow.holds Try.pinned (OpenSpec.upto fnTimesInSpec)

/-- 'laws.FnTimesInAll', WHERE WHAT IT READS IS OF BULK AT MOST 1048576: true; the input reads as it did. -/
def fnTimesInAllUptoRow : OpenClaim := { program := "ytmbmcignmofpoaa", sum := "a43942b13375eb123dc95c1febc18145fcd931144ca4cd3304c9f183964881d1", func := "loop.example/carrytriangles/laws.FnTimesInAll", spec := "fnTimesInAll", unfollowed := true, recurses := true, apart := false, narrowed := true }
def FnTimesInAllUptoSaid : Prop := fnTimesInAllUptoRow.holds Try.pinned (OpenSpec.upto fnTimesInAllSpec)

/-- 'laws.FnTimesInCell', WHERE WHAT IT READS IS OF BULK AT MOST 1048576: true; the input reads as it did. -/
def fnTimesInCellUptoRow : OpenClaim := { program := "ytmbmcignmofpoaa", sum := "a43942b13375eb123dc95c1febc18145fcd931144ca4cd3304c9f183964881d1", func := "loop.example/carrytriangles/laws.FnTimesInCell", spec := "fnTimesInCell", unfollowed := true, recurses := true, apart := false, narrowed := true }
def FnTimesInCellUptoSaid : Prop := fnTimesInCellUptoRow.holds Try.pinned (OpenSpec.upto fnTimesInCellSpec)

/-- 'laws.FnMostIn', WHERE WHAT IT READS IS OF BULK AT MOST 1048576: true; the input reads as it did. -/
def fnMostInUptoRow : OpenClaim := { program := "ytmbmcignmofpoaa", sum := "a43942b13375eb123dc95c1febc18145fcd931144ca4cd3304c9f183964881d1", func := "loop.example/carrytriangles/laws.FnMostIn", spec := "fnMostIn", unfollowed := true, recurses := true, apart := false, narrowed := true }
def FnMostInUptoSaid : Prop := fnMostInUptoRow.holds Try.pinned (OpenSpec.upto fnMostInSpec)

/-- 'laws.FnExactPrimeOk', WHERE WHAT IT READS IS OF BULK AT MOST 1048576: true; the input reads as it did. -/
def fnExactPrimeOkUptoRow : OpenClaim := { program := "ytmbmcignmofpoaa", sum := "a43942b13375eb123dc95c1febc18145fcd931144ca4cd3304c9f183964881d1", func := "loop.example/carrytriangles/laws.FnExactPrimeOk", spec := "fnExactPrimeOk", apart := false, narrowed := true }
def FnExactPrimeOkUptoSaid : Prop := fnExactPrimeOkUptoRow.holds Try.pinned (OpenSpec.upto fnExactPrimeOkSpec)

/-- 'laws.FnExactTimesIn', WHERE WHAT IT READS IS OF BULK AT MOST 1048576: true; the input reads as it did. -/
def fnExactTimesInUptoRow : OpenClaim := { program := "ytmbmcignmofpoaa", sum := "a43942b13375eb123dc95c1febc18145fcd931144ca4cd3304c9f183964881d1", func := "loop.example/carrytriangles/laws.FnExactTimesIn", spec := "fnExactTimesIn", unfollowed := true, recurses := true, apart := false, narrowed := true }
def FnExactTimesInUptoSaid : Prop := fnExactTimesInUptoRow.holds Try.pinned (OpenSpec.upto fnExactTimesInSpec)

/-- 'laws.FnExactTimesInAll', WHERE WHAT IT READS IS OF BULK AT MOST 1048576: true; the input reads as it did. -/
def fnExactTimesInAllUptoRow : OpenClaim := { program := "ytmbmcignmofpoaa", sum := "a43942b13375eb123dc95c1febc18145fcd931144ca4cd3304c9f183964881d1", func := "loop.example/carrytriangles/laws.FnExactTimesInAll", spec := "fnExactTimesInAll", apart := false, narrowed := true }
def FnExactTimesInAllUptoSaid : Prop := fnExactTimesInAllUptoRow.holds Try.pinned (OpenSpec.upto fnExactTimesInAllSpec)

/-- 'laws.FnExactTimesInCell', WHERE WHAT IT READS IS OF BULK AT MOST 1048576: true; the input reads as it did. -/
def fnExactTimesInCellUptoRow : OpenClaim := { program := "ytmbmcignmofpoaa", sum := "a43942b13375eb123dc95c1febc18145fcd931144ca4cd3304c9f183964881d1", func := "loop.example/carrytriangles/laws.FnExactTimesInCell", spec := "fnExactTimesInCell", apart := false, narrowed := true }
def FnExactTimesInCellUptoSaid : Prop := fnExactTimesInCellUptoRow.holds Try.pinned (OpenSpec.upto fnExactTimesInCellSpec)

/-- 'laws.FnExactMostIn', WHERE WHAT IT READS IS OF BULK AT MOST 1048576: true; the input reads as it did. -/
def fnExactMostInUptoRow : OpenClaim := { program := "ytmbmcignmofpoaa", sum := "a43942b13375eb123dc95c1febc18145fcd931144ca4cd3304c9f183964881d1", func := "loop.example/carrytriangles/laws.FnExactMostIn", spec := "fnExactMostIn", apart := false, narrowed := true }
def FnExactMostInUptoSaid : Prop := fnExactMostInUptoRow.holds Try.pinned (OpenSpec.upto fnExactMostInSpec)

end Rows
end Go.Proofs.Ytmbmcignmofpoaa
