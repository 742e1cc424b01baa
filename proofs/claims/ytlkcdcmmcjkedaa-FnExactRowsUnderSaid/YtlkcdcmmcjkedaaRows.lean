/-
  No cell of these rows narrows 'for every input' (looked for: loops, veiled, ifaces, maps, wideKeys, modest, calm, conditions, laid).
  DERIVED. THE GIVEN ROWS OF THIS SEAT. 14 by the template 'for every input the law returns true; each argument reads behind the call as it read before'; 0 by the template 'total and deterministic' (their statements: YtlkcdcmmcjkedaaTotals.lean).
  GIVEN WITH THE SEED: the statements are not yours to turn. If you find one false, say at which input.
  Laid BY PROGRAM, IN A SANDBOX (cutbox-rows.mjs): the forced cells as the released guide's own fill.sh prints them over the translation 1ca729144c648ae4… (all of the seat's roots in one cut). By AI agents, Wed Nov 11 2026. No macro, syntax, notation, axiom, sorry.
-/
import Derived.Test.YtlkcdcmmcjkedaaChecked
import GoSem.Claim
import GoSem.ClaimJoined
import GoSem.ClaimMapViews
import Derived.JoinedTies
import Derived.KernelRfl
namespace Go.Proofs.Ytlkcdcmmcjkedaa
/- THE CELL 'sum', in the pinned program and in every row, IS THE sha256 OF THE DUMP (.gsa) THAT YtlkcdcmmcjkedaaProg.lean LOADS. Nothing in Lean hashes anything: it is a label: what it is worth is what the hold of that sum in a sandbox is worth. -/
noncomputable def Try.pinned : Pinned := { name := "ytlkcdcmmcjkedaa", sum := "1ca729144c648ae40d741513b465cfcb1fbe4d024ef90788c112a498cbd69134", checked := Try.checked }
namespace Rows
def none {H : Type} : Left H := { results := [], args := [] }

/-- 'laws.FnTimesLeft': WHATEVER THE INPUT: true; the input reads as it did. -/
def fnTimesLeftSpec : ChangeSpec := { name := "fnTimesLeft", fn := fun _ => fun
  | [d] => { results := [.lit (.bool true)], args := [d] }
  | _ => none }
def fnTimesLeftRow : OpenClaim := { program := "ytlkcdcmmcjkedaa", sum := "1ca729144c648ae40d741513b465cfcb1fbe4d024ef90788c112a498cbd69134", func := "loop.example/carrytriangles/laws.FnTimesLeft", spec := "fnTimesLeft", unfollowed := true, recurses := true, apart := false }
def FnTimesLeftSaid : Prop := fnTimesLeftRow.holds Try.pinned (OpenSpec.ofChange fnTimesLeftSpec)

/-- ITS FALSE NEIGHBOUR: 'it returns false'. Refute it at one input. -/
def fnTimesLeftWrong : ChangeSpec := { name := "fnTimesLeft", fn := fun _ => fun
  | [d] => { results := [.lit (.bool false)], args := [d] }
  | _ => none }
def FnTimesLeftWrongFalsely : Prop := fnTimesLeftRow.holds Try.pinned (OpenSpec.ofChange fnTimesLeftWrong)

/-- 'laws.FnSideOk': WHATEVER THE INPUT: true; the input reads as it did. -/
def fnSideOkSpec : ChangeSpec := { name := "fnSideOk", fn := fun _ => fun
  | [d] => { results := [.lit (.bool true)], args := [d] }
  | _ => none }
def fnSideOkRow : OpenClaim := { program := "ytlkcdcmmcjkedaa", sum := "1ca729144c648ae40d741513b465cfcb1fbe4d024ef90788c112a498cbd69134", func := "loop.example/carrytriangles/laws.FnSideOk", spec := "fnSideOk", unfollowed := true, recurses := true, apart := false }
def FnSideOkSaid : Prop := fnSideOkRow.holds Try.pinned (OpenSpec.ofChange fnSideOkSpec)

/-- ITS FALSE NEIGHBOUR: 'it returns false'. Refute it at one input. -/
def fnSideOkWrong : ChangeSpec := { name := "fnSideOk", fn := fun _ => fun
  | [d] => { results := [.lit (.bool false)], args := [d] }
  | _ => none }
def FnSideOkWrongFalsely : Prop := fnSideOkRow.holds Try.pinned (OpenSpec.ofChange fnSideOkWrong)

/-- 'laws.FnUnderOf': WHATEVER THE INPUT: true; the input reads as it did. -/
def fnUnderOfSpec : ChangeSpec := { name := "fnUnderOf", fn := fun _ => fun
  | [d1, d2] => { results := [.lit (.bool true)], args := [d1, d2] }
  | _ => none }
def fnUnderOfRow : OpenClaim := { program := "ytlkcdcmmcjkedaa", sum := "1ca729144c648ae40d741513b465cfcb1fbe4d024ef90788c112a498cbd69134", func := "loop.example/carrytriangles/laws.FnUnderOf", spec := "fnUnderOf", unfollowed := true, recurses := true, apart := false }
def FnUnderOfSaid : Prop := fnUnderOfRow.holds Try.pinned (OpenSpec.ofChange fnUnderOfSpec)

/-- ITS FALSE NEIGHBOUR: 'it returns false'. Refute it at one input. -/
def fnUnderOfWrong : ChangeSpec := { name := "fnUnderOf", fn := fun _ => fun
  | [d1, d2] => { results := [.lit (.bool false)], args := [d1, d2] }
  | _ => none }
def FnUnderOfWrongFalsely : Prop := fnUnderOfRow.holds Try.pinned (OpenSpec.ofChange fnUnderOfWrong)

/-- 'laws.FnRowsUnder': WHATEVER THE INPUT: true; the input reads as it did. -/
def fnRowsUnderSpec : ChangeSpec := { name := "fnRowsUnder", fn := fun _ => fun
  | [d] => { results := [.lit (.bool true)], args := [d] }
  | _ => none }
def fnRowsUnderRow : OpenClaim := { program := "ytlkcdcmmcjkedaa", sum := "1ca729144c648ae40d741513b465cfcb1fbe4d024ef90788c112a498cbd69134", func := "loop.example/carrytriangles/laws.FnRowsUnder", spec := "fnRowsUnder", unfollowed := true, recurses := true, apart := false }
def FnRowsUnderSaid : Prop := fnRowsUnderRow.holds Try.pinned (OpenSpec.ofChange fnRowsUnderSpec)

/-- ITS FALSE NEIGHBOUR: 'it returns false'. Refute it at one input. -/
def fnRowsUnderWrong : ChangeSpec := { name := "fnRowsUnder", fn := fun _ => fun
  | [d] => { results := [.lit (.bool false)], args := [d] }
  | _ => none }
def FnRowsUnderWrongFalsely : Prop := fnRowsUnderRow.holds Try.pinned (OpenSpec.ofChange fnRowsUnderWrong)

/-- 'laws.FnOnesIn': WHATEVER THE INPUT: true; the input reads as it did. -/
def fnOnesInSpec : ChangeSpec := { name := "fnOnesIn", fn := fun _ => fun
  | [d] => { results := [.lit (.bool true)], args := [d] }
  | _ => none }
def fnOnesInRow : OpenClaim := { program := "ytlkcdcmmcjkedaa", sum := "1ca729144c648ae40d741513b465cfcb1fbe4d024ef90788c112a498cbd69134", func := "loop.example/carrytriangles/laws.FnOnesIn", spec := "fnOnesIn", unfollowed := true, recurses := true, apart := false }
def FnOnesInSaid : Prop := fnOnesInRow.holds Try.pinned (OpenSpec.ofChange fnOnesInSpec)

/-- ITS FALSE NEIGHBOUR: 'it returns false'. Refute it at one input. -/
def fnOnesInWrong : ChangeSpec := { name := "fnOnesIn", fn := fun _ => fun
  | [d] => { results := [.lit (.bool false)], args := [d] }
  | _ => none }
def FnOnesInWrongFalsely : Prop := fnOnesInRow.holds Try.pinned (OpenSpec.ofChange fnOnesInWrong)

/-- 'laws.FnLastOf': WHATEVER THE INPUT: true; the input reads as it did. -/
def fnLastOfSpec : ChangeSpec := { name := "fnLastOf", fn := fun _ => fun
  | [d] => { results := [.lit (.bool true)], args := [d] }
  | _ => none }
def fnLastOfRow : OpenClaim := { program := "ytlkcdcmmcjkedaa", sum := "1ca729144c648ae40d741513b465cfcb1fbe4d024ef90788c112a498cbd69134", func := "loop.example/carrytriangles/laws.FnLastOf", spec := "fnLastOf", unfollowed := true, recurses := true, apart := false }
def FnLastOfSaid : Prop := fnLastOfRow.holds Try.pinned (OpenSpec.ofChange fnLastOfSpec)

/-- ITS FALSE NEIGHBOUR: 'it returns false'. Refute it at one input. -/
def fnLastOfWrong : ChangeSpec := { name := "fnLastOf", fn := fun _ => fun
  | [d] => { results := [.lit (.bool false)], args := [d] }
  | _ => none }
def FnLastOfWrongFalsely : Prop := fnLastOfRow.holds Try.pinned (OpenSpec.ofChange fnLastOfWrong)

/-- 'laws.FnTurnedOf': WHATEVER THE INPUT: true; the input reads as it did. -/
def fnTurnedOfSpec : ChangeSpec := { name := "fnTurnedOf", fn := fun _ => fun
  | [d] => { results := [.lit (.bool true)], args := [d] }
  | _ => none }
def fnTurnedOfRow : OpenClaim := { program := "ytlkcdcmmcjkedaa", sum := "1ca729144c648ae40d741513b465cfcb1fbe4d024ef90788c112a498cbd69134", func := "loop.example/carrytriangles/laws.FnTurnedOf", spec := "fnTurnedOf", unfollowed := true, recurses := true, apart := false }
def FnTurnedOfSaid : Prop := fnTurnedOfRow.holds Try.pinned (OpenSpec.ofChange fnTurnedOfSpec)

/-- ITS FALSE NEIGHBOUR: 'it returns false'. Refute it at one input. -/
def fnTurnedOfWrong : ChangeSpec := { name := "fnTurnedOf", fn := fun _ => fun
  | [d] => { results := [.lit (.bool false)], args := [d] }
  | _ => none }
def FnTurnedOfWrongFalsely : Prop := fnTurnedOfRow.holds Try.pinned (OpenSpec.ofChange fnTurnedOfWrong)

/-- 'laws.FnCountBalanced': WHATEVER THE INPUT: true; the input reads as it did. -/
def fnCountBalancedSpec : ChangeSpec := { name := "fnCountBalanced", fn := fun _ => fun
  | [d] => { results := [.lit (.bool true)], args := [d] }
  | _ => none }
def fnCountBalancedRow : OpenClaim := { program := "ytlkcdcmmcjkedaa", sum := "1ca729144c648ae40d741513b465cfcb1fbe4d024ef90788c112a498cbd69134", func := "loop.example/carrytriangles/laws.FnCountBalanced", spec := "fnCountBalanced", unfollowed := true, recurses := true, apart := false }
def FnCountBalancedSaid : Prop := fnCountBalancedRow.holds Try.pinned (OpenSpec.ofChange fnCountBalancedSpec)

/-- ITS FALSE NEIGHBOUR: 'it returns false'. Refute it at one input. -/
def fnCountBalancedWrong : ChangeSpec := { name := "fnCountBalanced", fn := fun _ => fun
  | [d] => { results := [.lit (.bool false)], args := [d] }
  | _ => none }
def FnCountBalancedWrongFalsely : Prop := fnCountBalancedRow.holds Try.pinned (OpenSpec.ofChange fnCountBalancedWrong)

/-- 'laws.FnExactTimesLeft': WHATEVER THE INPUT: true; the input reads as it did. -/
def fnExactTimesLeftSpec : ChangeSpec := { name := "fnExactTimesLeft", fn := fun _ => fun
  | [d1, d2, d3] => { results := [.lit (.bool true)], args := [d1, d2, d3] }
  | _ => none }
def fnExactTimesLeftRow : OpenClaim := { program := "ytlkcdcmmcjkedaa", sum := "1ca729144c648ae40d741513b465cfcb1fbe4d024ef90788c112a498cbd69134", func := "loop.example/carrytriangles/laws.FnExactTimesLeft", spec := "fnExactTimesLeft", apart := false }
def FnExactTimesLeftSaid : Prop := fnExactTimesLeftRow.holds Try.pinned (OpenSpec.ofChange fnExactTimesLeftSpec)

/-- ITS FALSE NEIGHBOUR: 'it returns false'. Refute it at one input. -/
def fnExactTimesLeftWrong : ChangeSpec := { name := "fnExactTimesLeft", fn := fun _ => fun
  | [d1, d2, d3] => { results := [.lit (.bool false)], args := [d1, d2, d3] }
  | _ => none }
def FnExactTimesLeftWrongFalsely : Prop := fnExactTimesLeftRow.holds Try.pinned (OpenSpec.ofChange fnExactTimesLeftWrong)

/-- 'laws.FnExactSideOk': WHATEVER THE INPUT: true; the input reads as it did. -/
def fnExactSideOkSpec : ChangeSpec := { name := "fnExactSideOk", fn := fun _ => fun
  | [d] => { results := [.lit (.bool true)], args := [d] }
  | _ => none }
def fnExactSideOkRow : OpenClaim := { program := "ytlkcdcmmcjkedaa", sum := "1ca729144c648ae40d741513b465cfcb1fbe4d024ef90788c112a498cbd69134", func := "loop.example/carrytriangles/laws.FnExactSideOk", spec := "fnExactSideOk", apart := false }
def FnExactSideOkSaid : Prop := fnExactSideOkRow.holds Try.pinned (OpenSpec.ofChange fnExactSideOkSpec)

/-- ITS FALSE NEIGHBOUR: 'it returns false'. Refute it at one input. -/
def fnExactSideOkWrong : ChangeSpec := { name := "fnExactSideOk", fn := fun _ => fun
  | [d] => { results := [.lit (.bool false)], args := [d] }
  | _ => none }
def FnExactSideOkWrongFalsely : Prop := fnExactSideOkRow.holds Try.pinned (OpenSpec.ofChange fnExactSideOkWrong)

/-- 'laws.FnExactUnderOf': WHATEVER THE INPUT: true; the input reads as it did. -/
def fnExactUnderOfSpec : ChangeSpec := { name := "fnExactUnderOf", fn := fun _ => fun
  | [d] => { results := [.lit (.bool true)], args := [d] }
  | _ => none }
def fnExactUnderOfRow : OpenClaim := { program := "ytlkcdcmmcjkedaa", sum := "1ca729144c648ae40d741513b465cfcb1fbe4d024ef90788c112a498cbd69134", func := "loop.example/carrytriangles/laws.FnExactUnderOf", spec := "fnExactUnderOf", apart := false }
def FnExactUnderOfSaid : Prop := fnExactUnderOfRow.holds Try.pinned (OpenSpec.ofChange fnExactUnderOfSpec)

/-- ITS FALSE NEIGHBOUR: 'it returns false'. Refute it at one input. -/
def fnExactUnderOfWrong : ChangeSpec := { name := "fnExactUnderOf", fn := fun _ => fun
  | [d] => { results := [.lit (.bool false)], args := [d] }
  | _ => none }
def FnExactUnderOfWrongFalsely : Prop := fnExactUnderOfRow.holds Try.pinned (OpenSpec.ofChange fnExactUnderOfWrong)

/-- 'laws.FnExactRowsUnder': WHATEVER THE INPUT: true; the input reads as it did. -/
def fnExactRowsUnderSpec : ChangeSpec := { name := "fnExactRowsUnder", fn := fun _ => fun
  | [d] => { results := [.lit (.bool true)], args := [d] }
  | _ => none }
def fnExactRowsUnderRow : OpenClaim := { program := "ytlkcdcmmcjkedaa", sum := "1ca729144c648ae40d741513b465cfcb1fbe4d024ef90788c112a498cbd69134", func := "loop.example/carrytriangles/laws.FnExactRowsUnder", spec := "fnExactRowsUnder", unfollowed := true, recurses := true, apart := false }
def FnExactRowsUnderSaid : Prop := fnExactRowsUnderRow.holds Try.pinned (OpenSpec.ofChange fnExactRowsUnderSpec)

/-- ITS FALSE NEIGHBOUR: 'it returns false'. Refute it at one input. -/
def fnExactRowsUnderWrong : ChangeSpec := { name := "fnExactRowsUnder", fn := fun _ => fun
  | [d] => { results := [.lit (.bool false)], args := [d] }
  | _ => none }
def FnExactRowsUnderWrongFalsely : Prop := fnExactRowsUnderRow.holds Try.pinned (OpenSpec.ofChange fnExactRowsUnderWrong)

/-- 'laws.FnExactOnesIn': WHATEVER THE INPUT: true; the input reads as it did. -/
def fnExactOnesInSpec : ChangeSpec := { name := "fnExactOnesIn", fn := fun _ => fun
  | [d] => { results := [.lit (.bool true)], args := [d] }
  | _ => none }
def fnExactOnesInRow : OpenClaim := { program := "ytlkcdcmmcjkedaa", sum := "1ca729144c648ae40d741513b465cfcb1fbe4d024ef90788c112a498cbd69134", func := "loop.example/carrytriangles/laws.FnExactOnesIn", spec := "fnExactOnesIn", unfollowed := true, recurses := true, apart := false }
def FnExactOnesInSaid : Prop := fnExactOnesInRow.holds Try.pinned (OpenSpec.ofChange fnExactOnesInSpec)

/-- ITS FALSE NEIGHBOUR: 'it returns false'. Refute it at one input. -/
def fnExactOnesInWrong : ChangeSpec := { name := "fnExactOnesIn", fn := fun _ => fun
  | [d] => { results := [.lit (.bool false)], args := [d] }
  | _ => none }
def FnExactOnesInWrongFalsely : Prop := fnExactOnesInRow.holds Try.pinned (OpenSpec.ofChange fnExactOnesInWrong)

/-- 'laws.FnExactLastOf': WHATEVER THE INPUT: true; the input reads as it did. -/
def fnExactLastOfSpec : ChangeSpec := { name := "fnExactLastOf", fn := fun _ => fun
  | [d] => { results := [.lit (.bool true)], args := [d] }
  | _ => none }
def fnExactLastOfRow : OpenClaim := { program := "ytlkcdcmmcjkedaa", sum := "1ca729144c648ae40d741513b465cfcb1fbe4d024ef90788c112a498cbd69134", func := "loop.example/carrytriangles/laws.FnExactLastOf", spec := "fnExactLastOf", unfollowed := true, recurses := true, apart := false }
def FnExactLastOfSaid : Prop := fnExactLastOfRow.holds Try.pinned (OpenSpec.ofChange fnExactLastOfSpec)

/-- ITS FALSE NEIGHBOUR: 'it returns false'. Refute it at one input. -/
def fnExactLastOfWrong : ChangeSpec := { name := "fnExactLastOf", fn := fun _ => fun
  | [d] => { results := [.lit (.bool false)], args := [d] }
  | _ => none }
def FnExactLastOfWrongFalsely : Prop := fnExactLastOfRow.holds Try.pinned (OpenSpec.ofChange fnExactLastOfWrong)

/- THE SECOND FORM. 'bulk': how many values and letters a reading holds, each counted each time it is reached (what is shared counts as often as it is met; a slice's spare places count too). A statement '..UptoSaid' is the law's where the arguments, and the package variables that the reading takes, are together of bulk at most 1048576: NARROWER than '..Said'. Prove '..Said' where nothing that the law and all that it calls make is longer than what came in: it says more and counts as full. Else prove '..UptoSaid'. A law counts once. -/
mutual
def uptoBulk {H : Type} : DataW H → Nat
  | .lit (.string bytes) => bytes.length + 1
  | .lit _ => 1
  | .nil => 1
  | .ptr d => uptoBulk d + 1
  | .slice elems spare => uptoBulkAll elems + uptoBulkAll spare + 1
  | .agg parts => uptoBulkAll parts + 1
  | .iface _ d => uptoBulk d + 1
  | .map entries => uptoBulkEntries entries + 1
  | .held _ => 1
def uptoBulkAll {H : Type} : List (DataW H) → Nat
  | [] => 0
  | d :: r => uptoBulk d + uptoBulkAll r
def uptoBulkEntries {H : Type} : List (Lit × DataW H) → Nat
  | [] => 0
  | x :: r => uptoBulkEntry x + uptoBulkEntries r
def uptoBulkEntry {H : Type} : Lit × DataW H → Nat
  | (.string bytes, d) => bytes.length + uptoBulk d + 1
  | (_, d) => uptoBulk d + 1
 end
def uptoSmall : (H : Type) → List (DataW H) → Bool := fun _ ds => decide (uptoBulkAll ds ≤ 1048576)
def OpenSpec.upto (s : _root_.Go.ChangeSpec) : _root_.Go.OpenSpec := { _root_.Go.OpenSpec.ofChange s with cond := some uptoSmall }

/-- 'laws.FnTimesLeft', WHERE WHAT IT READS IS OF BULK AT MOST 1048576: true; the input reads as it did. -/
def fnTimesLeftUptoRow : OpenClaim := { program := "ytlkcdcmmcjkedaa", sum := "1ca729144c648ae40d741513b465cfcb1fbe4d024ef90788c112a498cbd69134", func := "loop.example/carrytriangles/laws.FnTimesLeft", spec := "fnTimesLeft", unfollowed := true, recurses := true, apart := false, narrowed := true }
def FnTimesLeftUptoSaid : Prop := fnTimesLeftUptoRow.holds Try.pinned (OpenSpec.upto fnTimesLeftSpec)

/-- 'laws.FnSideOk', WHERE WHAT IT READS IS OF BULK AT MOST 1048576: true; the input reads as it did. -/
def fnSideOkUptoRow : OpenClaim := { program := "ytlkcdcmmcjkedaa", sum := "1ca729144c648ae40d741513b465cfcb1fbe4d024ef90788c112a498cbd69134", func := "loop.example/carrytriangles/laws.FnSideOk", spec := "fnSideOk", unfollowed := true, recurses := true, apart := false, narrowed := true }
def FnSideOkUptoSaid : Prop := fnSideOkUptoRow.holds Try.pinned (OpenSpec.upto fnSideOkSpec)

/-- 'laws.FnUnderOf', WHERE WHAT IT READS IS OF BULK AT MOST 1048576: true; the input reads as it did. -/
def fnUnderOfUptoRow : OpenClaim := { program := "ytlkcdcmmcjkedaa", sum := "1ca729144c648ae40d741513b465cfcb1fbe4d024ef90788c112a498cbd69134", func := "loop.example/carrytriangles/laws.FnUnderOf", spec := "fnUnderOf", unfollowed := true, recurses := true, apart := false, narrowed := true }
def FnUnderOfUptoSaid : Prop := fnUnderOfUptoRow.holds Try.pinned (OpenSpec.upto fnUnderOfSpec)

/-- 'laws.FnRowsUnder', WHERE WHAT IT READS IS OF BULK AT MOST 1048576: true; the input reads as it did. -/
def fnRowsUnderUptoRow : OpenClaim := { program := "ytlkcdcmmcjkedaa", sum := "1ca729144c648ae40d741513b465cfcb1fbe4d024ef90788c112a498cbd69134", func := "loop.example/carrytriangles/laws.FnRowsUnder", spec := "fnRowsUnder", unfollowed := true, recurses := true, apart := false, narrowed := true }
def FnRowsUnderUptoSaid : Prop := fnRowsUnderUptoRow.holds Try.pinned (OpenSpec.upto fnRowsUnderSpec)

/-- 'laws.FnOnesIn', WHERE WHAT IT READS IS OF BULK AT MOST 1048576: true; the input reads as it did. -/
def fnOnesInUptoRow : OpenClaim := { program := "ytlkcdcmmcjkedaa", sum := "1ca729144c648ae40d741513b465cfcb1fbe4d024ef90788c112a498cbd69134", func := "loop.example/carrytriangles/laws.FnOnesIn", spec := "fnOnesIn", unfollowed := true, recurses := true, apart := false, narrowed := true }
def FnOnesInUptoSaid : Prop := fnOnesInUptoRow.holds Try.pinned (OpenSpec.upto fnOnesInSpec)

/-- 'laws.FnLastOf', WHERE WHAT IT READS IS OF BULK AT MOST 1048576: true; the input reads as it did. -/
def fnLastOfUptoRow : OpenClaim := { program := "ytlkcdcmmcjkedaa", sum := "1ca729144c648ae40d741513b465cfcb1fbe4d024ef90788c112a498cbd69134", func := "loop.example/carrytriangles/laws.FnLastOf", spec := "fnLastOf", unfollowed := true, recurses := true, apart := false, narrowed := true }
def FnLastOfUptoSaid : Prop := fnLastOfUptoRow.holds Try.pinned (OpenSpec.upto fnLastOfSpec)

/-- 'laws.FnTurnedOf', WHERE WHAT IT READS IS OF BULK AT MOST 1048576: true; the input reads as it did. -/
def fnTurnedOfUptoRow : OpenClaim := { program := "ytlkcdcmmcjkedaa", sum := "1ca729144c648ae40d741513b465cfcb1fbe4d024ef90788c112a498cbd69134", func := "loop.example/carrytriangles/laws.FnTurnedOf", spec := "fnTurnedOf", unfollowed := true, recurses := true, apart := false, narrowed := true }
def FnTurnedOfUptoSaid : Prop := fnTurnedOfUptoRow.holds Try.pinned (OpenSpec.upto fnTurnedOfSpec)

/-- 'laws.FnCountBalanced', WHERE WHAT IT READS IS OF BULK AT MOST 1048576: true; the input reads as it did. -/
def fnCountBalancedUptoRow : OpenClaim := { program := "ytlkcdcmmcjkedaa", sum := "1ca729144c648ae40d741513b465cfcb1fbe4d024ef90788c112a498cbd69134", func := "loop.example/carrytriangles/laws.FnCountBalanced", spec := "fnCountBalanced", unfollowed := true, recurses := true, apart := false, narrowed := true }
def FnCountBalancedUptoSaid : Prop := fnCountBalancedUptoRow.holds Try.pinned (OpenSpec.upto fnCountBalancedSpec)

/-- 'laws.FnExactTimesLeft', WHERE WHAT IT READS IS OF BULK AT MOST 1048576: true; the input reads as it did. -/
def fnExactTimesLeftUptoRow : OpenClaim := { program := "ytlkcdcmmcjkedaa", sum := "1ca729144c648ae40d741513b465cfcb1fbe4d024ef90788c112a498cbd69134", func := "loop.example/carrytriangles/laws.FnExactTimesLeft", spec := "fnExactTimesLeft", apart := false, narrowed := true }
def FnExactTimesLeftUptoSaid : Prop := fnExactTimesLeftUptoRow.holds Try.pinned (OpenSpec.upto fnExactTimesLeftSpec)

/-- 'laws.FnExactSideOk', WHERE WHAT IT READS IS OF BULK AT MOST 1048576: true; the input reads as it did. -/
def fnExactSideOkUptoRow : OpenClaim := { program := "ytlkcdcmmcjkedaa", sum := "1ca729144c648ae40d741513b465cfcb1fbe4d024ef90788c112a498cbd69134", func := "loop.example/carrytriangles/laws.FnExactSideOk", spec := "fnExactSideOk", apart := false, narrowed := true }
def FnExactSideOkUptoSaid : Prop := fnExactSideOkUptoRow.holds Try.pinned (OpenSpec.upto fnExactSideOkSpec)

/-- 'laws.FnExactUnderOf', WHERE WHAT IT READS IS OF BULK AT MOST 1048576: true; the input reads as it did. -/
def fnExactUnderOfUptoRow : OpenClaim := { program := "ytlkcdcmmcjkedaa", sum := "1ca729144c648ae40d741513b465cfcb1fbe4d024ef90788c112a498cbd69134", func := "loop.example/carrytriangles/laws.FnExactUnderOf", spec := "fnExactUnderOf", apart := false, narrowed := true }
def FnExactUnderOfUptoSaid : Prop := fnExactUnderOfUptoRow.holds Try.pinned (OpenSpec.upto fnExactUnderOfSpec)

/-- 'laws.FnExactRowsUnder', WHERE WHAT IT READS IS OF BULK AT MOST 1048576: true; the input reads as it did. -/
def fnExactRowsUnderUptoRow : OpenClaim := { program := "ytlkcdcmmcjkedaa", sum := "1ca729144c648ae40d741513b465cfcb1fbe4d024ef90788c112a498cbd69134", func := "loop.example/carrytriangles/laws.FnExactRowsUnder", spec := "fnExactRowsUnder", unfollowed := true, recurses := true, apart := false, narrowed := true }
def FnExactRowsUnderUptoSaid : Prop := fnExactRowsUnderUptoRow.holds Try.pinned (OpenSpec.upto fnExactRowsUnderSpec)

/-- 'laws.FnExactOnesIn', WHERE WHAT IT READS IS OF BULK AT MOST 1048576: true; the input reads as it did. -/
def fnExactOnesInUptoRow : OpenClaim := { program := "ytlkcdcmmcjkedaa", sum := "1ca729144c648ae40d741513b465cfcb1fbe4d024ef90788c112a498cbd69134", func := "loop.example/carrytriangles/laws.FnExactOnesIn", spec := "fnExactOnesIn", unfollowed := true, recurses := true, apart := false, narrowed := true }
def FnExactOnesInUptoSaid : Prop := fnExactOnesInUptoRow.holds Try.pinned (OpenSpec.upto fnExactOnesInSpec)

/-- 'laws.FnExactLastOf', WHERE WHAT IT READS IS OF BULK AT MOST 1048576: true; the input reads as it did. -/
def fnExactLastOfUptoRow : OpenClaim := { program := "ytlkcdcmmcjkedaa", sum := "1ca729144c648ae40d741513b465cfcb1fbe4d024ef90788c112a498cbd69134", func := "loop.example/carrytriangles/laws.FnExactLastOf", spec := "fnExactLastOf", unfollowed := true, recurses := true, apart := false, narrowed := true }
def FnExactLastOfUptoSaid : Prop := fnExactLastOfUptoRow.holds Try.pinned (OpenSpec.upto fnExactLastOfSpec)

end Rows
end Go.Proofs.Ytlkcdcmmcjkedaa
