/-
  No cell of these rows narrows 'for every input' (looked for: loops, veiled, ifaces, maps, wideKeys, modest, calm, conditions, laid).
  DERIVED. THE GIVEN ROWS OF THIS SEAT. 10 by the template 'for every input the law returns true; each argument reads behind the call as it read before'; 0 by the template 'total and deterministic' (their statements: YtammmcffbfkgjaaTotals.lean).
  GIVEN WITH THE SEED: the statements are not yours to turn. If you find one false, say at which input.
  Laid BY PROGRAM, IN A SANDBOX (cutbox-rows.mjs): the forced cells as the released guide's own fill.sh prints them over the translation 7088c23a12f260b0… (all of the seat's roots in one cut). By AI agents, Wed Nov 11 2026. No macro, syntax, notation, axiom, sorry.
-/
import Derived.Test.YtammmcffbfkgjaaChecked
import GoSem.Claim
import GoSem.ClaimJoined
import GoSem.ClaimMapViews
import Derived.JoinedTies
import Derived.KernelRfl
namespace Go.Proofs.Ytammmcffbfkgjaa
/- THE CELL 'sum', in the pinned program and in every row, IS THE sha256 OF THE DUMP (.gsa) THAT YtammmcffbfkgjaaProg.lean LOADS. Nothing in Lean hashes anything: it is a label: what it is worth is what the hold of that sum in a sandbox is worth. -/
noncomputable def Try.pinned : Pinned := { name := "ytammmcffbfkgjaa", sum := "7088c23a12f260b011b6c5e99b91f6ff8e342e44c3853e1a2be648e7d5e484c0", checked := Try.checked }
namespace Rows
def none {H : Type} : Left H := { results := [], args := [] }

/-- 'laws.FnDigitsOf': WHATEVER THE INPUT: true; the input reads as it did. -/
def fnDigitsOfSpec : ChangeSpec := { name := "fnDigitsOf", fn := fun _ => fun
  | [d] => { results := [.lit (.bool true)], args := [d] }
  | _ => none }
def fnDigitsOfRow : OpenClaim := { program := "ytammmcffbfkgjaa", sum := "7088c23a12f260b011b6c5e99b91f6ff8e342e44c3853e1a2be648e7d5e484c0", func := "loop.example/carrytriangles/laws.FnDigitsOf", spec := "fnDigitsOf", unfollowed := true, recurses := true, apart := false }
def FnDigitsOfSaid : Prop := fnDigitsOfRow.holds Try.pinned (OpenSpec.ofChange fnDigitsOfSpec)

/-- ITS FALSE NEIGHBOUR: 'it returns false'. Refute it at one input. -/
def fnDigitsOfWrong : ChangeSpec := { name := "fnDigitsOf", fn := fun _ => fun
  | [d] => { results := [.lit (.bool false)], args := [d] }
  | _ => none }
def FnDigitsOfWrongFalsely : Prop := fnDigitsOfRow.holds Try.pinned (OpenSpec.ofChange fnDigitsOfWrong)

/-- 'laws.FnSumOfDigits': WHATEVER THE INPUT: true; the input reads as it did. -/
def fnSumOfDigitsSpec : ChangeSpec := { name := "fnSumOfDigits", fn := fun _ => fun
  | [d] => { results := [.lit (.bool true)], args := [d] }
  | _ => none }
def fnSumOfDigitsRow : OpenClaim := { program := "ytammmcffbfkgjaa", sum := "7088c23a12f260b011b6c5e99b91f6ff8e342e44c3853e1a2be648e7d5e484c0", func := "loop.example/carrytriangles/laws.FnSumOfDigits", spec := "fnSumOfDigits", unfollowed := true, recurses := true, apart := false }
def FnSumOfDigitsSaid : Prop := fnSumOfDigitsRow.holds Try.pinned (OpenSpec.ofChange fnSumOfDigitsSpec)

/-- ITS FALSE NEIGHBOUR: 'it returns false'. Refute it at one input. -/
def fnSumOfDigitsWrong : ChangeSpec := { name := "fnSumOfDigits", fn := fun _ => fun
  | [d] => { results := [.lit (.bool false)], args := [d] }
  | _ => none }
def FnSumOfDigitsWrongFalsely : Prop := fnSumOfDigitsRow.holds Try.pinned (OpenSpec.ofChange fnSumOfDigitsWrong)

/-- 'laws.FnCarriesOf': WHATEVER THE INPUT: true; the input reads as it did. -/
def fnCarriesOfSpec : ChangeSpec := { name := "fnCarriesOf", fn := fun _ => fun
  | [d] => { results := [.lit (.bool true)], args := [d] }
  | _ => none }
def fnCarriesOfRow : OpenClaim := { program := "ytammmcffbfkgjaa", sum := "7088c23a12f260b011b6c5e99b91f6ff8e342e44c3853e1a2be648e7d5e484c0", func := "loop.example/carrytriangles/laws.FnCarriesOf", spec := "fnCarriesOf", unfollowed := true, recurses := true, apart := false }
def FnCarriesOfSaid : Prop := fnCarriesOfRow.holds Try.pinned (OpenSpec.ofChange fnCarriesOfSpec)

/-- ITS FALSE NEIGHBOUR: 'it returns false'. Refute it at one input. -/
def fnCarriesOfWrong : ChangeSpec := { name := "fnCarriesOf", fn := fun _ => fun
  | [d] => { results := [.lit (.bool false)], args := [d] }
  | _ => none }
def FnCarriesOfWrongFalsely : Prop := fnCarriesOfRow.holds Try.pinned (OpenSpec.ofChange fnCarriesOfWrong)

/-- 'laws.FnUnderOk': WHATEVER THE INPUT: true; the input reads as it did. -/
def fnUnderOkSpec : ChangeSpec := { name := "fnUnderOk", fn := fun _ => fun
  | [d] => { results := [.lit (.bool true)], args := [d] }
  | _ => none }
def fnUnderOkRow : OpenClaim := { program := "ytammmcffbfkgjaa", sum := "7088c23a12f260b011b6c5e99b91f6ff8e342e44c3853e1a2be648e7d5e484c0", func := "loop.example/carrytriangles/laws.FnUnderOk", spec := "fnUnderOk", unfollowed := true, recurses := true, apart := false }
def FnUnderOkSaid : Prop := fnUnderOkRow.holds Try.pinned (OpenSpec.ofChange fnUnderOkSpec)

/-- ITS FALSE NEIGHBOUR: 'it returns false'. Refute it at one input. -/
def fnUnderOkWrong : ChangeSpec := { name := "fnUnderOk", fn := fun _ => fun
  | [d] => { results := [.lit (.bool false)], args := [d] }
  | _ => none }
def FnUnderOkWrongFalsely : Prop := fnUnderOkRow.holds Try.pinned (OpenSpec.ofChange fnUnderOkWrong)

/-- 'laws.FnCountUnder': WHATEVER THE INPUT: true; the input reads as it did. -/
def fnCountUnderSpec : ChangeSpec := { name := "fnCountUnder", fn := fun _ => fun
  | [d] => { results := [.lit (.bool true)], args := [d] }
  | _ => none }
def fnCountUnderRow : OpenClaim := { program := "ytammmcffbfkgjaa", sum := "7088c23a12f260b011b6c5e99b91f6ff8e342e44c3853e1a2be648e7d5e484c0", func := "loop.example/carrytriangles/laws.FnCountUnder", spec := "fnCountUnder", unfollowed := true, recurses := true, apart := false }
def FnCountUnderSaid : Prop := fnCountUnderRow.holds Try.pinned (OpenSpec.ofChange fnCountUnderSpec)

/-- ITS FALSE NEIGHBOUR: 'it returns false'. Refute it at one input. -/
def fnCountUnderWrong : ChangeSpec := { name := "fnCountUnder", fn := fun _ => fun
  | [d] => { results := [.lit (.bool false)], args := [d] }
  | _ => none }
def FnCountUnderWrongFalsely : Prop := fnCountUnderRow.holds Try.pinned (OpenSpec.ofChange fnCountUnderWrong)

/-- 'laws.FnExactDigitsOf': WHATEVER THE INPUT: true; the input reads as it did. -/
def fnExactDigitsOfSpec : ChangeSpec := { name := "fnExactDigitsOf", fn := fun _ => fun
  | [d1, d2] => { results := [.lit (.bool true)], args := [d1, d2] }
  | _ => none }
def fnExactDigitsOfRow : OpenClaim := { program := "ytammmcffbfkgjaa", sum := "7088c23a12f260b011b6c5e99b91f6ff8e342e44c3853e1a2be648e7d5e484c0", func := "loop.example/carrytriangles/laws.FnExactDigitsOf", spec := "fnExactDigitsOf", unfollowed := true, recurses := true, apart := false }
def FnExactDigitsOfSaid : Prop := fnExactDigitsOfRow.holds Try.pinned (OpenSpec.ofChange fnExactDigitsOfSpec)

/-- ITS FALSE NEIGHBOUR: 'it returns false'. Refute it at one input. -/
def fnExactDigitsOfWrong : ChangeSpec := { name := "fnExactDigitsOf", fn := fun _ => fun
  | [d1, d2] => { results := [.lit (.bool false)], args := [d1, d2] }
  | _ => none }
def FnExactDigitsOfWrongFalsely : Prop := fnExactDigitsOfRow.holds Try.pinned (OpenSpec.ofChange fnExactDigitsOfWrong)

/-- 'laws.FnExactSumOfDigits': WHATEVER THE INPUT: true; the input reads as it did. -/
def fnExactSumOfDigitsSpec : ChangeSpec := { name := "fnExactSumOfDigits", fn := fun _ => fun
  | [d1, d2] => { results := [.lit (.bool true)], args := [d1, d2] }
  | _ => none }
def fnExactSumOfDigitsRow : OpenClaim := { program := "ytammmcffbfkgjaa", sum := "7088c23a12f260b011b6c5e99b91f6ff8e342e44c3853e1a2be648e7d5e484c0", func := "loop.example/carrytriangles/laws.FnExactSumOfDigits", spec := "fnExactSumOfDigits", unfollowed := true, recurses := true, apart := false }
def FnExactSumOfDigitsSaid : Prop := fnExactSumOfDigitsRow.holds Try.pinned (OpenSpec.ofChange fnExactSumOfDigitsSpec)

/-- ITS FALSE NEIGHBOUR: 'it returns false'. Refute it at one input. -/
def fnExactSumOfDigitsWrong : ChangeSpec := { name := "fnExactSumOfDigits", fn := fun _ => fun
  | [d1, d2] => { results := [.lit (.bool false)], args := [d1, d2] }
  | _ => none }
def FnExactSumOfDigitsWrongFalsely : Prop := fnExactSumOfDigitsRow.holds Try.pinned (OpenSpec.ofChange fnExactSumOfDigitsWrong)

/-- 'laws.FnExactCarriesOf': WHATEVER THE INPUT: true; the input reads as it did. -/
def fnExactCarriesOfSpec : ChangeSpec := { name := "fnExactCarriesOf", fn := fun _ => fun
  | [d1, d2, d3] => { results := [.lit (.bool true)], args := [d1, d2, d3] }
  | _ => none }
def fnExactCarriesOfRow : OpenClaim := { program := "ytammmcffbfkgjaa", sum := "7088c23a12f260b011b6c5e99b91f6ff8e342e44c3853e1a2be648e7d5e484c0", func := "loop.example/carrytriangles/laws.FnExactCarriesOf", spec := "fnExactCarriesOf", unfollowed := true, recurses := true, apart := false }
def FnExactCarriesOfSaid : Prop := fnExactCarriesOfRow.holds Try.pinned (OpenSpec.ofChange fnExactCarriesOfSpec)

/-- ITS FALSE NEIGHBOUR: 'it returns false'. Refute it at one input. -/
def fnExactCarriesOfWrong : ChangeSpec := { name := "fnExactCarriesOf", fn := fun _ => fun
  | [d1, d2, d3] => { results := [.lit (.bool false)], args := [d1, d2, d3] }
  | _ => none }
def FnExactCarriesOfWrongFalsely : Prop := fnExactCarriesOfRow.holds Try.pinned (OpenSpec.ofChange fnExactCarriesOfWrong)

/-- 'laws.FnExactUnderOk': WHATEVER THE INPUT: true; the input reads as it did. -/
def fnExactUnderOkSpec : ChangeSpec := { name := "fnExactUnderOk", fn := fun _ => fun
  | [d1, d2, d3] => { results := [.lit (.bool true)], args := [d1, d2, d3] }
  | _ => none }
def fnExactUnderOkRow : OpenClaim := { program := "ytammmcffbfkgjaa", sum := "7088c23a12f260b011b6c5e99b91f6ff8e342e44c3853e1a2be648e7d5e484c0", func := "loop.example/carrytriangles/laws.FnExactUnderOk", spec := "fnExactUnderOk", unfollowed := true, recurses := true, apart := false }
def FnExactUnderOkSaid : Prop := fnExactUnderOkRow.holds Try.pinned (OpenSpec.ofChange fnExactUnderOkSpec)

/-- ITS FALSE NEIGHBOUR: 'it returns false'. Refute it at one input. -/
def fnExactUnderOkWrong : ChangeSpec := { name := "fnExactUnderOk", fn := fun _ => fun
  | [d1, d2, d3] => { results := [.lit (.bool false)], args := [d1, d2, d3] }
  | _ => none }
def FnExactUnderOkWrongFalsely : Prop := fnExactUnderOkRow.holds Try.pinned (OpenSpec.ofChange fnExactUnderOkWrong)

/-- 'laws.FnExactCountUnder': WHATEVER THE INPUT: true; the input reads as it did. -/
def fnExactCountUnderSpec : ChangeSpec := { name := "fnExactCountUnder", fn := fun _ => fun
  | [d1, d2] => { results := [.lit (.bool true)], args := [d1, d2] }
  | _ => none }
def fnExactCountUnderRow : OpenClaim := { program := "ytammmcffbfkgjaa", sum := "7088c23a12f260b011b6c5e99b91f6ff8e342e44c3853e1a2be648e7d5e484c0", func := "loop.example/carrytriangles/laws.FnExactCountUnder", spec := "fnExactCountUnder", unfollowed := true, recurses := true, apart := false }
def FnExactCountUnderSaid : Prop := fnExactCountUnderRow.holds Try.pinned (OpenSpec.ofChange fnExactCountUnderSpec)

/-- ITS FALSE NEIGHBOUR: 'it returns false'. Refute it at one input. -/
def fnExactCountUnderWrong : ChangeSpec := { name := "fnExactCountUnder", fn := fun _ => fun
  | [d1, d2] => { results := [.lit (.bool false)], args := [d1, d2] }
  | _ => none }
def FnExactCountUnderWrongFalsely : Prop := fnExactCountUnderRow.holds Try.pinned (OpenSpec.ofChange fnExactCountUnderWrong)

/- THE SECOND FORM. 'bulk': how many values and letters a reading holds, each counted each time it is reached (what is shared counts as often as it is met; a slice's spare places count too). A statement '..UptoSaid' is the law's where the arguments, and the package variables that the reading takes, are together of bulk at most 1048576: NARROWER than '..Said'. Prove '..Said' where nothing that the law and all that it calls make is longer than what came in: it says more and counts as full. Else prove '..UptoSaid'. A law counts once. -/
mutual
def uptoBulk {H : Type} : DataW H → Nat
  | .lit (.string bytes) => bytes.length + 1
  | .lit _ => 1
  | .nil => 1
  | .ptr d => uptoBulk d + 1
  | .slice elems spare => uptoBulkAll elems + uptoBulkAll spare + 1
  | .agg parts => uptoBulkAll parts + 1
  | .iface _ d => uptoBulk d + 1
  | .map entries => uptoBulkEntries entries + 1
  | .held _ => 1
def uptoBulkAll {H : Type} : List (DataW H) → Nat
  | [] => 0
  | d :: r => uptoBulk d + uptoBulkAll r
def uptoBulkEntries {H : Type} : List (Lit × DataW H) → Nat
  | [] => 0
  | x :: r => uptoBulkEntry x + uptoBulkEntries r
def uptoBulkEntry {H : Type} : Lit × DataW H → Nat
  | (.string bytes, d) => bytes.length + uptoBulk d + 1
  | (_, d) => uptoBulk d + 1
 end
def uptoSmall : (H : Type) → List (DataW H) → Bool := fun _ ds => decide (uptoBulkAll ds ≤ 1048576)
def OpenSpec.upto (s : _root_.Go.ChangeSpec) : _root_.Go.OpenSpec := { _root_.Go.OpenSpec.ofChange s with cond := some uptoSmall }

/-- 'laws.FnDigitsOf', WHERE WHAT IT READS IS OF BULK AT MOST 1048576: true; the input reads as it did. -/
def fnDigitsOfUptoRow : OpenClaim := { program := "ytammmcffbfkgjaa", sum := "7088c23a12f260b011b6c5e99b91f6ff8e342e44c3853e1a2be648e7d5e484c0", func := "loop.example/carrytriangles/laws.FnDigitsOf", spec := "fnDigitsOf", unfollowed := true, recurses := true, apart := false, narrowed := true }
def FnDigitsOfUptoSaid : Prop := fnDigitsOfUptoRow.holds Try.pinned (OpenSpec.upto fnDigitsOfSpec)

/-- 'laws.FnSumOfDigits', WHERE WHAT IT READS IS OF BULK AT MOST 1048576: true; the input reads as it did. -/
def fnSumOfDigitsUptoRow : OpenClaim := { program := "ytammmcffbfkgjaa", sum := "7088c23a12f260b011b6c5e99b91f6ff8e342e44c3853e1a2be648e7d5e484c0", func := "loop.example/carrytriangles/laws.FnSumOfDigits", spec := "fnSumOfDigits", unfollowed := true, recurses := true, apart := false, narrowed := true }
def FnSumOfDigitsUptoSaid : Prop := fnSumOfDigitsUptoRow.holds Try.pinned (OpenSpec.upto fnSumOfDigitsSpec)

/-- 'laws.FnCarriesOf', WHERE WHAT IT READS IS OF BULK AT MOST 1048576: true; the input reads as it did. -/
def fnCarriesOfUptoRow : OpenClaim := { program := "ytammmcffbfkgjaa", sum := "7088c23a12f260b011b6c5e99b91f6ff8e342e44c3853e1a2be648e7d5e484c0", func := "loop.example/carrytriangles/laws.FnCarriesOf", spec := "fnCarriesOf", unfollowed := true, recurses := true, apart := false, narrowed := true }
def FnCarriesOfUptoSaid : Prop := fnCarriesOfUptoRow.holds Try.pinned (OpenSpec.upto fnCarriesOfSpec)

/-- 'laws.FnUnderOk', WHERE WHAT IT READS IS OF BULK AT MOST 1048576: true; the input reads as it did. -/
def fnUnderOkUptoRow : OpenClaim := { program := "ytammmcffbfkgjaa", sum := "7088c23a12f260b011b6c5e99b91f6ff8e342e44c3853e1a2be648e7d5e484c0", func := "loop.example/carrytriangles/laws.FnUnderOk", spec := "fnUnderOk", unfollowed := true, recurses := true, apart := false, narrowed := true }
def FnUnderOkUptoSaid : Prop := fnUnderOkUptoRow.holds Try.pinned (OpenSpec.upto fnUnderOkSpec)

/-- 'laws.FnCountUnder', WHERE WHAT IT READS IS OF BULK AT MOST 1048576: true; the input reads as it did. -/
def fnCountUnderUptoRow : OpenClaim := { program := "ytammmcffbfkgjaa", sum := "7088c23a12f260b011b6c5e99b91f6ff8e342e44c3853e1a2be648e7d5e484c0", func := "loop.example/carrytriangles/laws.FnCountUnder", spec := "fnCountUnder", unfollowed := true, recurses := true, apart := false, narrowed := true }
def FnCountUnderUptoSaid : Prop := fnCountUnderUptoRow.holds Try.pinned (OpenSpec.upto fnCountUnderSpec)

/-- 'laws.FnExactDigitsOf', WHERE WHAT IT READS IS OF BULK AT MOST 1048576: true; the input reads as it did. -/
def fnExactDigitsOfUptoRow : OpenClaim := { program := "ytammmcffbfkgjaa", sum := "7088c23a12f260b011b6c5e99b91f6ff8e342e44c3853e1a2be648e7d5e484c0", func := "loop.example/carrytriangles/laws.FnExactDigitsOf", spec := "fnExactDigitsOf", unfollowed := true, recurses := true, apart := false, narrowed := true }
def FnExactDigitsOfUptoSaid : Prop := fnExactDigitsOfUptoRow.holds Try.pinned (OpenSpec.upto fnExactDigitsOfSpec)

/-- 'laws.FnExactSumOfDigits', WHERE WHAT IT READS IS OF BULK AT MOST 1048576: true; the input reads as it did. -/
def fnExactSumOfDigitsUptoRow : OpenClaim := { program := "ytammmcffbfkgjaa", sum := "7088c23a12f260b011b6c5e99b91f6ff8e342e44c3853e1a2be648e7d5e484c0", func := "loop.example/carrytriangles/laws.FnExactSumOfDigits", spec := "fnExactSumOfDigits", unfollowed := true, recurses := true, apart := false, narrowed := true }
def FnExactSumOfDigitsUptoSaid : Prop := fnExactSumOfDigitsUptoRow.holds Try.pinned (OpenSpec.upto fnExactSumOfDigitsSpec)

/-- 'laws.FnExactCarriesOf', WHERE WHAT IT READS IS OF BULK AT MOST 1048576: true; the input reads as it did. -/
def fnExactCarriesOfUptoRow : OpenClaim := { program := "ytammmcffbfkgjaa", sum := "7088c23a12f260b011b6c5e99b91f6ff8e342e44c3853e1a2be648e7d5e484c0", func := "loop.example/carrytriangles/laws.FnExactCarriesOf", spec := "fnExactCarriesOf", unfollowed := true, recurses := true, apart := false, narrowed := true }
def FnExactCarriesOfUptoSaid : Prop := fnExactCarriesOfUptoRow.holds Try.pinned (OpenSpec.upto fnExactCarriesOfSpec)

/-- 'laws.FnExactUnderOk', WHERE WHAT IT READS IS OF BULK AT MOST 1048576: true; the input reads as it did. -/
def fnExactUnderOkUptoRow : OpenClaim := { program := "ytammmcffbfkgjaa", sum := "7088c23a12f260b011b6c5e99b91f6ff8e342e44c3853e1a2be648e7d5e484c0", func := "loop.example/carrytriangles/laws.FnExactUnderOk", spec := "fnExactUnderOk", unfollowed := true, recurses := true, apart := false, narrowed := true }
def FnExactUnderOkUptoSaid : Prop := fnExactUnderOkUptoRow.holds Try.pinned (OpenSpec.upto fnExactUnderOkSpec)

/-- 'laws.FnExactCountUnder', WHERE WHAT IT READS IS OF BULK AT MOST 1048576: true; the input reads as it did. -/
def fnExactCountUnderUptoRow : OpenClaim := { program := "ytammmcffbfkgjaa", sum := "7088c23a12f260b011b6c5e99b91f6ff8e342e44c3853e1a2be648e7d5e484c0", func := "loop.example/carrytriangles/laws.FnExactCountUnder", spec := "fnExactCountUnder", unfollowed := true, recurses := true, apart := false, narrowed := true }
def FnExactCountUnderUptoSaid : Prop := fnExactCountUnderUptoRow.holds Try.pinned (OpenSpec.upto fnExactCountUnderSpec)

end Rows
end Go.Proofs.Ytammmcffbfkgjaa
