/-
  No cell of these rows narrows 'for every input' (looked for: loops, veiled, ifaces, maps, wideKeys, modest, calm, conditions, laid).
  DERIVED. THE GIVEN ROWS OF THIS SEAT. 12 by the template 'for every input the law returns true; each argument reads behind the call as it read before'; 0 by the template 'total and deterministic' (their statements: YtmnmbelmcdfcjaaTotals.lean).
  GIVEN WITH THE SEED: the statements are not yours to turn. If you find one false, say at which input.
  Laid BY PROGRAM, IN A SANDBOX (cutbox-rows.mjs): the forced cells as the released guide's own fill.sh prints them over the translation a9c47424b3684353… (all of the seat's roots in one cut). By AI agents, Wed Nov 11 2026. No macro, syntax, notation, axiom, sorry.
-/
import Derived.Test.YtmnmbelmcdfcjaaChecked
import GoSem.Claim
import GoSem.ClaimJoined
import GoSem.ClaimMapViews
import Derived.JoinedTies
import Derived.KernelRfl
namespace Go.Proofs.Ytmnmbelmcdfcjaa
/- THE CELL 'sum', in the pinned program and in every row, IS THE sha256 OF THE DUMP (.gsa) THAT YtmnmbelmcdfcjaaProg.lean LOADS. Nothing in Lean hashes anything: it is a label: what it is worth is what the hold of that sum in a sandbox is worth. -/
noncomputable def Try.pinned : Pinned := { name := "ytmnmbelmcdfcjaa", sum := "a9c47424b3684353c2c8e971e132cccc85c27cfd86a6b000ae98de010df93b00", checked := Try.checked }
namespace Rows
def none {H : Type} : Left H := { results := [], args := [] }

/-- 'laws.FnRingOk': WHATEVER THE INPUT: true; the input reads as it did. -/
def fnRingOkSpec : ChangeSpec := { name := "fnRingOk", fn := fun _ => fun
  | [d] => { results := [.lit (.bool true)], args := [d] }
  | _ => none }
def fnRingOkRow : OpenClaim := { program := "ytmnmbelmcdfcjaa", sum := "a9c47424b3684353c2c8e971e132cccc85c27cfd86a6b000ae98de010df93b00", func := "loop.example/carrytriangles/laws.FnRingOk", spec := "fnRingOk", unfollowed := true, recurses := true, plainKeys := false, apart := false }
def FnRingOkSaid : Prop := fnRingOkRow.holds Try.pinned (OpenSpec.ofChange fnRingOkSpec)

/-- ITS FALSE NEIGHBOUR: 'it returns false'. Refute it at one input. -/
def fnRingOkWrong : ChangeSpec := { name := "fnRingOk", fn := fun _ => fun
  | [d] => { results := [.lit (.bool false)], args := [d] }
  | _ => none }
def FnRingOkWrongFalsely : Prop := fnRingOkRow.holds Try.pinned (OpenSpec.ofChange fnRingOkWrong)

/-- 'laws.FnRoundOf': WHATEVER THE INPUT: true; the input reads as it did. -/
def fnRoundOfSpec : ChangeSpec := { name := "fnRoundOf", fn := fun _ => fun
  | [d] => { results := [.lit (.bool true)], args := [d] }
  | _ => none }
def fnRoundOfRow : OpenClaim := { program := "ytmnmbelmcdfcjaa", sum := "a9c47424b3684353c2c8e971e132cccc85c27cfd86a6b000ae98de010df93b00", func := "loop.example/carrytriangles/laws.FnRoundOf", spec := "fnRoundOf", unfollowed := true, recurses := true, plainKeys := false, apart := false }
def FnRoundOfSaid : Prop := fnRoundOfRow.holds Try.pinned (OpenSpec.ofChange fnRoundOfSpec)

/-- ITS FALSE NEIGHBOUR: 'it returns false'. Refute it at one input. -/
def fnRoundOfWrong : ChangeSpec := { name := "fnRoundOf", fn := fun _ => fun
  | [d] => { results := [.lit (.bool false)], args := [d] }
  | _ => none }
def FnRoundOfWrongFalsely : Prop := fnRoundOfRow.holds Try.pinned (OpenSpec.ofChange fnRoundOfWrong)

/-- 'laws.FnRoundsOf': WHATEVER THE INPUT: true; the input reads as it did. -/
def fnRoundsOfSpec : ChangeSpec := { name := "fnRoundsOf", fn := fun _ => fun
  | [d] => { results := [.lit (.bool true)], args := [d] }
  | _ => none }
def fnRoundsOfRow : OpenClaim := { program := "ytmnmbelmcdfcjaa", sum := "a9c47424b3684353c2c8e971e132cccc85c27cfd86a6b000ae98de010df93b00", func := "loop.example/carrytriangles/laws.FnRoundsOf", spec := "fnRoundsOf", unfollowed := true, recurses := true, plainKeys := false, apart := false }
def FnRoundsOfSaid : Prop := fnRoundsOfRow.holds Try.pinned (OpenSpec.ofChange fnRoundsOfSpec)

/-- ITS FALSE NEIGHBOUR: 'it returns false'. Refute it at one input. -/
def fnRoundsOfWrong : ChangeSpec := { name := "fnRoundsOf", fn := fun _ => fun
  | [d] => { results := [.lit (.bool false)], args := [d] }
  | _ => none }
def FnRoundsOfWrongFalsely : Prop := fnRoundsOfRow.holds Try.pinned (OpenSpec.ofChange fnRoundsOfWrong)

/-- 'laws.FnEndOf': WHATEVER THE INPUT: true; the input reads as it did. -/
def fnEndOfSpec : ChangeSpec := { name := "fnEndOf", fn := fun _ => fun
  | [d] => { results := [.lit (.bool true)], args := [d] }
  | _ => none }
def fnEndOfRow : OpenClaim := { program := "ytmnmbelmcdfcjaa", sum := "a9c47424b3684353c2c8e971e132cccc85c27cfd86a6b000ae98de010df93b00", func := "loop.example/carrytriangles/laws.FnEndOf", spec := "fnEndOf", unfollowed := true, recurses := true, plainKeys := false, apart := false }
def FnEndOfSaid : Prop := fnEndOfRow.holds Try.pinned (OpenSpec.ofChange fnEndOfSpec)

/-- ITS FALSE NEIGHBOUR: 'it returns false'. Refute it at one input. -/
def fnEndOfWrong : ChangeSpec := { name := "fnEndOf", fn := fun _ => fun
  | [d] => { results := [.lit (.bool false)], args := [d] }
  | _ => none }
def FnEndOfWrongFalsely : Prop := fnEndOfRow.holds Try.pinned (OpenSpec.ofChange fnEndOfWrong)

/-- 'laws.FnBitsAfter': WHATEVER THE INPUT: true; the input reads as it did. -/
def fnBitsAfterSpec : ChangeSpec := { name := "fnBitsAfter", fn := fun _ => fun
  | [d] => { results := [.lit (.bool true)], args := [d] }
  | _ => none }
def fnBitsAfterRow : OpenClaim := { program := "ytmnmbelmcdfcjaa", sum := "a9c47424b3684353c2c8e971e132cccc85c27cfd86a6b000ae98de010df93b00", func := "loop.example/carrytriangles/laws.FnBitsAfter", spec := "fnBitsAfter", unfollowed := true, recurses := true, plainKeys := false, apart := false }
def FnBitsAfterSaid : Prop := fnBitsAfterRow.holds Try.pinned (OpenSpec.ofChange fnBitsAfterSpec)

/-- ITS FALSE NEIGHBOUR: 'it returns false'. Refute it at one input. -/
def fnBitsAfterWrong : ChangeSpec := { name := "fnBitsAfter", fn := fun _ => fun
  | [d] => { results := [.lit (.bool false)], args := [d] }
  | _ => none }
def FnBitsAfterWrongFalsely : Prop := fnBitsAfterRow.holds Try.pinned (OpenSpec.ofChange fnBitsAfterWrong)

/-- 'laws.FnComesAgain': WHATEVER THE INPUT: true; the input reads as it did. -/
def fnComesAgainSpec : ChangeSpec := { name := "fnComesAgain", fn := fun _ => fun
  | [d] => { results := [.lit (.bool true)], args := [d] }
  | _ => none }
def fnComesAgainRow : OpenClaim := { program := "ytmnmbelmcdfcjaa", sum := "a9c47424b3684353c2c8e971e132cccc85c27cfd86a6b000ae98de010df93b00", func := "loop.example/carrytriangles/laws.FnComesAgain", spec := "fnComesAgain", unfollowed := true, recurses := true, plainKeys := false, apart := false }
def FnComesAgainSaid : Prop := fnComesAgainRow.holds Try.pinned (OpenSpec.ofChange fnComesAgainSpec)

/-- ITS FALSE NEIGHBOUR: 'it returns false'. Refute it at one input. -/
def fnComesAgainWrong : ChangeSpec := { name := "fnComesAgain", fn := fun _ => fun
  | [d] => { results := [.lit (.bool false)], args := [d] }
  | _ => none }
def FnComesAgainWrongFalsely : Prop := fnComesAgainRow.holds Try.pinned (OpenSpec.ofChange fnComesAgainWrong)

/-- 'laws.FnExactRingOk': WHATEVER THE INPUT: true; the input reads as it did. -/
def fnExactRingOkSpec : ChangeSpec := { name := "fnExactRingOk", fn := fun _ => fun
  | [d] => { results := [.lit (.bool true)], args := [d] }
  | _ => none }
def fnExactRingOkRow : OpenClaim := { program := "ytmnmbelmcdfcjaa", sum := "a9c47424b3684353c2c8e971e132cccc85c27cfd86a6b000ae98de010df93b00", func := "loop.example/carrytriangles/laws.FnExactRingOk", spec := "fnExactRingOk", plainKeys := false, apart := false }
def FnExactRingOkSaid : Prop := fnExactRingOkRow.holds Try.pinned (OpenSpec.ofChange fnExactRingOkSpec)

/-- ITS FALSE NEIGHBOUR: 'it returns false'. Refute it at one input. -/
def fnExactRingOkWrong : ChangeSpec := { name := "fnExactRingOk", fn := fun _ => fun
  | [d] => { results := [.lit (.bool false)], args := [d] }
  | _ => none }
def FnExactRingOkWrongFalsely : Prop := fnExactRingOkRow.holds Try.pinned (OpenSpec.ofChange fnExactRingOkWrong)

/-- 'laws.FnExactRoundOf': WHATEVER THE INPUT: true; the input reads as it did. -/
def fnExactRoundOfSpec : ChangeSpec := { name := "fnExactRoundOf", fn := fun _ => fun
  | [d] => { results := [.lit (.bool true)], args := [d] }
  | _ => none }
def fnExactRoundOfRow : OpenClaim := { program := "ytmnmbelmcdfcjaa", sum := "a9c47424b3684353c2c8e971e132cccc85c27cfd86a6b000ae98de010df93b00", func := "loop.example/carrytriangles/laws.FnExactRoundOf", spec := "fnExactRoundOf", plainKeys := false, apart := false }
def FnExactRoundOfSaid : Prop := fnExactRoundOfRow.holds Try.pinned (OpenSpec.ofChange fnExactRoundOfSpec)

/-- ITS FALSE NEIGHBOUR: 'it returns false'. Refute it at one input. -/
def fnExactRoundOfWrong : ChangeSpec := { name := "fnExactRoundOf", fn := fun _ => fun
  | [d] => { results := [.lit (.bool false)], args := [d] }
  | _ => none }
def FnExactRoundOfWrongFalsely : Prop := fnExactRoundOfRow.holds Try.pinned (OpenSpec.ofChange fnExactRoundOfWrong)

/-- 'laws.FnExactRoundsOf': WHATEVER THE INPUT: true; the input reads as it did. -/
def fnExactRoundsOfSpec : ChangeSpec := { name := "fnExactRoundsOf", fn := fun _ => fun
  | [d1, d2] => { results := [.lit (.bool true)], args := [d1, d2] }
  | _ => none }
def fnExactRoundsOfRow : OpenClaim := { program := "ytmnmbelmcdfcjaa", sum := "a9c47424b3684353c2c8e971e132cccc85c27cfd86a6b000ae98de010df93b00", func := "loop.example/carrytriangles/laws.FnExactRoundsOf", spec := "fnExactRoundsOf", unfollowed := true, recurses := true, plainKeys := false, apart := false }
def FnExactRoundsOfSaid : Prop := fnExactRoundsOfRow.holds Try.pinned (OpenSpec.ofChange fnExactRoundsOfSpec)

/-- ITS FALSE NEIGHBOUR: 'it returns false'. Refute it at one input. -/
def fnExactRoundsOfWrong : ChangeSpec := { name := "fnExactRoundsOf", fn := fun _ => fun
  | [d1, d2] => { results := [.lit (.bool false)], args := [d1, d2] }
  | _ => none }
def FnExactRoundsOfWrongFalsely : Prop := fnExactRoundsOfRow.holds Try.pinned (OpenSpec.ofChange fnExactRoundsOfWrong)

/-- 'laws.FnExactEndOf': WHATEVER THE INPUT: true; the input reads as it did. -/
def fnExactEndOfSpec : ChangeSpec := { name := "fnExactEndOf", fn := fun _ => fun
  | [d] => { results := [.lit (.bool true)], args := [d] }
  | _ => none }
def fnExactEndOfRow : OpenClaim := { program := "ytmnmbelmcdfcjaa", sum := "a9c47424b3684353c2c8e971e132cccc85c27cfd86a6b000ae98de010df93b00", func := "loop.example/carrytriangles/laws.FnExactEndOf", spec := "fnExactEndOf", unfollowed := true, recurses := true, plainKeys := false, apart := false }
def FnExactEndOfSaid : Prop := fnExactEndOfRow.holds Try.pinned (OpenSpec.ofChange fnExactEndOfSpec)

/-- ITS FALSE NEIGHBOUR: 'it returns false'. Refute it at one input. -/
def fnExactEndOfWrong : ChangeSpec := { name := "fnExactEndOf", fn := fun _ => fun
  | [d] => { results := [.lit (.bool false)], args := [d] }
  | _ => none }
def FnExactEndOfWrongFalsely : Prop := fnExactEndOfRow.holds Try.pinned (OpenSpec.ofChange fnExactEndOfWrong)

/-- 'laws.FnExactBitsAfter': WHATEVER THE INPUT: true; the input reads as it did. -/
def fnExactBitsAfterSpec : ChangeSpec := { name := "fnExactBitsAfter", fn := fun _ => fun
  | [d1, d2] => { results := [.lit (.bool true)], args := [d1, d2] }
  | _ => none }
def fnExactBitsAfterRow : OpenClaim := { program := "ytmnmbelmcdfcjaa", sum := "a9c47424b3684353c2c8e971e132cccc85c27cfd86a6b000ae98de010df93b00", func := "loop.example/carrytriangles/laws.FnExactBitsAfter", spec := "fnExactBitsAfter", plainKeys := false, apart := false }
def FnExactBitsAfterSaid : Prop := fnExactBitsAfterRow.holds Try.pinned (OpenSpec.ofChange fnExactBitsAfterSpec)

/-- ITS FALSE NEIGHBOUR: 'it returns false'. Refute it at one input. -/
def fnExactBitsAfterWrong : ChangeSpec := { name := "fnExactBitsAfter", fn := fun _ => fun
  | [d1, d2] => { results := [.lit (.bool false)], args := [d1, d2] }
  | _ => none }
def FnExactBitsAfterWrongFalsely : Prop := fnExactBitsAfterRow.holds Try.pinned (OpenSpec.ofChange fnExactBitsAfterWrong)

/-- 'laws.FnExactComesAgain': WHATEVER THE INPUT: true; the input reads as it did. -/
def fnExactComesAgainSpec : ChangeSpec := { name := "fnExactComesAgain", fn := fun _ => fun
  | [d] => { results := [.lit (.bool true)], args := [d] }
  | _ => none }
def fnExactComesAgainRow : OpenClaim := { program := "ytmnmbelmcdfcjaa", sum := "a9c47424b3684353c2c8e971e132cccc85c27cfd86a6b000ae98de010df93b00", func := "loop.example/carrytriangles/laws.FnExactComesAgain", spec := "fnExactComesAgain", unfollowed := true, recurses := true, plainKeys := false, apart := false }
def FnExactComesAgainSaid : Prop := fnExactComesAgainRow.holds Try.pinned (OpenSpec.ofChange fnExactComesAgainSpec)

/-- ITS FALSE NEIGHBOUR: 'it returns false'. Refute it at one input. -/
def fnExactComesAgainWrong : ChangeSpec := { name := "fnExactComesAgain", fn := fun _ => fun
  | [d] => { results := [.lit (.bool false)], args := [d] }
  | _ => none }
def FnExactComesAgainWrongFalsely : Prop := fnExactComesAgainRow.holds Try.pinned (OpenSpec.ofChange fnExactComesAgainWrong)

/- THE SECOND FORM. 'bulk': how many values and letters a reading holds, each counted each time it is reached (what is shared counts as often as it is met; a slice's spare places count too). A statement '..UptoSaid' is the law's where the arguments, and the package variables that the reading takes, are together of bulk at most 1048576: NARROWER than '..Said'. Prove '..Said' where nothing that the law and all that it calls make is longer than what came in: it says more and counts as full. Else prove '..UptoSaid'. A law counts once. -/
mutual
def uptoBulk {H : Type} : DataW H → Nat
  | .lit (.string bytes) => bytes.length + 1
  | .lit _ => 1
  | .nil => 1
  | .ptr d => uptoBulk d + 1
  | .slice elems spare => uptoBulkAll elems + uptoBulkAll spare + 1
  | .agg parts => uptoBulkAll parts + 1
  | .iface _ d => uptoBulk d + 1
  | .map entries => uptoBulkEntries entries + 1
  | .held _ => 1
def uptoBulkAll {H : Type} : List (DataW H) → Nat
  | [] => 0
  | d :: r => uptoBulk d + uptoBulkAll r
def uptoBulkEntries {H : Type} : List (Lit × DataW H) → Nat
  | [] => 0
  | x :: r => uptoBulkEntry x + uptoBulkEntries r
def uptoBulkEntry {H : Type} : Lit × DataW H → Nat
  | (.string bytes, d) => bytes.length + uptoBulk d + 1
  | (_, d) => uptoBulk d + 1
 end
def uptoSmall : (H : Type) → List (DataW H) → Bool := fun _ ds => decide (uptoBulkAll ds ≤ 1048576)
def OpenSpec.upto (s : _root_.Go.ChangeSpec) : _root_.Go.OpenSpec := { _root_.Go.OpenSpec.ofChange s with cond := some uptoSmall }

/-- 'laws.FnRingOk', WHERE WHAT IT READS IS OF BULK AT MOST 1048576: true; the input reads as it did. -/
def fnRingOkUptoRow : OpenClaim := { program := "ytmnmbelmcdfcjaa", sum := "a9c47424b3684353c2c8e971e132cccc85c27cfd86a6b000ae98de010df93b00", func := "loop.example/carrytriangles/laws.FnRingOk", spec := "fnRingOk", unfollowed := true, recurses := true, plainKeys := false, apart := false, narrowed := true }
def FnRingOkUptoSaid : Prop := fnRingOkUptoRow.holds Try.pinned (OpenSpec.upto fnRingOkSpec)

/-- 'laws.FnRoundOf', WHERE WHAT IT READS IS OF BULK AT MOST 1048576: true; the input reads as it did. -/
def fnRoundOfUptoRow : OpenClaim := { program := "ytmnmbelmcdfcjaa", sum := "a9c47424b3684353c2c8e971e132cccc85c27cfd86a6b000ae98de010df93b00", func := "loop.example/carrytriangles/laws.FnRoundOf", spec := "fnRoundOf", unfollowed := true, recurses := true, plainKeys := false, apart := false, narrowed := true }
def FnRoundOfUptoSaid : Prop := fnRoundOfUptoRow.holds Try.pinned (OpenSpec.upto fnRoundOfSpec)

/-- 'laws.FnRoundsOf', WHERE WHAT IT READS IS OF BULK AT MOST 1048576: true; the input reads as it did. -/
def fnRoundsOfUptoRow : OpenClaim := { program := "ytmnmbelmcdfcjaa", sum := "a9c47424b3684353c2c8e971e132cccc85c27cfd86a6b000ae98de010df93b00", func := "loop.example/carrytriangles/laws.FnRoundsOf", spec := "fnRoundsOf", unfollowed := true, recurses := true, plainKeys := false, apart := false, narrowed := true }
def FnRoundsOfUptoSaid : Prop := fnRoundsOfUptoRow.holds Try.pinned (OpenSpec.upto fnRoundsOfSpec)

/-- 'laws.FnEndOf', WHERE WHAT IT READS IS OF BULK AT MOST 1048576: true; the input reads as it did. -/
def fnEndOfUptoRow : OpenClaim := { program := "ytmnmbelmcdfcjaa", sum := "a9c47424b3684353c2c8e971e132cccc85c27cfd86a6b000ae98de010df93b00", func := "loop.example/carrytriangles/laws.FnEndOf", spec := "fnEndOf", unfollowed := true, recurses := true, plainKeys := false, apart := false, narrowed := true }
def FnEndOfUptoSaid : Prop := fnEndOfUptoRow.holds Try.pinned (OpenSpec.upto fnEndOfSpec)

/-- 'laws.FnBitsAfter', WHERE WHAT IT READS IS OF BULK AT MOST 1048576: true; the input reads as it did. -/
def fnBitsAfterUptoRow : OpenClaim := { program := "ytmnmbelmcdfcjaa", sum := "a9c47424b3684353c2c8e971e132cccc85c27cfd86a6b000ae98de010df93b00", func := "loop.example/carrytriangles/laws.FnBitsAfter", spec := "fnBitsAfter", unfollowed := true, recurses := true, plainKeys := false, apart := false, narrowed := true }
def FnBitsAfterUptoSaid : Prop := fnBitsAfterUptoRow.holds Try.pinned (OpenSpec.upto fnBitsAfterSpec)

/-- 'laws.FnComesAgain', WHERE WHAT IT READS IS OF BULK AT MOST 1048576: true; the input reads as it did. -/
def fnComesAgainUptoRow : OpenClaim := { program := "ytmnmbelmcdfcjaa", sum := "a9c47424b3684353c2c8e971e132cccc85c27cfd86a6b000ae98de010df93b00", func := "loop.example/carrytriangles/laws.FnComesAgain", spec := "fnComesAgain", unfollowed := true, recurses := true, plainKeys := false, apart := false, narrowed := true }
def FnComesAgainUptoSaid : Prop := fnComesAgainUptoRow.holds Try.pinned (OpenSpec.upto fnComesAgainSpec)

/-- 'laws.FnExactRingOk', WHERE WHAT IT READS IS OF BULK AT MOST 1048576: true; the input reads as it did. -/
def fnExactRingOkUptoRow : OpenClaim := { program := "ytmnmbelmcdfcjaa", sum := "a9c47424b3684353c2c8e971e132cccc85c27cfd86a6b000ae98de010df93b00", func := "loop.example/carrytriangles/laws.FnExactRingOk", spec := "fnExactRingOk", plainKeys := false, apart := false, narrowed := true }
def FnExactRingOkUptoSaid : Prop := fnExactRingOkUptoRow.holds Try.pinned (OpenSpec.upto fnExactRingOkSpec)

/-- 'laws.FnExactRoundOf', WHERE WHAT IT READS IS OF BULK AT MOST 1048576: true; the input reads as it did. -/
def fnExactRoundOfUptoRow : OpenClaim := { program := "ytmnmbelmcdfcjaa", sum := "a9c47424b3684353c2c8e971e132cccc85c27cfd86a6b000ae98de010df93b00", func := "loop.example/carrytriangles/laws.FnExactRoundOf", spec := "fnExactRoundOf", plainKeys := false, apart := false, narrowed := true }
def FnExactRoundOfUptoSaid : Prop := fnExactRoundOfUptoRow.holds Try.pinned (OpenSpec.upto fnExactRoundOfSpec)

/-- 'laws.FnExactRoundsOf', WHERE WHAT IT READS IS OF BULK AT MOST 1048576: true; the input reads as it did. -/
def fnExactRoundsOfUptoRow : OpenClaim := { program := "ytmnmbelmcdfcjaa", sum := "a9c47424b3684353c2c8e971e132cccc85c27cfd86a6b000ae98de010df93b00", func := "loop.example/carrytriangles/laws.FnExactRoundsOf", spec := "fnExactRoundsOf", unfollowed := true, recurses := true, plainKeys := false, apart := false, narrowed := true }
def FnExactRoundsOfUptoSaid : Prop := fnExactRoundsOfUptoRow.holds Try.pinned (OpenSpec.upto fnExactRoundsOfSpec)

/-- 'laws.FnExactEndOf', WHERE WHAT IT READS IS OF BULK AT MOST 1048576: true; the input reads as it did. -/
def fnExactEndOfUptoRow : OpenClaim := { program := "ytmnmbelmcdfcjaa", sum := "a9c47424b3684353c2c8e971e132cccc85c27cfd86a6b000ae98de010df93b00", func := "loop.example/carrytriangles/laws.FnExactEndOf", spec := "fnExactEndOf", unfollowed := true, recurses := true, plainKeys := false, apart := false, narrowed := true }
def FnExactEndOfUptoSaid : Prop := fnExactEndOfUptoRow.holds Try.pinned (OpenSpec.upto fnExactEndOfSpec)

/-- 'laws.FnExactBitsAfter', WHERE WHAT IT READS IS OF BULK AT MOST 1048576: true; the input reads as it did. -/
def fnExactBitsAfterUptoRow : OpenClaim := { program := "ytmnmbelmcdfcjaa", sum := "a9c47424b3684353c2c8e971e132cccc85c27cfd86a6b000ae98de010df93b00", func := "loop.example/carrytriangles/laws.FnExactBitsAfter", spec := "fnExactBitsAfter", plainKeys := false, apart := false, narrowed := true }
def FnExactBitsAfterUptoSaid : Prop := fnExactBitsAfterUptoRow.holds Try.pinned (OpenSpec.upto fnExactBitsAfterSpec)

/-- 'laws.FnExactComesAgain', WHERE WHAT IT READS IS OF BULK AT MOST 1048576: true; the input reads as it did. -/
def fnExactComesAgainUptoRow : OpenClaim := { program := "ytmnmbelmcdfcjaa", sum := "a9c47424b3684353c2c8e971e132cccc85c27cfd86a6b000ae98de010df93b00", func := "loop.example/carrytriangles/laws.FnExactComesAgain", spec := "fnExactComesAgain", unfollowed := true, recurses := true, plainKeys := false, apart := false, narrowed := true }
def FnExactComesAgainUptoSaid : Prop := fnExactComesAgainUptoRow.holds Try.pinned (OpenSpec.upto fnExactComesAgainSpec)

end Rows
end Go.Proofs.Ytmnmbelmcdfcjaa
