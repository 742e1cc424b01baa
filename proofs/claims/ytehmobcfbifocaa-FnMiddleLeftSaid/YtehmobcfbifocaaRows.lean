/-
  No cell of these rows narrows 'for every input' (looked for: loops, veiled, ifaces, maps, wideKeys, modest, calm, conditions, laid).
  DERIVED. THE GIVEN ROWS OF THIS SEAT. 10 by the template 'for every input the law returns true; each argument reads behind the call as it read before'; 0 by the template 'total and deterministic' (their statements: YtehmobcfbifocaaTotals.lean).
  GIVEN WITH THE SEED: the statements are not yours to turn. If you find one false, say at which input.
  Laid BY PROGRAM, IN A SANDBOX (cutbox-rows.mjs): the forced cells as the released guide's own fill.sh prints them over the translation 340758313acf1238… (all of the seat's roots in one cut). By AI agents, Wed Nov 11 2026. No macro, syntax, notation, axiom, sorry.
-/
import Derived.Test.YtehmobcfbifocaaChecked
import GoSem.Claim
import GoSem.ClaimJoined
import GoSem.ClaimMapViews
import Derived.JoinedTies
import Derived.KernelRfl
namespace Go.Proofs.Ytehmobcfbifocaa
/- THE CELL 'sum', in the pinned program and in every row, IS THE sha256 OF THE DUMP (.gsa) THAT YtehmobcfbifocaaProg.lean LOADS. Nothing in Lean hashes anything: it is a label: what it is worth is what the hold of that sum in a sandbox is worth. -/
noncomputable def Try.pinned : Pinned := { name := "ytehmobcfbifocaa", sum := "340758313acf12388319f066fb233512563539e02ec12d81a7cebed0f5d6650d", checked := Try.checked }
namespace Rows
def none {H : Type} : Left H := { results := [], args := [] }

/-- 'laws.FnCellLeft': WHATEVER THE INPUT: true; the input reads as it did. -/
def fnCellLeftSpec : ChangeSpec := { name := "fnCellLeft", fn := fun _ => fun
  | [d] => { results := [.lit (.bool true)], args := [d] }
  | _ => none }
def fnCellLeftRow : OpenClaim := { program := "ytehmobcfbifocaa", sum := "340758313acf12388319f066fb233512563539e02ec12d81a7cebed0f5d6650d", func := "loop.example/carrytriangles/laws.FnCellLeft", spec := "fnCellLeft", inPlace := ["(*sync.WaitGroup).Add", "internal/race.ReleaseMerge", "internal/race.Disable", "internal/race.Enable", "internal/synctest.IsInBubble", "internal/synctest.Associate[sync.WaitGroup]", "sync.fatal", "sync/atomic.OrUint64", "sync/atomic.AddUint64", "internal/race.Read", "sync/atomic.LoadUint64", "sync/atomic.StoreUint64", "internal/synctest.Disassociate[sync.WaitGroup]", "sync.runtime_Semrelease", "(*sync.WaitGroup).Done", "(*sync.WaitGroup).Wait", "internal/race.Acquire", "internal/synctest.IsAssociated[sync.WaitGroup]", "sync/atomic.CompareAndSwapUint64", "internal/race.Write", "sync.runtime_SemacquireWaitGroup"], unfollowed := true, recurses := true, leaving := true, apart := false }
def FnCellLeftSaid : Prop := fnCellLeftRow.holds Try.pinned (OpenSpec.ofChange fnCellLeftSpec)

/-- ITS FALSE NEIGHBOUR: 'it returns false'. Refute it at one input. -/
def fnCellLeftWrong : ChangeSpec := { name := "fnCellLeft", fn := fun _ => fun
  | [d] => { results := [.lit (.bool false)], args := [d] }
  | _ => none }
def FnCellLeftWrongFalsely : Prop := fnCellLeftRow.holds Try.pinned (OpenSpec.ofChange fnCellLeftWrong)

/-- 'laws.FnTwiceLeft': WHATEVER THE INPUT: true; the input reads as it did. -/
def fnTwiceLeftSpec : ChangeSpec := { name := "fnTwiceLeft", fn := fun _ => fun
  | [d] => { results := [.lit (.bool true)], args := [d] }
  | _ => none }
def fnTwiceLeftRow : OpenClaim := { program := "ytehmobcfbifocaa", sum := "340758313acf12388319f066fb233512563539e02ec12d81a7cebed0f5d6650d", func := "loop.example/carrytriangles/laws.FnTwiceLeft", spec := "fnTwiceLeft", inPlace := ["(*sync.WaitGroup).Add", "internal/race.ReleaseMerge", "internal/race.Disable", "internal/race.Enable", "internal/synctest.IsInBubble", "internal/synctest.Associate[sync.WaitGroup]", "sync.fatal", "sync/atomic.OrUint64", "sync/atomic.AddUint64", "internal/race.Read", "sync/atomic.LoadUint64", "sync/atomic.StoreUint64", "internal/synctest.Disassociate[sync.WaitGroup]", "sync.runtime_Semrelease", "(*sync.WaitGroup).Done", "(*sync.WaitGroup).Wait", "internal/race.Acquire", "internal/synctest.IsAssociated[sync.WaitGroup]", "sync/atomic.CompareAndSwapUint64", "internal/race.Write", "sync.runtime_SemacquireWaitGroup"], unfollowed := true, recurses := true, leaving := true, apart := false }
def FnTwiceLeftSaid : Prop := fnTwiceLeftRow.holds Try.pinned (OpenSpec.ofChange fnTwiceLeftSpec)

/-- ITS FALSE NEIGHBOUR: 'it returns false'. Refute it at one input. -/
def fnTwiceLeftWrong : ChangeSpec := { name := "fnTwiceLeft", fn := fun _ => fun
  | [d] => { results := [.lit (.bool false)], args := [d] }
  | _ => none }
def FnTwiceLeftWrongFalsely : Prop := fnTwiceLeftRow.holds Try.pinned (OpenSpec.ofChange fnTwiceLeftWrong)

/-- 'laws.FnBetweenOk': WHATEVER THE INPUT: true; the input reads as it did. -/
def fnBetweenOkSpec : ChangeSpec := { name := "fnBetweenOk", fn := fun _ => fun
  | [d] => { results := [.lit (.bool true)], args := [d] }
  | _ => none }
def fnBetweenOkRow : OpenClaim := { program := "ytehmobcfbifocaa", sum := "340758313acf12388319f066fb233512563539e02ec12d81a7cebed0f5d6650d", func := "loop.example/carrytriangles/laws.FnBetweenOk", spec := "fnBetweenOk", inPlace := ["(*sync.WaitGroup).Add", "internal/race.ReleaseMerge", "internal/race.Disable", "internal/race.Enable", "internal/synctest.IsInBubble", "internal/synctest.Associate[sync.WaitGroup]", "sync.fatal", "sync/atomic.OrUint64", "sync/atomic.AddUint64", "internal/race.Read", "sync/atomic.LoadUint64", "sync/atomic.StoreUint64", "internal/synctest.Disassociate[sync.WaitGroup]", "sync.runtime_Semrelease", "(*sync.WaitGroup).Done", "(*sync.WaitGroup).Wait", "internal/race.Acquire", "internal/synctest.IsAssociated[sync.WaitGroup]", "sync/atomic.CompareAndSwapUint64", "internal/race.Write", "sync.runtime_SemacquireWaitGroup"], unfollowed := true, recurses := true, leaving := true, apart := false }
def FnBetweenOkSaid : Prop := fnBetweenOkRow.holds Try.pinned (OpenSpec.ofChange fnBetweenOkSpec)

/-- ITS FALSE NEIGHBOUR: 'it returns false'. Refute it at one input. -/
def fnBetweenOkWrong : ChangeSpec := { name := "fnBetweenOk", fn := fun _ => fun
  | [d] => { results := [.lit (.bool false)], args := [d] }
  | _ => none }
def FnBetweenOkWrongFalsely : Prop := fnBetweenOkRow.holds Try.pinned (OpenSpec.ofChange fnBetweenOkWrong)

/-- 'laws.FnStretchedOk': WHATEVER THE INPUT: true; the input reads as it did. -/
def fnStretchedOkSpec : ChangeSpec := { name := "fnStretchedOk", fn := fun _ => fun
  | [d] => { results := [.lit (.bool true)], args := [d] }
  | _ => none }
def fnStretchedOkRow : OpenClaim := { program := "ytehmobcfbifocaa", sum := "340758313acf12388319f066fb233512563539e02ec12d81a7cebed0f5d6650d", func := "loop.example/carrytriangles/laws.FnStretchedOk", spec := "fnStretchedOk", inPlace := ["(*sync.WaitGroup).Add", "internal/race.ReleaseMerge", "internal/race.Disable", "internal/race.Enable", "internal/synctest.IsInBubble", "internal/synctest.Associate[sync.WaitGroup]", "sync.fatal", "sync/atomic.OrUint64", "sync/atomic.AddUint64", "internal/race.Read", "sync/atomic.LoadUint64", "sync/atomic.StoreUint64", "internal/synctest.Disassociate[sync.WaitGroup]", "sync.runtime_Semrelease", "(*sync.WaitGroup).Done", "(*sync.WaitGroup).Wait", "internal/race.Acquire", "internal/synctest.IsAssociated[sync.WaitGroup]", "sync/atomic.CompareAndSwapUint64", "internal/race.Write", "sync.runtime_SemacquireWaitGroup"], unfollowed := true, recurses := true, leaving := true, apart := false }
def FnStretchedOkSaid : Prop := fnStretchedOkRow.holds Try.pinned (OpenSpec.ofChange fnStretchedOkSpec)

/-- ITS FALSE NEIGHBOUR: 'it returns false'. Refute it at one input. -/
def fnStretchedOkWrong : ChangeSpec := { name := "fnStretchedOk", fn := fun _ => fun
  | [d] => { results := [.lit (.bool false)], args := [d] }
  | _ => none }
def FnStretchedOkWrongFalsely : Prop := fnStretchedOkRow.holds Try.pinned (OpenSpec.ofChange fnStretchedOkWrong)

/-- 'laws.FnMiddleLeft': WHATEVER THE INPUT: true; the input reads as it did. -/
def fnMiddleLeftSpec : ChangeSpec := { name := "fnMiddleLeft", fn := fun _ => fun
  | [d] => { results := [.lit (.bool true)], args := [d] }
  | _ => none }
def fnMiddleLeftRow : OpenClaim := { program := "ytehmobcfbifocaa", sum := "340758313acf12388319f066fb233512563539e02ec12d81a7cebed0f5d6650d", func := "loop.example/carrytriangles/laws.FnMiddleLeft", spec := "fnMiddleLeft", inPlace := ["(*sync.WaitGroup).Add", "internal/race.ReleaseMerge", "internal/race.Disable", "internal/race.Enable", "internal/synctest.IsInBubble", "internal/synctest.Associate[sync.WaitGroup]", "sync.fatal", "sync/atomic.OrUint64", "sync/atomic.AddUint64", "internal/race.Read", "sync/atomic.LoadUint64", "sync/atomic.StoreUint64", "internal/synctest.Disassociate[sync.WaitGroup]", "sync.runtime_Semrelease", "(*sync.WaitGroup).Done", "(*sync.WaitGroup).Wait", "internal/race.Acquire", "internal/synctest.IsAssociated[sync.WaitGroup]", "sync/atomic.CompareAndSwapUint64", "internal/race.Write", "sync.runtime_SemacquireWaitGroup"], unfollowed := true, recurses := true, leaving := true, apart := false }
def FnMiddleLeftSaid : Prop := fnMiddleLeftRow.holds Try.pinned (OpenSpec.ofChange fnMiddleLeftSpec)

/-- ITS FALSE NEIGHBOUR: 'it returns false'. Refute it at one input. -/
def fnMiddleLeftWrong : ChangeSpec := { name := "fnMiddleLeft", fn := fun _ => fun
  | [d] => { results := [.lit (.bool false)], args := [d] }
  | _ => none }
def FnMiddleLeftWrongFalsely : Prop := fnMiddleLeftRow.holds Try.pinned (OpenSpec.ofChange fnMiddleLeftWrong)

/-- 'laws.FnExactCellLeft': WHATEVER THE INPUT: true; the input reads as it did. -/
def fnExactCellLeftSpec : ChangeSpec := { name := "fnExactCellLeft", fn := fun _ => fun
  | [d1, d2, d3] => { results := [.lit (.bool true)], args := [d1, d2, d3] }
  | _ => none }
def fnExactCellLeftRow : OpenClaim := { program := "ytehmobcfbifocaa", sum := "340758313acf12388319f066fb233512563539e02ec12d81a7cebed0f5d6650d", func := "loop.example/carrytriangles/laws.FnExactCellLeft", spec := "fnExactCellLeft", inPlace := ["(*sync.WaitGroup).Add", "internal/race.ReleaseMerge", "internal/race.Disable", "internal/race.Enable", "internal/synctest.IsInBubble", "internal/synctest.Associate[sync.WaitGroup]", "sync.fatal", "sync/atomic.OrUint64", "sync/atomic.AddUint64", "internal/race.Read", "sync/atomic.LoadUint64", "sync/atomic.StoreUint64", "internal/synctest.Disassociate[sync.WaitGroup]", "sync.runtime_Semrelease", "(*sync.WaitGroup).Done", "(*sync.WaitGroup).Wait", "internal/race.Acquire", "internal/synctest.IsAssociated[sync.WaitGroup]", "sync/atomic.CompareAndSwapUint64", "internal/race.Write", "sync.runtime_SemacquireWaitGroup"], unfollowed := true, recurses := true, leaving := true, apart := false }
def FnExactCellLeftSaid : Prop := fnExactCellLeftRow.holds Try.pinned (OpenSpec.ofChange fnExactCellLeftSpec)

/-- ITS FALSE NEIGHBOUR: 'it returns false'. Refute it at one input. -/
def fnExactCellLeftWrong : ChangeSpec := { name := "fnExactCellLeft", fn := fun _ => fun
  | [d1, d2, d3] => { results := [.lit (.bool false)], args := [d1, d2, d3] }
  | _ => none }
def FnExactCellLeftWrongFalsely : Prop := fnExactCellLeftRow.holds Try.pinned (OpenSpec.ofChange fnExactCellLeftWrong)

/-- 'laws.FnExactTwiceLeft': WHATEVER THE INPUT: true; the input reads as it did. -/
def fnExactTwiceLeftSpec : ChangeSpec := { name := "fnExactTwiceLeft", fn := fun _ => fun
  | [d] => { results := [.lit (.bool true)], args := [d] }
  | _ => none }
def fnExactTwiceLeftRow : OpenClaim := { program := "ytehmobcfbifocaa", sum := "340758313acf12388319f066fb233512563539e02ec12d81a7cebed0f5d6650d", func := "loop.example/carrytriangles/laws.FnExactTwiceLeft", spec := "fnExactTwiceLeft", inPlace := ["(*sync.WaitGroup).Add", "internal/race.ReleaseMerge", "internal/race.Disable", "internal/race.Enable", "internal/synctest.IsInBubble", "internal/synctest.Associate[sync.WaitGroup]", "sync.fatal", "sync/atomic.OrUint64", "sync/atomic.AddUint64", "internal/race.Read", "sync/atomic.LoadUint64", "sync/atomic.StoreUint64", "internal/synctest.Disassociate[sync.WaitGroup]", "sync.runtime_Semrelease", "(*sync.WaitGroup).Done", "(*sync.WaitGroup).Wait", "internal/race.Acquire", "internal/synctest.IsAssociated[sync.WaitGroup]", "sync/atomic.CompareAndSwapUint64", "internal/race.Write", "sync.runtime_SemacquireWaitGroup"], unfollowed := true, recurses := true, leaving := true, apart := false }
def FnExactTwiceLeftSaid : Prop := fnExactTwiceLeftRow.holds Try.pinned (OpenSpec.ofChange fnExactTwiceLeftSpec)

/-- ITS FALSE NEIGHBOUR: 'it returns false'. Refute it at one input. -/
def fnExactTwiceLeftWrong : ChangeSpec := { name := "fnExactTwiceLeft", fn := fun _ => fun
  | [d] => { results := [.lit (.bool false)], args := [d] }
  | _ => none }
def FnExactTwiceLeftWrongFalsely : Prop := fnExactTwiceLeftRow.holds Try.pinned (OpenSpec.ofChange fnExactTwiceLeftWrong)

/-- 'laws.FnExactBetweenOk': WHATEVER THE INPUT: true; the input reads as it did. -/
def fnExactBetweenOkSpec : ChangeSpec := { name := "fnExactBetweenOk", fn := fun _ => fun
  | [d] => { results := [.lit (.bool true)], args := [d] }
  | _ => none }
def fnExactBetweenOkRow : OpenClaim := { program := "ytehmobcfbifocaa", sum := "340758313acf12388319f066fb233512563539e02ec12d81a7cebed0f5d6650d", func := "loop.example/carrytriangles/laws.FnExactBetweenOk", spec := "fnExactBetweenOk", inPlace := ["(*sync.WaitGroup).Add", "internal/race.ReleaseMerge", "internal/race.Disable", "internal/race.Enable", "internal/synctest.IsInBubble", "internal/synctest.Associate[sync.WaitGroup]", "sync.fatal", "sync/atomic.OrUint64", "sync/atomic.AddUint64", "internal/race.Read", "sync/atomic.LoadUint64", "sync/atomic.StoreUint64", "internal/synctest.Disassociate[sync.WaitGroup]", "sync.runtime_Semrelease", "(*sync.WaitGroup).Done", "(*sync.WaitGroup).Wait", "internal/race.Acquire", "internal/synctest.IsAssociated[sync.WaitGroup]", "sync/atomic.CompareAndSwapUint64", "internal/race.Write", "sync.runtime_SemacquireWaitGroup"], unfollowed := true, recurses := true, leaving := true, apart := false }
def FnExactBetweenOkSaid : Prop := fnExactBetweenOkRow.holds Try.pinned (OpenSpec.ofChange fnExactBetweenOkSpec)

/-- ITS FALSE NEIGHBOUR: 'it returns false'. Refute it at one input. -/
def fnExactBetweenOkWrong : ChangeSpec := { name := "fnExactBetweenOk", fn := fun _ => fun
  | [d] => { results := [.lit (.bool false)], args := [d] }
  | _ => none }
def FnExactBetweenOkWrongFalsely : Prop := fnExactBetweenOkRow.holds Try.pinned (OpenSpec.ofChange fnExactBetweenOkWrong)

/-- 'laws.FnExactStretchedOk': WHATEVER THE INPUT: true; the input reads as it did. -/
def fnExactStretchedOkSpec : ChangeSpec := { name := "fnExactStretchedOk", fn := fun _ => fun
  | [d1, d2, d3] => { results := [.lit (.bool true)], args := [d1, d2, d3] }
  | _ => none }
def fnExactStretchedOkRow : OpenClaim := { program := "ytehmobcfbifocaa", sum := "340758313acf12388319f066fb233512563539e02ec12d81a7cebed0f5d6650d", func := "loop.example/carrytriangles/laws.FnExactStretchedOk", spec := "fnExactStretchedOk", inPlace := ["(*sync.WaitGroup).Add", "internal/race.ReleaseMerge", "internal/race.Disable", "internal/race.Enable", "internal/synctest.IsInBubble", "internal/synctest.Associate[sync.WaitGroup]", "sync.fatal", "sync/atomic.OrUint64", "sync/atomic.AddUint64", "internal/race.Read", "sync/atomic.LoadUint64", "sync/atomic.StoreUint64", "internal/synctest.Disassociate[sync.WaitGroup]", "sync.runtime_Semrelease", "(*sync.WaitGroup).Done", "(*sync.WaitGroup).Wait", "internal/race.Acquire", "internal/synctest.IsAssociated[sync.WaitGroup]", "sync/atomic.CompareAndSwapUint64", "internal/race.Write", "sync.runtime_SemacquireWaitGroup"], unfollowed := true, recurses := true, leaving := true, apart := false }
def FnExactStretchedOkSaid : Prop := fnExactStretchedOkRow.holds Try.pinned (OpenSpec.ofChange fnExactStretchedOkSpec)

/-- ITS FALSE NEIGHBOUR: 'it returns false'. Refute it at one input. -/
def fnExactStretchedOkWrong : ChangeSpec := { name := "fnExactStretchedOk", fn := fun _ => fun
  | [d1, d2, d3] => { results := [.lit (.bool false)], args := [d1, d2, d3] }
  | _ => none }
def FnExactStretchedOkWrongFalsely : Prop := fnExactStretchedOkRow.holds Try.pinned (OpenSpec.ofChange fnExactStretchedOkWrong)

/-- 'laws.FnExactMiddleLeft': WHATEVER THE INPUT: true; the input reads as it did. -/
def fnExactMiddleLeftSpec : ChangeSpec := { name := "fnExactMiddleLeft", fn := fun _ => fun
  | [d] => { results := [.lit (.bool true)], args := [d] }
  | _ => none }
def fnExactMiddleLeftRow : OpenClaim := { program := "ytehmobcfbifocaa", sum := "340758313acf12388319f066fb233512563539e02ec12d81a7cebed0f5d6650d", func := "loop.example/carrytriangles/laws.FnExactMiddleLeft", spec := "fnExactMiddleLeft", inPlace := ["(*sync.WaitGroup).Add", "internal/race.ReleaseMerge", "internal/race.Disable", "internal/race.Enable", "internal/synctest.IsInBubble", "internal/synctest.Associate[sync.WaitGroup]", "sync.fatal", "sync/atomic.OrUint64", "sync/atomic.AddUint64", "internal/race.Read", "sync/atomic.LoadUint64", "sync/atomic.StoreUint64", "internal/synctest.Disassociate[sync.WaitGroup]", "sync.runtime_Semrelease", "(*sync.WaitGroup).Done", "(*sync.WaitGroup).Wait", "internal/race.Acquire", "internal/synctest.IsAssociated[sync.WaitGroup]", "sync/atomic.CompareAndSwapUint64", "internal/race.Write", "sync.runtime_SemacquireWaitGroup"], unfollowed := true, recurses := true, leaving := true, apart := false }
def FnExactMiddleLeftSaid : Prop := fnExactMiddleLeftRow.holds Try.pinned (OpenSpec.ofChange fnExactMiddleLeftSpec)

/-- ITS FALSE NEIGHBOUR: 'it returns false'. Refute it at one input. -/
def fnExactMiddleLeftWrong : ChangeSpec := { name := "fnExactMiddleLeft", fn := fun _ => fun
  | [d] => { results := [.lit (.bool false)], args := [d] }
  | _ => none }
def FnExactMiddleLeftWrongFalsely : Prop := fnExactMiddleLeftRow.holds Try.pinned (OpenSpec.ofChange fnExactMiddleLeftWrong)

/- THE SECOND FORM. 'bulk': how many values and letters a reading holds, each counted each time it is reached (what is shared counts as often as it is met; a slice's spare places count too). A statement '..UptoSaid' is the law's where the arguments, and the package variables that the reading takes, are together of bulk at most 1048576: NARROWER than '..Said'. Prove '..Said' where nothing that the law and all that it calls make is longer than what came in: it says more and counts as full. Else prove '..UptoSaid'. A law counts once. -/
mutual
def uptoBulk {H : Type} : DataW H → Nat
  | .lit (.string bytes) => bytes.length + 1
  | .lit _ => 1
  | .nil => 1
  | .ptr d => uptoBulk d + 1
  | .slice elems spare => uptoBulkAll elems + uptoBulkAll spare + 1
  | .agg parts => uptoBulkAll parts + 1
  | .iface _ d => uptoBulk d + 1
  | .map entries => uptoBulkEntries entries + 1
  | .held _ => 1
def uptoBulkAll {H : Type} : List (DataW H) → Nat
  | [] => 0
  | d :: r => uptoBulk d + uptoBulkAll r
def uptoBulkEntries {H : Type} : List (Lit × DataW H) → Nat
  | [] => 0
  | x :: r => uptoBulkEntry x + uptoBulkEntries r
def uptoBulkEntry {H : Type} : Lit × DataW H → Nat
  | (.string bytes, d) => bytes.length + uptoBulk d + 1
  | (_, d) => uptoBulk d + 1
 end
def uptoSmall : (H : Type) → List (DataW H) → Bool := fun _ ds => decide (uptoBulkAll ds ≤ 1048576)
def OpenSpec.upto (s : _root_.Go.ChangeSpec) : _root_.Go.OpenSpec := { _root_.Go.OpenSpec.ofChange s with cond := some uptoSmall }

/-- 'laws.FnCellLeft', WHERE WHAT IT READS IS OF BULK AT MOST 1048576: true; the input reads as it did. -/
def fnCellLeftUptoRow : OpenClaim := { program := "ytehmobcfbifocaa", sum := "340758313acf12388319f066fb233512563539e02ec12d81a7cebed0f5d6650d", func := "loop.example/carrytriangles/laws.FnCellLeft", spec := "fnCellLeft", inPlace := ["(*sync.WaitGroup).Add", "internal/race.ReleaseMerge", "internal/race.Disable", "internal/race.Enable", "internal/synctest.IsInBubble", "internal/synctest.Associate[sync.WaitGroup]", "sync.fatal", "sync/atomic.OrUint64", "sync/atomic.AddUint64", "internal/race.Read", "sync/atomic.LoadUint64", "sync/atomic.StoreUint64", "internal/synctest.Disassociate[sync.WaitGroup]", "sync.runtime_Semrelease", "(*sync.WaitGroup).Done", "(*sync.WaitGroup).Wait", "internal/race.Acquire", "internal/synctest.IsAssociated[sync.WaitGroup]", "sync/atomic.CompareAndSwapUint64", "internal/race.Write", "sync.runtime_SemacquireWaitGroup"], unfollowed := true, recurses := true, leaving := true, apart := false, narrowed := true }
def FnCellLeftUptoSaid : Prop := fnCellLeftUptoRow.holds Try.pinned (OpenSpec.upto fnCellLeftSpec)

/-- 'laws.FnTwiceLeft', WHERE WHAT IT READS IS OF BULK AT MOST 1048576: true; the input reads as it did. -/
def fnTwiceLeftUptoRow : OpenClaim := { program := "ytehmobcfbifocaa", sum := "340758313acf12388319f066fb233512563539e02ec12d81a7cebed0f5d6650d", func := "loop.example/carrytriangles/laws.FnTwiceLeft", spec := "fnTwiceLeft", inPlace := ["(*sync.WaitGroup).Add", "internal/race.ReleaseMerge", "internal/race.Disable", "internal/race.Enable", "internal/synctest.IsInBubble", "internal/synctest.Associate[sync.WaitGroup]", "sync.fatal", "sync/atomic.OrUint64", "sync/atomic.AddUint64", "internal/race.Read", "sync/atomic.LoadUint64", "sync/atomic.StoreUint64", "internal/synctest.Disassociate[sync.WaitGroup]", "sync.runtime_Semrelease", "(*sync.WaitGroup).Done", "(*sync.WaitGroup).Wait", "internal/race.Acquire", "internal/synctest.IsAssociated[sync.WaitGroup]", "sync/atomic.CompareAndSwapUint64", "internal/race.Write", "sync.runtime_SemacquireWaitGroup"], unfollowed := true, recurses := true, leaving := true, apart := false, narrowed := true }
def FnTwiceLeftUptoSaid : Prop := fnTwiceLeftUptoRow.holds Try.pinned (OpenSpec.upto fnTwiceLeftSpec)

/-- 'laws.FnBetweenOk', WHERE WHAT IT READS IS OF BULK AT MOST 1048576: true; the input reads as it did. -/
def fnBetweenOkUptoRow : OpenClaim := { program := "ytehmobcfbifocaa", sum := "340758313acf12388319f066fb233512563539e02ec12d81a7cebed0f5d6650d", func := "loop.example/carrytriangles/laws.FnBetweenOk", spec := "fnBetweenOk", inPlace := ["(*sync.WaitGroup).Add", "internal/race.ReleaseMerge", "internal/race.Disable", "internal/race.Enable", "internal/synctest.IsInBubble", "internal/synctest.Associate[sync.WaitGroup]", "sync.fatal", "sync/atomic.OrUint64", "sync/atomic.AddUint64", "internal/race.Read", "sync/atomic.LoadUint64", "sync/atomic.StoreUint64", "internal/synctest.Disassociate[sync.WaitGroup]", "sync.runtime_Semrelease", "(*sync.WaitGroup).Done", "(*sync.WaitGroup).Wait", "internal/race.Acquire", "internal/synctest.IsAssociated[sync.WaitGroup]", "sync/atomic.CompareAndSwapUint64", "internal/race.Write", "sync.runtime_SemacquireWaitGroup"], unfollowed := true, recurses := true, leaving := true, apart := false, narrowed := true }
def FnBetweenOkUptoSaid : Prop := fnBetweenOkUptoRow.holds Try.pinned (OpenSpec.upto fnBetweenOkSpec)

/-- 'laws.FnStretchedOk', WHERE WHAT IT READS IS OF BULK AT MOST 1048576: true; the input reads as it did. -/
def fnStretchedOkUptoRow : OpenClaim := { program := "ytehmobcfbifocaa", sum := "340758313acf12388319f066fb233512563539e02ec12d81a7cebed0f5d6650d", func := "loop.example/carrytriangles/laws.FnStretchedOk", spec := "fnStretchedOk", inPlace := ["(*sync.WaitGroup).Add", "internal/race.ReleaseMerge", "internal/race.Disable", "internal/race.Enable", "internal/synctest.IsInBubble", "internal/synctest.Associate[sync.WaitGroup]", "sync.fatal", "sync/atomic.OrUint64", "sync/atomic.AddUint64", "internal/race.Read", "sync/atomic.LoadUint64", "sync/atomic.StoreUint64", "internal/synctest.Disassociate[sync.WaitGroup]", "sync.runtime_Semrelease", "(*sync.WaitGroup).Done", "(*sync.WaitGroup).Wait", "internal/race.Acquire", "internal/synctest.IsAssociated[sync.WaitGroup]", "sync/atomic.CompareAndSwapUint64", "internal/race.Write", "sync.runtime_SemacquireWaitGroup"], unfollowed := true, recurses := true, leaving := true, apart := false, narrowed := true }
def FnStretchedOkUptoSaid : Prop := fnStretchedOkUptoRow.holds Try.pinned (OpenSpec.upto fnStretchedOkSpec)

/-- 'laws.FnMiddleLeft', WHERE WHAT IT READS IS OF BULK AT MOST 1048576: true; the input reads as it did. -/
def fnMiddleLeftUptoRow : OpenClaim := { program := "ytehmobcfbifocaa", sum := "340758313acf12388319f066fb233512563539e02ec12d81a7cebed0f5d6650d", func := "loop.example/carrytriangles/laws.FnMiddleLeft", spec := "fnMiddleLeft", inPlace := ["(*sync.WaitGroup).Add", "internal/race.ReleaseMerge", "internal/race.Disable", "internal/race.Enable", "internal/synctest.IsInBubble", "internal/synctest.Associate[sync.WaitGroup]", "sync.fatal", "sync/atomic.OrUint64", "sync/atomic.AddUint64", "internal/race.Read", "sync/atomic.LoadUint64", "sync/atomic.StoreUint64", "internal/synctest.Disassociate[sync.WaitGroup]", "sync.runtime_Semrelease", "(*sync.WaitGroup).Done", "(*sync.WaitGroup).Wait", "internal/race.Acquire", "internal/synctest.IsAssociated[sync.WaitGroup]", "sync/atomic.CompareAndSwapUint64", "internal/race.Write", "sync.runtime_SemacquireWaitGroup"], unfollowed := true, recurses := true, leaving := true, apart := false, narrowed := true }
def FnMiddleLeftUptoSaid : Prop := fnMiddleLeftUptoRow.holds Try.pinned (OpenSpec.upto fnMiddleLeftSpec)

/-- 'laws.FnExactCellLeft', WHERE WHAT IT READS IS OF BULK AT MOST 1048576: true; the input reads as it did. -/
def fnExactCellLeftUptoRow : OpenClaim := { program := "ytehmobcfbifocaa", sum := "340758313acf12388319f066fb233512563539e02ec12d81a7cebed0f5d6650d", func := "loop.example/carrytriangles/laws.FnExactCellLeft", spec := "fnExactCellLeft", inPlace := ["(*sync.WaitGroup).Add", "internal/race.ReleaseMerge", "internal/race.Disable", "internal/race.Enable", "internal/synctest.IsInBubble", "internal/synctest.Associate[sync.WaitGroup]", "sync.fatal", "sync/atomic.OrUint64", "sync/atomic.AddUint64", "internal/race.Read", "sync/atomic.LoadUint64", "sync/atomic.StoreUint64", "internal/synctest.Disassociate[sync.WaitGroup]", "sync.runtime_Semrelease", "(*sync.WaitGroup).Done", "(*sync.WaitGroup).Wait", "internal/race.Acquire", "internal/synctest.IsAssociated[sync.WaitGroup]", "sync/atomic.CompareAndSwapUint64", "internal/race.Write", "sync.runtime_SemacquireWaitGroup"], unfollowed := true, recurses := true, leaving := true, apart := false, narrowed := true }
def FnExactCellLeftUptoSaid : Prop := fnExactCellLeftUptoRow.holds Try.pinned (OpenSpec.upto fnExactCellLeftSpec)

/-- 'laws.FnExactTwiceLeft', WHERE WHAT IT READS IS OF BULK AT MOST 1048576: true; the input reads as it did. -/
def fnExactTwiceLeftUptoRow : OpenClaim := { program := "ytehmobcfbifocaa", sum := "340758313acf12388319f066fb233512563539e02ec12d81a7cebed0f5d6650d", func := "loop.example/carrytriangles/laws.FnExactTwiceLeft", spec := "fnExactTwiceLeft", inPlace := ["(*sync.WaitGroup).Add", "internal/race.ReleaseMerge", "internal/race.Disable", "internal/race.Enable", "internal/synctest.IsInBubble", "internal/synctest.Associate[sync.WaitGroup]", "sync.fatal", "sync/atomic.OrUint64", "sync/atomic.AddUint64", "internal/race.Read", "sync/atomic.LoadUint64", "sync/atomic.StoreUint64", "internal/synctest.Disassociate[sync.WaitGroup]", "sync.runtime_Semrelease", "(*sync.WaitGroup).Done", "(*sync.WaitGroup).Wait", "internal/race.Acquire", "internal/synctest.IsAssociated[sync.WaitGroup]", "sync/atomic.CompareAndSwapUint64", "internal/race.Write", "sync.runtime_SemacquireWaitGroup"], unfollowed := true, recurses := true, leaving := true, apart := false, narrowed := true }
def FnExactTwiceLeftUptoSaid : Prop := fnExactTwiceLeftUptoRow.holds Try.pinned (OpenSpec.upto fnExactTwiceLeftSpec)

/-- 'laws.FnExactBetweenOk', WHERE WHAT IT READS IS OF BULK AT MOST 1048576: true; the input reads as it did. -/
def fnExactBetweenOkUptoRow : OpenClaim := { program := "ytehmobcfbifocaa", sum := "340758313acf12388319f066fb233512563539e02ec12d81a7cebed0f5d6650d", func := "loop.example/carrytriangles/laws.FnExactBetweenOk", spec := "fnExactBetweenOk", inPlace := ["(*sync.WaitGroup).Add", "internal/race.ReleaseMerge", "internal/race.Disable", "internal/race.Enable", "internal/synctest.IsInBubble", "internal/synctest.Associate[sync.WaitGroup]", "sync.fatal", "sync/atomic.OrUint64", "sync/atomic.AddUint64", "internal/race.Read", "sync/atomic.LoadUint64", "sync/atomic.StoreUint64", "internal/synctest.Disassociate[sync.WaitGroup]", "sync.runtime_Semrelease", "(*sync.WaitGroup).Done", "(*sync.WaitGroup).Wait", "internal/race.Acquire", "internal/synctest.IsAssociated[sync.WaitGroup]", "sync/atomic.CompareAndSwapUint64", "internal/race.Write", "sync.runtime_SemacquireWaitGroup"], unfollowed := true, recurses := true, leaving := true, apart := false, narrowed := true }
def FnExactBetweenOkUptoSaid : Prop := fnExactBetweenOkUptoRow.holds Try.pinned (OpenSpec.upto fnExactBetweenOkSpec)

/-- 'laws.FnExactStretchedOk', WHERE WHAT IT READS IS OF BULK AT MOST 1048576: true; the input reads as it did. -/
def fnExactStretchedOkUptoRow : OpenClaim := { program := "ytehmobcfbifocaa", sum := "340758313acf12388319f066fb233512563539e02ec12d81a7cebed0f5d6650d", func := "loop.example/carrytriangles/laws.FnExactStretchedOk", spec := "fnExactStretchedOk", inPlace := ["(*sync.WaitGroup).Add", "internal/race.ReleaseMerge", "internal/race.Disable", "internal/race.Enable", "internal/synctest.IsInBubble", "internal/synctest.Associate[sync.WaitGroup]", "sync.fatal", "sync/atomic.OrUint64", "sync/atomic.AddUint64", "internal/race.Read", "sync/atomic.LoadUint64", "sync/atomic.StoreUint64", "internal/synctest.Disassociate[sync.WaitGroup]", "sync.runtime_Semrelease", "(*sync.WaitGroup).Done", "(*sync.WaitGroup).Wait", "internal/race.Acquire", "internal/synctest.IsAssociated[sync.WaitGroup]", "sync/atomic.CompareAndSwapUint64", "internal/race.Write", "sync.runtime_SemacquireWaitGroup"], unfollowed := true, recurses := true, leaving := true, apart := false, narrowed := true }
def FnExactStretchedOkUptoSaid : Prop := fnExactStretchedOkUptoRow.holds Try.pinned (OpenSpec.upto fnExactStretchedOkSpec)

/-- 'laws.FnExactMiddleLeft', WHERE WHAT IT READS IS OF BULK AT MOST 1048576: true; the input reads as it did. -/
def fnExactMiddleLeftUptoRow : OpenClaim := { program := "ytehmobcfbifocaa", sum := "340758313acf12388319f066fb233512563539e02ec12d81a7cebed0f5d6650d", func := "loop.example/carrytriangles/laws.FnExactMiddleLeft", spec := "fnExactMiddleLeft", inPlace := ["(*sync.WaitGroup).Add", "internal/race.ReleaseMerge", "internal/race.Disable", "internal/race.Enable", "internal/synctest.IsInBubble", "internal/synctest.Associate[sync.WaitGroup]", "sync.fatal", "sync/atomic.OrUint64", "sync/atomic.AddUint64", "internal/race.Read", "sync/atomic.LoadUint64", "sync/atomic.StoreUint64", "internal/synctest.Disassociate[sync.WaitGroup]", "sync.runtime_Semrelease", "(*sync.WaitGroup).Done", "(*sync.WaitGroup).Wait", "internal/race.Acquire", "internal/synctest.IsAssociated[sync.WaitGroup]", "sync/atomic.CompareAndSwapUint64", "internal/race.Write", "sync.runtime_SemacquireWaitGroup"], unfollowed := true, recurses := true, leaving := true, apart := false, narrowed := true }
def FnExactMiddleLeftUptoSaid : Prop := fnExactMiddleLeftUptoRow.holds Try.pinned (OpenSpec.upto fnExactMiddleLeftSpec)

end Rows
end Go.Proofs.Ytehmobcfbifocaa
